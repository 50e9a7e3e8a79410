/- Write, Sync, Truncate. -/
import Derived.Test.YtgaclibokapfaaaWrt
import Derived.Test.YtgaclibokapfaaaOk
namespace Go.Proofs.Ytgaclibokapfaaa
open Go.RowKit Wire
set_option linter.unusedVariables false
set_option linter.unusedSimpArgs false
open Txt
namespace Dsk

set_option maxHeartbeats 1000000 in
theorem check_any (w : World) (D : Own) (S : St) (h : DiskAt w D S) (f a : Int) (s : ByteArray) (hs : s.size ≤ maxLen) :
    Calls Try.prog 52 #[.pointer (some ⟨D.p, 0, none⟩), .int .i64 f, .int .i64 a, .string s] w fun e w' => e = .returned (.int .i64 (S.errW f a s.size)) ∧ w = w' := by
  unfold maxLen at hs
  have hdn := h.down
  have hfc := isFile_any f
  clear h
  cases hd : S.down with
  | true =>
    have e : S.errW f a s.size = 9 := by unfold St.errW; rw [if_pos hd]
    rw [e]
    rw [hd] at hdn
    clear hd e
    go_enter Try.func52, Try.ntmps52
    go_wp2_with fail
    go_ret
    exact ⟨rfl, rfl⟩
  | false =>
    rw [hd] at hdn
    have e0 : S.errW f a s.size = if !isF f || decide (a < 0) then 1 else if a > 16777216 - (s.size : Int) then 6 else 0 := by unfold St.errW; rw [hd]; rfl
    have E0 := Lib.hid e0
    clear hd e0
    cases hf : isF f with
    | false =>
      have e : S.errW f a s.size = 1 := by rw [E0.out, hf]; rfl
      rw [e]
      rw [hf] at hfc
      clear hf e
      go_enter Try.func52, Try.ntmps52
      go_wp2_with ((go_at_call 41; refine (hfc _).mono ?_; rintro e w' ⟨rfl, rfl⟩))
      go_ret
      exact ⟨rfl, rfl⟩
    | true =>
      rw [hf] at hfc
      by_cases ha : a < 0
      · have e : S.errW f a s.size = 1 := by rw [E0.out, hf]; simp [ha]
        rw [e]
        clear hf e
        go_enter Try.func52, Try.ntmps52
        go_wp2_with ((go_at_call 41; refine (hfc _).mono ?_; rintro e w' ⟨rfl, rfl⟩))
        go_ret
        exact ⟨rfl, rfl⟩
      · by_cases hg : a > 16777216 - (s.size : Int)
        · have e : S.errW f a s.size = 6 := by rw [E0.out, hf]; simp [ha, hg]
          rw [e]
          clear hf e
          have hg2 : 16777216 - (s.size : Int) < a := hg
          clear hg
          go_enter Try.func52, Try.ntmps52
          go_wp2_with ((go_at_call 41; refine (hfc _).mono ?_; rintro e w' ⟨rfl, rfl⟩))
          go_ret
          exact ⟨rfl, rfl⟩
        · have e : S.errW f a s.size = 0 := by rw [E0.out, hf]; simp [ha, hg]
          rw [e]
          clear hf e
          have hg2 : ¬ 16777216 - (s.size : Int) < a := hg
          clear hg
          go_enter Try.func52, Try.ntmps52
          go_wp2_with ((go_at_call 41; refine (hfc _).mono ?_; rintro e w' ⟨rfl, rfl⟩))
          go_ret
          exact ⟨rfl, rfl⟩

set_option maxHeartbeats 1000000 in
theorem Write_any (w : World) (D : Own) (S : St) (h : DiskAt w D S) (hk : S.ok) (f a : Int) (s : ByteArray) (hs : s.size ≤ maxLen) :
    Calls Try.prog 29 #[.pointer (some ⟨D.p, 0, none⟩), .int .i64 f, .int .i64 a, .string s] w fun e w' => e = .returned (.int .i64 (S.Write f a (bl s)).2) ∧ Post D (S.Write f a (bl s)).1 w w' := by
  have HCH := Lib.hid (check_any w D S h f a s hs)
  have key : ∀ (S1 : St) (D1 : Own) (w1 : World), DiskAt w1 D1 S1 → S1.ok → D1.p = D.p → (∀ b, D1.has b → D.has b ∨ w.heap.size ≤ b) → Only D.has w w1 →
      Calls Try.prog 46 #[.pointer (some ⟨D.p, 0, none⟩)] w1 fun e w' => e = .returned (.tuple #[]) ∧ w'.cell? ⟨D.p, 36, none⟩ = some (.bool S1.count.down) ∧ Post D S1.count w w' := by
    intro S1 D1 w1 h1 k1 hp hh ho
    have := count_any w1 D1 S1 h1 k1
    rw [hp] at this
    refine this.mono ?_
    rintro e w' ⟨rfl, hpst⟩
    have hcell : w'.cell? ⟨D.p, 36, none⟩ = some (.bool S1.count.down) := by
      obtain ⟨⟨D', hd', hp', _⟩, _⟩ := hpst
      have := hd'.down
      rw [hp', hp] at this
      exact this
    exact ⟨rfl, hcell, Post.next ho hp hh hpst⟩
  have KEY := Lib.hid key
  clear key
  by_cases he : S.errW f a s.size = 0
  · obtain ⟨h1, h2, h3, h4⟩ := errW_ok he
    obtain ⟨_, _, hf16, hfc⟩ := isF_nat h2
    obtain ⟨fn, rfl⟩ : ∃ k : Nat, f = k := ⟨f.toNat, by omega⟩
    obtain ⟨an, rfl⟩ : ∃ k : Nat, a = k := ⟨a.toNat, by omega⟩
    simp only [Int.toNat_natCast] at hf16 hfc
    have hW : S.Write fn an (bl s) = ((S.write fn an (bl s)).count, if (S.write fn an (bl s)).count.down then 9 else 0) := by
      unfold St.Write
      rw [bl_len, he]
      simp only [Int.toNat_natCast, if_true]
    have HWR := Lib.hid (write_any w D S fn an s h hk hf16 (by omega))
    have HOK := Lib.hid (hk.write (f := fn) (a := an) (l := bl s) hf16 (by rw [bl_len]; omega))
    rw [he] at HCH
    rw [hW]
    generalize S.write fn an (bl s) = S1 at *
    clear h hk h1 h2 h4 hW he
    cases hd : S1.count.down with
    | true =>
      rw [if_pos rfl]
      go_enter Try.func29, Try.ntmps29
      go_wp2_with (first
        | (go_at_call 52; refine HCH.out.mono ?_; rintro e w' ⟨rfl, rfl⟩)
        | (go_at_call 53; refine HWR.out.mono ?_; rintro e w1 ⟨rfl, hp1⟩; obtain ⟨⟨D1, hd1, hpp1, hh1⟩, ho1⟩ := hp1)
        | (go_at_call 46; refine (KEY.out S1 D1 w1 hd1 HOK.out hpp1 hh1 ho1).mono ?_; rintro e w2 ⟨rfl, hc2, hp2⟩; have HP := Lib.hid hp2; clear hp2; rw [hd] at hc2))
      go_ret
      exact ⟨rfl, HP.out⟩
    | false =>
      rw [if_neg (by simp)]
      go_enter Try.func29, Try.ntmps29
      go_wp2_with (first
        | (go_at_call 52; refine HCH.out.mono ?_; rintro e w' ⟨rfl, rfl⟩)
        | (go_at_call 53; refine HWR.out.mono ?_; rintro e w1 ⟨rfl, hp1⟩; obtain ⟨⟨D1, hd1, hpp1, hh1⟩, ho1⟩ := hp1)
        | (go_at_call 46; refine (KEY.out S1 D1 w1 hd1 HOK.out hpp1 hh1 ho1).mono ?_; rintro e w2 ⟨rfl, hc2, hp2⟩; have HP := Lib.hid hp2; clear hp2; rw [hd] at hc2))
      go_ret
      exact ⟨rfl, HP.out⟩
  · have hW : S.Write f a (bl s) = (S.count, if S.count.down then 9 else S.errW f a s.size) := by
      unfold St.Write
      rw [bl_len, if_neg he]
    rw [hW]
    have HCT := Lib.hid (KEY.out S D w h hk rfl (fun b hb => .inl hb) (Only.refl _ _))
    have hq : (S.errW f a s.size == 0) = false := beq_eq_false_iff_ne.2 he
    clear h hk hW he KEY
    generalize S.errW f a s.size = er at *
    cases hd : S.count.down with
    | true =>
      rw [if_pos rfl]
      go_enter Try.func29, Try.ntmps29
      go_wp2_with (first
        | (go_at_call 52; refine HCH.out.mono ?_; rintro e w' ⟨rfl, rfl⟩)
        | (go_at_call 46; refine HCT.out.mono ?_; rintro e w2 ⟨rfl, hc2, hp2⟩; have HP := Lib.hid hp2; clear hp2; rw [hd] at hc2))
      go_ret
      exact ⟨rfl, HP.out⟩
    | false =>
      rw [if_neg (by simp)]
      go_enter Try.func29, Try.ntmps29
      go_wp2_with (first
        | (go_at_call 52; refine HCH.out.mono ?_; rintro e w' ⟨rfl, rfl⟩)
        | (go_at_call 46; refine HCT.out.mono ?_; rintro e w2 ⟨rfl, hc2, hp2⟩; have HP := Lib.hid hp2; clear hp2; rw [hd] at hc2))
      go_ret
      exact ⟨rfl, HP.out⟩
end Dsk
end Go.Proofs.Ytgaclibokapfaaa
