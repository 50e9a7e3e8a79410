/- Sync and Truncate. -/
import Derived.Test.YtgaclibokapfaaaApi
namespace Go.Proofs.Ytgaclibokapfaaa
open Go.RowKit Wire
set_option linter.unusedVariables false
set_option linter.unusedSimpArgs false
open Txt
namespace Dsk

/-- The disk behind countCall, as the calls go on with it. -/
theorem counted_any (w : World) (D : Own) (S : St) (h : DiskAt w D S) (hk : S.ok) :
    Calls Try.prog 46 #[.pointer (some ⟨D.p, 0, none⟩)] w fun e w' => e = .returned (.tuple #[]) ∧ w'.cell? ⟨D.p, 36, none⟩ = some (.bool S.count.down) ∧ ∃ D1, DiskAt w' D1 S.count ∧ D1.p = D.p ∧ (∀ b, D1.has b → D.has b ∨ w.heap.size ≤ b) ∧ Only D.has w w' := by
  refine (count_any w D S h hk).mono ?_
  rintro e w' ⟨rfl, ⟨D1, hd, hp, hh⟩, ho⟩
  have := hd.down
  rw [hp] at this
  exact ⟨rfl, this, D1, hd, hp, hh, ho⟩

set_option maxHeartbeats 1000000 in
theorem Sync_any (w : World) (D : Own) (S : St) (h : DiskAt w D S) (hk : S.ok) (f : Int) :
    Calls Try.prog 19 #[.pointer (some ⟨D.p, 0, none⟩), .int .i64 f] w fun e w' => e = .returned (.int .i64 (S.Sync f).2) ∧ Post D (S.Sync f).1 w w' := by
  have HCT := Lib.hid (counted_any w D S h hk)
  have hok := hk.count
  have hfc := isFile_any f
  clear h hk
  cases hd : S.count.down with
  | true =>
    have e : S.Sync f = (S.count, 9) := by unfold St.Sync; rw [if_pos hd]
    rw [e]
    rw [hd] at HCT
    clear hd e hok
    go_enter Try.func19, Try.ntmps19
    go_wp2_with ((go_at_call 46; refine HCT.out.mono ?_; rintro e w1 ⟨rfl, hc1, D1, hd1, hp1, hh1, ho1⟩; have HP := Lib.hid (⟨⟨D1, hd1, hp1, hh1⟩, ho1⟩ : Post D S.count w w1); clear hd1 hp1 hh1 ho1))
    go_ret
    exact ⟨rfl, HP.out⟩
  | false =>
    have e0 : S.Sync f = if !isF f then (S.count, 1) else if 0 < S.count.lost then ({ S.count with lost := S.count.lost - 1 }, 10) else (S.count.settle f.toNat, 0) := by unfold St.Sync; rw [if_neg (by rw [hd]; simp)]
    have E0 := Lib.hid e0
    rw [hd] at HCT
    clear hd e0
    cases hf : isF f with
    | false =>
      have e : S.Sync f = (S.count, 1) := by rw [E0.out, hf]; rfl
      rw [e]
      rw [hf] at hfc
      clear hf e hok
      go_enter Try.func19, Try.ntmps19
      go_wp2_with (first
        | (go_at_call 46; refine HCT.out.mono ?_; rintro e w1 ⟨rfl, hc1, D1, hd1, hp1, hh1, ho1⟩; have HP := Lib.hid (⟨⟨D1, hd1, hp1, hh1⟩, ho1⟩ : Post D S.count w w1); clear hd1 hp1 hh1 ho1)
        | (go_at_call 41; refine (hfc _).mono ?_; rintro e w' ⟨rfl, rfl⟩))
      go_ret
      exact ⟨rfl, HP.out⟩
    | true =>
      rw [hf] at hfc
      obtain ⟨_, _, hf16, hfe⟩ := isF_nat hf
      have e1 : S.Sync f = if 0 < S.count.lost then ({ S.count with lost := S.count.lost - 1 }, 10) else (S.count.settle f.toNat, 0) := by rw [E0.out, hf]; rfl
      have hlb := hok.lost
      have HOK := Lib.hid hok
      generalize S.count = S1 at *
      by_cases hl : 0 < S1.lost
      · have e : S.Sync f = ({ S1 with lost := S1.lost - 1 }, 10) := by rw [e1, if_pos hl]
        rw [e]
        have hw1 : IntKind.i64.wrap (S1.lost - 1) = S1.lost - 1 := IntWalk.i64_in _ (by omega)
        clear hf e e1 hok E0 hfe
        go_enter Try.func19, Try.ntmps19
        go_wp2_with (first
          | (go_at_call 46; refine HCT.out.mono ?_; rintro e w1 ⟨rfl, hc1, D1, hd1, hp1, hh1, ho1⟩; have hl1 := hd1.lost; have hz1 := hd1.free (j := 37) (by omega); have hst := hd1.set_lost (S1.lost - 1); rw [hp1] at hl1 hz1 hst; have HP := Lib.hid (⟨⟨D1, hst, hp1, hh1⟩, ho1.same (Only.set _ _ _ _ (.inl rfl))⟩ : Post D { S1 with lost := S1.lost - 1 } w (w1.setCell ⟨D.p, 37, none⟩ (.int .i64 (S1.lost - 1)))); clear hd1 hp1 hh1 ho1 hst)
          | (go_at_call 41; refine (hfc _).mono ?_; rintro e w' ⟨rfl, rfl⟩))
        go_ret
        exact ⟨rfl, HP.out⟩
      · have e : S.Sync f = (S1.settle f.toNat, 0) := by rw [e1, if_neg hl]
        rw [e]
        obtain ⟨fn, rfl⟩ : ∃ k : Nat, f = k := ⟨f.toNat, by omega⟩
        simp only [Int.toNat_natCast] at hf16 hfe ⊢
        have HST : Hid (∀ w1 D1, DiskAt w1 D1 S1 → D1.p = D.p → Calls Try.prog 47 #[.pointer (some ⟨D.p, 0, none⟩), .int .i64 fn] w1 fun e w' => e = .returned (.tuple #[]) ∧ Post D1 (S1.settle fn) w1 w') := Lib.hid (by
          intro w1 D1 h1 hp
          have := settle_any w1 D1 S1 fn h1 HOK.out hf16
          rwa [hp] at this)
        clear hf e e1 hok E0 hfe
        go_enter Try.func19, Try.ntmps19
        go_wp2_with (first
          | (go_at_call 46; refine HCT.out.mono ?_; rintro e w1 ⟨rfl, hc1, D1, hd1, hp1, hh1, ho1⟩; have hl1 := hd1.lost; rw [hp1] at hl1)
          | (go_at_call 41; refine (hfc _).mono ?_; rintro e w' ⟨rfl, rfl⟩)
          | (go_at_call 47; refine (HST.out w1 D1 hd1 hp1).mono ?_; rintro e w2 ⟨rfl, hp2⟩; have HP := Lib.hid (Post.next ho1 hp1 hh1 hp2); clear hp2 hd1 hp1 hh1 ho1))
        go_ret
        exact ⟨rfl, HP.out⟩
end Dsk
end Go.Proofs.Ytgaclibokapfaaa
