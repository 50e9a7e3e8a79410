/- Truncate. -/
import Derived.Test.YtgaclibokapfaaaApj
namespace Go.Proofs.Ytgaclibokapfaaa
open Go.RowKit Wire
set_option linter.unusedVariables false
set_option linter.unusedSimpArgs false
open Txt
namespace Dsk

/-- Settled, and both parts cut. -/
theorem settled_any (w1 : World) (D D1 : Own) (S1 : St) (fn : Nat) (h1 : DiskAt w1 D1 S1) (hk : S1.ok) (hf : fn < 16) (hp : D1.p = D.p) :
    Calls Try.prog 47 #[.pointer (some ⟨D.p, 0, none⟩), .int .i64 fn] w1 fun e w' => e = .returned (.tuple #[]) ∧ ∃ D2, DiskAt w' D2 (S1.settle fn) ∧ D2.p = D.p ∧ (∀ b, D2.has b → D1.has b ∨ w1.heap.size ≤ b) ∧ Only D1.has w1 w' := by
  have := settle_any w1 D1 S1 fn h1 hk hf
  rw [hp] at this
  refine this.mono ?_
  rintro e w' ⟨rfl, ⟨D2, h2, hp2, hh2⟩, ho⟩
  exact ⟨rfl, D2, h2, hp2.trans hp, hh2, ho⟩
theorem cutnow_any (w1 : World) (D D1 : Own) (S1 : St) (fn n : Nat) (h1 : DiskAt w1 D1 S1) (hf : fn < 16) (hn : n ≤ 16777216) (hp : D1.p = D.p) :
    Calls Try.prog 54 #[.pointer (some ⟨D.p, 0, none⟩), .int .i64 fn, .int .i64 n] w1 fun e w' => e = .returned (.tuple #[]) ∧ DiskAt w' D1 { S1 with now := S1.now.cut fn n } ∧ Only D1.has w1 w' := by
  have := cut_any D1.p 0 D1.m1 fn n S1.now w1 h1.now hf hn h1.sep.p1
  rw [hp] at this
  refine this.mono ?_
  rintro e w' ⟨rfl, hpp⟩
  rw [← hp] at hpp
  exact ⟨rfl, h1.put_now hpp, (post_now h1 hpp).only⟩
theorem cutlast_any (w1 : World) (D D1 : Own) (S1 : St) (fn n : Nat) (h1 : DiskAt w1 D1 S1) (hf : fn < 16) (hn : n ≤ 16777216) (hp : D1.p = D.p) :
    Calls Try.prog 54 #[.pointer (some ⟨D.p, 17, none⟩), .int .i64 fn, .int .i64 n] w1 fun e w' => e = .returned (.tuple #[]) ∧ DiskAt w' D1 { S1 with last := S1.last.cut fn n } ∧ Only D1.has w1 w' := by
  have := cut_any D1.p 17 D1.m2 fn n S1.last w1 h1.last hf hn h1.sep.p2
  rw [hp] at this
  refine this.mono ?_
  rintro e w' ⟨rfl, hpp⟩
  rw [← hp] at hpp
  exact ⟨rfl, h1.put_last hpp, (post_last h1 hpp).only⟩

set_option maxHeartbeats 2000000 in
theorem Trunc_any (w : World) (D : Own) (S : St) (h : DiskAt w D S) (hk : S.ok) (f n : Int) :
    Calls Try.prog 30 #[.pointer (some ⟨D.p, 0, none⟩), .int .i64 f, .int .i64 n] w fun e w' => e = .returned (.int .i64 (S.Trunc f n).2) ∧ Post D (S.Trunc f n).1 w w' := by
  have HCT := Lib.hid (counted_any w D S h hk)
  have hok := hk.count
  have hfc := isFile_any f
  clear h hk
  cases hd : S.count.down with
  | true =>
    have e : S.Trunc f n = (S.count, 9) := by unfold St.Trunc; rw [if_pos hd]
    rw [e]
    rw [hd] at HCT
    clear hd e hok
    go_enter Try.func30, Try.ntmps30
    go_wp2_with ((go_at_call 46; refine HCT.out.mono ?_; rintro e w1 ⟨rfl, hc1, D1, hd1, hp1, hh1, ho1⟩; have HP := Lib.hid (⟨⟨D1, hd1, hp1, hh1⟩, ho1⟩ : Post D S.count w w1); clear hd1 hp1 hh1 ho1))
    go_ret
    exact ⟨rfl, HP.out⟩
  | false =>
    have e0 : S.Trunc f n = if !isF f || decide (n < 0) || decide ((S.count.now.size f.toNat : Int) < n) then (S.count, 1) else (S.count.trunc f.toNat n.toNat, 0) := by unfold St.Trunc; rw [if_neg (by rw [hd]; simp)]
    have E0 := Lib.hid e0
    rw [hd] at HCT
    clear hd e0
    cases hf : isF f with
    | false =>
      have e : S.Trunc f n = (S.count, 1) := by rw [E0.out, hf]; rfl
      rw [e]
      rw [hf] at hfc
      clear hf e hok
      go_enter Try.func30, Try.ntmps30
      go_wp2_with (first
        | (go_at_call 46; refine HCT.out.mono ?_; rintro e w1 ⟨rfl, hc1, D1, hd1, hp1, hh1, ho1⟩; have HP := Lib.hid (⟨⟨D1, hd1, hp1, hh1⟩, ho1⟩ : Post D S.count w w1); clear hd1 hp1 hh1 ho1)
        | (go_at_call 41; refine (hfc _).mono ?_; rintro e w' ⟨rfl, rfl⟩))
      go_ret
      exact ⟨rfl, HP.out⟩
    | true =>
      rw [hf] at hfc
      obtain ⟨_, _, hf16, hfe⟩ := isF_nat hf
      by_cases hn0 : n < 0
      · have e : S.Trunc f n = (S.count, 1) := by rw [E0.out, hf]; simp [hn0]
        rw [e]
        clear hf e hok hfe
        go_enter Try.func30, Try.ntmps30
        go_wp2_with (first
          | (go_at_call 46; refine HCT.out.mono ?_; rintro e w1 ⟨rfl, hc1, D1, hd1, hp1, hh1, ho1⟩; have HP := Lib.hid (⟨⟨D1, hd1, hp1, hh1⟩, ho1⟩ : Post D S.count w w1); clear hd1 hp1 hh1 ho1)
          | (go_at_call 41; refine (hfc _).mono ?_; rintro e w' ⟨rfl, rfl⟩))
        go_ret
        exact ⟨rfl, HP.out⟩
      · obtain ⟨fn, rfl⟩ : ∃ k : Nat, f = k := ⟨f.toNat, by omega⟩
        obtain ⟨nn, rfl⟩ : ∃ k : Nat, n = k := ⟨n.toNat, by omega⟩
        simp only [Int.toNat_natCast] at hf16 hfe E0
        have hix := fun w' => index_siz w' D.p 1 hf16
        have hroom := hok.now.room fn
        have HOK := Lib.hid hok
        have e1 : S.Trunc fn nn = if (S.count.now.size fn : Int) < nn then (S.count, 1) else (S.count.trunc fn nn, 0) := by
          rw [E0.out, hf]
          simp [hn0]
        clear hf hok E0 hfe hn0
        generalize S.count = S1 at *
        by_cases hgt : (S1.now.size fn : Int) < nn
        · have e : S.Trunc fn nn = (S1, 1) := by rw [e1, if_pos hgt]
          rw [e]
          clear e e1
          go_enter Try.func30, Try.ntmps30
          go_wp2_with (first
            | (go_at_call 46; refine HCT.out.mono ?_; rintro e w1 ⟨rfl, hc1, D1, hd1, hp1, hh1, ho1⟩; have hcell := hd1.now.siz hf16; rw [Nat.zero_add, hp1] at hcell; have HP := Lib.hid (⟨⟨D1, hd1, hp1, hh1⟩, ho1⟩ : Post D S1 w w1); clear hd1 hp1 hh1 ho1)
            | (go_at_call 41; refine (hfc _).mono ?_; rintro e w' ⟨rfl, rfl⟩))
          go_ret
          exact ⟨rfl, HP.out⟩
        · have e : S.Trunc fn nn = (S1.trunc fn nn, 0) := by rw [e1, if_neg hgt]
          rw [e]
          clear e e1
          have hn16 : nn ≤ 16777216 := by omega
          go_enter Try.func30, Try.ntmps30
          go_wp2_with (first
            | (go_at_call 46; refine HCT.out.mono ?_; rintro e w1 ⟨rfl, hc1, D1, hd1, hp1, hh1, ho1⟩; have hcell := hd1.now.siz hf16; rw [Nat.zero_add, hp1] at hcell)
            | (go_at_call 41; refine (hfc _).mono ?_; rintro e w' ⟨rfl, rfl⟩)
            | (go_at_call 47; refine (settled_any w1 D D1 S1 fn hd1 HOK.out hf16 hp1).mono ?_; rintro e w2 ⟨rfl, D2, hd2, hp2, hh2, ho2⟩; clear hc1 hcell hd1))
          refine (cutnow_any w2 D D2 (S1.settle fn) fn nn hd2 hf16 hn16 hp2).mono ?_
          rintro e w3 ⟨rfl, hd3, ho3⟩
          go_wp2_with fail
          refine (cutlast_any w3 D D2 _ fn nn hd3 hf16 hn16 hp2).mono ?_
          rintro e w4 ⟨rfl, hd4, ho4⟩
          have hs1 := ho1.size
          have hh : ∀ b, D2.has b → D.has b ∨ w.heap.size ≤ b := fun b hb => by
            rcases hh2 b hb with e | e
            · exact hh1 b e
            · exact .inr (Nat.le_trans hs1 e)
          have HP : Hid (Post D (S1.trunc fn nn) w w4) := Lib.hid ⟨⟨D2, hd4, hp2, hh⟩, ((ho1.trans ho2 hh1).trans ho3 hh).trans ho4 hh⟩
          clear hd2 hd3 hd4 ho1 ho2 ho3 ho4 hh hh1 hh2
          go_wp2_with fail
          go_ret
          exact ⟨rfl, HP.out⟩
end Dsk
end Go.Proofs.Ytgaclibokapfaaa
