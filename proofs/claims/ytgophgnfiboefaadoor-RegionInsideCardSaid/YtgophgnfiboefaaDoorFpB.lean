/- The program's Cell, At. -/
import Derived.Test.YtgophgnfiboefaaDoorFpA
import Derived.Deep.QuietTactic
import Derived.BigQuiet
namespace Go.Proofs.YtgophgnfiboefaaDoor
open Go.RowKit Wire
open Txt (Row)
set_option linter.unusedVariables false
set_option linter.unusedSimpArgs false
namespace Flo
set_option maxRecDepth 8000 in
set_option maxHeartbeats 1000000 in
theorem cell_any {f : Fl} (ho : f.ok) (p : Pl) (x y z : Int) (w : World) : Calls Tryd.prog 59 #[f.val p, .int .i64 x, .int .i64 y, .int .i64 z] w fun e w' => e = .returned (.int .i64 (f.cell x y z)) ∧ Below w.heap.size w w' := by
  have hb : ∀ o, Below w.heap.size w (w.alloc o) := fun o => (Below.refl _ w).alloc (Nat.le_refl _) o
  have HB := Lib.hid hb
  have hw := ho.w
  have hh := ho.h
  have hd := ho.d
  have hd4 := ho.d4
  obtain ⟨s1, s2, _, _⟩ := ho.small
  obtain ⟨bx, hbx⟩ : ∃ b : Bool, (b = true) ↔ (0 ≤ x ∧ x ≤ f.W - 1) := ⟨decide (0 ≤ x ∧ x ≤ f.W - 1), decide_eq_true_iff⟩
  obtain ⟨by', hby⟩ : ∃ b : Bool, (b = true) ↔ (0 ≤ y ∧ y ≤ f.H - 1) := ⟨decide (0 ≤ y ∧ y ≤ f.H - 1), decide_eq_true_iff⟩
  obtain ⟨bz, hbz⟩ : ∃ b : Bool, (b = true) ↔ (0 ≤ z ∧ z ≤ f.D - 1) := ⟨decide (0 ≤ z ∧ z ≤ f.D - 1), decide_eq_true_iff⟩
  have HX := Lib.hid (between_as bx hbx)
  have HY := Lib.hid (between_as by' hby)
  have HZ := Lib.hid (between_as bz hbz)
  clear hb
  by_cases hin : f.inn x y z
  · rw [Fl.cell_in hin]
    have hbd := Fl.is_bounds (Fl.cell_is hin)
    rw [Fl.cell_in hin] at hbd
    have hsz := ho.size
    obtain ⟨a, b, c, d, e, g⟩ := hin
    obtain rfl : bx = true := hbx.2 ⟨a, by omega⟩
    obtain rfl : by' = true := hby.2 ⟨c, by omega⟩
    obtain rfl : bz = true := hbz.2 ⟨e, by omega⟩
    have hz1 : 0 ≤ z * f.H := Int.mul_nonneg e (by omega)
    have hz2 : 0 ≤ (z * f.H + y) * f.W := Int.mul_nonneg (by omega) (by omega)
    have hz3 : z * f.H + y ≤ (z * f.H + y) * f.W := by
      have := Int.mul_le_mul_of_nonneg_left ho.w (show 0 ≤ z * f.H + y by omega)
      omega
    clear ho hbx hby hbz
    obtain ⟨W, H, D, K, O⟩ := f
    dsimp only at *
    go_enter Tryd.func59, Tryd.ntmps59
    go_wp2_with (first | (go_at_call 48; (with_reducible refine (HX.out _).mono ?_); rintro e w1 ⟨rfl, rfl⟩) | (go_at_call 48; (with_reducible refine (HY.out _).mono ?_); rintro e w1 ⟨rfl, rfl⟩) | (go_at_call 48; (with_reducible refine (HZ.out _).mono ?_); rintro e w1 ⟨rfl, rfl⟩))
    go_ret
    exact ⟨rfl, HB.out _⟩
  · rw [Fl.cell_out hin]
    have hno : bx = false ∨ (bx = true ∧ by' = false) ∨ (bx = true ∧ by' = true ∧ bz = false) := by
      unfold Fl.inn at hin
      cases h1 : bx
      · exact .inl rfl
      · cases h2 : by'
        · exact .inr (.inl ⟨rfl, rfl⟩)
        · cases h3 : bz
          · exact .inr (.inr ⟨rfl, rfl, rfl⟩)
          · have e1 := hbx.1 h1
            have e2 := hby.1 h2
            have e3 := hbz.1 h3
            exact absurd ⟨e1.1, by omega, e2.1, by omega, e3.1, by omega⟩ hin
    clear ho hin hbx hby hbz
    obtain ⟨W, H, D, K, O⟩ := f
    dsimp only at *
    rcases hno with rfl | ⟨rfl, rfl⟩ | ⟨rfl, rfl, rfl⟩
    all_goals
      go_enter Tryd.func59, Tryd.ntmps59
      go_wp2_with (first | (go_at_call 48; (with_reducible refine (HX.out _).mono ?_); rintro e w1 ⟨rfl, rfl⟩) | (go_at_call 48; (with_reducible refine (HY.out _).mono ?_); rintro e w1 ⟨rfl, rfl⟩) | (go_at_call 48; (with_reducible refine (HZ.out _).mono ?_); rintro e w1 ⟨rfl, rfl⟩))
      go_ret
      exact ⟨rfl, HB.out _⟩
set_option maxRecDepth 8000 in
set_option maxHeartbeats 1000000 in
theorem at_any {f : Fl} (ho : f.ok) (p : Pl) (c : Int) (w : World) : Calls Tryd.prog 58 #[f.val p, .int .i64 c] w fun e w' => e = .returned (.tuple #[.int .i64 (f.at c).1, .int .i64 (f.at c).2.1, .int .i64 (f.at c).2.2]) ∧ Below w.heap.size w w' := by
  have HS := Lib.hid (fun w => isCell_any ho p c w)
  have hb : ∀ o, Below w.heap.size w (w.alloc o) := fun o => (Below.refl _ w).alloc (Nat.le_refl _) o
  have HB := Lib.hid hb
  unfold Fl.at
  cases hi : f.is c
  · rw [hi] at HS
    simp only [Bool.false_eq_true, if_false]
    clear ho hb hi
    obtain ⟨W, H, D, K, O⟩ := f
    go_enter Tryd.func58, Tryd.ntmps58
    go_wp2_with (go_at_call 56; refine (HS.out _).mono ?_; rintro e w1 ⟨rfl, b1⟩; have B1 := Lib.hid (next_below (HB.out _) b1); clear b1)
    go_returns
    exact ⟨rfl, B1.out⟩
  · rw [hi] at HS
    simp only [if_true]
    obtain ⟨h0, h1⟩ := Fl.is_bounds hi
    have hw := ho.w
    have hh := ho.h
    have hsz := ho.size
    have hcs : c < 4096 := by omega
    have g1 : 0 ≤ c / f.W := Int.ediv_nonneg h0 (by omega)
    have g2 : c / f.W ≤ c := Int.ediv_le_self _ h0
    have g3 : 0 ≤ c / f.W / f.H := Int.ediv_nonneg g1 (by omega)
    have g4 : c / f.W / f.H ≤ c / f.W := Int.ediv_le_self _ g1
    have q1 : c.tmod f.W = c % f.W := Int.tmod_eq_emod_of_nonneg h0
    have q2 : c.tdiv f.W = c / f.W := Int.tdiv_eq_ediv_of_nonneg h0
    have q3 : (c / f.W).tmod f.H = c / f.W % f.H := Int.tmod_eq_emod_of_nonneg g1
    have q4 : (c / f.W).tdiv f.H = c / f.W / f.H := Int.tdiv_eq_ediv_of_nonneg g1
    have n1 : ¬ f.W = 0 := by omega
    have n2 : ¬ f.H = 0 := by omega
    clear ho hb hi hsz h1
    obtain ⟨W, H, D, K, O⟩ := f
    dsimp only [Fl.px, Fl.py, Fl.pz] at *
    go_enter Tryd.func58, Tryd.ntmps58
    go_wp2_with (go_at_call 56; refine (HS.out _).mono ?_; rintro e w1 ⟨rfl, b1⟩; have B1 := Lib.hid (next_below (HB.out _) b1); have K1 := (Blk.fresh w _ _).under b1 (by simp); have k0 := K1.at 0; have k1 := K1.at 1; clear b1 K1)
    go_quiet (fail)
    go_wp2_with fail
    go_returns
    exact ⟨rfl, next_below B1.out (below_any _ _)⟩
end Flo
end Go.Proofs.YtgophgnfiboefaaDoor
