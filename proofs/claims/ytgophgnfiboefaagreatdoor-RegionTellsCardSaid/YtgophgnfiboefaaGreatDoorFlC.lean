/- A floor that came in; the reference's cells, places, neighbours. -/
import Derived.Test.YtgophgnfiboefaaGreatDoorMgE
import Derived.Test.YtgophgnfiboefaaGreatDoorDskA
namespace Go.Proofs.YtgophgnfiboefaaGreatDoor
open Go.RowKit Wire
open Txt (Row)
set_option linter.unusedVariables false
set_option linter.unusedSimpArgs false
namespace Flo

/-- Where the two lists of a floor lie. -/
structure Pl where
  A1 : Option Addr
  c1 : Nat
  A2 : Option Addr
  c2 : Nat
abbrev Fl.val (f : Fl) (p : Pl) : Value := .agg #[.int .i64 f.W, .int .i64 f.H, .int .i64 f.D, .slice p.A1 f.Kind.length p.c1, .slice p.A2 f.Out.length p.c2]
theorem Fl.ok.small {f : Fl} (h : f.ok) : f.W ≤ 4096 ∧ f.H ≤ 4096 ∧ f.W * f.H ≤ 4096 ∧ 1 ≤ f.W * f.H := by
  have h1 := h.w
  have h2 := h.h
  have h3 := h.d
  have h4 := h.size
  have e1 : f.W ≤ f.W * f.H := by
    have := Int.mul_le_mul_of_nonneg_left h2 (show 0 ≤ f.W by omega)
    omega
  have e2 : f.H ≤ f.W * f.H := by
    have := Int.mul_le_mul_of_nonneg_right h1 (show 0 ≤ f.H by omega)
    omega
  have e3 : f.W * f.H ≤ f.W * f.H * f.D := by
    have := Int.mul_le_mul_of_nonneg_left h3 (show 0 ≤ f.W * f.H by omega)
    omega
  omega
set_option maxHeartbeats 1000000 in
theorem qSize_any {f : Fl} (ho : f.ok) (p : Pl) (w : World) : Calls Tryz.prog 71 #[f.val p] w fun e w' => e = .returned (.int .i64 (f.W * f.H * f.D)) ∧ Below w.heap.size w w' := by
  obtain ⟨s1, s2, s3, s4⟩ := ho.small
  have h1 := ho.w
  have h2 := ho.h
  have h3 := ho.d
  have h4 := ho.size
  have h5 : 0 ≤ f.W * f.H * f.D := by have := ho.kinds; omega
  have hb : ∀ o, Below w.heap.size w (w.alloc o) := fun o => (Below.refl _ w).alloc (Nat.le_refl _) o
  have HB := Lib.hid hb
  clear ho hb
  obtain ⟨W, H, D, K, O⟩ := f
  dsimp only at *
  go_enter Tryz.func71, Tryz.ntmps71
  go_wp2_with fail
  go_ret
  exact ⟨rfl, HB.out _⟩
set_option maxHeartbeats 1000000 in
theorem qIs_any {f : Fl} (ho : f.ok) (p : Pl) (c : Int) (w : World) : Calls Tryz.prog 55 #[f.val p, .int .i64 c] w fun e w' => e = .returned (.bool (f.is c)) ∧ Below w.heap.size w w' := by
  have HS := Lib.hid (fun w => qSize_any ho p w)
  have hb : ∀ o, Below w.heap.size w (w.alloc o) := fun o => (Below.refl _ w).alloc (Nat.le_refl _) o
  have HB := Lib.hid hb
  have he : f.is c = (decide (0 ≤ c) && decide (c < f.W * f.H * f.D)) := by unfold Fl.is; rw [Bool.decide_and]
  have HE := Lib.hid he
  clear ho hb he
  obtain ⟨W, H, D, K, O⟩ := f
  dsimp only at *
  rw [HE.out]
  clear HE
  generalize W * H * D = n at *
  by_cases h0 : 0 ≤ c
  · go_enter Tryz.func55, Tryz.ntmps55
    go_wp2_with (go_at_call 71; refine (HS.out _).mono ?_; rintro e w1 ⟨rfl, b1⟩; have B1 := Lib.hid (next_below (HB.out _) b1); clear b1)
    go_ret
    exact ⟨by simp [h0], B1.out⟩
  · go_enter Tryz.func55, Tryz.ntmps55
    go_wp2_with (go_at_call 71; refine (HS.out _).mono ?_; rintro e w1 ⟨rfl, b1⟩; have B1 := Lib.hid (next_below (HB.out _) b1); clear b1)
    go_ret
    exact ⟨by simp; omega, HB.out _⟩
theorem out_ways {f : Fl} {x y z : Int} (h : ¬ f.inn x y z) : x < 0 ∨ (0 ≤ x ∧ f.W ≤ x) ∨ (0 ≤ x ∧ x < f.W ∧ y < 0) ∨ (0 ≤ x ∧ x < f.W ∧ 0 ≤ y ∧ f.H ≤ y) ∨ (0 ≤ x ∧ x < f.W ∧ 0 ≤ y ∧ y < f.H ∧ z < 0) ∨ (0 ≤ x ∧ x < f.W ∧ 0 ≤ y ∧ y < f.H ∧ 0 ≤ z ∧ f.D ≤ z) := by
  unfold Fl.inn at h
  omega
set_option maxHeartbeats 1000000 in
theorem qCell_any {f : Fl} (ho : f.ok) (p : Pl) (x y z : Int) (w : World) : Calls Tryz.prog 97 #[f.val p, .int .i64 x, .int .i64 y, .int .i64 z] w fun e w' => e = .returned (.int .i64 (f.cell x y z)) ∧ Below w.heap.size w w' := by
  have hb : ∀ o, Below w.heap.size w (w.alloc o) := fun o => (Below.refl _ w).alloc (Nat.le_refl _) o
  have HB := Lib.hid hb
  clear hb
  by_cases hin : f.inn x y z
  · rw [Fl.cell_in hin]
    have hbd := Fl.is_bounds (Fl.cell_is hin)
    rw [Fl.cell_in hin] at hbd
    have hsz := ho.size
    obtain ⟨a, b, c, d, e, g⟩ := hin
    have hz1 : 0 ≤ z * f.H := Int.mul_nonneg e (by omega)
    have hz2 : 0 ≤ (z * f.H + y) * f.W := Int.mul_nonneg (by omega) (by omega)
    have hz3 : z * f.H + y ≤ (z * f.H + y) * f.W := by
      have := Int.mul_le_mul_of_nonneg_left ho.w (show 0 ≤ z * f.H + y by omega)
      omega
    clear ho
    obtain ⟨W, H, D, K, O⟩ := f
    dsimp only at *
    go_enter Tryz.func97, Tryz.ntmps97
    go_wp2_with fail
    go_ret
    exact ⟨rfl, HB.out _⟩
  · rw [Fl.cell_out hin]
    have hw := out_ways hin
    clear ho hin
    obtain ⟨W, H, D, K, O⟩ := f
    dsimp only at *
    rcases hw with h1 | ⟨h1, h2⟩ | ⟨h1, h2, h3⟩ | ⟨h1, h2, h3, h4⟩ | ⟨h1, h2, h3, h4, h5⟩ | ⟨h1, h2, h3, h4, h5, h6⟩
    all_goals
      go_enter Tryz.func97, Tryz.ntmps97
      go_wp2_with fail
      go_ret
      exact ⟨rfl, HB.out _⟩
theorem qOpposite_any (d : Int) (w : World) : Calls Tryz.prog 100 #[.int .i64 d] w fun e w' => e = .returned (.int .i64 (opp d)) ∧ w = w' := by
  unfold opp
  by_cases h0 : d = 0
  · subst h0
    go_enter Tryz.func100, Tryz.ntmps100
    go_wp2_with fail
    go_ret
    exact ⟨rfl, rfl⟩
  by_cases h2 : d = 2
  · subst h2
    go_enter Tryz.func100, Tryz.ntmps100
    go_wp2_with fail
    go_ret
    exact ⟨rfl, rfl⟩
  by_cases h1 : d = 1
  · subst h1
    go_enter Tryz.func100, Tryz.ntmps100
    go_wp2_with fail
    go_ret
    exact ⟨rfl, rfl⟩
  by_cases h3 : d = 3
  · subst h3
    go_enter Tryz.func100, Tryz.ntmps100
    go_wp2_with fail
    go_ret
    exact ⟨rfl, rfl⟩
  by_cases h4 : d = 4
  · subst h4
    go_enter Tryz.func100, Tryz.ntmps100
    go_wp2_with fail
    go_ret
    exact ⟨rfl, rfl⟩
  by_cases h5 : d = 5
  · subst h5
    go_enter Tryz.func100, Tryz.ntmps100
    go_wp2_with fail
    go_ret
    exact ⟨rfl, rfl⟩
  rw [if_neg h0, if_neg h2, if_neg h1, if_neg h3, if_neg h4, if_neg h5]
  go_enter Tryz.func100, Tryz.ntmps100
  go_wp2_with fail
  go_ret
  exact ⟨rfl, rfl⟩
end Flo
end Go.Proofs.YtgophgnfiboefaaGreatDoor
