/- A floor that came in; the reference's cells, places, neighbours. -/
import Derived.Test.YtgophgnfiboefaaDoorFlA
import Derived.Test.YtgophgnfiboefaaDoorFlB
import Derived.Test.YtgophgnfiboefaaDoorDskA
namespace Go.Proofs.YtgophgnfiboefaaDoor
open Go.RowKit Wire
open Txt (Row)
set_option linter.unusedVariables false
set_option linter.unusedSimpArgs false
namespace Flo

/-- Where the two lists of a floor lie. -/
structure Pl where
  A1 : Option Addr
  c1 : Nat
  A2 : Option Addr
  c2 : Nat
abbrev Fl.val (f : Fl) (p : Pl) : Value := .agg #[.int .i64 f.W, .int .i64 f.H, .int .i64 f.D, .slice p.A1 f.Kind.length p.c1, .slice p.A2 f.Out.length p.c2]
theorem Fl.ok.small {f : Fl} (h : f.ok) : f.W ≤ 4096 ∧ f.H ≤ 4096 ∧ f.W * f.H ≤ 4096 ∧ 1 ≤ f.W * f.H := by
  have h1 := h.w
  have h2 := h.h
  have h3 := h.d
  have h4 := h.size
  have e1 : f.W ≤ f.W * f.H := by
    have := Int.mul_le_mul_of_nonneg_left h2 (show 0 ≤ f.W by omega)
    omega
  have e2 : f.H ≤ f.W * f.H := by
    have := Int.mul_le_mul_of_nonneg_right h1 (show 0 ≤ f.H by omega)
    omega
  have e3 : f.W * f.H ≤ f.W * f.H * f.D := by
    have := Int.mul_le_mul_of_nonneg_left h3 (show 0 ≤ f.W * f.H by omega)
    omega
  omega
theorem out_ways {f : Fl} {x y z : Int} (h : ¬ f.inn x y z) : x < 0 ∨ (0 ≤ x ∧ f.W ≤ x) ∨ (0 ≤ x ∧ x < f.W ∧ y < 0) ∨ (0 ≤ x ∧ x < f.W ∧ 0 ≤ y ∧ f.H ≤ y) ∨ (0 ≤ x ∧ x < f.W ∧ 0 ≤ y ∧ y < f.H ∧ z < 0) ∨ (0 ≤ x ∧ x < f.W ∧ 0 ≤ y ∧ y < f.H ∧ 0 ≤ z ∧ f.D ≤ z) := by
  unfold Fl.inn at h
  omega
end Flo
end Go.Proofs.YtgophgnfiboefaaDoor
