/- The reference's Back, Near, Few, Same; has. -/
import Derived.Test.YtgophgnfiboefaaDoorFlE
import Derived.Deep.DeepCutAuto
namespace Go.Proofs.YtgophgnfiboefaaDoor
open Go.RowKit Wire
open Txt (Row)
set_option linter.unusedVariables false
set_option linter.unusedSimpArgs false
namespace Flo
/-- A boxed floor at g. -/
abbrev BoxS (g : Nat) (W H D : Int) (A1 : Option Addr) (n1 c1 : Nat) (A2 : Option Addr) (n2 c2 : Nat) (w : World) : Prop :=
  w.cell? ⟨g, 0, none⟩ = some (.int .i64 W) ∧ w.cell? ⟨g, 1, none⟩ = some (.int .i64 H) ∧ w.cell? ⟨g, 2, none⟩ = some (.int .i64 D) ∧ w.cell? ⟨g, 3, none⟩ = some (.slice A1 n1 c1) ∧ w.cell? ⟨g, 4, none⟩ = some (.slice A2 n2 c2)
theorem boxS {w : World} {g : Nat} {t : TypeId} {W H D : Int} {A1 A2 : Option Addr} {n1 c1 n2 c2 : Nat} (h : Blk w g t #[.int .i64 W, .int .i64 H, .int .i64 D, .slice A1 n1 c1, .slice A2 n2 c2]) : BoxS g W H D A1 n1 c1 A2 n2 c2 w := ⟨h.at 0, h.at 1, h.at 2, h.at 3, h.at 4⟩
theorem near_true {f : Fl} {a b : Int} {j : Nat} (hj : j < 4) (hb : f.is b = true) (h : f.beside a j = b) : f.near a b = true := by
  unfold Fl.near
  rw [hb]
  obtain rfl | rfl | rfl | rfl : j = 0 ∨ j = 1 ∨ j = 2 ∨ j = 3 := by omega
  all_goals
    have h' := h
    simp at h'
    simp [h']
theorem near_false {f : Fl} {a b : Int} (h : ∀ j : Nat, j < 4 → (f.is b && f.beside a j == b) = false) : f.near a b = false := by
  unfold Fl.near
  cases hb : f.is b
  · rfl
  · rw [hb] at h
    have h0 := h 0 (by omega)
    have h1 := h 1 (by omega)
    have h2 := h 2 (by omega)
    have h3 := h 3 (by omega)
    simp at h0 h1 h2 h3
    simp [h0, h1, h2, h3]
structure NearRel (w1 : World) (f : Fl) (a b : Int) (jv : Value) (wr : World) (j : Nat) : Prop where
  jv : jv = .int .i64 j
  le : j ≤ 4
  no : ∀ i : Nat, i < j → (f.is b && f.beside a i == b) = false
  below : Below w1.heap.size w1 wr
end Flo
end Go.Proofs.YtgophgnfiboefaaDoor
