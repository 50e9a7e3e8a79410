/- The reference's At, Beside, Next, Back, Near. -/
import Derived.Test.YtgophgnfiboefaaDoorFlC
namespace Go.Proofs.YtgophgnfiboefaaDoor
open Go.RowKit Wire
open Txt (Row)
set_option linter.unusedVariables false
set_option linter.unusedSimpArgs false
namespace Flo
theorem below_any {B : Nat} (w : World) (n : Nat) : Below B w (w.drewN n) := ⟨rfl, rfl, rfl, Nat.le_refl _, fun _ _ => rfl⟩
section
variable {f : Fl} {c : Int}
theorem beside_0 (h : f.is c = true) : f.beside c 0 = f.cell (f.px c + 1) (f.py c) (f.pz c) := by
  unfold Fl.beside
  rw [h]
  simp [isDir, dx, dy, dz, Int.sub_eq_add_neg]
theorem beside_1 (h : f.is c = true) : f.beside c 1 = f.cell (f.px c) (f.py c + 1) (f.pz c) := by
  unfold Fl.beside
  rw [h]
  simp [isDir, dx, dy, dz, Int.sub_eq_add_neg]
theorem beside_2 (h : f.is c = true) : f.beside c 2 = f.cell (f.px c - 1) (f.py c) (f.pz c) := by
  unfold Fl.beside
  rw [h]
  simp [isDir, dx, dy, dz, Int.sub_eq_add_neg]
theorem beside_3 (h : f.is c = true) : f.beside c 3 = f.cell (f.px c) (f.py c - 1) (f.pz c) := by
  unfold Fl.beside
  rw [h]
  simp [isDir, dx, dy, dz, Int.sub_eq_add_neg]
theorem beside_4 (h : f.is c = true) : f.beside c 4 = f.cell (f.px c) (f.py c) (f.pz c + 1) := by
  unfold Fl.beside
  rw [h]
  simp [isDir, dx, dy, dz, Int.sub_eq_add_neg]
theorem beside_5 (h : f.is c = true) : f.beside c 5 = f.cell (f.px c) (f.py c) (f.pz c - 1) := by
  unfold Fl.beside
  rw [h]
  simp [isDir, dx, dy, dz, Int.sub_eq_add_neg]
end
end Flo
end Go.Proofs.YtgophgnfiboefaaDoor
