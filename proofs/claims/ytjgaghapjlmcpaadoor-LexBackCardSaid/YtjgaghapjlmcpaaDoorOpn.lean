/- What the rows of layer 2 share. -/
import Derived.Test.YtjgaghapjlmcpaaDoorBase
import Derived.Test.YtjgaghapjlmcpaaDoorNumb
import Derived.ProofKit
import Derived.Deep.Fields
import Derived.Deep.Slices
import Derived.SliceStrings
import Derived.OpenShut
namespace Go.Proofs.YtjgaghapjlmcpaaDoor
open Go.ChangeShapes Go.WideShapes Go.ChangeAt Go.RowKit Go.Deep Wire
set_option linter.unusedVariables false
set_option linter.unusedSimpArgs false
namespace Txt

theorem own : ownKnob Tryd.prog.godebug = none := by kernel_rfl
theorem laidOut : laidOutB Tryd.prog = true := by kernel_rfl
theorem cells_string : Tryd.prog.cellsOf 9 = 1 := by kernel_rfl
theorem readable_int : Tryd.prog.readableRec 3 = true := by kernel_rfl
theorem readable_string : Tryd.prog.readableRec 9 = true := by kernel_rfl
theorem listed_int : 3 < Tryd.prog.types.size := by rw [show Tryd.prog.types.size = Tryd.prog.types.size from rfl]; exact of_decide_eq_true (by kernel_rfl)
theorem listed_string : 9 < Tryd.prog.types.size := by rw [show Tryd.prog.types.size = Tryd.prog.types.size from rfl]; exact of_decide_eq_true (by kernel_rfl)
theorem fits_of {x : Int} (h : (Lit.int .i64 x).wf = true) : Fits x := by
  simpa [Lit.wf, IntKind.min, IntKind.max, IntKind.signed, IntKind.bits] using h
theorem max_room {n : Nat} (h : n ≤ maxLen) : n ≤ 9223372036854775807 := by
  unfold maxLen at h
  omega
end Txt
end Go.Proofs.YtjgaghapjlmcpaaDoor
