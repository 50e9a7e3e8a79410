/- What the rows of layer 9 share: how strings, ints and bytes come in. -/
import Derived.Test.YtjgaghapjlmcpaaDoorOpn
import Derived.Lay
import Derived.LaidMore
import Derived.Carry
namespace Go.Proofs.YtjgaghapjlmcpaaDoor
open Go.ChangeShapes Go.WideShapes Go.ChangeAt Go.RowKit Go.Deep Wire
set_option linter.unusedVariables false
set_option linter.unusedSimpArgs false
open Txt
namespace Lx
theorem readable_byte : Tryd.prog.readableRec 5 = true := by kernel_rfl
theorem listed_byte : 5 < Tryd.prog.types.size := by rw [show Tryd.prog.types.size = Tryd.prog.types.size from rfl]; exact of_decide_eq_true (by kernel_rfl)
theorem byte_of {x : Int} (h : (Lit.int .u8 x).wf = true) : ∃ c : UInt8, x = c.toNat := by
  have h2 : 0 ≤ x ∧ x ≤ 255 := by simpa [Lit.wf, IntKind.min, IntKind.max, IntKind.signed, IntKind.bits] using h
  refine ⟨UInt8.ofNat x.toNat, ?_⟩
  rw [UInt8.toNat_ofNat', Nat.mod_eq_of_lt (by omega)]
  omega
end Lx
end Go.Proofs.YtjgaghapjlmcpaaDoor
