/- The reference's Dist. -/
import Derived.Test.YtncbhhnojdhpeaaDoorFlH
namespace Go.Proofs.YtncbhhnojdhpeaaDoor
open Go.RowKit Wire
open Txt (Row)
open Own
set_option linter.unusedVariables false
set_option linter.unusedSimpArgs false
namespace Flo
set_option maxRecDepth 100000 in
set_option maxHeartbeats 8000000 in
theorem qDist_any {f : Fl} (ho : f.ok) (p : Pl) (A B : Option Addr) (ca cb : Nat) (src avoid : List Int) (w : World) (hin : FlIn w f p) (hs : Row w w.heap.size A (ivs src)) (ha : Row w w.heap.size B (ivs avoid)) (hls : src.length ≤ 1000000) (hla : avoid.length ≤ 1000000) :
    Calls Tryd.prog 26 #[f.val p, .slice A src.length ca, .slice B avoid.length cb] w (SpreadPost f src avoid false w) := by
  have HS := Lib.hid (fun w' (b : Below w.heap.size w w') => spread_any ho p A B ca cb src avoid false w' (hin.lift b) (hs.lift b) (ha.lift b) hls hla)
  have HB0 : Hid (Below w.heap.size w w) := Lib.hid (Below.refl _ w)
  clear hin hs ha hls hla ho
  go_enter Tryd.func26, Tryd.ntmps26
  go_wp2_with (go_at_call 41; refine (HS.out _ (HB0.out.alloc (Nat.le_refl _) _)).mono ?_; rintro e w1 h1; obtain ⟨A', c', l, rfl, h2, h3, h4⟩ := h1; have HR : Hid (SpreadPost f src avoid false w (.returned (.slice A' f.Kind.length c')) w1) := Lib.hid ⟨A', c', l, rfl, h2, h3, next_below (HB0.out.alloc (Nat.le_refl _) _) h4⟩; clear h2 h3 h4)
  go_returns
  exact HR.out
end Flo
end Go.Proofs.YtncbhhnojdhpeaaDoor
