/-
  NARROWER THAN 'FOR EVERY INPUT', by the rows' own cells (each row's printed sentence says how): RegionSets: laid · RegionParts: laid · RegionInside: laid · RegionEdge: laid.
  DERIVED. THE GIVEN ROWS OF THIS SEAT. 4 by the template 'for every input the law returns true; each argument reads behind the call as it read before'; 0 by the template 'total and deterministic' (their statements: YtgophgnfiboefaaDoorTotals.lean).
  GIVEN WITH THE SEED: the statements are not yours to turn. If you find one false, say at which input.
  Laid BY PROGRAM, IN A SANDBOX (cutbox-rows.mjs): the forced cells as the released guide's own fill.sh prints them over the translation 3ce526aa98c6077a… (all of the seat's roots in one cut). By AI agents, Wed Nov 11 2026. No macro, syntax, notation, axiom, sorry.
-/
import Derived.Test.YtgophgnfiboefaaDoorChecked
import GoSem.Claim
import GoSem.ClaimJoined
import GoSem.ClaimMapViews
import Derived.JoinedTies
import Derived.KernelRfl
namespace Go.Proofs.YtgophgnfiboefaaDoor
/- THE CELL 'sum', in the pinned program and in every row, IS THE sha256 OF THE DUMP (.gsa) THAT YtgophgnfiboefaaDoorProg.lean LOADS. Nothing in Lean hashes anything: it is a label: what it is worth is what the hold of that sum in a sandbox is worth. -/
noncomputable def Tryd.pinned : Pinned := { name := "ytgophgnfiboefaadoor", sum := "3ce526aa98c6077ad8e59f4bfe54d38f6378a8a054e325a47fab3203b9d048d6", checked := Tryd.checked }
namespace Rows
def none {H : Type} : Left H := { results := [], args := [] }

/- WHAT THE LISTED PACKAGE-LEVEL VARIABLES READ AS WHEN THE CALL BEGINS. Each datum BY PROGRAM (the guide's laid-datum.mjs) off the statement by which the dump's own 'gosem.cut.vars' lays the variable. In a bare row this is a premise. The card (YtgophgnfiboefaaDoorCards.lean) ties it to the program's text. -/
def laid_taquin_floor_steps {H : Type} : DataW H := .agg [.agg [.lit (.int .i64 1), .lit (.int .i64 0), .lit (.int .i64 0)], .agg [.lit (.int .i64 0), .lit (.int .i64 1), .lit (.int .i64 0)], .agg [.lit (.int .i64 (-1)), .lit (.int .i64 0), .lit (.int .i64 0)], .agg [.lit (.int .i64 0), .lit (.int .i64 (-1)), .lit (.int .i64 0)], .agg [.lit (.int .i64 0), .lit (.int .i64 0), .lit (.int .i64 1)], .agg [.lit (.int .i64 0), .lit (.int .i64 0), .lit (.int .i64 (-1))]]
def laid_taquin_floor_opposites {H : Type} : DataW H := .agg [.lit (.int .i64 2), .lit (.int .i64 3), .lit (.int .i64 0), .lit (.int .i64 1), .lit (.int .i64 5), .lit (.int .i64 4)]

/-- 'taquinlaw08.RegionSets': WHATEVER THE INPUT: true; the input reads as it did. -/
def regionSetsSpec : ChangeSpec := { name := "regionSets", fn := fun _ => fun
  | [d1, d2, d3, d4] => { results := [.lit (.bool true)], args := [d1, d2, d3, d4] }
  | _ => none }
def regionSetsRow : OpenClaim := { program := "ytgophgnfiboefaadoor", sum := "3ce526aa98c6077ad8e59f4bfe54d38f6378a8a054e325a47fab3203b9d048d6", func := "taquin/taquinlaw08.RegionSets", spec := "regionSets", unfollowed := true, recurses := true, named := ["taquin/floor.opposites", "taquin/floor.steps"], apart := false, laid := [("taquin/floor.steps", laid_taquin_floor_steps), ("taquin/floor.opposites", laid_taquin_floor_opposites)] }
def RegionSetsSaid : Prop := regionSetsRow.holds Tryd.pinned (OpenSpec.ofChange regionSetsSpec)

/-- ITS FALSE NEIGHBOUR: 'it returns false'. Refute it at one input. -/
def regionSetsWrong : ChangeSpec := { name := "regionSets", fn := fun _ => fun
  | [d1, d2, d3, d4] => { results := [.lit (.bool false)], args := [d1, d2, d3, d4] }
  | _ => none }
def RegionSetsWrongFalsely : Prop := regionSetsRow.holds Tryd.pinned (OpenSpec.ofChange regionSetsWrong)

/-- 'taquinlaw08.RegionParts': WHATEVER THE INPUT: true; the input reads as it did. -/
def regionPartsSpec : ChangeSpec := { name := "regionParts", fn := fun _ => fun
  | [d1, d2] => { results := [.lit (.bool true)], args := [d1, d2] }
  | _ => none }
def regionPartsRow : OpenClaim := { program := "ytgophgnfiboefaadoor", sum := "3ce526aa98c6077ad8e59f4bfe54d38f6378a8a054e325a47fab3203b9d048d6", func := "taquin/taquinlaw08.RegionParts", spec := "regionParts", unfollowed := true, recurses := true, named := ["taquin/floor.opposites", "taquin/floor.steps"], apart := false, laid := [("taquin/floor.steps", laid_taquin_floor_steps), ("taquin/floor.opposites", laid_taquin_floor_opposites)] }
def RegionPartsSaid : Prop := regionPartsRow.holds Tryd.pinned (OpenSpec.ofChange regionPartsSpec)

/-- ITS FALSE NEIGHBOUR: 'it returns false'. Refute it at one input. -/
def regionPartsWrong : ChangeSpec := { name := "regionParts", fn := fun _ => fun
  | [d1, d2] => { results := [.lit (.bool false)], args := [d1, d2] }
  | _ => none }
def RegionPartsWrongFalsely : Prop := regionPartsRow.holds Tryd.pinned (OpenSpec.ofChange regionPartsWrong)

/-- 'taquinlaw08.RegionInside': WHATEVER THE INPUT: true; the input reads as it did. -/
def regionInsideSpec : ChangeSpec := { name := "regionInside", fn := fun _ => fun
  | [d1, d2, d3] => { results := [.lit (.bool true)], args := [d1, d2, d3] }
  | _ => none }
def regionInsideRow : OpenClaim := { program := "ytgophgnfiboefaadoor", sum := "3ce526aa98c6077ad8e59f4bfe54d38f6378a8a054e325a47fab3203b9d048d6", func := "taquin/taquinlaw08.RegionInside", spec := "regionInside", unfollowed := true, recurses := true, named := ["taquin/floor.opposites", "taquin/floor.steps"], apart := false, laid := [("taquin/floor.steps", laid_taquin_floor_steps), ("taquin/floor.opposites", laid_taquin_floor_opposites)] }
def RegionInsideSaid : Prop := regionInsideRow.holds Tryd.pinned (OpenSpec.ofChange regionInsideSpec)

/-- ITS FALSE NEIGHBOUR: 'it returns false'. Refute it at one input. -/
def regionInsideWrong : ChangeSpec := { name := "regionInside", fn := fun _ => fun
  | [d1, d2, d3] => { results := [.lit (.bool false)], args := [d1, d2, d3] }
  | _ => none }
def RegionInsideWrongFalsely : Prop := regionInsideRow.holds Tryd.pinned (OpenSpec.ofChange regionInsideWrong)

/-- 'taquinlaw08.RegionEdge': WHATEVER THE INPUT: true; the input reads as it did. -/
def regionEdgeSpec : ChangeSpec := { name := "regionEdge", fn := fun _ => fun
  | [d1, d2, d3] => { results := [.lit (.bool true)], args := [d1, d2, d3] }
  | _ => none }
def regionEdgeRow : OpenClaim := { program := "ytgophgnfiboefaadoor", sum := "3ce526aa98c6077ad8e59f4bfe54d38f6378a8a054e325a47fab3203b9d048d6", func := "taquin/taquinlaw08.RegionEdge", spec := "regionEdge", unfollowed := true, recurses := true, named := ["taquin/floor.opposites", "taquin/floor.steps"], apart := false, laid := [("taquin/floor.steps", laid_taquin_floor_steps), ("taquin/floor.opposites", laid_taquin_floor_opposites)] }
def RegionEdgeSaid : Prop := regionEdgeRow.holds Tryd.pinned (OpenSpec.ofChange regionEdgeSpec)

/-- ITS FALSE NEIGHBOUR: 'it returns false'. Refute it at one input. -/
def regionEdgeWrong : ChangeSpec := { name := "regionEdge", fn := fun _ => fun
  | [d1, d2, d3] => { results := [.lit (.bool false)], args := [d1, d2, d3] }
  | _ => none }
def RegionEdgeWrongFalsely : Prop := regionEdgeRow.holds Tryd.pinned (OpenSpec.ofChange regionEdgeWrong)

/- THE SECOND FORM. 'bulk': how many values and letters a reading holds, each counted each time it is reached (what is shared counts as often as it is met; a slice's spare places count too). A statement '..UptoSaid' is the law's where the arguments, and the package variables that the reading takes, are together of bulk at most 1048576: NARROWER than '..Said'. Prove '..Said' where nothing that the law and all that it calls make is longer than what came in: it says more and counts as full. Else prove '..UptoSaid'. A law counts once. -/
mutual
def uptoBulk {H : Type} : DataW H → Nat
  | .lit (.string bytes) => bytes.length + 1
  | .lit _ => 1
  | .nil => 1
  | .ptr d => uptoBulk d + 1
  | .slice elems spare => uptoBulkAll elems + uptoBulkAll spare + 1
  | .agg parts => uptoBulkAll parts + 1
  | .iface _ d => uptoBulk d + 1
  | .map entries => uptoBulkEntries entries + 1
  | .held _ => 1
def uptoBulkAll {H : Type} : List (DataW H) → Nat
  | [] => 0
  | d :: r => uptoBulk d + uptoBulkAll r
def uptoBulkEntries {H : Type} : List (Lit × DataW H) → Nat
  | [] => 0
  | x :: r => uptoBulkEntry x + uptoBulkEntries r
def uptoBulkEntry {H : Type} : Lit × DataW H → Nat
  | (.string bytes, d) => bytes.length + uptoBulk d + 1
  | (_, d) => uptoBulk d + 1
 end
def uptoSmall : (H : Type) → List (DataW H) → Bool := fun _ ds => decide (uptoBulkAll ds ≤ 1048576)
def OpenSpec.upto (s : _root_.Go.ChangeSpec) : _root_.Go.OpenSpec := { _root_.Go.OpenSpec.ofChange s with cond := some uptoSmall }

/-- 'taquinlaw08.RegionSets', WHERE WHAT IT READS IS OF BULK AT MOST 1048576: true; the input reads as it did. -/
def regionSetsUptoRow : OpenClaim := { program := "ytgophgnfiboefaadoor", sum := "3ce526aa98c6077ad8e59f4bfe54d38f6378a8a054e325a47fab3203b9d048d6", func := "taquin/taquinlaw08.RegionSets", spec := "regionSets", unfollowed := true, recurses := true, named := ["taquin/floor.opposites", "taquin/floor.steps"], apart := false, laid := [("taquin/floor.steps", laid_taquin_floor_steps), ("taquin/floor.opposites", laid_taquin_floor_opposites)], narrowed := true }
def RegionSetsUptoSaid : Prop := regionSetsUptoRow.holds Tryd.pinned (OpenSpec.upto regionSetsSpec)

/-- 'taquinlaw08.RegionParts', WHERE WHAT IT READS IS OF BULK AT MOST 1048576: true; the input reads as it did. -/
def regionPartsUptoRow : OpenClaim := { program := "ytgophgnfiboefaadoor", sum := "3ce526aa98c6077ad8e59f4bfe54d38f6378a8a054e325a47fab3203b9d048d6", func := "taquin/taquinlaw08.RegionParts", spec := "regionParts", unfollowed := true, recurses := true, named := ["taquin/floor.opposites", "taquin/floor.steps"], apart := false, laid := [("taquin/floor.steps", laid_taquin_floor_steps), ("taquin/floor.opposites", laid_taquin_floor_opposites)], narrowed := true }
def RegionPartsUptoSaid : Prop := regionPartsUptoRow.holds Tryd.pinned (OpenSpec.upto regionPartsSpec)

/-- 'taquinlaw08.RegionInside', WHERE WHAT IT READS IS OF BULK AT MOST 1048576: true; the input reads as it did. -/
def regionInsideUptoRow : OpenClaim := { program := "ytgophgnfiboefaadoor", sum := "3ce526aa98c6077ad8e59f4bfe54d38f6378a8a054e325a47fab3203b9d048d6", func := "taquin/taquinlaw08.RegionInside", spec := "regionInside", unfollowed := true, recurses := true, named := ["taquin/floor.opposites", "taquin/floor.steps"], apart := false, laid := [("taquin/floor.steps", laid_taquin_floor_steps), ("taquin/floor.opposites", laid_taquin_floor_opposites)], narrowed := true }
def RegionInsideUptoSaid : Prop := regionInsideUptoRow.holds Tryd.pinned (OpenSpec.upto regionInsideSpec)

/-- 'taquinlaw08.RegionEdge', WHERE WHAT IT READS IS OF BULK AT MOST 1048576: true; the input reads as it did. -/
def regionEdgeUptoRow : OpenClaim := { program := "ytgophgnfiboefaadoor", sum := "3ce526aa98c6077ad8e59f4bfe54d38f6378a8a054e325a47fab3203b9d048d6", func := "taquin/taquinlaw08.RegionEdge", spec := "regionEdge", unfollowed := true, recurses := true, named := ["taquin/floor.opposites", "taquin/floor.steps"], apart := false, laid := [("taquin/floor.steps", laid_taquin_floor_steps), ("taquin/floor.opposites", laid_taquin_floor_opposites)], narrowed := true }
def RegionEdgeUptoSaid : Prop := regionEdgeUptoRow.holds Tryd.pinned (OpenSpec.upto regionEdgeSpec)

end Rows
end Go.Proofs.YtgophgnfiboefaaDoor
