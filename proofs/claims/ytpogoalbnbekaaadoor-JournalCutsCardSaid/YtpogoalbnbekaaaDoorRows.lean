/-
  NARROWER THAN 'FOR EVERY INPUT', by the rows' own cells (each row's printed sentence says how): JournalLasts: laid · JournalStays: laid · JournalReads: laid · JournalCuts: laid.
  DERIVED. THE GIVEN ROWS OF THIS SEAT. 4 by the template 'for every input the law returns true; each argument reads behind the call as it read before'; 0 by the template 'total and deterministic' (their statements: YtpogoalbnbekaaaDoorTotals.lean).
  GIVEN WITH THE SEED: the statements are not yours to turn. If you find one false, say at which input.
  Laid BY PROGRAM, IN A SANDBOX (cutbox-rows.mjs): the forced cells as the released guide's own fill.sh prints them over the translation 3b152f6140349c03… (all of the seat's roots in one cut). By AI agents, Wed Nov 11 2026. No macro, syntax, notation, axiom, sorry.
-/
import Derived.Test.YtpogoalbnbekaaaDoorChecked
import GoSem.Claim
import GoSem.ClaimJoined
import GoSem.ClaimMapViews
import Derived.JoinedTies
import Derived.KernelRfl
namespace Go.Proofs.YtpogoalbnbekaaaDoor
/- THE CELL 'sum', in the pinned program and in every row, IS THE sha256 OF THE DUMP (.gsa) THAT YtpogoalbnbekaaaDoorProg.lean LOADS. Nothing in Lean hashes anything: it is a label: what it is worth is what the hold of that sum in a sandbox is worth. -/
noncomputable def Tryd.pinned : Pinned := { name := "ytpogoalbnbekaaadoor", sum := "3b152f6140349c03f6b44c66bfc12d780601d75146162148932a207b602c4aad", checked := Tryd.checked }
namespace Rows
def none {H : Type} : Left H := { results := [], args := [] }

/- WHAT THE LISTED PACKAGE-LEVEL VARIABLES READ AS WHEN THE CALL BEGINS. Each datum BY PROGRAM (the guide's laid-datum.mjs) off the statement by which the dump's own 'gosem.cut.vars' lays the variable. In a bare row this is a premise. The card (YtpogoalbnbekaaaDoorCards.lean) ties it to the program's text. -/
def laid_taquin_cell_offsets {H : Type} : DataW H := .agg [.lit (.int .i64 64), .lit (.int .i64 131072)]

/-- 'taquinlaw05.JournalLasts': WHATEVER THE INPUT: true; the input reads as it did. -/
def journalLastsSpec : ChangeSpec := { name := "journalLasts", fn := fun _ => fun
  | [d1, d2] => { results := [.lit (.bool true)], args := [d1, d2] }
  | _ => none }
def journalLastsRow : OpenClaim := { program := "ytpogoalbnbekaaadoor", sum := "3b152f6140349c03f6b44c66bfc12d780601d75146162148932a207b602c4aad", func := "taquin/taquinlaw05.JournalLasts", spec := "journalLasts", inPlace := ["maps.clone", "internal/abi.NoEscape"], named := ["taquin/cell.offsets"], plainKeys := false, apart := false, laid := [("taquin/cell.offsets", laid_taquin_cell_offsets)] }
def JournalLastsSaid : Prop := journalLastsRow.holds Tryd.pinned (OpenSpec.ofChange journalLastsSpec)

/-- ITS FALSE NEIGHBOUR: 'it returns false'. Refute it at one input. -/
def journalLastsWrong : ChangeSpec := { name := "journalLasts", fn := fun _ => fun
  | [d1, d2] => { results := [.lit (.bool false)], args := [d1, d2] }
  | _ => none }
def JournalLastsWrongFalsely : Prop := journalLastsRow.holds Tryd.pinned (OpenSpec.ofChange journalLastsWrong)

/-- 'taquinlaw05.JournalStays': WHATEVER THE INPUT: true; the input reads as it did. -/
def journalStaysSpec : ChangeSpec := { name := "journalStays", fn := fun _ => fun
  | [d1, d2, d3, d4] => { results := [.lit (.bool true)], args := [d1, d2, d3, d4] }
  | _ => none }
def journalStaysRow : OpenClaim := { program := "ytpogoalbnbekaaadoor", sum := "3b152f6140349c03f6b44c66bfc12d780601d75146162148932a207b602c4aad", func := "taquin/taquinlaw05.JournalStays", spec := "journalStays", inPlace := ["maps.clone", "internal/abi.NoEscape"], named := ["taquin/cell.offsets"], plainKeys := false, apart := false, laid := [("taquin/cell.offsets", laid_taquin_cell_offsets)] }
def JournalStaysSaid : Prop := journalStaysRow.holds Tryd.pinned (OpenSpec.ofChange journalStaysSpec)

/-- ITS FALSE NEIGHBOUR: 'it returns false'. Refute it at one input. -/
def journalStaysWrong : ChangeSpec := { name := "journalStays", fn := fun _ => fun
  | [d1, d2, d3, d4] => { results := [.lit (.bool false)], args := [d1, d2, d3, d4] }
  | _ => none }
def JournalStaysWrongFalsely : Prop := journalStaysRow.holds Tryd.pinned (OpenSpec.ofChange journalStaysWrong)

/-- 'taquinlaw05.JournalReads': WHATEVER THE INPUT: true; the input reads as it did. -/
def journalReadsSpec : ChangeSpec := { name := "journalReads", fn := fun _ => fun
  | [d1, d2, d3, d4] => { results := [.lit (.bool true)], args := [d1, d2, d3, d4] }
  | _ => none }
def journalReadsRow : OpenClaim := { program := "ytpogoalbnbekaaadoor", sum := "3b152f6140349c03f6b44c66bfc12d780601d75146162148932a207b602c4aad", func := "taquin/taquinlaw05.JournalReads", spec := "journalReads", inPlace := ["maps.clone", "internal/abi.NoEscape"], named := ["taquin/cell.offsets"], plainKeys := false, apart := false, laid := [("taquin/cell.offsets", laid_taquin_cell_offsets)] }
def JournalReadsSaid : Prop := journalReadsRow.holds Tryd.pinned (OpenSpec.ofChange journalReadsSpec)

/-- ITS FALSE NEIGHBOUR: 'it returns false'. Refute it at one input. -/
def journalReadsWrong : ChangeSpec := { name := "journalReads", fn := fun _ => fun
  | [d1, d2, d3, d4] => { results := [.lit (.bool false)], args := [d1, d2, d3, d4] }
  | _ => none }
def JournalReadsWrongFalsely : Prop := journalReadsRow.holds Tryd.pinned (OpenSpec.ofChange journalReadsWrong)

/-- 'taquinlaw05.JournalCuts': WHATEVER THE INPUT: true; the input reads as it did. -/
def journalCutsSpec : ChangeSpec := { name := "journalCuts", fn := fun _ => fun
  | [d1, d2, d3] => { results := [.lit (.bool true)], args := [d1, d2, d3] }
  | _ => none }
def journalCutsRow : OpenClaim := { program := "ytpogoalbnbekaaadoor", sum := "3b152f6140349c03f6b44c66bfc12d780601d75146162148932a207b602c4aad", func := "taquin/taquinlaw05.JournalCuts", spec := "journalCuts", inPlace := ["maps.clone", "internal/abi.NoEscape"], named := ["taquin/cell.offsets"], plainKeys := false, apart := false, laid := [("taquin/cell.offsets", laid_taquin_cell_offsets)] }
def JournalCutsSaid : Prop := journalCutsRow.holds Tryd.pinned (OpenSpec.ofChange journalCutsSpec)

/-- ITS FALSE NEIGHBOUR: 'it returns false'. Refute it at one input. -/
def journalCutsWrong : ChangeSpec := { name := "journalCuts", fn := fun _ => fun
  | [d1, d2, d3] => { results := [.lit (.bool false)], args := [d1, d2, d3] }
  | _ => none }
def JournalCutsWrongFalsely : Prop := journalCutsRow.holds Tryd.pinned (OpenSpec.ofChange journalCutsWrong)

/- THE SECOND FORM. 'bulk': how many values and letters a reading holds, each counted each time it is reached (what is shared counts as often as it is met; a slice's spare places count too). A statement '..UptoSaid' is the law's where the arguments, and the package variables that the reading takes, are together of bulk at most 1048576: NARROWER than '..Said'. Prove '..Said' where nothing that the law and all that it calls make is longer than what came in: it says more and counts as full. Else prove '..UptoSaid'. A law counts once. -/
mutual
def uptoBulk {H : Type} : DataW H → Nat
  | .lit (.string bytes) => bytes.length + 1
  | .lit _ => 1
  | .nil => 1
  | .ptr d => uptoBulk d + 1
  | .slice elems spare => uptoBulkAll elems + uptoBulkAll spare + 1
  | .agg parts => uptoBulkAll parts + 1
  | .iface _ d => uptoBulk d + 1
  | .map entries => uptoBulkEntries entries + 1
  | .held _ => 1
def uptoBulkAll {H : Type} : List (DataW H) → Nat
  | [] => 0
  | d :: r => uptoBulk d + uptoBulkAll r
def uptoBulkEntries {H : Type} : List (Lit × DataW H) → Nat
  | [] => 0
  | x :: r => uptoBulkEntry x + uptoBulkEntries r
def uptoBulkEntry {H : Type} : Lit × DataW H → Nat
  | (.string bytes, d) => bytes.length + uptoBulk d + 1
  | (_, d) => uptoBulk d + 1
 end
def uptoSmall : (H : Type) → List (DataW H) → Bool := fun _ ds => decide (uptoBulkAll ds ≤ 1048576)
def OpenSpec.upto (s : _root_.Go.ChangeSpec) : _root_.Go.OpenSpec := { _root_.Go.OpenSpec.ofChange s with cond := some uptoSmall }

/-- 'taquinlaw05.JournalLasts', WHERE WHAT IT READS IS OF BULK AT MOST 1048576: true; the input reads as it did. -/
def journalLastsUptoRow : OpenClaim := { program := "ytpogoalbnbekaaadoor", sum := "3b152f6140349c03f6b44c66bfc12d780601d75146162148932a207b602c4aad", func := "taquin/taquinlaw05.JournalLasts", spec := "journalLasts", inPlace := ["maps.clone", "internal/abi.NoEscape"], named := ["taquin/cell.offsets"], plainKeys := false, apart := false, laid := [("taquin/cell.offsets", laid_taquin_cell_offsets)], narrowed := true }
def JournalLastsUptoSaid : Prop := journalLastsUptoRow.holds Tryd.pinned (OpenSpec.upto journalLastsSpec)

/-- 'taquinlaw05.JournalStays', WHERE WHAT IT READS IS OF BULK AT MOST 1048576: true; the input reads as it did. -/
def journalStaysUptoRow : OpenClaim := { program := "ytpogoalbnbekaaadoor", sum := "3b152f6140349c03f6b44c66bfc12d780601d75146162148932a207b602c4aad", func := "taquin/taquinlaw05.JournalStays", spec := "journalStays", inPlace := ["maps.clone", "internal/abi.NoEscape"], named := ["taquin/cell.offsets"], plainKeys := false, apart := false, laid := [("taquin/cell.offsets", laid_taquin_cell_offsets)], narrowed := true }
def JournalStaysUptoSaid : Prop := journalStaysUptoRow.holds Tryd.pinned (OpenSpec.upto journalStaysSpec)

/-- 'taquinlaw05.JournalReads', WHERE WHAT IT READS IS OF BULK AT MOST 1048576: true; the input reads as it did. -/
def journalReadsUptoRow : OpenClaim := { program := "ytpogoalbnbekaaadoor", sum := "3b152f6140349c03f6b44c66bfc12d780601d75146162148932a207b602c4aad", func := "taquin/taquinlaw05.JournalReads", spec := "journalReads", inPlace := ["maps.clone", "internal/abi.NoEscape"], named := ["taquin/cell.offsets"], plainKeys := false, apart := false, laid := [("taquin/cell.offsets", laid_taquin_cell_offsets)], narrowed := true }
def JournalReadsUptoSaid : Prop := journalReadsUptoRow.holds Tryd.pinned (OpenSpec.upto journalReadsSpec)

/-- 'taquinlaw05.JournalCuts', WHERE WHAT IT READS IS OF BULK AT MOST 1048576: true; the input reads as it did. -/
def journalCutsUptoRow : OpenClaim := { program := "ytpogoalbnbekaaadoor", sum := "3b152f6140349c03f6b44c66bfc12d780601d75146162148932a207b602c4aad", func := "taquin/taquinlaw05.JournalCuts", spec := "journalCuts", inPlace := ["maps.clone", "internal/abi.NoEscape"], named := ["taquin/cell.offsets"], plainKeys := false, apart := false, laid := [("taquin/cell.offsets", laid_taquin_cell_offsets)], narrowed := true }
def JournalCutsUptoSaid : Prop := journalCutsUptoRow.holds Tryd.pinned (OpenSpec.upto journalCutsSpec)

end Rows
end Go.Proofs.YtpogoalbnbekaaaDoor
