/-
  NARROWER THAN 'FOR EVERY INPUT', by the rows' own cells (each row's printed sentence says how): DraftTells: laid · DraftBack: laid · DraftJoins: laid · DraftBlanks: laid.
  DERIVED. THE GIVEN ROWS OF THIS SEAT. 4 by the template 'for every input the law returns true; each argument reads behind the call as it read before'; 0 by the template 'total and deterministic' (their statements: YtibeangcjfjeiaaDoorTotals.lean).
  GIVEN WITH THE SEED: the statements are not yours to turn. If you find one false, say at which input.
  Laid BY PROGRAM, IN A SANDBOX (cutbox-rows.mjs): the forced cells as the released guide's own fill.sh prints them over the translation 9536093363ac6fb9… (all of the seat's roots in one cut). By AI agents, Wed Nov 11 2026. No macro, syntax, notation, axiom, sorry.
-/
import Derived.Test.YtibeangcjfjeiaaDoorChecked
import GoSem.PinnedTables
import GoSem.Claim
import GoSem.ClaimJoined
import GoSem.ClaimMapViews
import Derived.JoinedTies
import Derived.KernelRfl
namespace Go.Proofs.YtibeangcjfjeiaaDoor
/- THE CELL 'sum', in the pinned program and in every row, IS THE sha256 OF THE DUMP (.gsa) THAT YtibeangcjfjeiaaDoorProg.lean LOADS. Nothing in Lean hashes anything: it is a label: what it is worth is what the hold of that sum in a sandbox is worth. -/
noncomputable def Tryd.pinned : Pinned := { name := "ytibeangcjfjeiaadoor", sum := "9536093363ac6fb9ea206bca9a0537bfa4571612b44eb6e7f8b1480be5717b69", checked := Tryd.checked }
namespace Rows
def none {H : Type} : Left H := { results := [], args := [] }

/- WHAT THE LISTED PACKAGE-LEVEL VARIABLES READ AS WHEN THE CALL BEGINS. Each datum BY PROGRAM (the guide's laid-datum.mjs) off the statement by which the dump's own 'gosem.cut.vars' lays the variable. In a bare row this is a premise. The card (YtibeangcjfjeiaaDoorCards.lean) ties it to the program's text. -/
def laid_unicode_utf8_acceptRanges {H : Type} : DataW H := .agg [.agg [.lit (.int .u8 128), .lit (.int .u8 191)], .agg [.lit (.int .u8 160), .lit (.int .u8 191)], .agg [.lit (.int .u8 128), .lit (.int .u8 159)], .agg [.lit (.int .u8 144), .lit (.int .u8 191)], .agg [.lit (.int .u8 128), .lit (.int .u8 143)], .agg [.lit (.int .u8 0), .lit (.int .u8 0)], .agg [.lit (.int .u8 0), .lit (.int .u8 0)], .agg [.lit (.int .u8 0), .lit (.int .u8 0)], .agg [.lit (.int .u8 0), .lit (.int .u8 0)], .agg [.lit (.int .u8 0), .lit (.int .u8 0)], .agg [.lit (.int .u8 0), .lit (.int .u8 0)], .agg [.lit (.int .u8 0), .lit (.int .u8 0)], .agg [.lit (.int .u8 0), .lit (.int .u8 0)], .agg [.lit (.int .u8 0), .lit (.int .u8 0)], .agg [.lit (.int .u8 0), .lit (.int .u8 0)], .agg [.lit (.int .u8 0), .lit (.int .u8 0)]]
def laid_taquin_draft_forms {H : Type} : DataW H := .agg [.agg [.lit (.string [122, 111, 110, 101]), .lit (.string [110, 49, 49, 49, 49, 49, 49, 49])], .agg [.lit (.string [115, 104, 105, 102, 116]), .lit (.string [110, 49, 49])], .agg [.lit (.string [111, 110, 101, 119, 97, 121]), .lit (.string [49, 49, 49, 100])], .agg [.lit (.string [97, 112, 97, 114, 116]), .lit (.string [110, 111])], .agg [.lit (.string [115, 104, 101, 108, 102]), .lit (.string [49, 49, 49, 99])], .agg [.lit (.string [114, 111, 98, 111, 116]), .lit (.string [49, 49, 49, 49])]]
def laid_taquin_draft_directions {H : Type} : DataW H := .agg [.lit (.string [101, 97, 115, 116]), .lit (.string [115, 111, 117, 116, 104]), .lit (.string [119, 101, 115, 116]), .lit (.string [110, 111, 114, 116, 104]), .lit (.string [117, 112]), .lit (.string [100, 111, 119, 110])]
/-- One of Go's own tables, pinned by name: the form's constant. -/
def laid_unicode_utf8_first : DataW Unit := Go.Pinned.utf8First

/-- 'taquinlaw10.DraftTells': WHATEVER THE INPUT: true; the input reads as it did. -/
def draftTellsSpec : ChangeSpec := { name := "draftTells", fn := fun _ => fun
  | [d1, d2, d3] => { results := [.lit (.bool true)], args := [d1, d2, d3] }
  | _ => none }
def draftTellsRow : OpenClaim := { program := "ytibeangcjfjeiaadoor", sum := "9536093363ac6fb9ea206bca9a0537bfa4571612b44eb6e7f8b1480be5717b69", func := "taquin/taquinlaw10.DraftTells", spec := "draftTells", inPlace := ["internal/bytealg.IndexByteString", "internal/bytealg.IndexString", "internal/abi.NoEscape", "internal/bytealg.MakeNoZero"], unfollowed := true, recurses := true, named := ["unicode/utf8.first", "unicode/utf8.acceptRanges", "taquin/draft.forms", "taquin/draft.directions", "internal/bytealg.MaxLen"], apart := false, laid := [("unicode/utf8.acceptRanges", laid_unicode_utf8_acceptRanges), ("taquin/draft.forms", laid_taquin_draft_forms), ("taquin/draft.directions", laid_taquin_draft_directions), ("unicode/utf8.first", laid_unicode_utf8_first)] }
def DraftTellsSaid : Prop := draftTellsRow.holds Tryd.pinned (OpenSpec.ofChange draftTellsSpec)

/-- ITS FALSE NEIGHBOUR: 'it returns false'. Refute it at one input. -/
def draftTellsWrong : ChangeSpec := { name := "draftTells", fn := fun _ => fun
  | [d1, d2, d3] => { results := [.lit (.bool false)], args := [d1, d2, d3] }
  | _ => none }
def DraftTellsWrongFalsely : Prop := draftTellsRow.holds Tryd.pinned (OpenSpec.ofChange draftTellsWrong)

/-- 'taquinlaw10.DraftBack': WHATEVER THE INPUT: true; the input reads as it did. -/
def draftBackSpec : ChangeSpec := { name := "draftBack", fn := fun _ => fun
  | [d1, d2] => { results := [.lit (.bool true)], args := [d1, d2] }
  | _ => none }
def draftBackRow : OpenClaim := { program := "ytibeangcjfjeiaadoor", sum := "9536093363ac6fb9ea206bca9a0537bfa4571612b44eb6e7f8b1480be5717b69", func := "taquin/taquinlaw10.DraftBack", spec := "draftBack", inPlace := ["internal/bytealg.IndexByteString", "internal/bytealg.IndexString", "internal/abi.NoEscape", "internal/bytealg.MakeNoZero"], unfollowed := true, recurses := true, named := ["unicode/utf8.first", "unicode/utf8.acceptRanges", "taquin/draft.forms", "taquin/draft.directions", "internal/bytealg.MaxLen"], apart := false, laid := [("unicode/utf8.acceptRanges", laid_unicode_utf8_acceptRanges), ("taquin/draft.forms", laid_taquin_draft_forms), ("taquin/draft.directions", laid_taquin_draft_directions), ("unicode/utf8.first", laid_unicode_utf8_first)] }
def DraftBackSaid : Prop := draftBackRow.holds Tryd.pinned (OpenSpec.ofChange draftBackSpec)

/-- ITS FALSE NEIGHBOUR: 'it returns false'. Refute it at one input. -/
def draftBackWrong : ChangeSpec := { name := "draftBack", fn := fun _ => fun
  | [d1, d2] => { results := [.lit (.bool false)], args := [d1, d2] }
  | _ => none }
def DraftBackWrongFalsely : Prop := draftBackRow.holds Tryd.pinned (OpenSpec.ofChange draftBackWrong)

/-- 'taquinlaw10.DraftJoins': WHATEVER THE INPUT: true; the input reads as it did. -/
def draftJoinsSpec : ChangeSpec := { name := "draftJoins", fn := fun _ => fun
  | [d1, d2] => { results := [.lit (.bool true)], args := [d1, d2] }
  | _ => none }
def draftJoinsRow : OpenClaim := { program := "ytibeangcjfjeiaadoor", sum := "9536093363ac6fb9ea206bca9a0537bfa4571612b44eb6e7f8b1480be5717b69", func := "taquin/taquinlaw10.DraftJoins", spec := "draftJoins", inPlace := ["internal/bytealg.IndexByteString", "internal/bytealg.IndexString", "internal/abi.NoEscape", "internal/bytealg.MakeNoZero"], unfollowed := true, recurses := true, named := ["unicode/utf8.first", "unicode/utf8.acceptRanges", "taquin/draft.forms", "taquin/draft.directions", "internal/bytealg.MaxLen"], apart := false, laid := [("unicode/utf8.acceptRanges", laid_unicode_utf8_acceptRanges), ("taquin/draft.forms", laid_taquin_draft_forms), ("taquin/draft.directions", laid_taquin_draft_directions), ("unicode/utf8.first", laid_unicode_utf8_first)] }
def DraftJoinsSaid : Prop := draftJoinsRow.holds Tryd.pinned (OpenSpec.ofChange draftJoinsSpec)

/-- ITS FALSE NEIGHBOUR: 'it returns false'. Refute it at one input. -/
def draftJoinsWrong : ChangeSpec := { name := "draftJoins", fn := fun _ => fun
  | [d1, d2] => { results := [.lit (.bool false)], args := [d1, d2] }
  | _ => none }
def DraftJoinsWrongFalsely : Prop := draftJoinsRow.holds Tryd.pinned (OpenSpec.ofChange draftJoinsWrong)

/-- 'taquinlaw10.DraftBlanks': WHATEVER THE INPUT: true; the input reads as it did. -/
def draftBlanksSpec : ChangeSpec := { name := "draftBlanks", fn := fun _ => fun
  | [d1, d2, d3] => { results := [.lit (.bool true)], args := [d1, d2, d3] }
  | _ => none }
def draftBlanksRow : OpenClaim := { program := "ytibeangcjfjeiaadoor", sum := "9536093363ac6fb9ea206bca9a0537bfa4571612b44eb6e7f8b1480be5717b69", func := "taquin/taquinlaw10.DraftBlanks", spec := "draftBlanks", inPlace := ["internal/bytealg.IndexByteString", "internal/bytealg.IndexString", "internal/abi.NoEscape", "internal/bytealg.MakeNoZero"], unfollowed := true, recurses := true, named := ["unicode/utf8.first", "unicode/utf8.acceptRanges", "taquin/draft.forms", "taquin/draft.directions", "internal/bytealg.MaxLen"], apart := false, laid := [("unicode/utf8.acceptRanges", laid_unicode_utf8_acceptRanges), ("taquin/draft.forms", laid_taquin_draft_forms), ("taquin/draft.directions", laid_taquin_draft_directions), ("unicode/utf8.first", laid_unicode_utf8_first)] }
def DraftBlanksSaid : Prop := draftBlanksRow.holds Tryd.pinned (OpenSpec.ofChange draftBlanksSpec)

/-- ITS FALSE NEIGHBOUR: 'it returns false'. Refute it at one input. -/
def draftBlanksWrong : ChangeSpec := { name := "draftBlanks", fn := fun _ => fun
  | [d1, d2, d3] => { results := [.lit (.bool false)], args := [d1, d2, d3] }
  | _ => none }
def DraftBlanksWrongFalsely : Prop := draftBlanksRow.holds Tryd.pinned (OpenSpec.ofChange draftBlanksWrong)

/- THE SECOND FORM. 'bulk': how many values and letters a reading holds, each counted each time it is reached (what is shared counts as often as it is met; a slice's spare places count too). A statement '..UptoSaid' is the law's where the arguments, and the package variables that the reading takes, are together of bulk at most 1048576: NARROWER than '..Said'. Prove '..Said' where nothing that the law and all that it calls make is longer than what came in: it says more and counts as full. Else prove '..UptoSaid'. A law counts once. -/
mutual
def uptoBulk {H : Type} : DataW H → Nat
  | .lit (.string bytes) => bytes.length + 1
  | .lit _ => 1
  | .nil => 1
  | .ptr d => uptoBulk d + 1
  | .slice elems spare => uptoBulkAll elems + uptoBulkAll spare + 1
  | .agg parts => uptoBulkAll parts + 1
  | .iface _ d => uptoBulk d + 1
  | .map entries => uptoBulkEntries entries + 1
  | .held _ => 1
def uptoBulkAll {H : Type} : List (DataW H) → Nat
  | [] => 0
  | d :: r => uptoBulk d + uptoBulkAll r
def uptoBulkEntries {H : Type} : List (Lit × DataW H) → Nat
  | [] => 0
  | x :: r => uptoBulkEntry x + uptoBulkEntries r
def uptoBulkEntry {H : Type} : Lit × DataW H → Nat
  | (.string bytes, d) => bytes.length + uptoBulk d + 1
  | (_, d) => uptoBulk d + 1
 end
def uptoSmall : (H : Type) → List (DataW H) → Bool := fun _ ds => decide (uptoBulkAll ds ≤ 1048576)
def OpenSpec.upto (s : _root_.Go.ChangeSpec) : _root_.Go.OpenSpec := { _root_.Go.OpenSpec.ofChange s with cond := some uptoSmall }

/-- 'taquinlaw10.DraftTells', WHERE WHAT IT READS IS OF BULK AT MOST 1048576: true; the input reads as it did. -/
def draftTellsUptoRow : OpenClaim := { program := "ytibeangcjfjeiaadoor", sum := "9536093363ac6fb9ea206bca9a0537bfa4571612b44eb6e7f8b1480be5717b69", func := "taquin/taquinlaw10.DraftTells", spec := "draftTells", inPlace := ["internal/bytealg.IndexByteString", "internal/bytealg.IndexString", "internal/abi.NoEscape", "internal/bytealg.MakeNoZero"], unfollowed := true, recurses := true, named := ["unicode/utf8.first", "unicode/utf8.acceptRanges", "taquin/draft.forms", "taquin/draft.directions", "internal/bytealg.MaxLen"], apart := false, laid := [("unicode/utf8.acceptRanges", laid_unicode_utf8_acceptRanges), ("taquin/draft.forms", laid_taquin_draft_forms), ("taquin/draft.directions", laid_taquin_draft_directions), ("unicode/utf8.first", laid_unicode_utf8_first)], narrowed := true }
def DraftTellsUptoSaid : Prop := draftTellsUptoRow.holds Tryd.pinned (OpenSpec.upto draftTellsSpec)

/-- 'taquinlaw10.DraftBack', WHERE WHAT IT READS IS OF BULK AT MOST 1048576: true; the input reads as it did. -/
def draftBackUptoRow : OpenClaim := { program := "ytibeangcjfjeiaadoor", sum := "9536093363ac6fb9ea206bca9a0537bfa4571612b44eb6e7f8b1480be5717b69", func := "taquin/taquinlaw10.DraftBack", spec := "draftBack", inPlace := ["internal/bytealg.IndexByteString", "internal/bytealg.IndexString", "internal/abi.NoEscape", "internal/bytealg.MakeNoZero"], unfollowed := true, recurses := true, named := ["unicode/utf8.first", "unicode/utf8.acceptRanges", "taquin/draft.forms", "taquin/draft.directions", "internal/bytealg.MaxLen"], apart := false, laid := [("unicode/utf8.acceptRanges", laid_unicode_utf8_acceptRanges), ("taquin/draft.forms", laid_taquin_draft_forms), ("taquin/draft.directions", laid_taquin_draft_directions), ("unicode/utf8.first", laid_unicode_utf8_first)], narrowed := true }
def DraftBackUptoSaid : Prop := draftBackUptoRow.holds Tryd.pinned (OpenSpec.upto draftBackSpec)

/-- 'taquinlaw10.DraftJoins', WHERE WHAT IT READS IS OF BULK AT MOST 1048576: true; the input reads as it did. -/
def draftJoinsUptoRow : OpenClaim := { program := "ytibeangcjfjeiaadoor", sum := "9536093363ac6fb9ea206bca9a0537bfa4571612b44eb6e7f8b1480be5717b69", func := "taquin/taquinlaw10.DraftJoins", spec := "draftJoins", inPlace := ["internal/bytealg.IndexByteString", "internal/bytealg.IndexString", "internal/abi.NoEscape", "internal/bytealg.MakeNoZero"], unfollowed := true, recurses := true, named := ["unicode/utf8.first", "unicode/utf8.acceptRanges", "taquin/draft.forms", "taquin/draft.directions", "internal/bytealg.MaxLen"], apart := false, laid := [("unicode/utf8.acceptRanges", laid_unicode_utf8_acceptRanges), ("taquin/draft.forms", laid_taquin_draft_forms), ("taquin/draft.directions", laid_taquin_draft_directions), ("unicode/utf8.first", laid_unicode_utf8_first)], narrowed := true }
def DraftJoinsUptoSaid : Prop := draftJoinsUptoRow.holds Tryd.pinned (OpenSpec.upto draftJoinsSpec)

/-- 'taquinlaw10.DraftBlanks', WHERE WHAT IT READS IS OF BULK AT MOST 1048576: true; the input reads as it did. -/
def draftBlanksUptoRow : OpenClaim := { program := "ytibeangcjfjeiaadoor", sum := "9536093363ac6fb9ea206bca9a0537bfa4571612b44eb6e7f8b1480be5717b69", func := "taquin/taquinlaw10.DraftBlanks", spec := "draftBlanks", inPlace := ["internal/bytealg.IndexByteString", "internal/bytealg.IndexString", "internal/abi.NoEscape", "internal/bytealg.MakeNoZero"], unfollowed := true, recurses := true, named := ["unicode/utf8.first", "unicode/utf8.acceptRanges", "taquin/draft.forms", "taquin/draft.directions", "internal/bytealg.MaxLen"], apart := false, laid := [("unicode/utf8.acceptRanges", laid_unicode_utf8_acceptRanges), ("taquin/draft.forms", laid_taquin_draft_forms), ("taquin/draft.directions", laid_taquin_draft_directions), ("unicode/utf8.first", laid_unicode_utf8_first)], narrowed := true }
def DraftBlanksUptoSaid : Prop := draftBlanksUptoRow.holds Tryd.pinned (OpenSpec.upto draftBlanksSpec)

end Rows
end Go.Proofs.YtibeangcjfjeiaaDoor
