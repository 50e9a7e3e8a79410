/-
  DERIVED. GIVEN WITH THE SEED: THE CARDS: each row of YtgophgnfiboefaaDoorRows.lean that lists a variable, with what it lists TIED to the program's text (the seventh form; the later family's looks); each row that meets fmt, with fmt's text TOLD by the authors' own Lean function (tested against real Go, not proved from fmt's source: count such statements apart). THE CARD IS WHAT COUNTS. Prove the row's statement (the work); the ties are given (YtgophgnfiboefaaDoorTie.lean); close each card by the builder's one call (the guide's Derived/Test/ToyasCard.lean, 'card_holds'). Laid BY PROGRAM, IN A SANDBOX (cutbox-door.mjs). By AI agents, Wed Nov 11 2026. No macro, syntax, notation, axiom, sorry.
-/
import Derived.Test.YtgophgnfiboefaaDoorRows
import GoSem.ClaimSeven
namespace Go.Proofs.YtgophgnfiboefaaDoor
namespace Rows

/-- THE TIED CARD OF 'taquinlaw08.RegionSets'. -/
def regionSetsCard : Claim7 := { stood := { row := regionSetsRow, standIns := [], harness := (true, "8a546dfa4c63b67bf3eecb55f83e7981accac82c15bec5f7f2a74254b7d55a2c"), looks := false }, kinds := [], alts := [], laidByText := true, laidKinds := [.data, .data], laidTests := true, laidLooks := .later }
def RegionSetsCardSaid : Prop := Claim7.holds Tryd.pinned (.plain (OpenSpec.ofChange regionSetsSpec)) regionSetsCard

/-- THE TIED CARD OF 'taquinlaw08.RegionParts'. -/
def regionPartsCard : Claim7 := { stood := { row := regionPartsRow, standIns := [], harness := (true, "8a546dfa4c63b67bf3eecb55f83e7981accac82c15bec5f7f2a74254b7d55a2c"), looks := false }, kinds := [], alts := [], laidByText := true, laidKinds := [.data, .data], laidTests := true, laidLooks := .later }
def RegionPartsCardSaid : Prop := Claim7.holds Tryd.pinned (.plain (OpenSpec.ofChange regionPartsSpec)) regionPartsCard

/-- THE TIED CARD OF 'taquinlaw08.RegionInside'. -/
def regionInsideCard : Claim7 := { stood := { row := regionInsideRow, standIns := [], harness := (true, "8a546dfa4c63b67bf3eecb55f83e7981accac82c15bec5f7f2a74254b7d55a2c"), looks := false }, kinds := [], alts := [], laidByText := true, laidKinds := [.data, .data], laidTests := true, laidLooks := .later }
def RegionInsideCardSaid : Prop := Claim7.holds Tryd.pinned (.plain (OpenSpec.ofChange regionInsideSpec)) regionInsideCard

/-- THE TIED CARD OF 'taquinlaw08.RegionEdge'. -/
def regionEdgeCard : Claim7 := { stood := { row := regionEdgeRow, standIns := [], harness := (true, "8a546dfa4c63b67bf3eecb55f83e7981accac82c15bec5f7f2a74254b7d55a2c"), looks := false }, kinds := [], alts := [], laidByText := true, laidKinds := [.data, .data], laidTests := true, laidLooks := .later }
def RegionEdgeCardSaid : Prop := Claim7.holds Tryd.pinned (.plain (OpenSpec.ofChange regionEdgeSpec)) regionEdgeCard

/-- THE SECOND FORM's CARD OF 'taquinlaw08.RegionSets'. -/
def regionSetsUptoCard : Claim7 := { stood := { row := regionSetsUptoRow, standIns := [], harness := (true, "8a546dfa4c63b67bf3eecb55f83e7981accac82c15bec5f7f2a74254b7d55a2c"), looks := false }, kinds := [], alts := [], laidByText := true, laidKinds := [.data, .data], laidTests := true, laidLooks := .later }
def RegionSetsUptoCardSaid : Prop := Claim7.holds Tryd.pinned (.plain (OpenSpec.upto regionSetsSpec)) regionSetsUptoCard

/-- THE SECOND FORM's CARD OF 'taquinlaw08.RegionParts'. -/
def regionPartsUptoCard : Claim7 := { stood := { row := regionPartsUptoRow, standIns := [], harness := (true, "8a546dfa4c63b67bf3eecb55f83e7981accac82c15bec5f7f2a74254b7d55a2c"), looks := false }, kinds := [], alts := [], laidByText := true, laidKinds := [.data, .data], laidTests := true, laidLooks := .later }
def RegionPartsUptoCardSaid : Prop := Claim7.holds Tryd.pinned (.plain (OpenSpec.upto regionPartsSpec)) regionPartsUptoCard

/-- THE SECOND FORM's CARD OF 'taquinlaw08.RegionInside'. -/
def regionInsideUptoCard : Claim7 := { stood := { row := regionInsideUptoRow, standIns := [], harness := (true, "8a546dfa4c63b67bf3eecb55f83e7981accac82c15bec5f7f2a74254b7d55a2c"), looks := false }, kinds := [], alts := [], laidByText := true, laidKinds := [.data, .data], laidTests := true, laidLooks := .later }
def RegionInsideUptoCardSaid : Prop := Claim7.holds Tryd.pinned (.plain (OpenSpec.upto regionInsideSpec)) regionInsideUptoCard

/-- THE SECOND FORM's CARD OF 'taquinlaw08.RegionEdge'. -/
def regionEdgeUptoCard : Claim7 := { stood := { row := regionEdgeUptoRow, standIns := [], harness := (true, "8a546dfa4c63b67bf3eecb55f83e7981accac82c15bec5f7f2a74254b7d55a2c"), looks := false }, kinds := [], alts := [], laidByText := true, laidKinds := [.data, .data], laidTests := true, laidLooks := .later }
def RegionEdgeUptoCardSaid : Prop := Claim7.holds Tryd.pinned (.plain (OpenSpec.upto regionEdgeSpec)) regionEdgeUptoCard
end Rows
end Go.Proofs.YtgophgnfiboefaaDoor
