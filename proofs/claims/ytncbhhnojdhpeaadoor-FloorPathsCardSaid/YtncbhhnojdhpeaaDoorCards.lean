/-
  DERIVED. GIVEN WITH THE SEED: THE CARDS: each row of YtncbhhnojdhpeaaDoorRows.lean that lists a variable, with what it lists TIED to the program's text (the seventh form; the later family's looks); each row that meets fmt, with fmt's text TOLD by the authors' own Lean function (tested against real Go, not proved from fmt's source: count such statements apart). THE CARD IS WHAT COUNTS. Prove the row's statement (the work); the ties are given (YtncbhhnojdhpeaaDoorTie.lean); close each card by the builder's one call (the guide's Derived/Test/ToyasCard.lean, 'card_holds'). Laid BY PROGRAM, IN A SANDBOX (cutbox-door.mjs). By AI agents, Wed Nov 11 2026. No macro, syntax, notation, axiom, sorry.
-/
import Derived.Test.YtncbhhnojdhpeaaDoorRows
import GoSem.ClaimSeven
namespace Go.Proofs.YtncbhhnojdhpeaaDoor
namespace Rows

/-- THE TIED CARD OF 'taquinlaw07.FloorTells'. -/
def floorTellsCard : Claim7 := { stood := { row := floorTellsRow, standIns := [], harness := (true, "0d0fb7e930f3486a7fbc4bd77823623695892f4c96a735de9f6397ad61c13ba7"), looks := false }, kinds := [], alts := [], laidByText := true, laidKinds := [.data, .data], laidTests := true, laidLooks := .later }
def FloorTellsCardSaid : Prop := Claim7.holds Tryd.pinned (.plain (OpenSpec.ofChange floorTellsSpec)) floorTellsCard

/-- THE TIED CARD OF 'taquinlaw07.FloorCells'. -/
def floorCellsCard : Claim7 := { stood := { row := floorCellsRow, standIns := [], harness := (true, "0d0fb7e930f3486a7fbc4bd77823623695892f4c96a735de9f6397ad61c13ba7"), looks := false }, kinds := [], alts := [], laidByText := true, laidKinds := [.data], laidTests := true, laidLooks := .later }
def FloorCellsCardSaid : Prop := Claim7.holds Tryd.pinned (.plain (OpenSpec.ofChange floorCellsSpec)) floorCellsCard

/-- THE TIED CARD OF 'taquinlaw07.FloorBack'. -/
def floorBackCard : Claim7 := { stood := { row := floorBackRow, standIns := [], harness := (true, "0d0fb7e930f3486a7fbc4bd77823623695892f4c96a735de9f6397ad61c13ba7"), looks := false }, kinds := [], alts := [], laidByText := true, laidKinds := [.data, .data], laidTests := true, laidLooks := .later }
def FloorBackCardSaid : Prop := Claim7.holds Tryd.pinned (.plain (OpenSpec.ofChange floorBackSpec)) floorBackCard

/-- THE TIED CARD OF 'taquinlaw07.FloorDist'. -/
def floorDistCard : Claim7 := { stood := { row := floorDistRow, standIns := [], harness := (true, "0d0fb7e930f3486a7fbc4bd77823623695892f4c96a735de9f6397ad61c13ba7"), looks := false }, kinds := [], alts := [], laidByText := true, laidKinds := [.data, .data], laidTests := true, laidLooks := .later }
def FloorDistCardSaid : Prop := Claim7.holds Tryd.pinned (.plain (OpenSpec.ofChange floorDistSpec)) floorDistCard

/-- THE TIED CARD OF 'taquinlaw07.FloorPaths'. -/
def floorPathsCard : Claim7 := { stood := { row := floorPathsRow, standIns := [], harness := (true, "0d0fb7e930f3486a7fbc4bd77823623695892f4c96a735de9f6397ad61c13ba7"), looks := false }, kinds := [], alts := [], laidByText := true, laidKinds := [.data], laidTests := true, laidLooks := .later }
def FloorPathsCardSaid : Prop := Claim7.holds Tryd.pinned (.plain (OpenSpec.ofChange floorPathsSpec)) floorPathsCard

/-- THE SECOND FORM's CARD OF 'taquinlaw07.FloorTells'. -/
def floorTellsUptoCard : Claim7 := { stood := { row := floorTellsUptoRow, standIns := [], harness := (true, "0d0fb7e930f3486a7fbc4bd77823623695892f4c96a735de9f6397ad61c13ba7"), looks := false }, kinds := [], alts := [], laidByText := true, laidKinds := [.data, .data], laidTests := true, laidLooks := .later }
def FloorTellsUptoCardSaid : Prop := Claim7.holds Tryd.pinned (.plain (OpenSpec.upto floorTellsSpec)) floorTellsUptoCard

/-- THE SECOND FORM's CARD OF 'taquinlaw07.FloorCells'. -/
def floorCellsUptoCard : Claim7 := { stood := { row := floorCellsUptoRow, standIns := [], harness := (true, "0d0fb7e930f3486a7fbc4bd77823623695892f4c96a735de9f6397ad61c13ba7"), looks := false }, kinds := [], alts := [], laidByText := true, laidKinds := [.data], laidTests := true, laidLooks := .later }
def FloorCellsUptoCardSaid : Prop := Claim7.holds Tryd.pinned (.plain (OpenSpec.upto floorCellsSpec)) floorCellsUptoCard

/-- THE SECOND FORM's CARD OF 'taquinlaw07.FloorBack'. -/
def floorBackUptoCard : Claim7 := { stood := { row := floorBackUptoRow, standIns := [], harness := (true, "0d0fb7e930f3486a7fbc4bd77823623695892f4c96a735de9f6397ad61c13ba7"), looks := false }, kinds := [], alts := [], laidByText := true, laidKinds := [.data, .data], laidTests := true, laidLooks := .later }
def FloorBackUptoCardSaid : Prop := Claim7.holds Tryd.pinned (.plain (OpenSpec.upto floorBackSpec)) floorBackUptoCard

/-- THE SECOND FORM's CARD OF 'taquinlaw07.FloorDist'. -/
def floorDistUptoCard : Claim7 := { stood := { row := floorDistUptoRow, standIns := [], harness := (true, "0d0fb7e930f3486a7fbc4bd77823623695892f4c96a735de9f6397ad61c13ba7"), looks := false }, kinds := [], alts := [], laidByText := true, laidKinds := [.data, .data], laidTests := true, laidLooks := .later }
def FloorDistUptoCardSaid : Prop := Claim7.holds Tryd.pinned (.plain (OpenSpec.upto floorDistSpec)) floorDistUptoCard

/-- THE SECOND FORM's CARD OF 'taquinlaw07.FloorPaths'. -/
def floorPathsUptoCard : Claim7 := { stood := { row := floorPathsUptoRow, standIns := [], harness := (true, "0d0fb7e930f3486a7fbc4bd77823623695892f4c96a735de9f6397ad61c13ba7"), looks := false }, kinds := [], alts := [], laidByText := true, laidKinds := [.data], laidTests := true, laidLooks := .later }
def FloorPathsUptoCardSaid : Prop := Claim7.holds Tryd.pinned (.plain (OpenSpec.upto floorPathsSpec)) floorPathsUptoCard
end Rows
end Go.Proofs.YtncbhhnojdhpeaaDoor
