/-
  DERIVED. GIVEN WITH THE SEED: THE CARDS: each row of YtgophgnfiboefaaGreatDoorRows.lean that lists a variable, with what it lists TIED to the program's text (the seventh form; the later family's looks); each row that meets fmt, with fmt's text TOLD by the authors' own Lean function (tested against real Go, not proved from fmt's source: count such statements apart). THE CARD IS WHAT COUNTS. Prove the row's statement (the work); the ties are given (YtgophgnfiboefaaGreatDoorTie.lean); close each card by the builder's one call (the guide's Derived/Test/ToyasCard.lean, 'card_holds'). Laid BY PROGRAM, IN A SANDBOX (cutbox-door.mjs). By AI agents, Wed Nov 11 2026. No macro, syntax, notation, axiom, sorry.
-/
import Derived.Test.YtgophgnfiboefaaGreatDoorRows
import GoSem.ClaimSeven
namespace Go.Proofs.YtgophgnfiboefaaGreatDoor
namespace Rows

/-- THE TIED CARD OF 'taquinlaw08.RegionTells'. -/
def regionTellsCard : Claim7 := { stood := { row := regionTellsRow, standIns := [], harness := (true, "c85bea38f329ee3a0de7d4ce850ba3a02244e5b8c38326487e41e0a56244ee65"), looks := false }, kinds := [], alts := [], laidByText := true, laidKinds := [.data, .data], laidTests := true, laidLooks := .later }
def RegionTellsCardSaid : Prop := Claim7.holds Tryz.pinned (.plain (OpenSpec.ofChange regionTellsSpec)) regionTellsCard

/-- THE SECOND FORM's CARD OF 'taquinlaw08.RegionTells'. -/
def regionTellsUptoCard : Claim7 := { stood := { row := regionTellsUptoRow, standIns := [], harness := (true, "c85bea38f329ee3a0de7d4ce850ba3a02244e5b8c38326487e41e0a56244ee65"), looks := false }, kinds := [], alts := [], laidByText := true, laidKinds := [.data, .data], laidTests := true, laidLooks := .later }
def RegionTellsUptoCardSaid : Prop := Claim7.holds Tryz.pinned (.plain (OpenSpec.upto regionTellsSpec)) regionTellsUptoCard
end Rows
end Go.Proofs.YtgophgnfiboefaaGreatDoor
