/-
  DERIVED. GIVEN WITH THE SEED: THE CARDS: each row of YteedhnpdffnfjaaGreatDoorRows.lean that lists a variable, with what it lists TIED to the program's text (the seventh form; the later family's looks); each row that meets fmt, with fmt's text TOLD by the authors' own Lean function (tested against real Go, not proved from fmt's source: count such statements apart). THE CARD IS WHAT COUNTS. Prove the row's statement (the work); the ties are given (YteedhnpdffnfjaaGreatDoorTie.lean); close each card by the builder's one call (the guide's Derived/Test/ToyasCard.lean, 'card_holds'). Laid BY PROGRAM, IN A SANDBOX (cutbox-door.mjs). By AI agents, Wed Nov 11 2026. No macro, syntax, notation, axiom, sorry.
-/
import Derived.Test.YteedhnpdffnfjaaGreatDoorRows
import GoSem.ClaimSeven
namespace Go.Proofs.YteedhnpdffnfjaaGreatDoor
namespace Rows

/-- THE TIED CARD OF 'linguisterlaw6.OpsTen'. -/
def opsTenCard : Claim7 := { stood := { row := opsTenRow, standIns := [], harness := (true, "3d42541b11e46314019b6dd4d00d52901d9953493c6eec8255204e1627f45f2f"), looks := true }, kinds := [], alts := [], laidByText := true, laidKinds := [.data, .data, .data, .data, .sentinel, .sentinel, .data, .pinned], laidTests := true, laidLooks := .later }
def OpsTenCardSaid : Prop := Claim7.holds Tryz.pinned (.plain (OpenSpec.ofChange opsTenSpec)) opsTenCard

/-- THE SECOND FORM's CARD OF 'linguisterlaw6.OpsTen'. -/
def opsTenUptoCard : Claim7 := { stood := { row := opsTenUptoRow, standIns := [], harness := (true, "3d42541b11e46314019b6dd4d00d52901d9953493c6eec8255204e1627f45f2f"), looks := true }, kinds := [], alts := [], laidByText := true, laidKinds := [.data, .data, .data, .data, .sentinel, .sentinel, .data, .pinned], laidTests := true, laidLooks := .later }
def OpsTenUptoCardSaid : Prop := Claim7.holds Tryz.pinned (.plain (OpenSpec.upto opsTenSpec)) opsTenUptoCard
end Rows
end Go.Proofs.YteedhnpdffnfjaaGreatDoor
