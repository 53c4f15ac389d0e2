/-
  DERIVED. GIVEN WITH THE SEED: THE CARDS: each row of YtehocgemgdbikaaGreatDoorRows.lean that lists a variable, with what it lists TIED to the program's text (the seventh form; the later family's looks); each row that meets fmt, with fmt's text TOLD by the authors' own Lean function (tested against real Go, not proved from fmt's source: count such statements apart). THE CARD IS WHAT COUNTS. Prove the row's statement (the work); the ties are given (YtehocgemgdbikaaGreatDoorTie.lean); close each card by the builder's one call (the guide's Derived/Test/ToyasCard.lean, 'card_holds'). Laid BY PROGRAM, IN A SANDBOX (cutbox-door.mjs). By AI agents, Wed Nov 11 2026. No macro, syntax, notation, axiom, sorry.
-/
import Derived.Test.YtehocgemgdbikaaGreatDoorRows
import GoSem.ClaimSeven
namespace Go.Proofs.YtehocgemgdbikaaGreatDoor
namespace Rows

/-- THE TIED CARD OF 'linguisterlaw1.NoutTells'. -/
def noutTellsCard : Claim7 := { stood := { row := noutTellsRow, standIns := [], harness := (true, "9b0dde03e570bc7c700280df0f7b3b957658c720d7d2c6421bd572bf6954c8f5"), looks := true }, kinds := [], alts := [], laidByText := true, laidKinds := [.data, .data, .data, .data, .handle, .sentinel, .sentinel, .pinned], laidTests := true, laidLooks := .later }
def NoutTellsCardSaid : Prop := Claim7.holds Tryz.pinned (.plain (OpenSpec.ofChange noutTellsSpec)) noutTellsCard

/-- THE TIED CARD OF 'linguisterlaw1.NoutBack'. -/
def noutBackCard : Claim7 := { stood := { row := noutBackRow, standIns := [], harness := (true, "9b0dde03e570bc7c700280df0f7b3b957658c720d7d2c6421bd572bf6954c8f5"), looks := true }, kinds := [], alts := [], laidByText := true, laidKinds := [.data, .data, .data, .data, .sentinel, .sentinel, .pinned], laidTests := true, laidLooks := .later }
def NoutBackCardSaid : Prop := Claim7.holds Tryz.pinned (.plain (OpenSpec.ofChange noutBackSpec)) noutBackCard

/-- THE SECOND FORM's CARD OF 'linguisterlaw1.NoutTells'. -/
def noutTellsUptoCard : Claim7 := { stood := { row := noutTellsUptoRow, standIns := [], harness := (true, "9b0dde03e570bc7c700280df0f7b3b957658c720d7d2c6421bd572bf6954c8f5"), looks := true }, kinds := [], alts := [], laidByText := true, laidKinds := [.data, .data, .data, .data, .handle, .sentinel, .sentinel, .pinned], laidTests := true, laidLooks := .later }
def NoutTellsUptoCardSaid : Prop := Claim7.holds Tryz.pinned (.plain (OpenSpec.upto noutTellsSpec)) noutTellsUptoCard

/-- THE SECOND FORM's CARD OF 'linguisterlaw1.NoutBack'. -/
def noutBackUptoCard : Claim7 := { stood := { row := noutBackUptoRow, standIns := [], harness := (true, "9b0dde03e570bc7c700280df0f7b3b957658c720d7d2c6421bd572bf6954c8f5"), looks := true }, kinds := [], alts := [], laidByText := true, laidKinds := [.data, .data, .data, .data, .sentinel, .sentinel, .pinned], laidTests := true, laidLooks := .later }
def NoutBackUptoCardSaid : Prop := Claim7.holds Tryz.pinned (.plain (OpenSpec.upto noutBackSpec)) noutBackUptoCard
end Rows
end Go.Proofs.YtehocgemgdbikaaGreatDoor
