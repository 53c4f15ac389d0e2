/-
  DERIVED. GIVEN WITH THE SEED: THE CARDS: each row of YteekhfiphbhbjaaDoorRows.lean that lists a variable, with what it lists TIED to the program's text (the seventh form; the later family's looks); each row that meets fmt, with fmt's text TOLD by the authors' own Lean function (tested against real Go, not proved from fmt's source: count such statements apart). THE CARD IS WHAT COUNTS. Prove the row's statement (the work); the ties are given (YteekhfiphbhbjaaDoorTie.lean); close each card by the builder's one call (the guide's Derived/Test/ToyasCard.lean, 'card_holds'). Laid BY PROGRAM, IN A SANDBOX (cutbox-door.mjs). By AI agents, Wed Nov 11 2026. No macro, syntax, notation, axiom, sorry.
-/
import Derived.Test.YteekhfiphbhbjaaDoorRows
import GoSem.ClaimSeven
namespace Go.Proofs.YteekhfiphbhbjaaDoor
namespace Rows

/-- THE TIED CARD OF 'linguisterlaw1.DecBack'. -/
def decBackCard : Claim7 := { stood := { row := decBackRow, standIns := [], harness := (true, "fdef0f674275715386a8c3532f3843ee36c225ab376866c9e00e8a82b60740a5"), looks := true }, kinds := [], alts := [], laidByText := true, laidKinds := [.data, .data, .data, .sentinel, .sentinel], laidTests := true, laidLooks := .later }
def DecBackCardSaid : Prop := Claim7.holds Tryd.pinned (.plain (OpenSpec.ofChange decBackSpec)) decBackCard

/-- THE TIED CARD OF 'linguisterlaw6.DecThree'. -/
def decThreeCard : Claim7 := { stood := { row := decThreeRow, standIns := [], harness := (true, "fdef0f674275715386a8c3532f3843ee36c225ab376866c9e00e8a82b60740a5"), looks := true }, kinds := [], alts := [], laidByText := true, laidKinds := [.handle], laidTests := true, laidLooks := .later }
def DecThreeCardSaid : Prop := Claim7.holds Tryd.pinned (.plain (OpenSpec.ofChange decThreeSpec)) decThreeCard

/-- THE SECOND FORM's CARD OF 'linguisterlaw1.DecBack'. -/
def decBackUptoCard : Claim7 := { stood := { row := decBackUptoRow, standIns := [], harness := (true, "fdef0f674275715386a8c3532f3843ee36c225ab376866c9e00e8a82b60740a5"), looks := true }, kinds := [], alts := [], laidByText := true, laidKinds := [.data, .data, .data, .sentinel, .sentinel], laidTests := true, laidLooks := .later }
def DecBackUptoCardSaid : Prop := Claim7.holds Tryd.pinned (.plain (OpenSpec.upto decBackSpec)) decBackUptoCard

/-- THE SECOND FORM's CARD OF 'linguisterlaw6.DecThree'. -/
def decThreeUptoCard : Claim7 := { stood := { row := decThreeUptoRow, standIns := [], harness := (true, "fdef0f674275715386a8c3532f3843ee36c225ab376866c9e00e8a82b60740a5"), looks := true }, kinds := [], alts := [], laidByText := true, laidKinds := [.handle], laidTests := true, laidLooks := .later }
def DecThreeUptoCardSaid : Prop := Claim7.holds Tryd.pinned (.plain (OpenSpec.upto decThreeSpec)) decThreeUptoCard
end Rows
end Go.Proofs.YteekhfiphbhbjaaDoor
