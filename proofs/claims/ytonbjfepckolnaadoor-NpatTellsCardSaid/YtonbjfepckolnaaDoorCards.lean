/-
  DERIVED. GIVEN WITH THE SEED: THE CARDS: each row of YtonbjfepckolnaaDoorRows.lean that lists a variable, with what it lists TIED to the program's text (the seventh form; the later family's looks); each row that meets fmt, with fmt's text TOLD by the authors' own Lean function (tested against real Go, not proved from fmt's source: count such statements apart). THE CARD IS WHAT COUNTS. Prove the row's statement (the work); the ties are given (YtonbjfepckolnaaDoorTie.lean); close each card by the builder's one call (the guide's Derived/Test/ToyasCard.lean, 'card_holds'). Laid BY PROGRAM, IN A SANDBOX (cutbox-door.mjs). By AI agents, Wed Nov 11 2026. No macro, syntax, notation, axiom, sorry.
-/
import Derived.Test.YtonbjfepckolnaaDoorRows
import GoSem.ClaimSeven
namespace Go.Proofs.YtonbjfepckolnaaDoor
namespace Rows

/-- THE TIED CARD OF 'linguisterlaw1.NpatTells'. -/
def npatTellsCard : Claim7 := { stood := { row := npatTellsRow, standIns := [], harness := (true, "50911a911b0b1025c6e8de08ff1c0567c04c801656f2df439785c5cfae3c16b7"), looks := true }, kinds := [], alts := [], laidByText := true, laidKinds := [.data, .handle, .pinned], laidTests := true, laidLooks := .later }
def NpatTellsCardSaid : Prop := Claim7.holds Tryd.pinned (.plain (OpenSpec.ofChange npatTellsSpec)) npatTellsCard

/-- THE TIED CARD OF 'linguisterlaw1.NpatBack'. -/
def npatBackCard : Claim7 := { stood := { row := npatBackRow, standIns := [], harness := (true, "50911a911b0b1025c6e8de08ff1c0567c04c801656f2df439785c5cfae3c16b7"), looks := true }, kinds := [], alts := [], laidByText := true, laidKinds := [.data, .pinned], laidTests := true, laidLooks := .later }
def NpatBackCardSaid : Prop := Claim7.holds Tryd.pinned (.plain (OpenSpec.ofChange npatBackSpec)) npatBackCard

/-- THE SECOND FORM's CARD OF 'linguisterlaw1.NpatTells'. -/
def npatTellsUptoCard : Claim7 := { stood := { row := npatTellsUptoRow, standIns := [], harness := (true, "50911a911b0b1025c6e8de08ff1c0567c04c801656f2df439785c5cfae3c16b7"), looks := true }, kinds := [], alts := [], laidByText := true, laidKinds := [.data, .handle, .pinned], laidTests := true, laidLooks := .later }
def NpatTellsUptoCardSaid : Prop := Claim7.holds Tryd.pinned (.plain (OpenSpec.upto npatTellsSpec)) npatTellsUptoCard

/-- THE SECOND FORM's CARD OF 'linguisterlaw1.NpatBack'. -/
def npatBackUptoCard : Claim7 := { stood := { row := npatBackUptoRow, standIns := [], harness := (true, "50911a911b0b1025c6e8de08ff1c0567c04c801656f2df439785c5cfae3c16b7"), looks := true }, kinds := [], alts := [], laidByText := true, laidKinds := [.data, .pinned], laidTests := true, laidLooks := .later }
def NpatBackUptoCardSaid : Prop := Claim7.holds Tryd.pinned (.plain (OpenSpec.upto npatBackSpec)) npatBackUptoCard
end Rows
end Go.Proofs.YtonbjfepckolnaaDoor
