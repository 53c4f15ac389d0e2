/-
  DERIVED. GIVEN WITH THE SEED: THE CARDS: each row of YtehocgemgdbikaaDoorRows.lean that lists a variable, with what it lists TIED to the program's text (the seventh form; the later family's looks); each row that meets fmt, with fmt's text TOLD by the authors' own Lean function (tested against real Go, not proved from fmt's source: count such statements apart). THE CARD IS WHAT COUNTS. Prove the row's statement (the work); the ties are given (YtehocgemgdbikaaDoorTie.lean); close each card by the builder's one call (the guide's Derived/Test/ToyasCard.lean, 'card_holds'). Laid BY PROGRAM, IN A SANDBOX (cutbox-door.mjs). By AI agents, Wed Nov 11 2026. No macro, syntax, notation, axiom, sorry.
-/
import Derived.Test.YtehocgemgdbikaaDoorRows
import GoSem.ClaimSeven
namespace Go.Proofs.YtehocgemgdbikaaDoor
namespace Rows

/-- THE TIED CARD OF 'linguisterlaw1.NoutSigns'. -/
def noutSignsCard : Claim7 := { stood := { row := noutSignsRow, standIns := [], harness := (true, "f140029615dd7f3c1486bfaa6a5eded4ffa2fcb5af8c19686217222163fb7e29"), looks := false }, kinds := [], alts := [], laidByText := true, laidKinds := [.data, .data, .data, .data, .pinned], laidTests := true, laidLooks := .later }
def NoutSignsCardSaid : Prop := Claim7.holds Tryd.pinned (.plain (OpenSpec.ofChange noutSignsSpec)) noutSignsCard

/-- THE TIED CARD OF 'linguisterlaw6.NpatPlain'. -/
def npatPlainCard : Claim7 := { stood := { row := npatPlainRow, standIns := [], harness := (true, "f140029615dd7f3c1486bfaa6a5eded4ffa2fcb5af8c19686217222163fb7e29"), looks := false }, kinds := [], alts := [], laidByText := true, laidKinds := [.data, .data, .data, .data, .pinned], laidTests := true, laidLooks := .later }
def NpatPlainCardSaid : Prop := Claim7.holds Tryd.pinned (.plain (OpenSpec.ofChange npatPlainSpec)) npatPlainCard

/-- THE TIED CARD OF 'linguisterlaw6.NoutWhole'. -/
def noutWholeCard : Claim7 := { stood := { row := noutWholeRow, standIns := [], harness := (true, "f140029615dd7f3c1486bfaa6a5eded4ffa2fcb5af8c19686217222163fb7e29"), looks := false }, kinds := [], alts := [], laidByText := true, laidKinds := [.data, .data, .data, .data, .pinned], laidTests := true, laidLooks := .later }
def NoutWholeCardSaid : Prop := Claim7.holds Tryd.pinned (.plain (OpenSpec.ofChange noutWholeSpec)) noutWholeCard

/-- THE SECOND FORM's CARD OF 'linguisterlaw1.NoutSigns'. -/
def noutSignsUptoCard : Claim7 := { stood := { row := noutSignsUptoRow, standIns := [], harness := (true, "f140029615dd7f3c1486bfaa6a5eded4ffa2fcb5af8c19686217222163fb7e29"), looks := false }, kinds := [], alts := [], laidByText := true, laidKinds := [.data, .data, .data, .data, .pinned], laidTests := true, laidLooks := .later }
def NoutSignsUptoCardSaid : Prop := Claim7.holds Tryd.pinned (.plain (OpenSpec.upto noutSignsSpec)) noutSignsUptoCard

/-- THE SECOND FORM's CARD OF 'linguisterlaw6.NpatPlain'. -/
def npatPlainUptoCard : Claim7 := { stood := { row := npatPlainUptoRow, standIns := [], harness := (true, "f140029615dd7f3c1486bfaa6a5eded4ffa2fcb5af8c19686217222163fb7e29"), looks := false }, kinds := [], alts := [], laidByText := true, laidKinds := [.data, .data, .data, .data, .pinned], laidTests := true, laidLooks := .later }
def NpatPlainUptoCardSaid : Prop := Claim7.holds Tryd.pinned (.plain (OpenSpec.upto npatPlainSpec)) npatPlainUptoCard

/-- THE SECOND FORM's CARD OF 'linguisterlaw6.NoutWhole'. -/
def noutWholeUptoCard : Claim7 := { stood := { row := noutWholeUptoRow, standIns := [], harness := (true, "f140029615dd7f3c1486bfaa6a5eded4ffa2fcb5af8c19686217222163fb7e29"), looks := false }, kinds := [], alts := [], laidByText := true, laidKinds := [.data, .data, .data, .data, .pinned], laidTests := true, laidLooks := .later }
def NoutWholeUptoCardSaid : Prop := Claim7.holds Tryd.pinned (.plain (OpenSpec.upto noutWholeSpec)) noutWholeUptoCard
end Rows
end Go.Proofs.YtehocgemgdbikaaDoor
