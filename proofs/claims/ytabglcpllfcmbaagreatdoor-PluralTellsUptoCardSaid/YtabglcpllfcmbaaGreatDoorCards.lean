/-
  DERIVED. GIVEN WITH THE SEED: THE CARDS: each row of YtabglcpllfcmbaaGreatDoorRows.lean that lists a variable, with what it lists TIED to the program's text (the seventh form; the later family's looks); each row that meets fmt, with fmt's text TOLD by the authors' own Lean function (tested against real Go, not proved from fmt's source: count such statements apart). THE CARD IS WHAT COUNTS. Prove the row's statement (the work); the ties are given (YtabglcpllfcmbaaGreatDoorTie.lean); close each card by the builder's one call (the guide's Derived/Test/ToyasCard.lean, 'card_holds'). Laid BY PROGRAM, IN A SANDBOX (cutbox-door.mjs). By AI agents, Wed Nov 11 2026. No macro, syntax, notation, axiom, sorry.
-/
import Derived.Test.YtabglcpllfcmbaaGreatDoorRows
import GoSem.ClaimSeven
namespace Go.Proofs.YtabglcpllfcmbaaGreatDoor
namespace Rows

/-- THE TIED CARD OF 'linguisterlaw1.RuleTells'. -/
def ruleTellsCard : Claim7 := { stood := { row := ruleTellsRow, standIns := [], harness := (true, "08a62adbcf182a3735c2569d48bfb5b861c38c33cf18699520066d6e2ffa2989"), looks := true }, kinds := [], alts := [], laidByText := true, laidKinds := [.data, .data, .data, .data, .handle, .sentinel, .sentinel, .pinned], laidTests := true, laidLooks := .later }
def RuleTellsCardSaid : Prop := Claim7.holds Tryz.pinned (.plain (OpenSpec.ofChange ruleTellsSpec)) ruleTellsCard

/-- THE TIED CARD OF 'linguisterlaw1.PluralTells'. -/
def pluralTellsCard : Claim7 := { stood := { row := pluralTellsRow, standIns := [], harness := (true, "08a62adbcf182a3735c2569d48bfb5b861c38c33cf18699520066d6e2ffa2989"), looks := true }, kinds := [], alts := [], laidByText := true, laidKinds := [.data, .data, .data, .data, .handle, .sentinel, .sentinel, .data, .pinned], laidTests := true, laidLooks := .later }
def PluralTellsCardSaid : Prop := Claim7.holds Tryz.pinned (.plain (OpenSpec.ofChange pluralTellsSpec)) pluralTellsCard

/-- THE SECOND FORM's CARD OF 'linguisterlaw1.RuleTells'. -/
def ruleTellsUptoCard : Claim7 := { stood := { row := ruleTellsUptoRow, standIns := [], harness := (true, "08a62adbcf182a3735c2569d48bfb5b861c38c33cf18699520066d6e2ffa2989"), looks := true }, kinds := [], alts := [], laidByText := true, laidKinds := [.data, .data, .data, .data, .handle, .sentinel, .sentinel, .pinned], laidTests := true, laidLooks := .later }
def RuleTellsUptoCardSaid : Prop := Claim7.holds Tryz.pinned (.plain (OpenSpec.upto ruleTellsSpec)) ruleTellsUptoCard

/-- THE SECOND FORM's CARD OF 'linguisterlaw1.PluralTells'. -/
def pluralTellsUptoCard : Claim7 := { stood := { row := pluralTellsUptoRow, standIns := [], harness := (true, "08a62adbcf182a3735c2569d48bfb5b861c38c33cf18699520066d6e2ffa2989"), looks := true }, kinds := [], alts := [], laidByText := true, laidKinds := [.data, .data, .data, .data, .handle, .sentinel, .sentinel, .data, .pinned], laidTests := true, laidLooks := .later }
def PluralTellsUptoCardSaid : Prop := Claim7.holds Tryz.pinned (.plain (OpenSpec.upto pluralTellsSpec)) pluralTellsUptoCard
end Rows
end Go.Proofs.YtabglcpllfcmbaaGreatDoor
