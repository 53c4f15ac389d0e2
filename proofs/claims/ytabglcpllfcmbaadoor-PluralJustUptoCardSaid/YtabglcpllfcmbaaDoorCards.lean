/-
  DERIVED. GIVEN WITH THE SEED: THE CARDS: each row of YtabglcpllfcmbaaDoorRows.lean that lists a variable, with what it lists TIED to the program's text (the seventh form; the later family's looks); each row that meets fmt, with fmt's text TOLD by the authors' own Lean function (tested against real Go, not proved from fmt's source: count such statements apart). THE CARD IS WHAT COUNTS. Prove the row's statement (the work); the ties are given (YtabglcpllfcmbaaDoorTie.lean); close each card by the builder's one call (the guide's Derived/Test/ToyasCard.lean, 'card_holds'). Laid BY PROGRAM, IN A SANDBOX (cutbox-door.mjs). By AI agents, Wed Nov 11 2026. No macro, syntax, notation, axiom, sorry.
-/
import Derived.Test.YtabglcpllfcmbaaDoorRows
import GoSem.ClaimSeven
namespace Go.Proofs.YtabglcpllfcmbaaDoor
namespace Rows

/-- THE TIED CARD OF 'linguisterlaw1.PluralJust'. -/
def pluralJustCard : Claim7 := { stood := { row := pluralJustRow, standIns := [], harness := (true, "e880ed9e1bbb148d5b0934559521b3993740649e32d63929a6aaf6d928b40e58"), looks := true }, kinds := [], alts := [], laidByText := true, laidKinds := [.data, .data, .data, .data, .sentinel, .sentinel, .data, .pinned], laidTests := true, laidLooks := .later }
def PluralJustCardSaid : Prop := Claim7.holds Tryd.pinned (.plain (OpenSpec.ofChange pluralJustSpec)) pluralJustCard

/-- THE TIED CARD OF 'linguisterlaw6.PluralLess'. -/
def pluralLessCard : Claim7 := { stood := { row := pluralLessRow, standIns := [], harness := (true, "e880ed9e1bbb148d5b0934559521b3993740649e32d63929a6aaf6d928b40e58"), looks := true }, kinds := [], alts := [], laidByText := true, laidKinds := [.data, .data, .data, .data, .sentinel, .sentinel, .data, .pinned], laidTests := true, laidLooks := .later }
def PluralLessCardSaid : Prop := Claim7.holds Tryd.pinned (.plain (OpenSpec.ofChange pluralLessSpec)) pluralLessCard

/-- THE SECOND FORM's CARD OF 'linguisterlaw1.PluralJust'. -/
def pluralJustUptoCard : Claim7 := { stood := { row := pluralJustUptoRow, standIns := [], harness := (true, "e880ed9e1bbb148d5b0934559521b3993740649e32d63929a6aaf6d928b40e58"), looks := true }, kinds := [], alts := [], laidByText := true, laidKinds := [.data, .data, .data, .data, .sentinel, .sentinel, .data, .pinned], laidTests := true, laidLooks := .later }
def PluralJustUptoCardSaid : Prop := Claim7.holds Tryd.pinned (.plain (OpenSpec.upto pluralJustSpec)) pluralJustUptoCard

/-- THE SECOND FORM's CARD OF 'linguisterlaw6.PluralLess'. -/
def pluralLessUptoCard : Claim7 := { stood := { row := pluralLessUptoRow, standIns := [], harness := (true, "e880ed9e1bbb148d5b0934559521b3993740649e32d63929a6aaf6d928b40e58"), looks := true }, kinds := [], alts := [], laidByText := true, laidKinds := [.data, .data, .data, .data, .sentinel, .sentinel, .data, .pinned], laidTests := true, laidLooks := .later }
def PluralLessUptoCardSaid : Prop := Claim7.holds Tryd.pinned (.plain (OpenSpec.upto pluralLessSpec)) pluralLessUptoCard
end Rows
end Go.Proofs.YtabglcpllfcmbaaDoor
