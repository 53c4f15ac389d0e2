/-
  DERIVED. GIVEN WITH THE SEED: THE CARDS: each row of YtkhnjlkamleldaaGreatDoorRows.lean that lists a variable, with what it lists TIED to the program's text (the seventh form; the later family's looks); each row that meets fmt, with fmt's text TOLD by the authors' own Lean function (tested against real Go, not proved from fmt's source: count such statements apart). THE CARD IS WHAT COUNTS. Prove the row's statement (the work); the ties are given (YtkhnjlkamleldaaGreatDoorTie.lean); close each card by the builder's one call (the guide's Derived/Test/ToyasCard.lean, 'card_holds'). Laid BY PROGRAM, IN A SANDBOX (cutbox-door.mjs). By AI agents, Wed Nov 11 2026. No macro, syntax, notation, axiom, sorry.
-/
import Derived.Test.YtkhnjlkamleldaaGreatDoorRows
import GoSem.ClaimSeven
namespace Go.Proofs.YtkhnjlkamleldaaGreatDoor
namespace Rows

/-- THE TIED CARD OF 'linguisterlaw1.RuleTells'. -/
def ruleTellsCard : Claim7 := { stood := { row := ruleTellsRow, standIns := [], harness := (true, "91f1dbbdaaac0225b5a8b047d1d22bfa1aff9d51a98093e339806e39077e52a4"), looks := true }, kinds := [], alts := [], laidByText := true, laidKinds := [.data, .data, .data, .data, .handle, .sentinel, .sentinel, .pinned], laidTests := true, laidLooks := .later }
def RuleTellsCardSaid : Prop := Claim7.holds Tryz.pinned (.plain (OpenSpec.ofChange ruleTellsSpec)) ruleTellsCard

/-- THE TIED CARD OF 'linguisterlaw1.RuleNot'. -/
def ruleNotCard : Claim7 := { stood := { row := ruleNotRow, standIns := [], harness := (true, "91f1dbbdaaac0225b5a8b047d1d22bfa1aff9d51a98093e339806e39077e52a4"), looks := true }, kinds := [], alts := [], laidByText := true, laidKinds := [.data, .data, .data, .data, .handle, .sentinel, .sentinel, .pinned], laidTests := true, laidLooks := .later }
def RuleNotCardSaid : Prop := Claim7.holds Tryz.pinned (.plain (OpenSpec.ofChange ruleNotSpec)) ruleNotCard

/-- THE TIED CARD OF 'linguisterlaw6.RuleRound'. -/
def ruleRoundCard : Claim7 := { stood := { row := ruleRoundRow, standIns := [], harness := (true, "91f1dbbdaaac0225b5a8b047d1d22bfa1aff9d51a98093e339806e39077e52a4"), looks := true }, kinds := [], alts := [], laidByText := true, laidKinds := [.data, .data, .data, .data, .handle, .sentinel, .sentinel, .pinned], laidTests := true, laidLooks := .later }
def RuleRoundCardSaid : Prop := Claim7.holds Tryz.pinned (.plain (OpenSpec.ofChange ruleRoundSpec)) ruleRoundCard

/-- THE SECOND FORM's CARD OF 'linguisterlaw1.RuleTells'. -/
def ruleTellsUptoCard : Claim7 := { stood := { row := ruleTellsUptoRow, standIns := [], harness := (true, "91f1dbbdaaac0225b5a8b047d1d22bfa1aff9d51a98093e339806e39077e52a4"), looks := true }, kinds := [], alts := [], laidByText := true, laidKinds := [.data, .data, .data, .data, .handle, .sentinel, .sentinel, .pinned], laidTests := true, laidLooks := .later }
def RuleTellsUptoCardSaid : Prop := Claim7.holds Tryz.pinned (.plain (OpenSpec.upto ruleTellsSpec)) ruleTellsUptoCard

/-- THE SECOND FORM's CARD OF 'linguisterlaw1.RuleNot'. -/
def ruleNotUptoCard : Claim7 := { stood := { row := ruleNotUptoRow, standIns := [], harness := (true, "91f1dbbdaaac0225b5a8b047d1d22bfa1aff9d51a98093e339806e39077e52a4"), looks := true }, kinds := [], alts := [], laidByText := true, laidKinds := [.data, .data, .data, .data, .handle, .sentinel, .sentinel, .pinned], laidTests := true, laidLooks := .later }
def RuleNotUptoCardSaid : Prop := Claim7.holds Tryz.pinned (.plain (OpenSpec.upto ruleNotSpec)) ruleNotUptoCard

/-- THE SECOND FORM's CARD OF 'linguisterlaw6.RuleRound'. -/
def ruleRoundUptoCard : Claim7 := { stood := { row := ruleRoundUptoRow, standIns := [], harness := (true, "91f1dbbdaaac0225b5a8b047d1d22bfa1aff9d51a98093e339806e39077e52a4"), looks := true }, kinds := [], alts := [], laidByText := true, laidKinds := [.data, .data, .data, .data, .handle, .sentinel, .sentinel, .pinned], laidTests := true, laidLooks := .later }
def RuleRoundUptoCardSaid : Prop := Claim7.holds Tryz.pinned (.plain (OpenSpec.upto ruleRoundSpec)) ruleRoundUptoCard
end Rows
end Go.Proofs.YtkhnjlkamleldaaGreatDoor
