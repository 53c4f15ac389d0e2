/-
  DERIVED. GIVEN WITH THE SEED: THE CARDS: each row of YteipadljahkgoaaDoorRows.lean that lists a variable, with what it lists TIED to the program's text (the seventh form; the later family's looks); each row that meets fmt, with fmt's text TOLD by the authors' own Lean function (tested against real Go, not proved from fmt's source: count such statements apart). THE CARD IS WHAT COUNTS. Prove the row's statement (the work); the ties are given (YteipadljahkgoaaDoorTie.lean); close each card by the builder's one call (the guide's Derived/Test/ToyasCard.lean, 'card_holds'). Laid BY PROGRAM, IN A SANDBOX (cutbox-door.mjs). By AI agents, Wed Nov 11 2026. No macro, syntax, notation, axiom, sorry.
-/
import Derived.Test.YteipadljahkgoaaDoorRows
import GoSem.ClaimSeven
namespace Go.Proofs.YteipadljahkgoaaDoor
namespace Rows

/-- THE TIED CARD OF 'linguisterlaw1.ShortTells'. -/
def shortTellsCard : Claim7 := { stood := { row := shortTellsRow, standIns := [], harness := (true, "d352680532fba74fd2050e875e746c657f210c71eb6165714d7552b3ae79c129"), looks := true }, kinds := [], alts := [], laidByText := true, laidKinds := [.data, .data, .data, .handle], laidTests := true, laidLooks := .later }
def ShortTellsCardSaid : Prop := Claim7.holds Tryd.pinned (.plain (OpenSpec.ofChange shortTellsSpec)) shortTellsCard

/-- THE TIED CARD OF 'linguisterlaw1.ShortDigits'. -/
def shortDigitsCard : Claim7 := { stood := { row := shortDigitsRow, standIns := [], harness := (true, "d352680532fba74fd2050e875e746c657f210c71eb6165714d7552b3ae79c129"), looks := true }, kinds := [], alts := [], laidByText := true, laidKinds := [.data, .data, .data], laidTests := true, laidLooks := .later }
def ShortDigitsCardSaid : Prop := Claim7.holds Tryd.pinned (.plain (OpenSpec.ofChange shortDigitsSpec)) shortDigitsCard

/-- THE TIED CARD OF 'linguisterlaw6.ShortRises'. -/
def shortRisesCard : Claim7 := { stood := { row := shortRisesRow, standIns := [], harness := (true, "d352680532fba74fd2050e875e746c657f210c71eb6165714d7552b3ae79c129"), looks := true }, kinds := [], alts := [], laidByText := true, laidKinds := [.data, .data, .data], laidTests := true, laidLooks := .later }
def ShortRisesCardSaid : Prop := Claim7.holds Tryd.pinned (.plain (OpenSpec.ofChange shortRisesSpec)) shortRisesCard

/-- THE SECOND FORM's CARD OF 'linguisterlaw1.ShortTells'. -/
def shortTellsUptoCard : Claim7 := { stood := { row := shortTellsUptoRow, standIns := [], harness := (true, "d352680532fba74fd2050e875e746c657f210c71eb6165714d7552b3ae79c129"), looks := true }, kinds := [], alts := [], laidByText := true, laidKinds := [.data, .data, .data, .handle], laidTests := true, laidLooks := .later }
def ShortTellsUptoCardSaid : Prop := Claim7.holds Tryd.pinned (.plain (OpenSpec.upto shortTellsSpec)) shortTellsUptoCard

/-- THE SECOND FORM's CARD OF 'linguisterlaw1.ShortDigits'. -/
def shortDigitsUptoCard : Claim7 := { stood := { row := shortDigitsUptoRow, standIns := [], harness := (true, "d352680532fba74fd2050e875e746c657f210c71eb6165714d7552b3ae79c129"), looks := true }, kinds := [], alts := [], laidByText := true, laidKinds := [.data, .data, .data], laidTests := true, laidLooks := .later }
def ShortDigitsUptoCardSaid : Prop := Claim7.holds Tryd.pinned (.plain (OpenSpec.upto shortDigitsSpec)) shortDigitsUptoCard

/-- THE SECOND FORM's CARD OF 'linguisterlaw6.ShortRises'. -/
def shortRisesUptoCard : Claim7 := { stood := { row := shortRisesUptoRow, standIns := [], harness := (true, "d352680532fba74fd2050e875e746c657f210c71eb6165714d7552b3ae79c129"), looks := true }, kinds := [], alts := [], laidByText := true, laidKinds := [.data, .data, .data], laidTests := true, laidLooks := .later }
def ShortRisesUptoCardSaid : Prop := Claim7.holds Tryd.pinned (.plain (OpenSpec.upto shortRisesSpec)) shortRisesUptoCard
end Rows
end Go.Proofs.YteipadljahkgoaaDoor
