/-
  DERIVED. GIVEN WITH THE SEED: THE CARDS: each row of YtdckmekfggigjaaDoorRows.lean that lists a variable, with what it lists TIED to the program's text (the seventh form; the later family's looks); each row that meets fmt, with fmt's text TOLD by the authors' own Lean function (tested against real Go, not proved from fmt's source: count such statements apart). THE CARD IS WHAT COUNTS. Prove the row's statement (the work); the ties are given (YtdckmekfggigjaaDoorTie.lean); close each card by the builder's one call (the guide's Derived/Test/ToyasCard.lean, 'card_holds'). Laid BY PROGRAM, IN A SANDBOX (cutbox-door.mjs). By AI agents, Wed Nov 11 2026. No macro, syntax, notation, axiom, sorry.
-/
import Derived.Test.YtdckmekfggigjaaDoorRows
import GoSem.ClaimSeven
namespace Go.Proofs.YtdckmekfggigjaaDoor
namespace Rows

/-- THE TIED CARD OF 'linguisterlaw1.PickTells'. -/
def pickTellsCard : Claim7 := { stood := { row := pickTellsRow, standIns := [], harness := (true, "0f27c791be77e15410f596dd8e84607d72bf94d744f63b7a4b9a222df1e3cc28"), looks := true }, kinds := [], alts := [], laidByText := true, laidKinds := [.data, .handle, .pinned], laidTests := true, laidLooks := .later }
def PickTellsCardSaid : Prop := Claim7.holds Tryd.pinned (.plain (OpenSpec.ofChange pickTellsSpec)) pickTellsCard

/-- THE TIED CARD OF 'linguisterlaw1.PickAll'. -/
def pickAllCard : Claim7 := { stood := { row := pickAllRow, standIns := [], harness := (true, "0f27c791be77e15410f596dd8e84607d72bf94d744f63b7a4b9a222df1e3cc28"), looks := true }, kinds := [], alts := [], laidByText := true, laidKinds := [.data, .handle, .pinned], laidTests := true, laidLooks := .later }
def PickAllCardSaid : Prop := Claim7.holds Tryd.pinned (.plain (OpenSpec.ofChange pickAllSpec)) pickAllCard

/-- THE TIED CARD OF 'linguisterlaw1.PickFirst'. -/
def pickFirstCard : Claim7 := { stood := { row := pickFirstRow, standIns := [], harness := (true, "0f27c791be77e15410f596dd8e84607d72bf94d744f63b7a4b9a222df1e3cc28"), looks := true }, kinds := [], alts := [], laidByText := true, laidKinds := [.data, .pinned], laidTests := true, laidLooks := .later }
def PickFirstCardSaid : Prop := Claim7.holds Tryd.pinned (.plain (OpenSpec.ofChange pickFirstSpec)) pickFirstCard

/-- THE TIED CARD OF 'linguisterlaw5.PickOwn'. -/
def pickOwnCard : Claim7 := { stood := { row := pickOwnRow, standIns := [], harness := (true, "0f27c791be77e15410f596dd8e84607d72bf94d744f63b7a4b9a222df1e3cc28"), looks := true }, kinds := [], alts := [], laidByText := true, laidKinds := [.data, .handle, .pinned], laidTests := true, laidLooks := .later }
def PickOwnCardSaid : Prop := Claim7.holds Tryd.pinned (.plain (OpenSpec.ofChange pickOwnSpec)) pickOwnCard

/-- THE TIED CARD OF 'linguisterlaw6.PickSelf'. -/
def pickSelfCard : Claim7 := { stood := { row := pickSelfRow, standIns := [], harness := (true, "0f27c791be77e15410f596dd8e84607d72bf94d744f63b7a4b9a222df1e3cc28"), looks := true }, kinds := [], alts := [], laidByText := true, laidKinds := [.data, .pinned], laidTests := true, laidLooks := .later }
def PickSelfCardSaid : Prop := Claim7.holds Tryd.pinned (.plain (OpenSpec.ofChange pickSelfSpec)) pickSelfCard

/-- THE SECOND FORM's CARD OF 'linguisterlaw1.PickTells'. -/
def pickTellsUptoCard : Claim7 := { stood := { row := pickTellsUptoRow, standIns := [], harness := (true, "0f27c791be77e15410f596dd8e84607d72bf94d744f63b7a4b9a222df1e3cc28"), looks := true }, kinds := [], alts := [], laidByText := true, laidKinds := [.data, .handle, .pinned], laidTests := true, laidLooks := .later }
def PickTellsUptoCardSaid : Prop := Claim7.holds Tryd.pinned (.plain (OpenSpec.upto pickTellsSpec)) pickTellsUptoCard

/-- THE SECOND FORM's CARD OF 'linguisterlaw1.PickAll'. -/
def pickAllUptoCard : Claim7 := { stood := { row := pickAllUptoRow, standIns := [], harness := (true, "0f27c791be77e15410f596dd8e84607d72bf94d744f63b7a4b9a222df1e3cc28"), looks := true }, kinds := [], alts := [], laidByText := true, laidKinds := [.data, .handle, .pinned], laidTests := true, laidLooks := .later }
def PickAllUptoCardSaid : Prop := Claim7.holds Tryd.pinned (.plain (OpenSpec.upto pickAllSpec)) pickAllUptoCard

/-- THE SECOND FORM's CARD OF 'linguisterlaw1.PickFirst'. -/
def pickFirstUptoCard : Claim7 := { stood := { row := pickFirstUptoRow, standIns := [], harness := (true, "0f27c791be77e15410f596dd8e84607d72bf94d744f63b7a4b9a222df1e3cc28"), looks := true }, kinds := [], alts := [], laidByText := true, laidKinds := [.data, .pinned], laidTests := true, laidLooks := .later }
def PickFirstUptoCardSaid : Prop := Claim7.holds Tryd.pinned (.plain (OpenSpec.upto pickFirstSpec)) pickFirstUptoCard

/-- THE SECOND FORM's CARD OF 'linguisterlaw5.PickOwn'. -/
def pickOwnUptoCard : Claim7 := { stood := { row := pickOwnUptoRow, standIns := [], harness := (true, "0f27c791be77e15410f596dd8e84607d72bf94d744f63b7a4b9a222df1e3cc28"), looks := true }, kinds := [], alts := [], laidByText := true, laidKinds := [.data, .handle, .pinned], laidTests := true, laidLooks := .later }
def PickOwnUptoCardSaid : Prop := Claim7.holds Tryd.pinned (.plain (OpenSpec.upto pickOwnSpec)) pickOwnUptoCard

/-- THE SECOND FORM's CARD OF 'linguisterlaw6.PickSelf'. -/
def pickSelfUptoCard : Claim7 := { stood := { row := pickSelfUptoRow, standIns := [], harness := (true, "0f27c791be77e15410f596dd8e84607d72bf94d744f63b7a4b9a222df1e3cc28"), looks := true }, kinds := [], alts := [], laidByText := true, laidKinds := [.data, .pinned], laidTests := true, laidLooks := .later }
def PickSelfUptoCardSaid : Prop := Claim7.holds Tryd.pinned (.plain (OpenSpec.upto pickSelfSpec)) pickSelfUptoCard
end Rows
end Go.Proofs.YtdckmekfggigjaaDoor
