/-
  DERIVED. GIVEN WITH THE SEED: THE CARDS: each row of YtmildcdcfnccaaaDoorRows.lean that lists a variable, with what it lists TIED to the program's text (the seventh form; the later family's looks); each row that meets fmt, with fmt's text TOLD by the authors' own Lean function (tested against real Go, not proved from fmt's source: count such statements apart). THE CARD IS WHAT COUNTS. Prove the row's statement (the work); the ties are given (YtmildcdcfnccaaaDoorTie.lean); close each card by the builder's one call (the guide's Derived/Test/ToyasCard.lean, 'card_holds'). Laid BY PROGRAM, IN A SANDBOX (cutbox-door.mjs). By AI agents, Wed Nov 11 2026. No macro, syntax, notation, axiom, sorry.
-/
import Derived.Test.YtmildcdcfnccaaaDoorRows
import GoSem.ClaimSeven
namespace Go.Proofs.YtmildcdcfnccaaaDoor
namespace Rows

/-- THE TIED CARD OF 'linguisterlaw1.TagTells'. -/
def tagTellsCard : Claim7 := { stood := { row := tagTellsRow, standIns := [], harness := (true, "d72304e4ed5c1ac41666a0da6411fdb4b319aa95575eb2521976c36dfc25915f"), looks := true }, kinds := [], alts := [], laidByText := true, laidKinds := [.data, .handle, .pinned], laidTests := true, laidLooks := .later }
def TagTellsCardSaid : Prop := Claim7.holds Tryd.pinned (.plain (OpenSpec.ofChange tagTellsSpec)) tagTellsCard

/-- THE TIED CARD OF 'linguisterlaw1.TagBack'. -/
def tagBackCard : Claim7 := { stood := { row := tagBackRow, standIns := [], harness := (true, "d72304e4ed5c1ac41666a0da6411fdb4b319aa95575eb2521976c36dfc25915f"), looks := true }, kinds := [], alts := [], laidByText := true, laidKinds := [.data, .pinned], laidTests := true, laidLooks := .later }
def TagBackCardSaid : Prop := Claim7.holds Tryd.pinned (.plain (OpenSpec.ofChange tagBackSpec)) tagBackCard

/-- THE TIED CARD OF 'linguisterlaw6.TagShort'. -/
def tagShortCard : Claim7 := { stood := { row := tagShortRow, standIns := [], harness := (true, "d72304e4ed5c1ac41666a0da6411fdb4b319aa95575eb2521976c36dfc25915f"), looks := true }, kinds := [], alts := [], laidByText := true, laidKinds := [.data, .pinned], laidTests := true, laidLooks := .later }
def TagShortCardSaid : Prop := Claim7.holds Tryd.pinned (.plain (OpenSpec.ofChange tagShortSpec)) tagShortCard

/-- THE SECOND FORM's CARD OF 'linguisterlaw1.TagTells'. -/
def tagTellsUptoCard : Claim7 := { stood := { row := tagTellsUptoRow, standIns := [], harness := (true, "d72304e4ed5c1ac41666a0da6411fdb4b319aa95575eb2521976c36dfc25915f"), looks := true }, kinds := [], alts := [], laidByText := true, laidKinds := [.data, .handle, .pinned], laidTests := true, laidLooks := .later }
def TagTellsUptoCardSaid : Prop := Claim7.holds Tryd.pinned (.plain (OpenSpec.upto tagTellsSpec)) tagTellsUptoCard

/-- THE SECOND FORM's CARD OF 'linguisterlaw1.TagBack'. -/
def tagBackUptoCard : Claim7 := { stood := { row := tagBackUptoRow, standIns := [], harness := (true, "d72304e4ed5c1ac41666a0da6411fdb4b319aa95575eb2521976c36dfc25915f"), looks := true }, kinds := [], alts := [], laidByText := true, laidKinds := [.data, .pinned], laidTests := true, laidLooks := .later }
def TagBackUptoCardSaid : Prop := Claim7.holds Tryd.pinned (.plain (OpenSpec.upto tagBackSpec)) tagBackUptoCard

/-- THE SECOND FORM's CARD OF 'linguisterlaw6.TagShort'. -/
def tagShortUptoCard : Claim7 := { stood := { row := tagShortUptoRow, standIns := [], harness := (true, "d72304e4ed5c1ac41666a0da6411fdb4b319aa95575eb2521976c36dfc25915f"), looks := true }, kinds := [], alts := [], laidByText := true, laidKinds := [.data, .pinned], laidTests := true, laidLooks := .later }
def TagShortUptoCardSaid : Prop := Claim7.holds Tryd.pinned (.plain (OpenSpec.upto tagShortSpec)) tagShortUptoCard
end Rows
end Go.Proofs.YtmildcdcfnccaaaDoor
