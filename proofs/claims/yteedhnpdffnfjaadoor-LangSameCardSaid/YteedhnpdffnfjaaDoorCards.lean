/-
  DERIVED. GIVEN WITH THE SEED: THE CARDS: each row of YteedhnpdffnfjaaDoorRows.lean that lists a variable, with what it lists TIED to the program's text (the seventh form; the later family's looks); each row that meets fmt, with fmt's text TOLD by the authors' own Lean function (tested against real Go, not proved from fmt's source: count such statements apart). THE CARD IS WHAT COUNTS. Prove the row's statement (the work); the ties are given (YteedhnpdffnfjaaDoorTie.lean); close each card by the builder's one call (the guide's Derived/Test/ToyasCard.lean, 'card_holds'). Laid BY PROGRAM, IN A SANDBOX (cutbox-door.mjs). By AI agents, Wed Nov 11 2026. No macro, syntax, notation, axiom, sorry.
-/
import Derived.Test.YteedhnpdffnfjaaDoorRows
import GoSem.ClaimSeven
namespace Go.Proofs.YteedhnpdffnfjaaDoor
namespace Rows

/-- THE TIED CARD OF 'linguisterlaw1.LangTells'. -/
def langTellsCard : Claim7 := { stood := { row := langTellsRow, standIns := [], harness := (true, "fb35606cd5a3e197199a018a76343d16c15b31957df08e7b2344f2aa31153b0a"), looks := true }, kinds := [], alts := [], laidByText := true, laidKinds := [.handle], laidTests := true, laidLooks := .later }
def LangTellsCardSaid : Prop := Claim7.holds Tryd.pinned (.plain (OpenSpec.ofChange langTellsSpec)) langTellsCard

/-- THE TIED CARD OF 'linguisterlaw1.LangSlavic'. -/
def langSlavicCard : Claim7 := { stood := { row := langSlavicRow, standIns := [], harness := (true, "fb35606cd5a3e197199a018a76343d16c15b31957df08e7b2344f2aa31153b0a"), looks := true }, kinds := [], alts := [], laidByText := true, laidKinds := [.data, .data, .data, .data, .sentinel, .sentinel, .data, .pinned], laidTests := true, laidLooks := .later }
def LangSlavicCardSaid : Prop := Claim7.holds Tryd.pinned (.plain (OpenSpec.ofChange langSlavicSpec)) langSlavicCard

/-- THE TIED CARD OF 'linguisterlaw1.LangArabic'. -/
def langArabicCard : Claim7 := { stood := { row := langArabicRow, standIns := [], harness := (true, "fb35606cd5a3e197199a018a76343d16c15b31957df08e7b2344f2aa31153b0a"), looks := true }, kinds := [], alts := [], laidByText := true, laidKinds := [.data, .data, .data, .data, .sentinel, .sentinel, .data, .pinned], laidTests := true, laidLooks := .later }
def LangArabicCardSaid : Prop := Claim7.holds Tryd.pinned (.plain (OpenSpec.ofChange langArabicSpec)) langArabicCard

/-- THE TIED CARD OF 'linguisterlaw1.LangEnglish'. -/
def langEnglishCard : Claim7 := { stood := { row := langEnglishRow, standIns := [], harness := (true, "fb35606cd5a3e197199a018a76343d16c15b31957df08e7b2344f2aa31153b0a"), looks := true }, kinds := [], alts := [], laidByText := true, laidKinds := [.data, .data, .data, .data, .sentinel, .sentinel, .data, .pinned], laidTests := true, laidLooks := .later }
def LangEnglishCardSaid : Prop := Claim7.holds Tryd.pinned (.plain (OpenSpec.ofChange langEnglishSpec)) langEnglishCard

/-- THE TIED CARD OF 'linguisterlaw6.LangSame'. -/
def langSameCard : Claim7 := { stood := { row := langSameRow, standIns := [], harness := (true, "fb35606cd5a3e197199a018a76343d16c15b31957df08e7b2344f2aa31153b0a"), looks := true }, kinds := [], alts := [], laidByText := true, laidKinds := [.data, .data, .data, .data, .sentinel, .sentinel, .data, .pinned], laidTests := true, laidLooks := .later }
def LangSameCardSaid : Prop := Claim7.holds Tryd.pinned (.plain (OpenSpec.ofChange langSameSpec)) langSameCard

/-- THE SECOND FORM's CARD OF 'linguisterlaw1.LangTells'. -/
def langTellsUptoCard : Claim7 := { stood := { row := langTellsUptoRow, standIns := [], harness := (true, "fb35606cd5a3e197199a018a76343d16c15b31957df08e7b2344f2aa31153b0a"), looks := true }, kinds := [], alts := [], laidByText := true, laidKinds := [.handle], laidTests := true, laidLooks := .later }
def LangTellsUptoCardSaid : Prop := Claim7.holds Tryd.pinned (.plain (OpenSpec.upto langTellsSpec)) langTellsUptoCard

/-- THE SECOND FORM's CARD OF 'linguisterlaw1.LangSlavic'. -/
def langSlavicUptoCard : Claim7 := { stood := { row := langSlavicUptoRow, standIns := [], harness := (true, "fb35606cd5a3e197199a018a76343d16c15b31957df08e7b2344f2aa31153b0a"), looks := true }, kinds := [], alts := [], laidByText := true, laidKinds := [.data, .data, .data, .data, .sentinel, .sentinel, .data, .pinned], laidTests := true, laidLooks := .later }
def LangSlavicUptoCardSaid : Prop := Claim7.holds Tryd.pinned (.plain (OpenSpec.upto langSlavicSpec)) langSlavicUptoCard

/-- THE SECOND FORM's CARD OF 'linguisterlaw1.LangArabic'. -/
def langArabicUptoCard : Claim7 := { stood := { row := langArabicUptoRow, standIns := [], harness := (true, "fb35606cd5a3e197199a018a76343d16c15b31957df08e7b2344f2aa31153b0a"), looks := true }, kinds := [], alts := [], laidByText := true, laidKinds := [.data, .data, .data, .data, .sentinel, .sentinel, .data, .pinned], laidTests := true, laidLooks := .later }
def LangArabicUptoCardSaid : Prop := Claim7.holds Tryd.pinned (.plain (OpenSpec.upto langArabicSpec)) langArabicUptoCard

/-- THE SECOND FORM's CARD OF 'linguisterlaw1.LangEnglish'. -/
def langEnglishUptoCard : Claim7 := { stood := { row := langEnglishUptoRow, standIns := [], harness := (true, "fb35606cd5a3e197199a018a76343d16c15b31957df08e7b2344f2aa31153b0a"), looks := true }, kinds := [], alts := [], laidByText := true, laidKinds := [.data, .data, .data, .data, .sentinel, .sentinel, .data, .pinned], laidTests := true, laidLooks := .later }
def LangEnglishUptoCardSaid : Prop := Claim7.holds Tryd.pinned (.plain (OpenSpec.upto langEnglishSpec)) langEnglishUptoCard

/-- THE SECOND FORM's CARD OF 'linguisterlaw6.LangSame'. -/
def langSameUptoCard : Claim7 := { stood := { row := langSameUptoRow, standIns := [], harness := (true, "fb35606cd5a3e197199a018a76343d16c15b31957df08e7b2344f2aa31153b0a"), looks := true }, kinds := [], alts := [], laidByText := true, laidKinds := [.data, .data, .data, .data, .sentinel, .sentinel, .data, .pinned], laidTests := true, laidLooks := .later }
def LangSameUptoCardSaid : Prop := Claim7.holds Tryd.pinned (.plain (OpenSpec.upto langSameSpec)) langSameUptoCard
end Rows
end Go.Proofs.YteedhnpdffnfjaaDoor
