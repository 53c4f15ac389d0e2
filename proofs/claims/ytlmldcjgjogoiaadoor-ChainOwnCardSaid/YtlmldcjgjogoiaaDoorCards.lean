/-
  DERIVED. GIVEN WITH THE SEED: THE CARDS: each row of YtlmldcjgjogoiaaDoorRows.lean that lists a variable, with what it lists TIED to the program's text (the seventh form; the later family's looks); each row that meets fmt, with fmt's text TOLD by the authors' own Lean function (tested against real Go, not proved from fmt's source: count such statements apart). THE CARD IS WHAT COUNTS. Prove the row's statement (the work); the ties are given (YtlmldcjgjogoiaaDoorTie.lean); close each card by the builder's one call (the guide's Derived/Test/ToyasCard.lean, 'card_holds'). Laid BY PROGRAM, IN A SANDBOX (cutbox-door.mjs). By AI agents, Wed Nov 11 2026. No macro, syntax, notation, axiom, sorry.
-/
import Derived.Test.YtlmldcjgjogoiaaDoorRows
import GoSem.ClaimSeven
namespace Go.Proofs.YtlmldcjgjogoiaaDoor
namespace Rows

/-- THE TIED CARD OF 'linguisterlaw1.ChainTells'. -/
def chainTellsCard : Claim7 := { stood := { row := chainTellsRow, standIns := [], harness := (true, "b13d87c7317a5662c78d4d98d06d20c44037371d29743027246d663bbe311d5f"), looks := true }, kinds := [], alts := [], laidByText := true, laidKinds := [.data, .handle, .pinned], laidTests := true, laidLooks := .later }
def ChainTellsCardSaid : Prop := Claim7.holds Tryd.pinned (.plain (OpenSpec.ofChange chainTellsSpec)) chainTellsCard

/-- THE TIED CARD OF 'linguisterlaw1.ChainShort'. -/
def chainShortCard : Claim7 := { stood := { row := chainShortRow, standIns := [], harness := (true, "b13d87c7317a5662c78d4d98d06d20c44037371d29743027246d663bbe311d5f"), looks := true }, kinds := [], alts := [], laidByText := true, laidKinds := [.data, .pinned], laidTests := true, laidLooks := .later }
def ChainShortCardSaid : Prop := Claim7.holds Tryd.pinned (.plain (OpenSpec.ofChange chainShortSpec)) chainShortCard

/-- THE TIED CARD OF 'linguisterlaw1.ChainOrder'. -/
def chainOrderCard : Claim7 := { stood := { row := chainOrderRow, standIns := [], harness := (true, "b13d87c7317a5662c78d4d98d06d20c44037371d29743027246d663bbe311d5f"), looks := true }, kinds := [], alts := [], laidByText := true, laidKinds := [.data, .pinned], laidTests := true, laidLooks := .later }
def ChainOrderCardSaid : Prop := Claim7.holds Tryd.pinned (.plain (OpenSpec.ofChange chainOrderSpec)) chainOrderCard

/-- THE TIED CARD OF 'linguisterlaw5.ChainOwn'. -/
def chainOwnCard : Claim7 := { stood := { row := chainOwnRow, standIns := [], harness := (true, "b13d87c7317a5662c78d4d98d06d20c44037371d29743027246d663bbe311d5f"), looks := true }, kinds := [], alts := [], laidByText := true, laidKinds := [.data, .pinned], laidTests := true, laidLooks := .later }
def ChainOwnCardSaid : Prop := Claim7.holds Tryd.pinned (.plain (OpenSpec.ofChange chainOwnSpec)) chainOwnCard

/-- THE TIED CARD OF 'linguisterlaw6.ChainEnds'. -/
def chainEndsCard : Claim7 := { stood := { row := chainEndsRow, standIns := [], harness := (true, "b13d87c7317a5662c78d4d98d06d20c44037371d29743027246d663bbe311d5f"), looks := true }, kinds := [], alts := [], laidByText := true, laidKinds := [.data, .pinned], laidTests := true, laidLooks := .later }
def ChainEndsCardSaid : Prop := Claim7.holds Tryd.pinned (.plain (OpenSpec.ofChange chainEndsSpec)) chainEndsCard

/-- THE SECOND FORM's CARD OF 'linguisterlaw1.ChainTells'. -/
def chainTellsUptoCard : Claim7 := { stood := { row := chainTellsUptoRow, standIns := [], harness := (true, "b13d87c7317a5662c78d4d98d06d20c44037371d29743027246d663bbe311d5f"), looks := true }, kinds := [], alts := [], laidByText := true, laidKinds := [.data, .handle, .pinned], laidTests := true, laidLooks := .later }
def ChainTellsUptoCardSaid : Prop := Claim7.holds Tryd.pinned (.plain (OpenSpec.upto chainTellsSpec)) chainTellsUptoCard

/-- THE SECOND FORM's CARD OF 'linguisterlaw1.ChainShort'. -/
def chainShortUptoCard : Claim7 := { stood := { row := chainShortUptoRow, standIns := [], harness := (true, "b13d87c7317a5662c78d4d98d06d20c44037371d29743027246d663bbe311d5f"), looks := true }, kinds := [], alts := [], laidByText := true, laidKinds := [.data, .pinned], laidTests := true, laidLooks := .later }
def ChainShortUptoCardSaid : Prop := Claim7.holds Tryd.pinned (.plain (OpenSpec.upto chainShortSpec)) chainShortUptoCard

/-- THE SECOND FORM's CARD OF 'linguisterlaw1.ChainOrder'. -/
def chainOrderUptoCard : Claim7 := { stood := { row := chainOrderUptoRow, standIns := [], harness := (true, "b13d87c7317a5662c78d4d98d06d20c44037371d29743027246d663bbe311d5f"), looks := true }, kinds := [], alts := [], laidByText := true, laidKinds := [.data, .pinned], laidTests := true, laidLooks := .later }
def ChainOrderUptoCardSaid : Prop := Claim7.holds Tryd.pinned (.plain (OpenSpec.upto chainOrderSpec)) chainOrderUptoCard

/-- THE SECOND FORM's CARD OF 'linguisterlaw5.ChainOwn'. -/
def chainOwnUptoCard : Claim7 := { stood := { row := chainOwnUptoRow, standIns := [], harness := (true, "b13d87c7317a5662c78d4d98d06d20c44037371d29743027246d663bbe311d5f"), looks := true }, kinds := [], alts := [], laidByText := true, laidKinds := [.data, .pinned], laidTests := true, laidLooks := .later }
def ChainOwnUptoCardSaid : Prop := Claim7.holds Tryd.pinned (.plain (OpenSpec.upto chainOwnSpec)) chainOwnUptoCard

/-- THE SECOND FORM's CARD OF 'linguisterlaw6.ChainEnds'. -/
def chainEndsUptoCard : Claim7 := { stood := { row := chainEndsUptoRow, standIns := [], harness := (true, "b13d87c7317a5662c78d4d98d06d20c44037371d29743027246d663bbe311d5f"), looks := true }, kinds := [], alts := [], laidByText := true, laidKinds := [.data, .pinned], laidTests := true, laidLooks := .later }
def ChainEndsUptoCardSaid : Prop := Claim7.holds Tryd.pinned (.plain (OpenSpec.upto chainEndsSpec)) chainEndsUptoCard
end Rows
end Go.Proofs.YtlmldcjgjogoiaaDoor
