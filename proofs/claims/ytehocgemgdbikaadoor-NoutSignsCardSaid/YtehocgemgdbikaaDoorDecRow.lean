/- What the rows of the laws on decimals share: an argument that is a number, opened. -/
import Derived.Test.YtehocgemgdbikaaDoorRows
import Derived.Test.YtehocgemgdbikaaDoorDecFacts
import Derived.Test.YtehocgemgdbikaaDoorRowText
import Derived.OpenShut
import Derived.ProofKit
import Derived.SliceStrings
import Derived.Lib.SmallJoins
import Derived.SizedLaws
import Derived.Below
import Derived.ChangeSame
import Derived.Carry
import Derived.Deep.DeepHandedRow
import Derived.Lib.LaidTab
namespace Go.Proofs.YtehocgemgdbikaaDoor
namespace D
open Go.ChangeShapes Go.WideShapes Go.RowKit

section
variable {H : Type} {enc : TypeId × Value → H}
/-- a number's fields, as the program's types have them -/
def decFields : Array Field := #[⟨ "Coef", 3, 0, false, "", "", 0⟩, ⟨ "Scale", 3, 1, false, "", "", 8⟩]
theorem decOne : Deep.oneCellFields Tryd.prog decFields = true := by kernel_rfl
theorem decCells : Tryd.prog.cellsOf 27 = 2 := by kernel_rfl
theorem decUnder : Tryd.prog.underlying 27 = some (.struct decFields) := Tryd.underlying27
set_option maxRecDepth 100000 in
theorem open_dec {W : World} {b0 : Nat} {v : Value} {d : DataW H} {p : List MemPlace} (hv : Value.okWide Tryd.prog W .any b0 27 v) (h : DataW.Trod enc Tryd.prog W 0 (fun _ => true) true 27 v d p) :
    ∃ c s : Int, v = .agg #[.int .i64 c, .int .i64 s] ∧ d = .agg [.lit (.int .i64 c), .lit (.int .i64 s)] := by
  obtain ⟨v0, v1, y0, y1, m, rfl, rfl, rfl, h0, h1⟩ := Joins.open_agg2 decUnder decOne decCells hv h
  obtain ⟨c, e0, hx0, hw0⟩ := DataW.trod_int Tryd.underlying3 h0
  obtain ⟨s, e1, hx1, hw1⟩ := DataW.trod_int Tryd.underlying3 h1
  injection e0 with e0 _; injection e1 with e1 _
  subst e0; subst e1
  exact ⟨c, s, rfl, by rw [hx0, hx1]⟩
end
end D
end Go.Proofs.YtehocgemgdbikaaDoor
