/- What a row's list gives of the table of powers that strconv.Itoa reads. -/
import Derived.Test.YtehocgemgdbikaaDoorRowText
import Derived.Test.YtehocgemgdbikaaDoorPow10
import Derived.LaidSub
import Derived.Lib.LaidTab
namespace Go.Proofs.YtehocgemgdbikaaDoor
namespace D
open Go.ChangeShapes Go.WideShapes Go.ChangeAt Go.RowKit

theorem powGlobal : Tryd.prog.globalNamed "internal/strconv.uint64pow10" = some 1 := by kernel_rfl
theorem powType : (Tryd.prog.globals[1]?).map (·.type) = some 113 := by kernel_rfl
theorem powCells : Tryd.prog.cellsOf 113 = 20 := by kernel_rfl
theorem powWord : Tryd.prog.cellsOf 94 = 1 := by kernel_rfl
theorem pow_data {H : Type} : (Rows.laid_internal_strconv_uint64pow10 : DataW H) = Lib.tabData .u64 Lib.pow10Tab := rfl
theorem pow_of {W : World} {l : List (String × DataW Unit)} (h : laidMet Tryd.prog l W)
    (e : (l.filter fun x => x.1 == "internal/strconv.uint64pow10") = [("internal/strconv.uint64pow10", Rows.laid_internal_strconv_uint64pow10)]) : Pow W := by
  have h2 := h.filter fun x => x.1 == "internal/strconv.uint64pow10"
  rw [e, pow_data] at h2
  exact Lib.tabIs_of_head powGlobal powType Tryd.underlying113 Tryd.underlying94 powWord powCells h2
end D
end Go.Proofs.YtehocgemgdbikaaDoor
