/- What a row's list gives of the variables that strconv's and strings' functions read. -/
import Derived.Test.YtehocgemgdbikaaGreatDoorPow10
import Derived.Test.YtehocgemgdbikaaGreatDoorStrc
import Derived.Test.YtehocgemgdbikaaGreatDoorNoProgRead
namespace Go.Proofs.YtehocgemgdbikaaGreatDoor
namespace No
open Go.ChangeShapes Go.WideShapes Go.ChangeAt Go.RowKit D

theorem renv_of {W : World} {l : List (String × DataW Unit)} (h : laidMet Tryz.prog l W) (hS : W.ShapedOpen Tryz.prog)
    (e0 : (l.filter fun x => x.1 == "internal/strconv.uint64pow10") = [("internal/strconv.uint64pow10", Rows.laid_internal_strconv_uint64pow10)])
    (e1 : (l.filter fun x => x.1 == "strconv.ErrRange") = [("strconv.ErrRange", Rows.laid_strconv_ErrRange)])
    (e2 : (l.filter fun x => x.1 == "strconv.ErrSyntax") = [("strconv.ErrSyntax", Rows.laid_strconv_ErrSyntax)]) : REnv W := by
  have h4 := h.filter fun x => x.1 == "strconv.ErrRange"
  have h5 := h.filter fun x => x.1 == "strconv.ErrSyntax"
  rw [e1] at h4
  rw [e2] at h5
  obtain ⟨a, _, f1, _⟩ := laid_sentinel h4 rngGlobal rngType Tryz.underlying34 errRow Tryz.underlying180 Tryz.underlying182 rfl rfl Tryz.underlying9 errCells strCells
  obtain ⟨b, _, f2, _⟩ := laid_sentinel h5 synGlobal synType Tryz.underlying34 errRow Tryz.underlying180 Tryz.underlying182 rfl rfl Tryz.underlying9 errCells strCells
  exact ⟨⟨pow_of h e0, holds_of synGlobal f2, holds_of rngGlobal f1⟩, Tryz.laysM143.s1_3 W hS⟩
end No
end Go.Proofs.YtehocgemgdbikaaGreatDoor
