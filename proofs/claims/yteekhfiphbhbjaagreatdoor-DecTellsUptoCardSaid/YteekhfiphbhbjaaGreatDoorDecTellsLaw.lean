/- The law DecTells, and what its row's list gives of strconv's table and errors. -/
import Derived.Test.YteekhfiphbhbjaaGreatDoorDecTellsWalk
import Derived.Test.YteekhfiphbhbjaaGreatDoorDecLaidStr
namespace Go.Proofs.YteekhfiphbhbjaaGreatDoor
namespace D
open Go.ChangeShapes Go.WideShapes Go.ChangeAt Go.RowKit
theorem strc_of_both {W : World} {l : List (String × DataW Unit)} {d32 d64 : DataW Unit} (h : laidMet Tryz.prog (l.filter fun x => x.2.handleName?.isNone) W)
    (e : (l.filter fun x => x.2.handleName?.isNone) = [("math/bits.deBruijn32tab", d32), ("math/bits.deBruijn64tab", d64), ("internal/strconv.uint64pow10", Rows.laid_internal_strconv_uint64pow10), ("strconv.ErrRange", Rows.laid_strconv_ErrRange), ("strconv.ErrSyntax", Rows.laid_strconv_ErrSyntax)]) : Strc W := by
  rw [e] at h
  exact strc_of h
end D
end Go.Proofs.YteekhfiphbhbjaaGreatDoor
