/- The laws ShortDigits and ShortRises, of this program's Text and Parts. -/
import Derived.Test.YteipadljahkgoaaDoorShDigitsWalk
import Derived.Test.YteipadljahkgoaaDoorShRisesWalk
import Derived.Test.YteipadljahkgoaaDoorShProg
namespace Go.Proofs.YteipadljahkgoaaDoor
namespace Sh
open Go.RowKit D Ru
theorem digits_law (n : Int) (w : World) (hP : Pow w) : Calls Tryd.prog 4 #[.int .i64 n] w (TrueB w) := digits_any n w (text_ok w hP)
theorem rises_law (n m u : Int) (w : World) (hP : Pow w) : Calls Tryd.prog 5 #[.int .i64 n, .int .i64 m, .int .i64 u] w (TrueB w) := rises_any n m u w (text_ok w hP) (parts_ok w)
end Sh
end Go.Proofs.YteipadljahkgoaaDoor
