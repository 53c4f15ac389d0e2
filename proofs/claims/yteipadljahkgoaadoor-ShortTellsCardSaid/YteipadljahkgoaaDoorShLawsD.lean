/- The law ShortTells, of this program's Text and Parts. -/
import Derived.Test.YteipadljahkgoaaDoorShTellsWalk
import Derived.Test.YteipadljahkgoaaDoorShProg
namespace Go.Proofs.YteipadljahkgoaaDoor
namespace Sh
open Go.RowKit D Ru
theorem tells_law (n u : Int) (w : World) (hg : ErrType w) (hP : Pow w) : Calls Tryd.prog 3 #[.int .i64 n, .int .i64 u] w (TrueB w) := tells_any n u w (text_ok w hP) (parts_ok w) hg
end Sh
end Go.Proofs.YteipadljahkgoaaDoor
