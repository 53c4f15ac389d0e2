/- The law OpsTen, of this program's table. -/
import Derived.Test.YteedhnpdffnfjaaGreatDoorLaProg
import Derived.Test.YteedhnpdffnfjaaGreatDoorLaTenWalk
namespace Go.Proofs.YteedhnpdffnfjaaGreatDoor
namespace Ru
open Go.RowKit Go.Maps D

theorem ten_law (c s : Int) (w : World) (h : Env w ∧ Names w) : Calls Tryz.prog 3 #[.agg #[.int .i64 c, .int .i64 s]] w (TrueB w) := opsTen_any c s w (rules_ok w) h.1 h.2
end Ru
end Go.Proofs.YteedhnpdffnfjaaGreatDoor
