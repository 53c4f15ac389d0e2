/- The reference's Size of a number. -/
import Derived.Test.YtehocgemgdbikaaGreatDoorDecWord
namespace Go.Proofs.YtehocgemgdbikaaGreatDoor
namespace D
open Go.RowKit

theorem refSize_any (n : Int) (w : World) (h0 : -1000000000000000000 ≤ n) (h1 : n ≤ 1000000000000000000) : Calls Tryz.prog 25 #[.int .i64 n] w fun e w' => e = .returned (.int .i64 n.natAbs) ∧ w = w' := by
  by_cases h : n < 0
  all_goals
    go_enter Tryz.func25, Tryz.ntmps25
    go_wp2
    go_ret
    exact ⟨ret_int (by omega), rfl⟩
end D
end Go.Proofs.YtehocgemgdbikaaGreatDoor
