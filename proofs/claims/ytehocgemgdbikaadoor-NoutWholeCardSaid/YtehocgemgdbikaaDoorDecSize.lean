/- The reference's Size of a number. -/
import Derived.Test.YtehocgemgdbikaaDoorDecWord
namespace Go.Proofs.YtehocgemgdbikaaDoor
namespace D
open Go.RowKit

theorem refSize_any (n : Int) (w : World) (h0 : -1000000000000000000 ≤ n) (h1 : n ≤ 1000000000000000000) : Calls Tryd.prog 11 #[.int .i64 n] w fun e w' => e = .returned (.int .i64 n.natAbs) ∧ w = w' := by
  by_cases h : n < 0
  all_goals
    go_enter Tryd.func11, Tryd.ntmps11
    go_wp2
    go_ret
    exact ⟨ret_int (by omega), rfl⟩
end D
end Go.Proofs.YtehocgemgdbikaaDoor
