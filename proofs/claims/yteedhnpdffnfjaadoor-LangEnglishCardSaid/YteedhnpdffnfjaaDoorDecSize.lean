/- The reference's Size of a number. -/
import Derived.Test.YteedhnpdffnfjaaDoorDecGround
namespace Go.Proofs.YteedhnpdffnfjaaDoor
namespace D
open Go.RowKit

theorem refSize_any (n : Int) (w : World) (h0 : -1000000000000000000 ≤ n) (h1 : n ≤ 1000000000000000000) : Calls Tryd.prog 13 #[.int .i64 n] w fun e w' => e = .returned (.int .i64 n.natAbs) ∧ w = w' := by
  by_cases h : n < 0
  all_goals
    go_enter Tryd.func13, Tryd.ntmps13
    go_wp2
    go_ret
    exact ⟨ret_int (by omega), rfl⟩
end D
end Go.Proofs.YteedhnpdffnfjaaDoor
