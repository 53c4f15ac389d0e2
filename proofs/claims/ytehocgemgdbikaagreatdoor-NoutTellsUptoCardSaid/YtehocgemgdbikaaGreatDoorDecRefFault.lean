/- What the reference says is wrong with a number; what lay in memory stays as it was. -/
import Derived.Test.YtehocgemgdbikaaGreatDoorDecWord
namespace Go.Proofs.YtehocgemgdbikaaGreatDoor
namespace D
open Go.RowKit

theorem refFault_any (c s : Int) (w : World) : Calls Tryz.prog 10 #[.agg #[.int .i64 c, .int .i64 s]] w (Gives w (.bool (decide (¬ Right c s)))) := by
  have hb : Below w.heap.size w (w.alloc (box c s)) := up_alloc (Below.refl _ _) _
  rcases (show s < 0 ∨ (0 ≤ s ∧ 9 < s) ∨ (0 ≤ s ∧ s ≤ 9 ∧ c < -1000000000000000) ∨ (0 ≤ s ∧ s ≤ 9 ∧ 1000000000000000 < c) ∨ (0 ≤ s ∧ s ≤ 9 ∧ -1000000000000000 ≤ c ∧ c ≤ 1000000000000000) by omega) with h1 | ⟨h1, h2⟩ | ⟨h1, h2, h3⟩ | ⟨h1, h2, h3⟩ | ⟨h1, h2, h3, h4⟩
  all_goals
    first
      | rw [decide_eq_false (show ¬ ¬ Right c s by unfold Right; omega)]
      | rw [decide_eq_true (show ¬ Right c s by unfold Right; omega)]
    go_enter Tryz.func10, Tryz.ntmps10
    go_wp2_with fail
    go_ret
    first
      | exact ⟨rfl, hb⟩
      | exact ⟨ret_bool (by simp; omega), hb⟩
end D
end Go.Proofs.YtehocgemgdbikaaGreatDoor
