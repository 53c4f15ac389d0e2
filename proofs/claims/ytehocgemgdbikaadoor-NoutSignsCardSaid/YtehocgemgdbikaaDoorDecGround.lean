/- The program's Check of a number, and whether a scale or a coefficient fits: what is wrong is told; what lay in memory stays as it was. -/
import Derived.Test.YtehocgemgdbikaaDoorDecWord
namespace Go.Proofs.YtehocgemgdbikaaDoor
namespace D
open Go.RowKit

theorem scaleFits_any (s : Int) (w : World) : Calls Tryd.prog 28 #[.int .i64 s] w fun e w' => e = .returned (.bool (decide (0 ≤ s ∧ s ≤ 9))) ∧ w = w' := by
  by_cases h1 : 0 ≤ s <;> by_cases h2 : s ≤ 9
  all_goals
    go_enter Tryd.func28, Tryd.ntmps28
    go_wp2
    go_ret
    exact ⟨ret_bool (by simp [h1, h2]), rfl⟩
theorem coefFits_any (c : Int) (w : World) : Calls Tryd.prog 43 #[.int .i64 c] w fun e w' => e = .returned (.bool (decide (-1000000000000000 ≤ c ∧ c ≤ 1000000000000000))) ∧ w = w' := by
  by_cases h1 : -1000000000000000 ≤ c <;> by_cases h2 : c ≤ 1000000000000000
  all_goals
    go_enter Tryd.func43, Tryd.ntmps43
    go_wp2
    go_ret
    exact ⟨ret_bool (by simp [h1, h2]), rfl⟩
theorem check_any (c s : Int) (w : World) : Calls Tryd.prog 27 #[.agg #[.int .i64 c, .int .i64 s]] w (Gives w (errV (faultD c s))) := by
  have hb : Below w.heap.size w (w.alloc (box c s)) := up_alloc (Below.refl _ _) _
  by_cases h1 : 0 ≤ s ∧ s ≤ 9 <;> by_cases h2 : -1000000000000000 ≤ c ∧ c ≤ 1000000000000000
  all_goals
    have C1 := Lib.hid fun W => scaleFits_any s W
    have C2 := Lib.hid fun W => coefFits_any c W
    simp only [h1, h2] at C1 C2
    first
      | rw [fault_ok (by unfold Right; omega)]
      | rw [fault_no (by unfold Right; omega)]
    clear h1 h2
    go_enter Tryd.func27, Tryd.ntmps27
    go_wp2_with (first
      | (go_at_call 28; (with_reducible refine (C1.out _).mono ?_); rintro e w' ⟨rfl, rfl⟩)
      | (go_at_call 43; (with_reducible refine (C2.out _).mono ?_); rintro e w' ⟨rfl, rfl⟩))
    go_ret
    exact ⟨rfl, hb⟩
end D
end Go.Proofs.YtehocgemgdbikaaDoor
