/- Whether a scale or a coefficient fits; a power of ten and the next one; a call in a region that draws. -/
import Derived.Test.YtppnfjapalilfaaDoorProg
import Derived.Test.YtppnfjapalilfaaDoorDecLawMath
import Derived.WalkKit
import Derived.WalkSpells
import Derived.Lib.Hide
import Derived.Lib.Small
import Derived.BigQuiet
import Derived.Outline
import Derived.Below
import Derived.IntWalk
import Derived.RegionTactic
import Derived.Deep.QuietTactic
import Derived.Deep.Draws
namespace Go.Proofs.YtppnfjapalilfaaDoor
namespace D
open Go.RowKit

theorem ret_bool {a b : Bool} (h : a = b) : Ending.returned (.bool a) = .returned (.bool b) := by rw [h]
theorem ret_int {a b : Int} (h : a = b) : Ending.returned (.int .i64 a) = .returned (.int .i64 b) := by rw [h]

theorem scaleFits_any (s : Int) (w : World) : Calls Tryd.prog 13 #[.int .i64 s] w fun e w' => e = .returned (.bool (decide (0 ≤ s ∧ s ≤ 9))) ∧ w = w' := by
  by_cases h1 : 0 ≤ s <;> by_cases h2 : s ≤ 9
  all_goals
    go_enter Tryd.func13, Tryd.ntmps13
    go_wp2
    go_ret
    exact ⟨ret_bool (by simp [h1, h2]), rfl⟩
theorem coefFits_any (c : Int) (w : World) : Calls Tryd.prog 14 #[.int .i64 c] w fun e w' => e = .returned (.bool (decide (-1000000000000000 ≤ c ∧ c ≤ 1000000000000000))) ∧ w = w' := by
  by_cases h1 : -1000000000000000 ≤ c <;> by_cases h2 : c ≤ 1000000000000000
  all_goals
    go_enter Tryd.func14, Tryd.ntmps14
    go_wp2
    go_ret
    exact ⟨ret_bool (by simp [h1, h2]), rfl⟩
theorem ten_nat (k : Nat) : ten (k : Int) = 10 ^ k := rfl
theorem ten_next (k : Nat) : ten ((k + 1 : Nat) : Int) = ten k * 10 := by rw [ten_nat, ten_nat, Int.pow_succ]
/-- the world is as it was but for draws -/
def Drawn (w : World) (v : Value) (e : Ending) (w' : World) : Prop := e = .returned v ∧ ∃ d, w.drewN d = w'
theorem quiet_same {f : Nat} {args : Array Value} {v : Value} (h : ∀ W : World, Calls Tryd.prog f args W fun e w' => e = .returned v ∧ W = w') (w : World) (n : Nat) :
    Calls Tryd.prog f args (w.drewN n) fun e w'' => e = .returned v ∧ ∃ m, w'' = w.drewN m :=
  (h (w.drewN n)).mono fun _ _ ⟨he, hw⟩ => ⟨he, n, hw.symm⟩
end D
end Go.Proofs.YtppnfjapalilfaaDoor
