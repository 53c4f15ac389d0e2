/- Whether a scale or a coefficient fits; a power of ten and the next one; a call in a region that draws. And what follows from it. -/
import Derived.Test.YteedhnpdffnfjaaDoorProg
import Derived.Test.YteedhnpdffnfjaaDoorDecFacts
import Derived.WalkKit
import Derived.WalkSpells
import Derived.Lib.Hide
import Derived.Lib.Small
import Derived.BigQuiet
import Derived.Outline
import Derived.Below
import Derived.IntWalk
import Derived.RegionTactic
import Derived.Deep.QuietTactic
import Derived.Deep.Draws
import Derived.Test.YteedhnpdffnfjaaDoorGround
namespace Go.Proofs.YteedhnpdffnfjaaDoor
namespace D
open Go.RowKit

theorem ret_bool {a b : Bool} (h : a = b) : Ending.returned (.bool a) = .returned (.bool b) := by rw [h]
theorem ret_int {a b : Int} (h : a = b) : Ending.returned (.int .i64 a) = .returned (.int .i64 b) := by rw [h]

theorem scaleFits_any (s : Int) (w : World) : Calls Tryd.prog 20 #[.int .i64 s] w fun e w' => e = .returned (.bool (decide (0 ≤ s ∧ s ≤ 9))) ∧ w = w' := by
  by_cases h1 : 0 ≤ s <;> by_cases h2 : s ≤ 9
  all_goals
    go_enter Tryd.func20, Tryd.ntmps20
    go_wp2
    go_ret
    exact ⟨ret_bool (by simp [h1, h2]), rfl⟩
theorem coefFits_any (c : Int) (w : World) : Calls Tryd.prog 21 #[.int .i64 c] w fun e w' => e = .returned (.bool (decide (-1000000000000000 ≤ c ∧ c ≤ 1000000000000000))) ∧ w = w' := by
  by_cases h1 : -1000000000000000 ≤ c <;> by_cases h2 : c ≤ 1000000000000000
  all_goals
    go_enter Tryd.func21, Tryd.ntmps21
    go_wp2
    go_ret
    exact ⟨ret_bool (by simp [h1, h2]), rfl⟩
theorem ten_nat (k : Nat) : ten (k : Int) = 10 ^ k := rfl
theorem ten_next (k : Nat) : ten ((k + 1 : Nat) : Int) = ten k * 10 := by rw [ten_nat, ten_nat, Int.pow_succ]
/-- the world is as it was but for draws -/
def Drawn (w : World) (v : Value) (e : Ending) (w' : World) : Prop := e = .returned v ∧ ∃ d, w.drewN d = w'
theorem quiet_same {f : Nat} {args : Array Value} {v : Value} (h : ∀ W : World, Calls Tryd.prog f args W fun e w' => e = .returned v ∧ W = w') (w : World) (n : Nat) :
    Calls Tryd.prog f args (w.drewN n) fun e w'' => e = .returned v ∧ ∃ m, w'' = w.drewN m :=
  (h (w.drewN n)).mono fun _ _ ⟨he, hw⟩ => ⟨he, n, hw.symm⟩
end D
end Go.Proofs.YteedhnpdffnfjaaDoor

/- The program's Check of a number, and whether two fit: what is wrong is told; what lay in memory stays as it was. -/
namespace Go.Proofs.YteedhnpdffnfjaaDoor
namespace D
open Go.RowKit

/-- a number as a value, and the cells of its box -/
def decV (c s : Int) : Value := .agg #[.int .i64 c, .int .i64 s]
abbrev box (c s : Int) : Obj := .cells #[.int .i64 c, .int .i64 s] 36
def faultD (c s : Int) : Nat := if Right c s then 0 else 1
theorem fault_ok {c s : Int} (h : Right c s) : faultD c s = 0 := if_pos h
theorem fault_no {c s : Int} (h : ¬ Right c s) : faultD c s = 1 := if_neg h

theorem check_any (c s : Int) (w : World) : Calls Tryd.prog 12 #[.agg #[.int .i64 c, .int .i64 s]] w (Gives w (errV (faultD c s))) := by
  have hb : Below w.heap.size w (w.alloc (box c s)) := up_alloc (Below.refl _ _) _
  by_cases h1 : 0 ≤ s ∧ s ≤ 9 <;> by_cases h2 : -1000000000000000 ≤ c ∧ c ≤ 1000000000000000
  all_goals
    have C1 := Lib.hid fun W => scaleFits_any s W
    have C2 := Lib.hid fun W => coefFits_any c W
    simp only [h1, h2] at C1 C2
    first
      | rw [fault_ok (by unfold Right; omega)]
      | rw [fault_no (by unfold Right; omega)]
    clear h1 h2
    go_enter Tryd.func12, Tryd.ntmps12
    go_wp2_with (first
      | (go_at_call 20; (with_reducible refine (C1.out _).mono ?_); rintro e w' ⟨rfl, rfl⟩)
      | (go_at_call 21; (with_reducible refine (C2.out _).mono ?_); rintro e w' ⟨rfl, rfl⟩))
    go_ret
    exact ⟨rfl, hb⟩
end D
end Go.Proofs.YteedhnpdffnfjaaDoor
