/- The program's Check of a number, and whether two fit: what is wrong is told; what lay in memory stays as it was. -/
import Derived.Test.YtppnfjapalilfaaDoorDecBase
namespace Go.Proofs.YtppnfjapalilfaaDoor
namespace D
open Go.RowKit

/-- an error by its number -/
def errV (k : Nat) : Value := if k = 0 then .nilIface else .iface 30 (.int .i64 k)
theorem errV_zero : errV 0 = .nilIface := rfl
theorem errV_one : errV 1 = .iface 30 (.int .i64 1) := rfl
theorem errV_three : errV 3 = .iface 30 (.int .i64 3) := rfl
theorem errV_succ (k : Nat) : errV (k + 1) = .iface 30 (.int .i64 ((k + 1 : Nat) : Int)) := rfl
/-- a number as a value, and the cells of its box -/
def decV (c s : Int) : Value := .agg #[.int .i64 c, .int .i64 s]
abbrev box (c s : Int) : Obj := .cells #[.int .i64 c, .int .i64 s] 23
/-- a value is returned, and what lay in memory stays as it was -/
def Gives (w : World) (v : Value) (e : Ending) (w' : World) : Prop := e = .returned v ∧ Below w.heap.size w w'
def faultD (c s : Int) : Nat := if Right c s then 0 else 1
theorem fault_ok {c s : Int} (h : Right c s) : faultD c s = 0 := if_pos h
theorem fault_no {c s : Int} (h : ¬ Right c s) : faultD c s = 1 := if_neg h
theorem up_alloc {w wx : World} (h : Below w.heap.size w wx) (o : Obj) : Below w.heap.size w (wx.alloc o) := h.alloc h.size o
theorem up_call {w wx wy : World} (h : Below w.heap.size w wx) (hb : Below wx.heap.size wx wy) : Below w.heap.size w wy := h.trans (hb.mono h.size)
theorem up_drewN {w wx : World} (h : Below w.heap.size w wx) (n : Nat) : Below w.heap.size w (wx.drewN n) := h.trans ⟨rfl, rfl, rfl, by simp, fun _ _ => by simp⟩

theorem check_any (c s : Int) (w : World) : Calls Tryd.prog 8 #[.agg #[.int .i64 c, .int .i64 s]] w (Gives w (errV (faultD c s))) := by
  have hb : Below w.heap.size w (w.alloc (box c s)) := up_alloc (Below.refl _ _) _
  by_cases h1 : 0 ≤ s ∧ s ≤ 9 <;> by_cases h2 : -1000000000000000 ≤ c ∧ c ≤ 1000000000000000
  all_goals
    have C1 := Lib.hid fun W => scaleFits_any s W
    have C2 := Lib.hid fun W => coefFits_any c W
    simp only [h1, h2] at C1 C2
    first
      | rw [fault_ok (by unfold Right; omega)]
      | rw [fault_no (by unfold Right; omega)]
    clear h1 h2
    go_enter Tryd.func8, Tryd.ntmps8
    go_wp2_with (first
      | (go_at_call 13; (with_reducible refine (C1.out _).mono ?_); rintro e w' ⟨rfl, rfl⟩)
      | (go_at_call 14; (with_reducible refine (C2.out _).mono ?_); rintro e w' ⟨rfl, rfl⟩))
    go_ret
    exact ⟨rfl, hb⟩
end D
end Go.Proofs.YtppnfjapalilfaaDoor
