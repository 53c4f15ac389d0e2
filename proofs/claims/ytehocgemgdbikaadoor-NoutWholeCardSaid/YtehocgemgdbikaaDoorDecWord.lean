/- A number as a value, and the cells of its box; powers of ten. Nothing of the program stands here. -/
import Derived.Test.YtehocgemgdbikaaDoorProg
import Derived.Test.YtehocgemgdbikaaDoorDecFacts
import Derived.WalkKit
import Derived.WalkSpells
import Derived.Lib.Hide
import Derived.Lib.Small
import Derived.BigQuiet
import Derived.Outline
import Derived.Below
import Derived.IntWalk
import Derived.RegionTactic
import Derived.Deep.QuietTactic
import Derived.Deep.Draws
import Derived.Test.YtehocgemgdbikaaDoorGround
namespace Go.Proofs.YtehocgemgdbikaaDoor
namespace D
open Go.RowKit

theorem ret_int {a b : Int} (h : a = b) : Ending.returned (.int .i64 a) = .returned (.int .i64 b) := by rw [h]
theorem ten_nat (k : Nat) : ten (k : Int) = 10 ^ k := rfl
theorem ten_next (k : Nat) : ten ((k + 1 : Nat) : Int) = ten k * 10 := by rw [ten_nat, ten_nat, Int.pow_succ]
/-- a number as a value, and the cells of its box -/
def decV (c s : Int) : Value := .agg #[.int .i64 c, .int .i64 s]
abbrev box (c s : Int) : Obj := .cells #[.int .i64 c, .int .i64 s] 27
def faultD (c s : Int) : Nat := if Right c s then 0 else 1
theorem fault_ok {c s : Int} (h : Right c s) : faultD c s = 0 := if_pos h
theorem fault_no {c s : Int} (h : ¬ Right c s) : faultD c s = 1 := if_neg h
end D
end Go.Proofs.YtehocgemgdbikaaDoor
