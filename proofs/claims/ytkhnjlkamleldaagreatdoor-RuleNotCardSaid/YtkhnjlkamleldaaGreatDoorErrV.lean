/- An error by its number. -/
import Derived.Test.YtkhnjlkamleldaaGreatDoorProg
namespace Go.Proofs.YtkhnjlkamleldaaGreatDoor
namespace D

/-- an error by its number -/
def errV (k : Nat) : Value := if k = 0 then .nilIface else .iface 26 (.int .i64 k)
theorem errV_zero : errV 0 = .nilIface := rfl
theorem errV_one : errV 1 = .iface 26 (.int .i64 1) := rfl
theorem errV_three : errV 3 = .iface 26 (.int .i64 3) := rfl
theorem errV_succ (k : Nat) : errV (k + 1) = .iface 26 (.int .i64 ((k + 1 : Nat) : Int)) := rfl
end D
end Go.Proofs.YtkhnjlkamleldaaGreatDoor
