/- A value is returned, and what lay in memory stays as it was. -/
import Derived.Test.YtkhnjlkamleldaaGreatDoorProg
import Derived.Below
import Derived.WalkKit
import Derived.BigQuiet
import Derived.Deep.Draws
namespace Go.Proofs.YtkhnjlkamleldaaGreatDoor
namespace D
open Go.RowKit

/-- a value is returned, and what lay in memory stays as it was -/
def Gives (w : World) (v : Value) (e : Ending) (w' : World) : Prop := e = .returned v ∧ Below w.heap.size w w'
theorem up_alloc {w wx : World} (h : Below w.heap.size w wx) (o : Obj) : Below w.heap.size w (wx.alloc o) := h.alloc h.size o
theorem up_call {w wx wy : World} (h : Below w.heap.size w wx) (hb : Below wx.heap.size wx wy) : Below w.heap.size w wy := h.trans (hb.mono h.size)
theorem up_drewN {w wx : World} (h : Below w.heap.size w wx) (n : Nat) : Below w.heap.size w (wx.drewN n) := h.trans ⟨rfl, rfl, rfl, by simp, fun _ _ => by simp⟩
end D
end Go.Proofs.YtkhnjlkamleldaaGreatDoor
