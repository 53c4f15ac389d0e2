/- An error by its number. And what follows from it. -/
import Derived.Test.YteipadljahkgoaaDoorProg
import Derived.Below
import Derived.WalkKit
import Derived.BigQuiet
import Derived.Deep.Draws
namespace Go.Proofs.YteipadljahkgoaaDoor
namespace D

/-- an error by its number -/
def errV (k : Nat) : Value := if k = 0 then .nilIface else .iface 26 (.int .i64 k)
theorem errV_zero : errV 0 = .nilIface := rfl
theorem errV_one : errV 1 = .iface 26 (.int .i64 1) := rfl
theorem errV_three : errV 3 = .iface 26 (.int .i64 3) := rfl
theorem errV_succ (k : Nat) : errV (k + 1) = .iface 26 (.int .i64 ((k + 1 : Nat) : Int)) := rfl
end D
end Go.Proofs.YteipadljahkgoaaDoor

/- A value is returned, and what lay in memory stays as it was. -/
namespace Go.Proofs.YteipadljahkgoaaDoor
namespace D
open Go.RowKit

/-- a value is returned, and what lay in memory stays as it was -/
def Gives (w : World) (v : Value) (e : Ending) (w' : World) : Prop := e = .returned v ∧ Below w.heap.size w w'
theorem up_alloc {w wx : World} (h : Below w.heap.size w wx) (o : Obj) : Below w.heap.size w (wx.alloc o) := h.alloc h.size o
theorem up_call {w wx wy : World} (h : Below w.heap.size w wx) (hb : Below wx.heap.size wx wy) : Below w.heap.size w wy := h.trans (hb.mono h.size)
theorem up_drewN {w wx : World} (h : Below w.heap.size w wx) (n : Nat) : Below w.heap.size w (wx.drewN n) := h.trans ⟨rfl, rfl, rfl, by simp, fun _ _ => by simp⟩
end D
end Go.Proofs.YteipadljahkgoaaDoor

/- Texts as lists of bytes, and back. -/
namespace Go.Proofs.YteipadljahkgoaaDoor
namespace D
open Go.RowKit

theorem ba_ext {a b : ByteArray} (h : a.data.toList = b.data.toList) : a = b := ByteArray.ext (Array.ext' h)
theorem ba_size (b : ByteArray) : b.size = b.data.toList.length := by simp
theorem take_snoc (s : ByteArray) (k : Nat) (h : k < s.size) : s.data.toList.take (k + 1) = s.data.toList.take k ++ [s[k]] := by
  rw [List.take_succ_eq_append_getElem (by simpa using h)]; rfl
/-- bytes as a text -/
abbrev str (l : List UInt8) : ByteArray := ⟨l.toArray⟩
theorem str_data (l : List UInt8) : (str l).data.toList = l := by simp
theorem str_eq {b : ByteArray} {l : List UInt8} (h : b.data.toList = l) : b = str l := ba_ext (by rw [h, str_data])
theorem ret_bool {a b : Bool} (h : a = b) : Ending.returned (.bool a) = .returned (.bool b) := by rw [h]
/-- the world is as it was but for draws -/
def Drawn (w : World) (v : Value) (e : Ending) (w' : World) : Prop := e = .returned v ∧ ∃ d, w.drewN d = w'
theorem quiet_same {f : Nat} {args : Array Value} {v : Value} (h : ∀ W : World, Calls Tryd.prog f args W fun e w' => e = .returned v ∧ W = w') (w : World) (n : Nat) :
    Calls Tryd.prog f args (w.drewN n) fun e w'' => e = .returned v ∧ ∃ m, w'' = w.drewN m :=
  (h (w.drewN n)).mono fun _ _ ⟨he, hw⟩ => ⟨he, n, hw.symm⟩
theorem quiet_drawn {f : Nat} {args : Array Value} {v : Value} (h : ∀ W : World, Calls Tryd.prog f args W (Drawn W v)) (w : World) (n : Nat) :
    Calls Tryd.prog f args (w.drewN n) fun e w'' => e = .returned v ∧ ∃ m, w'' = w.drewN m :=
  (h (w.drewN n)).mono fun _ _ ⟨he, d, hw⟩ => ⟨he, n + d, by rw [← hw]; simp⟩
theorem ret_str {a b : ByteArray} (h : a = b) : Ending.returned (.string a) = .returned (.string b) := by rw [h]
theorem toList_ne {a b : ByteArray} (h : a ≠ b) : (a.toList == b.toList) = false ∧ (a.toList != b.toList) = true := by
  have : a.toList ≠ b.toList := fun e => h (by
    rw [ByteArray.toList_eq, ByteArray.toList_eq] at e
    exact ba_ext e)
  exact ⟨by simpa using this, by simpa using this⟩
end D
end Go.Proofs.YteipadljahkgoaaDoor
