/- A pattern as a value. -/
import Derived.Test.YtehocgemgdbikaaDoorNpMath
import Derived.Test.YtehocgemgdbikaaDoorKit
namespace Go.Proofs.YtehocgemgdbikaaDoor
namespace Np
open Go.RowKit D Ru

/-- a pattern's cells -/
abbrev patC (p : PatV) : List Value := [.string (str p.pre), .string (str p.suf), .int .i64 p.a, .int .i64 p.b, .int .i64 p.m, .int .i64 p.g, .int .i64 p.g2]
abbrev patV (p : PatV) : Value := .agg (patC p).toArray
/-- the zero pattern's cells -/
abbrev zeroC : List Value := [.string ⟨#[]⟩, .string ⟨#[]⟩, .int .i64 0, .int .i64 0, .int .i64 0, .int .i64 0, .int .i64 0]
def OfP (w : World) (o : Option PatV) (e : Ending) (w' : World) : Prop := e = .returned (.tuple #[patV (o.getD zeroP), .bool o.isSome]) ∧ Below w.heap.size w w'
theorem add_str (a b : List UInt8) : str a ++ str b = str (a ++ b) := by
  apply ba_ext
  rw [ByteArray.data_append, Array.toList_append, str_data, str_data, str_data]
theorem str_len (l : List UInt8) : (str l).size = l.length := by rw [D.ba_size, str_data]
/-- a flag for what holds -/
def Flag (P : Prop) (C : Bool) : Prop := (P → C = true) ∧ (¬ P → C = false)
theorem flag (P : Prop) : ∃ C : Bool, Hid (Flag P C) := by
  by_cases h : P
  · exact ⟨true, Lib.hid ⟨fun _ => rfl, fun h' => absurd h h'⟩⟩
  · exact ⟨false, Lib.hid ⟨fun h' => absurd h' h, fun _ => rfl⟩⟩
theorem Flag.yes {P : Prop} {C : Bool} (h : Flag P C) (hc : C = true) : P := by
  by_cases h' : P
  · exact h'
  · rw [h.2 h'] at hc; cases hc
theorem Flag.no {P : Prop} {C : Bool} (h : Flag P C) (hc : C = false) : ¬ P := fun h' => by rw [h.1 h'] at hc; cases hc
end Np
end Go.Proofs.YtehocgemgdbikaaDoor
