/- A pattern as a value. And what follows from it. -/
import Derived.Test.YtehocgemgdbikaaDoorNpMath
import Derived.Test.YtehocgemgdbikaaDoorKit
import Derived.Test.YtehocgemgdbikaaDoorRowText
namespace Go.Proofs.YtehocgemgdbikaaDoor
namespace Np
open Go.RowKit D Ru

/-- a pattern's cells -/
abbrev patC (p : PatV) : List Value := [.string (str p.pre), .string (str p.suf), .int .i64 p.a, .int .i64 p.b, .int .i64 p.m, .int .i64 p.g, .int .i64 p.g2]
abbrev patV (p : PatV) : Value := .agg (patC p).toArray
/-- the zero pattern's cells -/
abbrev zeroC : List Value := [.string ⟨#[]⟩, .string ⟨#[]⟩, .int .i64 0, .int .i64 0, .int .i64 0, .int .i64 0, .int .i64 0]
def OfP (w : World) (o : Option PatV) (e : Ending) (w' : World) : Prop := e = .returned (.tuple #[patV (o.getD zeroP), .bool o.isSome]) ∧ Below w.heap.size w w'
theorem add_str (a b : List UInt8) : str a ++ str b = str (a ++ b) := by
  apply ba_ext
  rw [ByteArray.data_append, Array.toList_append, str_data, str_data, str_data]
theorem str_len (l : List UInt8) : (str l).size = l.length := by rw [D.ba_size, str_data]
/-- a flag for what holds -/
def Flag (P : Prop) (C : Bool) : Prop := (P → C = true) ∧ (¬ P → C = false)
theorem flag (P : Prop) : ∃ C : Bool, Hid (Flag P C) := by
  by_cases h : P
  · exact ⟨true, Lib.hid ⟨fun _ => rfl, fun h' => absurd h h'⟩⟩
  · exact ⟨false, Lib.hid ⟨fun h' => absurd h' h, fun _ => rfl⟩⟩
theorem Flag.yes {P : Prop} {C : Bool} (h : Flag P C) (hc : C = true) : P := by
  by_cases h' : P
  · exact h'
  · rw [h.2 h'] at hc; cases hc
theorem Flag.no {P : Prop} {C : Bool} (h : Flag P C) (hc : C = false) : ¬ P := fun h' => by rw [h.1 h'] at hc; cases hc
end Np
end Go.Proofs.YtehocgemgdbikaaDoor

/- A pattern as an argument, opened; how long its affixes are. -/
namespace Go.Proofs.YtehocgemgdbikaaDoor
namespace Np
open Go.Joins Go.ChangeShapes Go.WideShapes Go.ChangeAt Go.RowKit Go.Deep D

section
variable {H : Type} {enc : TypeId × Value → H} {W : World}
theorem patUnder : Tryd.prog.underlying 23 = some (.struct #[⟨ "Prefix", 9, 0, false, "", "", 0⟩, ⟨ "Suffix", 9, 1, false, "", "", 16⟩, ⟨ "MinInt", 3, 2, false, "", "", 32⟩, ⟨ "MinFrac", 3, 3, false, "", "", 40⟩, ⟨ "MaxFrac", 3, 4, false, "", "", 48⟩, ⟨ "Group", 3, 5, false, "", "", 56⟩, ⟨ "Group2", 3, 6, false, "", "", 64⟩]) := Tryd.underlying23
theorem patCells : Tryd.prog.cellsOf 23 = 7 := by kernel_rfl
theorem strCells : Tryd.prog.cellsOf 9 = 1 := by kernel_rfl
theorem intCells : Tryd.prog.cellsOf 3 = 1 := by kernel_rfl
set_option maxRecDepth 100000 in
theorem open_pat {b0 : Nat} {v : Value} {d : DataW H} {p : List MemPlace} (hv : Value.okWide Tryd.prog W .any b0 23 v) (h : DataW.Trod enc Tryd.prog W 0 (fun _ => true) true 23 v d p) :
    ∃ q : PatV, v = patV q ∧ d = .agg [.lit (.string q.pre), .lit (.string q.suf), .lit (.int .i64 q.a), .lit (.int .i64 q.b), .lit (.int .i64 q.m), .lit (.int .i64 q.g), .lit (.int .i64 q.g2)] := by
  obtain ⟨⟨cs⟩, rfl, hsz⟩ := okWide_struct patUnder hv
  rw [patCells] at hsz
  obtain ⟨fuel, hf⟩ := h
  obtain ⟨xs, n, _, hx, _, hl, hi⟩ := DataW.trod_struct patUnder hf
  match cs, hsz, xs, hl, hx with
  | [c0, c1, c2, c3, c4, c5, c6], _, [y0, y1, y2, y3, y4, y5, y6], _, hx =>
    obtain ⟨z, e0, g0, _⟩ := DataW.trod_string Tryd.underlying9 (show DataW.trod enc Tryd.prog W 0 (fun _ => true) true n 9 [c0] = some y0 by simpa [Value.cells, strCells] using hi 0 _ rfl)
    obtain ⟨o, e1, g1, _⟩ := DataW.trod_string Tryd.underlying9 (show DataW.trod enc Tryd.prog W 0 (fun _ => true) true n 9 [c1] = some y1 by simpa [Value.cells, strCells] using hi 1 _ rfl)
    obtain ⟨a, e2, g2, _⟩ := DataW.trod_int Tryd.underlying3 (show DataW.trod enc Tryd.prog W 0 (fun _ => true) true n 3 [c2] = some y2 by simpa [Value.cells, strCells, intCells] using hi 2 _ rfl)
    obtain ⟨b, e3, g3, _⟩ := DataW.trod_int Tryd.underlying3 (show DataW.trod enc Tryd.prog W 0 (fun _ => true) true n 3 [c3] = some y3 by simpa [Value.cells, strCells, intCells] using hi 3 _ rfl)
    obtain ⟨m, e4, g4, _⟩ := DataW.trod_int Tryd.underlying3 (show DataW.trod enc Tryd.prog W 0 (fun _ => true) true n 3 [c4] = some y4 by simpa [Value.cells, strCells, intCells] using hi 4 _ rfl)
    obtain ⟨g, e5, g5, _⟩ := DataW.trod_int Tryd.underlying3 (show DataW.trod enc Tryd.prog W 0 (fun _ => true) true n 3 [c5] = some y5 by simpa [Value.cells, strCells, intCells] using hi 5 _ rfl)
    obtain ⟨k, e6, g6, _⟩ := DataW.trod_int Tryd.underlying3 (show DataW.trod enc Tryd.prog W 0 (fun _ => true) true n 3 [c6] = some y6 by simpa [Value.cells, strCells, intCells] using hi 6 _ rfl)
    simp at e0 e1 e2 e3 e4 e5 e6
    have hd := congrArg Prod.fst hx
    rw [g0, g1, g2, g3, g4, g5, g6] at hd
    refine ⟨⟨z.data.toList, o.data.toList, a, b, m, g, k⟩, ?_, hd⟩
    rw [e0, e1, e2, e3, e4, e5, e6]
end
theorem room_pat {H : Type} {ts : List TypeId} {ds : List (DataW H)} (h : (DataW.weightsEach Tryd.prog ts ds).all (· ≤ reachBytes) = true) {j : Nat} {q : PatV} (ht : ts[j]? = some 23) (hd : ds[j]? = some (.agg [.lit (.string q.pre), .lit (.string q.suf), .lit (.int .i64 q.a), .lit (.int .i64 q.b), .lit (.int .i64 q.m), .lit (.int .i64 q.g), .lit (.int .i64 q.g2)])) : q.pre.length ≤ 140737488351232 ∧ q.suf.length ≤ 140737488351232 := by
  have hm : q.pre.length ∈ DataW.weights Tryd.prog 23 (.agg [.lit (.string q.pre), .lit (.string q.suf), .lit (.int .i64 q.a), .lit (.int .i64 q.b), .lit (.int .i64 q.m), .lit (.int .i64 q.g), .lit (.int .i64 q.g2)] : DataW H) ∧ q.suf.length ∈ DataW.weights Tryd.prog 23 (.agg [.lit (.string q.pre), .lit (.string q.suf), .lit (.int .i64 q.a), .lit (.int .i64 q.b), .lit (.int .i64 q.m), .lit (.int .i64 q.g), .lit (.int .i64 q.g2)] : DataW H) := by
    simp [DataW.weights, DataW.weightsEach]
  have h1 := List.all_eq_true.1 h _ (DataW.weights_mem_each ht hd _ hm.1)
  have h2 := List.all_eq_true.1 h _ (DataW.weights_mem_each ht hd _ hm.2)
  have hr : reachBytes = 140737488355328 - 4096 := by decide
  simp at *
  omega
theorem bulk_pat {H : Type} {l : List (DataW H)} (hk : Rows.uptoSmall H l = true) {j : Nat} {q : PatV} (hj : l[j]? = some (.agg [.lit (.string q.pre), .lit (.string q.suf), .lit (.int .i64 q.a), .lit (.int .i64 q.b), .lit (.int .i64 q.m), .lit (.int .i64 q.g), .lit (.int .i64 q.g2)])) : q.pre.length ≤ 1048576 ∧ q.suf.length ≤ 1048576 := by
  have h1 := of_decide_eq_true hk
  have h2 := bulk_mem (List.mem_of_getElem? hj)
  simp only [Rows.uptoBulk, Rows.uptoBulkAll] at h2
  omega
end Np
end Go.Proofs.YtehocgemgdbikaaDoor
