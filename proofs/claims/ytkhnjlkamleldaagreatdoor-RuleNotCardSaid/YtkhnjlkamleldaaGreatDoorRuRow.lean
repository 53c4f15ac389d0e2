/- What the rows of the laws on rules share: arguments that are operands, a relation, a range, opened. -/
import Derived.Test.YtkhnjlkamleldaaGreatDoorLawRow
import Derived.Test.YtkhnjlkamleldaaGreatDoorRuOpen
namespace Go.Proofs.YtkhnjlkamleldaaGreatDoor
namespace Ru
open Go.Joins Go.ChangeShapes Go.WideShapes Go.RowKit Go.Deep D

section
variable {H : Type} {enc : TypeId × Value → H} {W : World}
theorem opsUnder : Tryz.prog.underlying 24 = some (.struct #[⟨ "I", 3, 0, false, "", "", 0⟩, ⟨ "V", 3, 1, false, "", "", 8⟩, ⟨ "W", 3, 2, false, "", "", 16⟩, ⟨ "F", 3, 3, false, "", "", 24⟩, ⟨ "T", 3, 4, false, "", "", 32⟩]) := Tryz.underlying24
theorem opsCells : Tryz.prog.cellsOf 24 = 5 := by kernel_rfl
set_option maxRecDepth 100000 in
theorem open_ops {b0 : Nat} {v : Value} {d : DataW H} {p : List MemPlace} (hv : Value.okWide Tryz.prog W .any b0 24 v) (h : DataW.Trod enc Tryz.prog W 0 (fun _ => true) true 24 v d p) :
    ∃ i a b f t : Int, v = .agg #[.int .i64 i, .int .i64 a, .int .i64 b, .int .i64 f, .int .i64 t] := by
  obtain ⟨⟨cs⟩, rfl, hsz⟩ := okWide_struct opsUnder hv
  rw [opsCells] at hsz
  obtain ⟨fuel, hf⟩ := h
  obtain ⟨xs, n, _, _, _, hl, hi⟩ := DataW.trod_struct opsUnder hf
  match cs, hsz, xs, hl with
  | [c0, c1, c2, c3, c4], _, [y0, y1, y2, y3, y4], _ =>
    obtain ⟨i, e0, _, _⟩ := DataW.trod_int Tryz.underlying3 (show DataW.trod enc Tryz.prog W 0 (fun _ => true) true n 3 [c0] = some y0 by simpa [Value.cells, intCells] using hi 0 _ rfl)
    obtain ⟨a, e1, _, _⟩ := DataW.trod_int Tryz.underlying3 (show DataW.trod enc Tryz.prog W 0 (fun _ => true) true n 3 [c1] = some y1 by simpa [Value.cells, intCells] using hi 1 _ rfl)
    obtain ⟨b, e2, _, _⟩ := DataW.trod_int Tryz.underlying3 (show DataW.trod enc Tryz.prog W 0 (fun _ => true) true n 3 [c2] = some y2 by simpa [Value.cells, intCells] using hi 2 _ rfl)
    obtain ⟨f, e3, _, _⟩ := DataW.trod_int Tryz.underlying3 (show DataW.trod enc Tryz.prog W 0 (fun _ => true) true n 3 [c3] = some y3 by simpa [Value.cells, intCells] using hi 3 _ rfl)
    obtain ⟨t, e4, _, _⟩ := DataW.trod_int Tryz.underlying3 (show DataW.trod enc Tryz.prog W 0 (fun _ => true) true n 3 [c4] = some y4 by simpa [Value.cells, intCells] using hi 4 _ rfl)
    simp at e0 e1 e2 e3 e4
    exact ⟨i, a, b, f, t, by rw [e0, e1, e2, e3, e4]⟩
set_option maxRecDepth 100000 in
theorem open_rel {b0 : Nat} {v : Value} {d : DataW H} {p : List MemPlace} (hv : Value.okWide Tryz.prog W .any b0 45 v) (h : DataW.Trod enc Tryz.prog W 0 (fun _ => true) true 45 v d p) :
    ∃ x : RelX, v = x.val ∧ x.v.rs.length ≤ x.c ∧ x.c ≤ maxLen ∧ RgsAt W W.heap.size x.A x.v.rs.length x.v.rs ∧ (0 ≤ x.v.op ∧ x.v.op < 256) ∧ RelData d x := by
  obtain ⟨⟨cs⟩, rfl, hsz⟩ := okWide_struct relUnder hv
  rw [relCells] at hsz
  obtain ⟨fuel, hf⟩ := h
  match cs, hsz with
  | [c0, c1, c2, c3], _ =>
    obtain ⟨x, hx, hd⟩ := open_relCells (c0 := c0) (c1 := c1) (c2 := c2) (c3 := c3) (by simpa [Value.cells] using hf)
    exact ⟨x, by rw [hx.c0, hx.c1, hx.c2, hx.c3], hx.cap, hx.few, hx.reads, hx.byte, hd⟩
end
end Ru
end Go.Proofs.YtkhnjlkamleldaaGreatDoor
