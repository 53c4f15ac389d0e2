/- A set of five texts as an argument, opened: its texts, and how long they are in the second form. -/
import Derived.Test.YteedhnpdffnfjaaDoorPlNames
import Derived.Test.YteedhnpdffnfjaaDoorDecRow
namespace Go.Proofs.YteedhnpdffnfjaaDoor
namespace Ru
open Go.Joins Go.ChangeShapes Go.WideShapes Go.ChangeAt Go.RowKit Go.Deep D

section
variable {H : Type} {enc : TypeId × Value → H} {W : World}
theorem setUnder : Tryd.prog.underlying 23 = some (.struct #[⟨ "Zero", 9, 0, false, "", "", 0⟩, ⟨ "One", 9, 1, false, "", "", 16⟩, ⟨ "Two", 9, 2, false, "", "", 32⟩, ⟨ "Few", 9, 3, false, "", "", 48⟩, ⟨ "Many", 9, 4, false, "", "", 64⟩]) := Tryd.underlying23
theorem setCells : Tryd.prog.cellsOf 23 = 5 := by kernel_rfl
set_option maxRecDepth 100000 in
theorem open_set {b0 : Nat} {v : Value} {d : DataW H} {p : List MemPlace} (hv : Value.okWide Tryd.prog W .any b0 23 v) (h : DataW.Trod enc Tryd.prog W 0 (fun _ => true) true 23 v d p) :
    ∃ z o t f m : List UInt8, v = .agg #[.string (str z), .string (str o), .string (str t), .string (str f), .string (str m)] ∧ d = .agg [.lit (.string z), .lit (.string o), .lit (.string t), .lit (.string f), .lit (.string m)] := by
  obtain ⟨⟨cs⟩, rfl, hsz⟩ := okWide_struct setUnder hv
  rw [setCells] at hsz
  obtain ⟨fuel, hf⟩ := h
  obtain ⟨xs, n, _, hx, _, hl, hi⟩ := DataW.trod_struct setUnder hf
  match cs, hsz, xs, hl, hx with
  | [c0, c1, c2, c3, c4], _, [y0, y1, y2, y3, y4], _, hx =>
    obtain ⟨z, e0, g0, _⟩ := DataW.trod_string Tryd.underlying9 (show DataW.trod enc Tryd.prog W 0 (fun _ => true) true n 9 [c0] = some y0 by simpa [Value.cells, strCells] using hi 0 _ rfl)
    obtain ⟨o, e1, g1, _⟩ := DataW.trod_string Tryd.underlying9 (show DataW.trod enc Tryd.prog W 0 (fun _ => true) true n 9 [c1] = some y1 by simpa [Value.cells, strCells] using hi 1 _ rfl)
    obtain ⟨t, e2, g2, _⟩ := DataW.trod_string Tryd.underlying9 (show DataW.trod enc Tryd.prog W 0 (fun _ => true) true n 9 [c2] = some y2 by simpa [Value.cells, strCells] using hi 2 _ rfl)
    obtain ⟨f, e3, g3, _⟩ := DataW.trod_string Tryd.underlying9 (show DataW.trod enc Tryd.prog W 0 (fun _ => true) true n 9 [c3] = some y3 by simpa [Value.cells, strCells] using hi 3 _ rfl)
    obtain ⟨m, e4, g4, _⟩ := DataW.trod_string Tryd.underlying9 (show DataW.trod enc Tryd.prog W 0 (fun _ => true) true n 9 [c4] = some y4 by simpa [Value.cells, strCells] using hi 4 _ rfl)
    simp at e0 e1 e2 e3 e4
    have hd := congrArg Prod.fst hx
    rw [g0, g1, g2, g3, g4] at hd
    refine ⟨z.data.toList, o.data.toList, t.data.toList, f.data.toList, m.data.toList, ?_, hd⟩
    rw [e0, e1, e2, e3, e4, ← str_eq (b := z) rfl, ← str_eq (b := o) rfl, ← str_eq (b := t) rfl, ← str_eq (b := f) rfl, ← str_eq (b := m) rfl]
end
theorem bulk_set {H : Type} {l : List (DataW H)} (hk : Rows.uptoSmall H l = true) {j : Nat} {z o t f m : List UInt8} (hj : l[j]? = some (.agg [.lit (.string z), .lit (.string o), .lit (.string t), .lit (.string f), .lit (.string m)])) : ∀ x ∈ [z, o, t, f, m], x.length ≤ 1073741824 := by
  have h1 := of_decide_eq_true hk
  have h2 := bulk_mem (List.mem_of_getElem? hj)
  simp only [Rows.uptoBulk, Rows.uptoBulkAll] at h2
  intro x hx
  simp only [List.mem_cons, List.not_mem_nil, or_false] at hx
  rcases hx with rfl | rfl | rfl | rfl | rfl <;> omega
end Ru
end Go.Proofs.YteedhnpdffnfjaaDoor
