/- Signs as an argument, opened. -/
import Derived.Test.YtehocgemgdbikaaDoorNoSym
import Derived.Test.YtehocgemgdbikaaDoorRowText
namespace Go.Proofs.YtehocgemgdbikaaDoor
namespace No
open Go.Joins Go.ChangeShapes Go.WideShapes Go.ChangeAt Go.RowKit Go.Deep D

section
variable {H : Type} {enc : TypeId × Value → H} {W : World}
theorem symUnder : Tryd.prog.underlying 25 = some (.struct #[⟨ "Point", 5, 0, false, "", "", 0⟩, ⟨ "Comma", 5, 1, false, "", "", 1⟩]) := Tryd.underlying25
theorem symCells : Tryd.prog.cellsOf 25 = 2 := by kernel_rfl
theorem byteCells : Tryd.prog.cellsOf 5 = 1 := by kernel_rfl
set_option maxRecDepth 100000 in
theorem open_sym {b0 : Nat} {v : Value} {d : DataW H} {p : List MemPlace} (hv : Value.okWide Tryd.prog W .any b0 25 v) (h : DataW.Trod enc Tryd.prog W 0 (fun _ => true) true 25 v d p) : ∃ pt cm : UInt8, v = symV pt cm := by
  obtain ⟨⟨cs⟩, rfl, hsz⟩ := okWide_struct symUnder hv
  rw [symCells] at hsz
  obtain ⟨fuel, hf⟩ := h
  obtain ⟨xs, n, _, _, _, hl, hi⟩ := DataW.trod_struct symUnder hf
  match cs, hsz, xs, hl with
  | [c0, c1], _, [y0, y1], _ =>
    obtain ⟨a, e0, _, w0⟩ := DataW.trod_int Tryd.underlying5 (show DataW.trod enc Tryd.prog W 0 (fun _ => true) true n 5 [c0] = some y0 by simpa [Value.cells, byteCells] using hi 0 _ rfl)
    obtain ⟨b, e1, _, w1⟩ := DataW.trod_int Tryd.underlying5 (show DataW.trod enc Tryd.prog W 0 (fun _ => true) true n 5 [c1] = some y1 by simpa [Value.cells, byteCells] using hi 1 _ rfl)
    simp at e0 e1
    obtain ⟨pt, rfl⟩ := byte_of w0
    obtain ⟨cm, rfl⟩ := byte_of w1
    exact ⟨pt, cm, by rw [e0, e1]⟩
end
end No
end Go.Proofs.YtehocgemgdbikaaDoor
