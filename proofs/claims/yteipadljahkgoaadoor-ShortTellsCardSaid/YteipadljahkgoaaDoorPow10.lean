/- What strconv.Itoa reads, and what it tells; what lay in memory stays as it was. And what follows from it. -/
import Derived.Test.YteipadljahkgoaaDoorShelf
import Derived.Test.YteipadljahkgoaaDoorGround
import Derived.Lib.AppendIntMem
import Derived.Test.YteipadljahkgoaaDoorRowText
import Derived.LaidSub
import Derived.Lib.LaidTab
namespace Go.Proofs.YteipadljahkgoaaDoor
namespace D
open Go.RowKit

theorem var_later {P : Program} {w W : World} {n : String} {cs : Array Value} (h : w.var? P n = some cs) (hb : Below w.heap.size w W) : W.var? P n = some cs := by
  unfold World.var? at h ⊢
  cases hg : P.globalNamed n with
  | none => simp [hg] at h
  | some g =>
    simp only [hg, Option.bind_some] at h ⊢
    have hlt : g < w.heap.size := by
      rcases Nat.lt_or_ge g w.heap.size with h' | h'
      · exact h'
      · simp [Array.getElem?_eq_none h'] at h
    rw [hb.block g hlt]
    exact h
/-- the table of powers that Itoa reads -/
def Pow (w : World) : Prop := Lib.TabIs Tryd.prog w "internal/strconv.uint64pow10" .u64 Lib.pow10Tab
theorem Pow.later {w W : World} (h : Pow w) (hb : Below w.heap.size w W) : Pow W := var_later h hb
theorem itoa_pow (c : Int) (w : World) (h0 : -1000000000000000 ≤ c) (h1 : c ≤ 1000000000000000) (hs : Pow w) : Calls Tryd.prog 13 #[.int .i64 c] w (Gives w (.string (str (Lib.itoa c)))) :=
  (Tryd.strconv_Itoa c (by omega) (by omega) w hs).mono fun _ _ ⟨he, k, os, hw⟩ => ⟨he, hw ▸ Lib.below_grow _ _ (Nat.le_refl _) k os⟩
theorem itoa_sign (c : Int) : Lib.itoa c = (if c < 0 then [45] else []) ++ Lib.decDigits c.natAbs := by
  unfold Lib.itoa
  split
  · rfl
  · rw [show c.toNat = c.natAbs by omega]; rfl
end D
end Go.Proofs.YteipadljahkgoaaDoor

/- What a row's list gives of the table of powers that strconv.Itoa reads. -/
namespace Go.Proofs.YteipadljahkgoaaDoor
namespace D
open Go.ChangeShapes Go.WideShapes Go.ChangeAt Go.RowKit

theorem powGlobal : Tryd.prog.globalNamed "internal/strconv.uint64pow10" = some 1 := by kernel_rfl
theorem powType : (Tryd.prog.globals[1]?).map (·.type) = some 77 := by kernel_rfl
theorem powCells : Tryd.prog.cellsOf 77 = 20 := by kernel_rfl
theorem powWord : Tryd.prog.cellsOf 56 = 1 := by kernel_rfl
theorem pow_data {H : Type} : (Rows.laid_internal_strconv_uint64pow10 : DataW H) = Lib.tabData .u64 Lib.pow10Tab := rfl
theorem pow_of {W : World} {l : List (String × DataW Unit)} (h : laidMet Tryd.prog l W)
    (e : (l.filter fun x => x.1 == "internal/strconv.uint64pow10") = [("internal/strconv.uint64pow10", Rows.laid_internal_strconv_uint64pow10)]) : Pow W := by
  have h2 := h.filter fun x => x.1 == "internal/strconv.uint64pow10"
  rw [e, pow_data] at h2
  exact Lib.tabIs_of_head powGlobal powType Tryd.underlying77 Tryd.underlying56 powWord powCells h2
end D
end Go.Proofs.YteipadljahkgoaaDoor
