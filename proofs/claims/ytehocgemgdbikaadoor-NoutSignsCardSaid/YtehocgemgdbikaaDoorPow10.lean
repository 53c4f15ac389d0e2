/- What strconv.Itoa reads, and what it tells; what lay in memory stays as it was. -/
import Derived.Test.YtehocgemgdbikaaDoorShelf
import Derived.Test.YtehocgemgdbikaaDoorGround
import Derived.Lib.AppendIntMem
namespace Go.Proofs.YtehocgemgdbikaaDoor
namespace D
open Go.RowKit

theorem var_later {P : Program} {w W : World} {n : String} {cs : Array Value} (h : w.var? P n = some cs) (hb : Below w.heap.size w W) : W.var? P n = some cs := by
  unfold World.var? at h ⊢
  cases hg : P.globalNamed n with
  | none => simp [hg] at h
  | some g =>
    simp only [hg, Option.bind_some] at h ⊢
    have hlt : g < w.heap.size := by
      rcases Nat.lt_or_ge g w.heap.size with h' | h'
      · exact h'
      · simp [Array.getElem?_eq_none h'] at h
    rw [hb.block g hlt]
    exact h
/-- the table of powers that Itoa reads -/
def Pow (w : World) : Prop := Lib.TabIs Tryd.prog w "internal/strconv.uint64pow10" .u64 Lib.pow10Tab
theorem Pow.later {w W : World} (h : Pow w) (hb : Below w.heap.size w W) : Pow W := var_later h hb
theorem itoa_pow (c : Int) (w : World) (h0 : -1000000000000000 ≤ c) (h1 : c ≤ 1000000000000000) (hs : Pow w) : Calls Tryd.prog 33 #[.int .i64 c] w (Gives w (.string (str (Lib.itoa c)))) :=
  (Tryd.strconv_Itoa c (by omega) (by omega) w hs).mono fun _ _ ⟨he, k, os, hw⟩ => ⟨he, hw ▸ Lib.below_grow _ _ (Nat.le_refl _) k os⟩
theorem itoa_sign (c : Int) : Lib.itoa c = (if c < 0 then [45] else []) ++ Lib.decDigits c.natAbs := by
  unfold Lib.itoa
  split
  · rfl
  · rw [show c.toNat = c.natAbs by omega]; rfl
end D
end Go.Proofs.YtehocgemgdbikaaDoor
