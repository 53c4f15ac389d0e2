/- What the laws on numbers in few digits ask of the program's Text and Parts. -/
import Derived.Test.YteipadljahkgoaaDoorShMath
import Derived.Test.YteipadljahkgoaaDoorKit
namespace Go.Proofs.YteipadljahkgoaaDoor
namespace Sh
open Go.RowKit D Ru

def NumOk (n : Int) : Prop := 0 ≤ n ∧ n ≤ 1000000000000000
instance (n : Int) : Decidable (NumOk n) := inferInstanceAs (Decidable (_ ∧ _))
def UnitOk (u : Int) : Prop := 1 ≤ u ∧ u ≤ 1000000
instance (u : Int) : Decidable (UnitOk u) := inferInstanceAs (Decidable (_ ∧ _))
def shF (n : Int) : Nat := if NumOk n then 0 else 1
def shT (n : Int) : List UInt8 := if NumOk n then shortL n.toNat else []
def paF (n u : Int) : Nat := if NumOk n ∧ UnitOk u then 0 else 1
def paQ (n u : Int) : Int := if NumOk n ∧ UnitOk u then n.tdiv u else 0
def paR (n u : Int) : Int := if NumOk n ∧ UnitOk u then n.tmod u else 0
/-- Text and Parts, behind whatever call of a law's own -/
def TextOk (w : World) : Prop := ∀ (n : Int) (W : World), Below w.heap.size w W → Calls Tryd.prog 6 #[.int .i64 n] W (TextE W (shT n) (shF n))
def PartsOk (w : World) : Prop := ∀ (n u : Int) (W : World), Below w.heap.size w W → Calls Tryd.prog 9 #[.int .i64 n, .int .i64 u] W (Gives W (.tuple #[.int .i64 (paQ n u), .int .i64 (paR n u), errV (paF n u)]))
theorem TextOk.yes {w : World} (h : TextOk w) {n : Int} (hn : NumOk n) : ∀ W, Below w.heap.size w W → Calls Tryd.prog 6 #[.int .i64 n] W (TextY W (str (shortL n.toNat))) := fun W hW => by
  have := textE_yes (h n W hW) (if_pos hn)
  rwa [show shT n = shortL n.toNat from if_pos hn] at this
theorem TextOk.no {w : World} (h : TextOk w) {n : Int} (hn : ¬ NumOk n) : ∀ W, Below w.heap.size w W → Calls Tryd.prog 6 #[.int .i64 n] W (TextN W 1) := fun W hW => by
  have := textE_no (h n W hW) (by rw [show shF n = 1 from if_neg hn]; decide) (if_neg hn)
  rwa [show shF n = 1 from if_neg hn] at this
/-- the fact that each law asks first -/
theorem fact_any {w : World} (h : TextOk w) : ∀ W, Below w.heap.size w W → Calls Tryd.prog 6 #[.int .i64 1250] W (TextY W ⟨#[49, 46, 50, 75]⟩) := fun W hW => by
  have := h.yes (n := 1250) (by decide) W hW
  rw [show (1250 : Int).toNat = 1250 from rfl, fact_short] at this
  exact this
end Sh
end Go.Proofs.YteipadljahkgoaaDoor
