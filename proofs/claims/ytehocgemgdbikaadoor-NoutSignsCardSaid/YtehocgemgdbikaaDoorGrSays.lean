/- What the laws on groups ask of the program's Put. -/
import Derived.Test.YtehocgemgdbikaaDoorGrMath
import Derived.Test.YtehocgemgdbikaaDoorKit
namespace Go.Proofs.YtehocgemgdbikaaDoor
namespace Gr
open Go.RowKit D Ru

/-- Put, behind whatever call of a law's own, of texts up to a length -/
structure PutOk (N : Nat) (w : World) : Prop where
  put : ∀ (l : List UInt8) (g g2 : Int) (c : UInt8) (W : World), Below w.heap.size w W → l.length ≤ N → Calls Tryd.prog 9 #[.string (str l), .int .i64 g, .int .i64 g2, .int .u8 c.toNat] W (TextE W (putT l g g2 c) (putF l g g2 c))
theorem PutOk.putY {N : Nat} {w : World} (h : PutOk N w) {l : List UInt8} {g g2 : Int} {c : UInt8} (hl : l.length ≤ N) (hp : putF l g g2 c = 0) : ∀ W, Below w.heap.size w W → Calls Tryd.prog 9 #[.string (str l), .int .i64 g, .int .i64 g2, .int .u8 c.toNat] W (TextY W (str (putT l g g2 c))) :=
  fun W hW => textE_yes (h.put l g g2 c W hW hl) hp
theorem PutOk.putN {N : Nat} {w : World} (h : PutOk N w) {l : List UInt8} {g g2 : Int} {c : UInt8} (hl : l.length ≤ N) (hp : putF l g g2 c ≠ 0) : ∀ W, Below w.heap.size w W → Calls Tryd.prog 9 #[.string (str l), .int .i64 g, .int .i64 g2, .int .u8 c.toNat] W (TextN W (putF l g g2 c)) :=
  fun W hW => textE_no (h.put l g g2 c W hW hl) hp (putT_no hp)
/-- the fact that each law asks first -/
theorem fact_calls {N : Nat} {w : World} (h : PutOk N w) (hN : 5 ≤ N) (W : World) (hW : Below w.heap.size w W) : Calls Tryd.prog 9 #[.string ⟨#[49, 50, 51, 52, 53]⟩, .int .i64 3, .int .i64 0, .int .u8 44] W (TextY W ⟨#[49, 50, 44, 51, 52, 53]⟩) := by
  have := h.putY (l := [49, 50, 51, 52, 53]) (c := 44) hN fact_put.1 W hW
  rw [fact_put.2] at this
  exact this
end Gr
end Go.Proofs.YtehocgemgdbikaaDoor
