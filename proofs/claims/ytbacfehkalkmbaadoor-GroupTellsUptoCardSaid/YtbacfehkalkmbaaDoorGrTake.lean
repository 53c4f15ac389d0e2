/- What the laws on groups ask of the program's Take. -/
import Derived.Test.YtbacfehkalkmbaaDoorGrSays
namespace Go.Proofs.YtbacfehkalkmbaaDoor
namespace Gr
open Go.RowKit D Ru

/-- Take, behind whatever call of a law's own, of texts up to a length -/
structure TakeOk (N : Nat) (w : World) : Prop where
  take : ∀ (s : List UInt8) (g g2 : Int) (c : UInt8) (W : World), Below w.heap.size w W → s.length ≤ N → Calls Tryd.prog 10 #[.string (str s), .int .i64 g, .int .i64 g2, .int .u8 c.toNat] W (TextE W (takeT s g g2 c) (takeF s g g2 c))
theorem TakeOk.takeY {N : Nat} {w : World} (h : TakeOk N w) {l : List UInt8} {g g2 : Int} {c : UInt8} (hl : l.length ≤ N) (hp : takeF l g g2 c = 0) : ∀ W, Below w.heap.size w W → Calls Tryd.prog 10 #[.string (str l), .int .i64 g, .int .i64 g2, .int .u8 c.toNat] W (TextY W (str (takeT l g g2 c))) :=
  fun W hW => textE_yes (h.take l g g2 c W hW hl) hp
theorem TakeOk.takeN {N : Nat} {w : World} (h : TakeOk N w) {l : List UInt8} {g g2 : Int} {c : UInt8} (hl : l.length ≤ N) (hp : takeF l g g2 c ≠ 0) : ∀ W, Below w.heap.size w W → Calls Tryd.prog 10 #[.string (str l), .int .i64 g, .int .i64 g2, .int .u8 c.toNat] W (TextN W (takeF l g g2 c)) :=
  fun W hW => textE_no (h.take l g g2 c W hW hl) hp (takeT_no hp)
end Gr
end Go.Proofs.YtbacfehkalkmbaaDoor
