/- What the laws on patterns ask of the program's Text. -/
import Derived.Test.YtehocgemgdbikaaDoorNpVal
namespace Go.Proofs.YtehocgemgdbikaaDoor
namespace Np
open Go.RowKit D Ru

/-- Text, behind whatever call of a law's own, of affixes up to a length -/
def TextOk (N : Nat) (w : World) : Prop := ∀ (p : PatV) (W : World), Below w.heap.size w W → p.pre.length ≤ N → p.suf.length ≤ N → Calls Tryd.prog 8 #[patV p] W (TextE W (patX p) (patF p))
theorem TextOk.yes {N : Nat} {w : World} (h : TextOk N w) {p : PatV} (h1 : p.pre.length ≤ N) (h2 : p.suf.length ≤ N) (hf : patF p = 0) : ∀ W, Below w.heap.size w W → Calls Tryd.prog 8 #[patV p] W (TextY W (str (patT p))) := fun W hW => by
  have := textE_yes (h p W hW h1 h2) hf
  rwa [show patX p = patT p from if_pos hf] at this
theorem TextOk.no {N : Nat} {w : World} (h : TextOk N w) {p : PatV} (h1 : p.pre.length ≤ N) (h2 : p.suf.length ≤ N) (hf : patF p ≠ 0) : ∀ W, Below w.heap.size w W → Calls Tryd.prog 8 #[patV p] W (TextN W (patF p)) := fun W hW => textE_no (h p W hW h1 h2) hf (if_neg hf)
end Np
end Go.Proofs.YtehocgemgdbikaaDoor
