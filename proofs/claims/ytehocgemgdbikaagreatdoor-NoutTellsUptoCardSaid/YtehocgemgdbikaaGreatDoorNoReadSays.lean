/- What the laws on numbers by patterns ask of the program's Read. -/
import Derived.Test.YtehocgemgdbikaaGreatDoorNoSays
namespace Go.Proofs.YtehocgemgdbikaaGreatDoor
namespace No
open Go.RowKit D Ru Np

/-- Read, of affixes and texts up to a length -/
def ReadOk (N : Nat) (w : World) : Prop := ∀ (p : PatV) (pt cm : UInt8) (t : List UInt8) (W : World), Below w.heap.size w W → p.pre.length ≤ N → p.suf.length ≤ N → t.length ≤ N →
  Calls Tryz.prog 14 #[patV p, symV pt cm, .string (str t)] W (Gives W (.tuple #[.agg #[.int .i64 (rdD p pt cm t).1, .int .i64 ((rdD p pt cm t).2 : Nat)], errV (rdF p pt cm t)]))
theorem ReadOk.yes {N : Nat} {w : World} (h : ReadOk N w) {p : PatV} {pt cm : UInt8} {t : List UInt8} (h1 : p.pre.length ≤ N) (h2 : p.suf.length ≤ N) (h3 : t.length ≤ N) (hf : rdF p pt cm t = 0) : ∀ W, Below w.heap.size w W →
    Calls Tryz.prog 14 #[patV p, symV pt cm, .string (str t)] W (Gives W (.tuple #[.agg #[.int .i64 (rdD p pt cm t).1, .int .i64 ((rdD p pt cm t).2 : Nat)], .nilIface])) := fun W hW => by
  have := h p pt cm t W hW h1 h2 h3
  rw [hf] at this
  exact this
theorem ReadOk.no {N : Nat} {w : World} (h : ReadOk N w) {p : PatV} {pt cm : UInt8} {t : List UInt8} (h1 : p.pre.length ≤ N) (h2 : p.suf.length ≤ N) (h3 : t.length ≤ N) (hf : rdF p pt cm t ≠ 0) : ∀ W, Below w.heap.size w W →
    Calls Tryz.prog 14 #[patV p, symV pt cm, .string (str t)] W (Gives W (.tuple #[.agg #[.int .i64 0, .int .i64 0], .iface 29 (.int .i64 (rdF p pt cm t))])) := fun W hW => by
  have := h p pt cm t W hW h1 h2 h3
  rw [rd_no hf] at this
  unfold errV at this
  rw [if_neg hf] at this
  exact this
end No
end Go.Proofs.YtehocgemgdbikaaGreatDoor
