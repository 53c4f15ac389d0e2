/- The law NoutBack, of this program's Check, Format and Read (second form: texts up to 1048576 bytes). -/
import Derived.Test.YtehocgemgdbikaaGreatDoorNoBackWalk
import Derived.Test.YtehocgemgdbikaaGreatDoorNoProgRead
namespace Go.Proofs.YtehocgemgdbikaaGreatDoor
namespace No
open Go.RowKit D Ru Np
theorem back_law (p : PatV) (pt cm : UInt8) (c s : Int) (t : ByteArray) (w : World) (hp : p.pre.length ≤ 1048576 ∧ p.suf.length ≤ 1048576) (ht : t.size ≤ 1048576) (hE : REnv w) : Calls Tryz.prog 4 #[patV p, symV pt cm, .agg #[.int .i64 c, .int .i64 s], .string t] w (TrueB w) := by
  rw [show t = str t.data.toList from str_eq rfl]
  rw [D.ba_size] at ht
  exact back_any 1048576 p pt cm c s _ w (format_ok _ w (by omega) hE.strc.tab) (read_ok _ w (by omega) hE) (by omega) hp.1 hp.2 ht
end No
end Go.Proofs.YtehocgemgdbikaaGreatDoor
