/- The laws NoutSigns, NpatPlain, NoutWhole, of this program's Format, Text and Put. -/
import Derived.Test.YtehocgemgdbikaaDoorNoSignsWalk
import Derived.Test.YtehocgemgdbikaaDoorNoPlainWalk
import Derived.Test.YtehocgemgdbikaaDoorNoWholeWalk
import Derived.Test.YtehocgemgdbikaaDoorNoProgFormat
import Derived.Test.YtehocgemgdbikaaDoorNpText
namespace Go.Proofs.YtehocgemgdbikaaDoor
namespace No
open Go.RowKit D Ru Np
theorem signs_law (p : PatV) (pt cm qt dm : UInt8) (c s : Int) (w : World) (hp : p.pre.length ≤ 140737488351232 ∧ p.suf.length ≤ 140737488351232) (hP : Pow w) : Calls Tryd.prog 3 #[patV p, symV pt cm, symV qt dm, .agg #[.int .i64 c, .int .i64 s]] w (TrueB w) :=
  signs_any 140737488351232 p pt cm qt dm c s w (format_ok _ w (by omega) hP) hp.1 hp.2
theorem plain_law (p : PatV) (w : World) (hp : p.pre.length ≤ 140737488351232 ∧ p.suf.length ≤ 140737488351232) (hP : Pow w) : Calls Tryd.prog 4 #[patV p] w (TrueB w) :=
  plain_any 140737488351232 p w (format_ok _ w (by omega) hP) (fun p W _ h1 h2 => Np.text_any p W (by omega) (by omega)) hp.1 hp.2
theorem whole_law (n g g2 : Int) (w : World) (hP : Pow w) : Calls Tryd.prog 5 #[.int .i64 n, .int .i64 g, .int .i64 g2] w (TrueB w) :=
  whole_any 100 n g g2 w (format_ok _ w (by omega) hP) (Gr.put_ok _ w (by omega)) (by omega)
end No
end Go.Proofs.YtehocgemgdbikaaDoor
