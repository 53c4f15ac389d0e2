/- The laws on languages, of this program's table. -/
import Derived.Test.YteedhnpdffnfjaaDoorLaProg
import Derived.Test.YteedhnpdffnfjaaDoorLaSlavicWalk
import Derived.Test.YteedhnpdffnfjaaDoorLaArabicWalk
import Derived.Test.YteedhnpdffnfjaaDoorLaEnglishWalk
import Derived.Test.YteedhnpdffnfjaaDoorLaSameWalk
import Derived.Test.YteedhnpdffnfjaaDoorLaTellsWalk
namespace Go.Proofs.YteedhnpdffnfjaaDoor
namespace Ru
open Go.RowKit Go.Maps D

theorem slavic_law (n : Int) (w : World) (h : Env w ∧ Names w) : Calls Tryd.prog 4 #[.int .i64 n] w (TrueB w) := slavic_any n w (rules_ok w) h.1 h.2
theorem arabic_law (c s : Int) (w : World) (h : Env w ∧ Names w) : Calls Tryd.prog 5 #[.agg #[.int .i64 c, .int .i64 s]] w (TrueB w) := arabic_any c s w (rules_ok w) h.1 h.2
theorem english_law (c s : Int) (w : World) (h : Env w ∧ Names w) : Calls Tryd.prog 6 #[.agg #[.int .i64 c, .int .i64 s]] w (TrueB w) := english_any c s w (rules_ok w) h.1 h.2
theorem same_law (x : ByteArray) (c s : Int) (w : World) (h : Env w ∧ Names w) : Calls Tryd.prog 7 #[.string x, .agg #[.int .i64 c, .int .i64 s]] w (TrueB w) := by
  rw [show x = str x.data.toList from str_eq rfl]
  exact lang_same_any _ c s w (rules_ok w) h.1 h.2
theorem tells_law (x : ByteArray) (w : World) (hg : ErrType w) : Calls Tryd.prog 3 #[.string x] w (TrueB w) := by
  rw [show x = str x.data.toList from str_eq rfl]
  exact lang_tells_any _ w (rules_ok w) hg
end Ru
end Go.Proofs.YteedhnpdffnfjaaDoor
