/- The laws on groups, of this program's Put and Take: door seat. -/
import Derived.Test.YtbacfehkalkmbaaDoorGrTellsWalk
import Derived.Test.YtbacfehkalkmbaaDoorGrBackWalk
import Derived.Test.YtbacfehkalkmbaaDoorGrProg
namespace Go.Proofs.YtbacfehkalkmbaaDoor
namespace Gr
open Go.RowKit D Ru
theorem maxl_of {W : World} (h : W.ShapedOpen Tryd.prog) : MaxL W := Tryd.laysM143.s1_3 W h
theorem tells_law (l s : ByteArray) (g g2 : Int) (c : UInt8) (w : World) (hl : l.size ≤ 1048576) (hs : s.size ≤ 1048576) (hM : MaxL w) (hg : ErrType w) : Calls Tryd.prog 3 #[.string l, .string s, .int .i64 g, .int .i64 g2, .int .u8 c.toNat] w (TrueB w) := by
  rw [show l = str l.data.toList from str_eq rfl, show s = str s.data.toList from str_eq rfl]
  rw [D.ba_size] at hl hs
  exact tells_any 1048576 _ _ g g2 c w (put_ok _ w (by omega)) (take_ok _ w (by omega) hM) hg (by omega) hl hs (by omega)
theorem back_law (l s : ByteArray) (g g2 : Int) (c : UInt8) (w : World) (hl : l.size ≤ 1048576) (hs : s.size ≤ 1048576) (hM : MaxL w) : Calls Tryd.prog 4 #[.string l, .string s, .int .i64 g, .int .i64 g2, .int .u8 c.toNat] w (TrueB w) := by
  rw [show l = str l.data.toList from str_eq rfl, show s = str s.data.toList from str_eq rfl]
  rw [D.ba_size] at hl hs
  exact back_any 1048576 _ _ g g2 c w (put_ok _ w (by omega)) (take_ok _ w (by omega) hM) (by omega) hl hs
end Gr
end Go.Proofs.YtbacfehkalkmbaaDoor
