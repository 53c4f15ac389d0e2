/- The laws on groups, of this program's Put: plain seat. -/
import Derived.Test.YtbacfehkalkmbaaGrSizesWalk
import Derived.Test.YtbacfehkalkmbaaGrMoreWalk
import Derived.Test.YtbacfehkalkmbaaGrPut
namespace Go.Proofs.Ytbacfehkalkmbaa
namespace Gr
open Go.RowKit D Ru
theorem sizes_law (l : ByteArray) (g g2 : Int) (c : UInt8) (w : World) (hl : l.size ≤ 1048576) : Calls Try.prog 3 #[.string l, .int .i64 g, .int .i64 g2, .int .u8 c.toNat] w (TrueB w) := by
  rw [show l = str l.data.toList from str_eq rfl]
  rw [D.ba_size] at hl
  exact sizes_any 1048576 _ g g2 c w (put_ok _ w (by omega)) (by omega) hl (Nat.le_refl _)
theorem more_law (l x : ByteArray) (c : UInt8) (w : World) (hl : l.size ≤ 1048576) (hx : x.size ≤ 1048576) : Calls Try.prog 4 #[.string l, .string x, .int .u8 c.toNat] w (TrueB w) := by
  rw [show l = str l.data.toList from str_eq rfl, show x = str x.data.toList from str_eq rfl]
  rw [D.ba_size] at hl hx
  exact more_any 2097152 _ _ c w (put_ok _ w (by omega)) (by omega) (by omega) (by omega)
end Gr
end Go.Proofs.Ytbacfehkalkmbaa
