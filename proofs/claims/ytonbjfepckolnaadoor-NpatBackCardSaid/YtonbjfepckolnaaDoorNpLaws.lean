/- The laws on patterns, of this program's Check, Text and Parse. -/
import Derived.Test.YtonbjfepckolnaaDoorNpTellsWalk
import Derived.Test.YtonbjfepckolnaaDoorNpBackWalk
import Derived.Test.YtonbjfepckolnaaDoorNpProg
import Derived.Test.YtonbjfepckolnaaDoorUtfTabs
namespace Go.Proofs.YtonbjfepckolnaaDoor
namespace Np
open Go.RowKit D Ru
theorem back_law (p : PatV) (s : ByteArray) (w : World) (hp : p.pre.length ≤ 140737488351232 ∧ p.suf.length ≤ 140737488351232) (hs : s.size ≤ 140737488355328) (hT : Tabs w) : Calls Tryd.prog 4 #[patV p, .string s] w (TrueB w) := by
  rw [show s = str s.data.toList from str_eq rfl]
  rw [D.ba_size] at hs
  exact back_any 140737488355328 p _ w (text_ok _ w (Nat.le_refl _)) (parse_ok _ w (Nat.le_refl _) hT) (by omega) (by omega) (by omega) hs
theorem tells_law (p : PatV) (s : ByteArray) (w : World) (hp : p.pre.length ≤ 140737488351232 ∧ p.suf.length ≤ 140737488351232) (hs : s.size ≤ 140737488355328) (hT : Tabs w) (hg : ErrType w) : Calls Tryd.prog 3 #[patV p, .string s] w (TrueB w) := by
  rw [show s = str s.data.toList from str_eq rfl]
  rw [D.ba_size] at hs
  exact tells_any 140737488355328 p _ w (fun p W _ h1 h2 => check_any p W h1 h2) (text_ok _ w (Nat.le_refl _)) (parse_ok _ w (Nat.le_refl _) hT) hg (Nat.le_refl _) (by omega) (by omega) hs
end Np
end Go.Proofs.YtonbjfepckolnaaDoor
