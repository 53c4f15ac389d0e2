/- S.Error of an error and its number returns true. -/
import Derived.Test.YteipadljahkgoaaDoorTold1
import Derived.Test.YteipadljahkgoaaDoorBoxes
namespace Go.Proofs.YteipadljahkgoaaDoor
namespace D
open Go.RowKit

set_option maxHeartbeats 2000000 in
theorem errorSame_any (k : Nat) (w : World) (hg : ErrType w) : Calls Tryd.prog 8 #[errV k, .int .i64 (k : Int)] w (TrueB w) := by
  have HT := Lib.hid (told_any k w hg)
  clear hg
  generalize errV k = ev at *
  generalize (k : Int) = z at *
  go_enter Tryd.func8, Tryd.ntmps8
  go_wp2_with (go_at_call 15; (with_reducible refine HT.out.mono ?_); rintro e w' ⟨rfl, hb⟩)
  go_ret
  exact ⟨rfl, hb⟩
end D
end Go.Proofs.YteipadljahkgoaaDoor
