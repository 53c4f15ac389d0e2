/- S.Told of an error and itself. -/
import Derived.Test.YteekhfiphbhbjaaDoorDecTold
namespace Go.Proofs.YteekhfiphbhbjaaDoor
namespace D
open Go.RowKit
set_option maxHeartbeats 2000000 in
theorem told_same (k : Nat) (w : World) (hg : ErrType w) : Calls Tryd.prog 10 #[errV k, errV k] w (TrueBelow w) := by
  have HT := Lib.hid (told_any k w hg)
  have HT2 := Lib.hid (fun (W : World) (hW : Below w.heap.size w W) => told_any k W (errType_later hg hW))
  clear hg
  generalize errV k = ev at *
  go_enter Tryd.func10, Tryd.ntmps10
  go_wp2_with (first
    | (go_at_call 21; (with_reducible refine HT.out.mono ?_); rintro e w' ⟨rfl, hb⟩)
    | (go_at_call 21; (with_reducible refine (HT2.out _ hb).mono ?_); rintro e w'' ⟨rfl, hb2⟩))
  go_ret
  exact ⟨rfl, up_call hb hb2⟩
end D
end Go.Proofs.YteekhfiphbhbjaaDoor
