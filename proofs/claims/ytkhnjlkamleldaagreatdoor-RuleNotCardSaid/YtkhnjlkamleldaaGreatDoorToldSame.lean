/- S.Told of two errors of one number returns true. -/
import Derived.Test.YtkhnjlkamleldaaGreatDoorDecTold
import Derived.Test.YtkhnjlkamleldaaGreatDoorBoxes
namespace Go.Proofs.YtkhnjlkamleldaaGreatDoor
namespace D
open Go.RowKit

set_option maxHeartbeats 2000000 in
theorem toldSame_any (k : Nat) (w : World) (hg : ErrType w) : Calls Tryz.prog 16 #[errV k, errV k] w (TrueB w) := by
  have HT := Lib.hid (told_any k w hg)
  have HT2 := Lib.hid (fun (W : World) (hW : Below w.heap.size w W) => told_any k W (errType_later hg hW))
  clear hg
  generalize errV k = ev at *
  go_enter Tryz.func16, Tryz.ntmps16
  go_wp2_with (first
    | (go_at_call 25; (with_reducible refine HT.out.mono ?_); rintro e w' ⟨rfl, hb⟩)
    | (go_at_call 25; (with_reducible refine (HT2.out _ hb).mono ?_); rintro e w'' ⟨rfl, hb2⟩))
  go_ret
  exact ⟨rfl, bel_call hb hb2⟩
end D
end Go.Proofs.YtkhnjlkamleldaaGreatDoor
