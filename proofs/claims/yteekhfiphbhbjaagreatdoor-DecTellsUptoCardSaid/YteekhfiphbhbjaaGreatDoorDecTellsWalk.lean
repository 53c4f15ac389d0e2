/- The law DecTells: it returns true for all numbers, every text that is not too long, every scale and way; what lay in memory stays as it was. -/
import Derived.Test.YteekhfiphbhbjaaGreatDoorDecTellsWrong
import Derived.Test.YteekhfiphbhbjaaGreatDoorDecTellsScaleOne
import Derived.Test.YteekhfiphbhbjaaGreatDoorDecTellsScaleBoth
import Derived.Test.YteekhfiphbhbjaaGreatDoorDecTellsWayOne
import Derived.Test.YteekhfiphbhbjaaGreatDoorDecTellsWayBoth
import Derived.Test.YteekhfiphbhbjaaGreatDoorDecTellsFineOne
import Derived.Test.YteekhfiphbhbjaaGreatDoorDecTellsFineBoth
namespace Go.Proofs.YteekhfiphbhbjaaGreatDoor
namespace D
open Go.RowKit
theorem tells_any (a s b t : Int) (T : ByteArray) (m n : Int) (w : World) (ht : T.size ≤ 1048576) (hS : Strc w) (hg : ErrType w) : Calls Tryz.prog 3 #[.agg #[.int .i64 a, .int .i64 s], .agg #[.int .i64 b, .int .i64 t], .string T, .int .i64 m, .int .i64 n] w (TrueBelow w) := by
  by_cases hr : Right a s
  · by_cases hm : 0 ≤ m ∧ m ≤ 9
    · by_cases hn : 1 ≤ n ∧ n ≤ 5
      · by_cases hb : Right b t
        · exact tells_ok_both a s b t m n T w ht hS hg hr hm hn hb
        · exact tells_ok_one a s b t m n T w ht hS hg hr hm hn hb
      · by_cases hb : Right b t
        · exact tells_way_both a s b t m n T w ht hS hg hr hm hn hb
        · exact tells_way_one a s b t m n T w ht hS hg hr hm hn hb
    · by_cases hb : Right b t
      · exact tells_scale_both a s b t m n T w ht hS hg hr hm hb
      · exact tells_scale_one a s b t m n T w ht hS hg hr hm hb
  · exact tells_wrong a s b t m n T w ht hS hg hr
end D
end Go.Proofs.YteekhfiphbhbjaaGreatDoor
