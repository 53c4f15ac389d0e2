/- The law OpsTells, whole. -/
import Derived.Test.YtppnfjapalilfaaDoorOpsTellsWalk
namespace Go.Proofs.YtppnfjapalilfaaDoor
namespace D
theorem tells_any (c s : Int) (w : World) (hg : ErrType w) : Calls Tryd.prog 3 #[.agg #[.int .i64 c, .int .i64 s]] w (TrueB w) := by
  by_cases h : Right c s
  · exact tells_yes h w hg
  · exact tells_no h w hg
end D
end Go.Proofs.YtppnfjapalilfaaDoor
