/- The world for the witnesses of the rows that list math/bits.deBruijn32tab, math/bits.deBruijn64tab, internal/strconv.uint64pow10, errors.errorType. -/
import Derived.Test.YteipadljahkgoaaDoorRows
import Derived.Test.YteipadljahkgoaaDoorTold1
import Derived.Lib.ItoaNum
namespace Go.Proofs.YteipadljahkgoaaDoor
namespace D

def tab32 : List Int := [0, 1, 28, 2, 29, 14, 24, 3, 30, 22, 20, 15, 25, 17, 4, 8, 31, 27, 13, 23, 21, 19, 16, 7, 26, 12, 18, 6, 11, 5, 10, 9]
def tab64 : List Int := [0, 1, 56, 2, 57, 49, 28, 3, 61, 58, 42, 50, 38, 29, 17, 4, 62, 47, 59, 36, 45, 43, 51, 22, 53, 39, 33, 30, 24, 18, 12, 5, 63, 55, 48, 27, 60, 41, 37, 16, 46, 35, 44, 21, 52, 32, 23, 11, 54, 26, 40, 15, 34, 20, 31, 10, 25, 14, 19, 9, 13, 8, 7, 6]
def u8s (l : List Int) : Array Value := (l.map fun n => Value.int .u8 n).toArray
def laidAs (cs : Array Value) : Obj → Obj
  | .cells _ t frozen => .cells cs t frozen
  | o => o
/-- the settled world, the listed variables holding what their initialisers lay -/
noncomputable def laidWorld (os : Os) : World :=
  let w0 := World.holding Tryd.prog os ⟨#[], #[], []⟩
  { w0 with heap := ((((w0.heap.modify 2 (laidAs (u8s tab32))).modify 3 (laidAs (u8s tab64))).modify 1 (laidAs ((Lib.pow10Tab.map fun z => Value.int .u64 z).toArray))).modify 0 (laidAs #[.iface 62 (.agg #[.pointer (some ⟨4, 23, none⟩)])])) }
end D
end Go.Proofs.YteipadljahkgoaaDoor
