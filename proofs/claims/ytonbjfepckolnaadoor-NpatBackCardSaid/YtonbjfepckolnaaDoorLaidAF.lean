/- The world for the witnesses of the rows that list unicode/utf8.acceptRanges, unicode/utf8.first. -/
import Derived.Test.YtonbjfepckolnaaDoorRows
import Derived.Lib.ItoaNum
namespace Go.Proofs.YtonbjfepckolnaaDoor
namespace D

def acceptCells : List Int := [128, 191, 160, 191, 128, 159, 144, 191, 128, 143] ++ List.replicate 22 0
def u8s (l : List Int) : Array Value := (l.map fun n => Value.int .u8 n).toArray
def laidAs (cs : Array Value) : Obj → Obj
  | .cells _ t frozen => .cells cs t frozen
  | o => o
/-- the settled world, the listed variables holding what their initialisers lay -/
noncomputable def laidWorld (os : Os) : World :=
  let w0 := World.holding Tryd.prog os ⟨#[], #[], []⟩
  { w0 with heap := ((w0.heap.modify 3 (laidAs (u8s acceptCells))).modify 2 (laidAs (u8s (Pinned.utf8FirstZ.map Int.ofNat)))) }
end D
end Go.Proofs.YtonbjfepckolnaaDoor
