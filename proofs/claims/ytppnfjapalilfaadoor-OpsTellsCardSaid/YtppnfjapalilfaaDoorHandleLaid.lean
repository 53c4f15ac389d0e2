/- The world for the witnesses of the rows that list errors.errorType alone. -/
import Derived.Test.YtppnfjapalilfaaDoorHandle
namespace Go.Proofs.YtppnfjapalilfaaDoor
namespace D
open Go.RowKit

/-- the settled world, the listed variable holding what its initialiser lays -/
noncomputable def laidWorld (os : Os) : World :=
  let w0 := World.holding Tryd.prog os ⟨#[], #[], []⟩
  { w0 with heap := w0.heap.modify 0 (laidIn #[.iface 56 (.agg #[.pointer (some ⟨1, 27, none⟩)])]) }
end D
end Go.Proofs.YtppnfjapalilfaaDoor
