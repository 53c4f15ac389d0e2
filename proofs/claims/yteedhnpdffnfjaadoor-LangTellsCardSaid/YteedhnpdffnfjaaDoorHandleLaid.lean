/- The world for the witnesses of the rows that list errors.errorType alone. -/
import Derived.Test.YteedhnpdffnfjaaDoorHandle
namespace Go.Proofs.YteedhnpdffnfjaaDoor
namespace D
open Go.RowKit

/-- the settled world, the listed variable holding what its initialiser lays -/
noncomputable def laidWorld (os : Os) : World :=
  let w0 := World.holding Tryd.prog os ⟨#[], #[], []⟩
  { w0 with heap := w0.heap.modify 1 (laidIn #[.iface 99 (.agg #[.pointer (some ⟨10, 25, none⟩)])]) }
end D
end Go.Proofs.YteedhnpdffnfjaaDoor
