/- The world for the witnesses of the rows on rules that list errors.errorType too. -/
import Derived.Test.YtkhnjlkamleldaaGreatDoorRuLaid
import Derived.Test.YtkhnjlkamleldaaGreatDoorHandle
namespace Go.Proofs.YtkhnjlkamleldaaGreatDoor
namespace Ru
noncomputable def laidWorld (os : Os) : World := { laidHeap os with heap := (laidHeap os).heap.modify 0 (laidAs #[.iface 119 (.agg #[.pointer (some ⟨9, 30, none⟩)])]) }
end Ru
end Go.Proofs.YtkhnjlkamleldaaGreatDoor
