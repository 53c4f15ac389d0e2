/- The world for the witnesses of the rows on rules that list errors.errorType too. -/
import Derived.Test.YtabglcpllfcmbaaGreatDoorRuLaid
import Derived.Test.YtabglcpllfcmbaaGreatDoorHandle
namespace Go.Proofs.YtabglcpllfcmbaaGreatDoor
namespace Ru
noncomputable def laidWorld (os : Os) : World := { laidHeap os with heap := (laidHeap os).heap.modify 1 (laidAs #[.iface 146 (.agg #[.pointer (some ⟨10, 30, none⟩)])]) }
end Ru
end Go.Proofs.YtabglcpllfcmbaaGreatDoor
