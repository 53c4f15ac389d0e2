/- The world for the witnesses of the rows on plural rules that list errors.errorType too. -/
import Derived.Test.YtabglcpllfcmbaaGreatDoorPlLaid
import Derived.Test.YtabglcpllfcmbaaGreatDoorHandle
namespace Go.Proofs.YtabglcpllfcmbaaGreatDoor
namespace Ru
noncomputable def laidWorld (os : Os) : World := { plHeap os with heap := (plHeap os).heap.modify 1 (laidAs #[.iface 146 (.agg #[.pointer (some ⟨10, 30, none⟩)])]) }
end Ru
end Go.Proofs.YtabglcpllfcmbaaGreatDoor
