/- The world for the witnesses of the rows on plural rules. -/
import Derived.Test.YteedhnpdffnfjaaGreatDoorPlLaid
namespace Go.Proofs.YteedhnpdffnfjaaGreatDoor
namespace Ru
noncomputable def laidWorld (os : Os) : World := plHeap os
end Ru
end Go.Proofs.YteedhnpdffnfjaaGreatDoor
