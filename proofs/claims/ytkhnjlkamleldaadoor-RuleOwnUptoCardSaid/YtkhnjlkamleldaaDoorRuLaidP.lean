/- The world for the witnesses of the rows on rules, errors.errorType not listed. -/
import Derived.Test.YtkhnjlkamleldaaDoorRuLaid
namespace Go.Proofs.YtkhnjlkamleldaaDoor
namespace Ru
noncomputable def laidWorld (os : Os) : World := laidHeap os
end Ru
end Go.Proofs.YtkhnjlkamleldaaDoor
