/- The world for the witnesses of the rows on plural rules: the kinds' names lie there too. -/
import Derived.Test.YteedhnpdffnfjaaDoorRuLaid
namespace Go.Proofs.YteedhnpdffnfjaaDoor
namespace Ru
noncomputable def plHeap (os : Os) : World := { laidHeap os with heap := (laidHeap os).heap.modify 0 (laidAs #[.string ⟨#[122, 101, 114, 111]⟩, .string ⟨#[111, 110, 101]⟩, .string ⟨#[116, 119, 111]⟩, .string ⟨#[102, 101, 119]⟩, .string ⟨#[109, 97, 110, 121]⟩]) }
end Ru
end Go.Proofs.YteedhnpdffnfjaaDoor
