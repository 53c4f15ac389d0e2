/- A byte as a text. -/
import Derived.Test.YtehocgemgdbikaaGreatDoorKit
namespace Go.Proofs.YtehocgemgdbikaaGreatDoor
namespace Gr
open Go.RowKit D Ru

theorem conv_one (w : World) (c : UInt8) : (convert 48 9 (.slice (some ⟨w.heap.size, 0, none⟩) 1 1)).run Tryz.prog (w.alloc (.cells #[.int .u8 (c.toNat : Int)] 5)) = .ok (.string (str [c])) (w.alloc (.cells #[.int .u8 (c.toNat : Int)] 5)) :=
  run_convert_bytes_back _ 48 9 5 ⟨w.heap.size, 0, none⟩ 1 [c] Tryz.underlying48 Tryz.underlying5 Tryz.underlying9 fun j hj => by
    obtain rfl : j = 0 := by simpa using hj
    show World.cell? _ (Addr.add ⟨w.heap.size, 0, none⟩ 0) = some (.int .u8 (c.toNat : Int))
    simp [Addr.add]
end Gr
end Go.Proofs.YtehocgemgdbikaaGreatDoor
