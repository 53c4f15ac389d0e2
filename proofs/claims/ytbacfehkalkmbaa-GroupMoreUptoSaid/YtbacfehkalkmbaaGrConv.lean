/- A byte as a text. -/
import Derived.Test.YtbacfehkalkmbaaKit
namespace Go.Proofs.Ytbacfehkalkmbaa
namespace Gr
open Go.RowKit D Ru

theorem conv_one (w : World) (c : UInt8) : (convert 29 9 (.slice (some ⟨w.heap.size, 0, none⟩) 1 1)).run Try.prog (w.alloc (.cells #[.int .u8 (c.toNat : Int)] 5)) = .ok (.string (str [c])) (w.alloc (.cells #[.int .u8 (c.toNat : Int)] 5)) :=
  run_convert_bytes_back _ 29 9 5 ⟨w.heap.size, 0, none⟩ 1 [c] Try.underlying29 Try.underlying5 Try.underlying9 fun j hj => by
    obtain rfl : j = 0 := by simpa using hj
    show World.cell? _ (Addr.add ⟨w.heap.size, 0, none⟩ 0) = some (.int .u8 (c.toNat : Int))
    simp [Addr.add]
end Gr
end Go.Proofs.Ytbacfehkalkmbaa
