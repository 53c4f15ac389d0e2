/- The function 'grouped' of the laws on groups returns true. -/
import Derived.Test.YtbacfehkalkmbaaGrSays
namespace Go.Proofs.Ytbacfehkalkmbaa
namespace Gr
open Go.RowKit D Ru

theorem fact_any {N : Nat} {w : World} (h : PutOk N w) (hN : 5 ≤ N) : ∀ W, Below w.heap.size w W → Calls Try.prog 5 #[] W (TrueB W) := by
  intro W hW
  have CP := Lib.hid (fact_calls h hN W hW)
  clear h hN hW
  go_enter Try.func5, Try.ntmps5
  go_wp2_with (go_at_call 6; (with_reducible refine CP.out.mono ?_); rintro e w1 ⟨rfl, hb1⟩; dsimp only)
  go_ret
  exact ⟨rfl, hb1⟩
end Gr
end Go.Proofs.Ytbacfehkalkmbaa
