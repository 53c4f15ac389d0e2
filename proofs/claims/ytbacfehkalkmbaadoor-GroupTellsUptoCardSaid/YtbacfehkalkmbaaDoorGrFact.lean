/- The function 'grouped' of the laws on groups returns true. -/
import Derived.Test.YtbacfehkalkmbaaDoorGrSays
namespace Go.Proofs.YtbacfehkalkmbaaDoor
namespace Gr
open Go.RowKit D Ru

theorem fact_any {N : Nat} {w : World} (h : PutOk N w) (hN : 5 ≤ N) : ∀ W, Below w.heap.size w W → Calls Tryd.prog 5 #[] W (TrueB W) := by
  intro W hW
  have CP := Lib.hid (fact_calls h hN W hW)
  clear h hN hW
  go_enter Tryd.func5, Tryd.ntmps5
  go_wp2_with (go_at_call 8; (with_reducible refine CP.out.mono ?_); rintro e w1 ⟨rfl, hb1⟩; dsimp only)
  go_ret
  exact ⟨rfl, hb1⟩
end Gr
end Go.Proofs.YtbacfehkalkmbaaDoor
