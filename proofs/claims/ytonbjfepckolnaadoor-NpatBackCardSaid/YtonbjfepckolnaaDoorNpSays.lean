/- What the laws on patterns ask of the program's Text and Parse. -/
import Derived.Test.YtonbjfepckolnaaDoorNpTextSays
namespace Go.Proofs.YtonbjfepckolnaaDoor
namespace Np
open Go.RowKit D Ru

/-- Parse, of texts up to a length -/
def ParseOk (N : Nat) (w : World) : Prop := ∀ (s : List UInt8) (W : World), Below w.heap.size w W → s.length ≤ N → Calls Tryd.prog 12 #[.string (str s)] W (Gives W (.tuple #[patV ((patO s).getD zeroP), errV (patE s)]))
theorem ParseOk.yes {N : Nat} {w : World} (h : ParseOk N w) {s : List UInt8} (hs : s.length ≤ N) {p : PatV} (hp : patO s = some p) : ∀ W, Below w.heap.size w W → Calls Tryd.prog 12 #[.string (str s)] W (Gives W (.tuple #[patV p, .nilIface])) := fun W hW => by
  have := h s W hW hs
  rw [show patE s = 0 by unfold patE; rw [hp]; rfl, hp] at this
  exact this
theorem ParseOk.no {N : Nat} {w : World} (h : ParseOk N w) {s : List UInt8} (hs : s.length ≤ N) (hp : patO s = none) : ∀ W, Below w.heap.size w W → Calls Tryd.prog 12 #[.string (str s)] W (Gives W (.tuple #[.agg #[.string ⟨#[]⟩, .string ⟨#[]⟩, .int .i64 0, .int .i64 0, .int .i64 0, .int .i64 0, .int .i64 0], .iface 25 (.int .i64 3)])) := fun W hW => by
  have := h s W hW hs
  rw [show patE s = 3 by unfold patE; rw [hp]; rfl, hp] at this
  exact this
/-- the fact that each law asks first -/
theorem fact_any {N : Nat} {w : World} (h : TextOk N w) : ∀ W, Below w.heap.size w W → Calls Tryd.prog 5 #[] W (TrueB W) := by
  intro W hW
  have hc := h.yes (p := ⟨[], [], 1, 1, 2, 3, 0⟩) (Nat.zero_le _) (Nat.zero_le _) fact_pat.1 W hW
  rw [fact_pat.2] at hc
  have CP : Hid (Calls Tryd.prog 10 #[.agg #[.string ⟨#[]⟩, .string ⟨#[]⟩, .int .i64 1, .int .i64 1, .int .i64 2, .int .i64 3, .int .i64 0]] W (TextY W ⟨#[35, 44, 35, 35, 48, 46, 48, 35]⟩)) := Lib.hid hc
  clear h hW hc
  go_enter Tryd.func5, Tryd.ntmps5
  go_wp2_with (go_at_call 10; (with_reducible refine CP.out.mono ?_); rintro e w1 ⟨rfl, hb1⟩; dsimp only)
  go_ret
  exact ⟨rfl, hb1⟩
end Np
end Go.Proofs.YtonbjfepckolnaaDoor
