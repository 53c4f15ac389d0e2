/- Rows of tags among the arguments: they are of a size that a call bears. -/
import Derived.Test.YtdckmekfggigjaaDoorOpenTags
import Derived.Test.YtdckmekfggigjaaDoorPickWalk
namespace Go.Proofs.YtdckmekfggigjaaDoor
theorem few_tags {n : Nat} (h : n * 72 ≤ 140737488355328) : n < maxLen := by unfold maxLen; omega
theorem sized_all {xs : List TagX} (h : ∀ x ∈ xs, XSized x) (hr : ∀ x ∈ xs, x.t.vars.length * 16 ≤ 140737488355328) : SizedAll xs := fun x hx =>
  ⟨by have := hr x hx; unfold maxLen; omega, (h x hx).lang, (h x hx).script, (h x hx).region, (h x hx).vars⟩
end Go.Proofs.YtdckmekfggigjaaDoor
