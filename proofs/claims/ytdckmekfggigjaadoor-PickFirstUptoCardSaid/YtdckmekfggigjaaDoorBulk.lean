/- The bound of a row's second form, at a text among the arguments. -/
import Derived.Test.YtdckmekfggigjaaDoorRow
namespace Go.Proofs.YtdckmekfggigjaaDoor
theorem bulk_mem {H : Type} {d : DataW H} : ∀ {l : List (DataW H)}, d ∈ l → Rows.uptoBulk d ≤ Rows.uptoBulkAll l
  | x :: r, h => by
    unfold Rows.uptoBulkAll
    rcases List.mem_cons.1 h with rfl | h'
    · omega
    · have := bulk_mem h'; omega
theorem bulk_text {H : Type} {l : List (DataW H)} {b : List UInt8} (hk : Rows.uptoSmall H l = true) (h : DataW.lit (.string b) ∈ l) : b.length ≤ 1048576 := by
  have h1 := of_decide_eq_true hk
  have h2 := bulk_mem h
  unfold Rows.uptoBulk at h2
  omega
end Go.Proofs.YtdckmekfggigjaaDoor
