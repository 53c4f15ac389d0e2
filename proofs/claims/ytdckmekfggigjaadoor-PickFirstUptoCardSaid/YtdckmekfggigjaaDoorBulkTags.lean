/- The bound of a row's second form, at a row of tags among the arguments. -/
import Derived.Test.YtdckmekfggigjaaDoorBulk
import Derived.Test.YtdckmekfggigjaaDoorRowTags
namespace Go.Proofs.YtdckmekfggigjaaDoor
open Go.WideShapes
theorem bulk_pos {H : Type} (d : DataW H) : 1 ≤ Rows.uptoBulk d := by
  cases d with
  | lit x => cases x <;> simp [Rows.uptoBulk]
  | _ => simp [Rows.uptoBulk]
theorem bulk_length {H : Type} : ∀ l : List (DataW H), l.length ≤ Rows.uptoBulkAll l
  | [] => by simp
  | d :: r => by
    unfold Rows.uptoBulkAll
    have := bulk_pos d
    have := bulk_length r
    simp
    omega
theorem bulk_tags {H : Type} {l : List (DataW H)} {d : DataW H} {n c : Nat} {xs : List TagX} (hk : Rows.uptoSmall H l = true) (hT : TagsData d n c xs) (h : d ∈ l) : n ≤ 1048576 := by
  have h1 := of_decide_eq_true hk
  have h2 := bulk_mem h
  rcases hT with ⟨_, rfl, _, _⟩ | ⟨ds, rest, rfl, hn, _, _⟩
  · omega
  · unfold Rows.uptoBulk at h2
    have := bulk_length ds
    omega
end Go.Proofs.YtdckmekfggigjaaDoor
