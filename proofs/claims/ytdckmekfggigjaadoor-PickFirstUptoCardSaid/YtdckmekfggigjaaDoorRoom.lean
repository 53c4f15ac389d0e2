/- How much room the variants of a tag among the arguments take. -/
import Derived.Test.YtdckmekfggigjaaDoorRow
namespace Go.Proofs.YtdckmekfggigjaaDoor
open Go.ChangeShapes Go.WideShapes Go.RowKit
theorem tag_room {H : Type} {ts : List TypeId} {ds : List (DataW H)} (h : (DataW.weightsEach Tryd.prog ts ds).all (· ≤ reachBytes) = true) {j : Nat} {d : DataW H} (ht : ts[j]? = some 29) (hd : ds[j]? = some d)
    {L S R : ByteArray} {n c : Nat} {vs : List ByteArray} (hT : TagData d L S R n c vs) : n * 16 ≤ 140737488355328 := by
  obtain ⟨dv, rfl, hdv⟩ := hT
  rcases hdv with ⟨_, rfl, _, _⟩ | ⟨rest, rfl, hn, hc⟩
  · decide
  · have hm : (n + rest.length) * 16 ∈ DataW.weights Tryd.prog 29 (.agg [.lit (.string L.data.toList), .lit (.string S.data.toList), .lit (.string R.data.toList), .slice (strs vs) (strs rest)] : DataW H) := by
      simp [DataW.weights, DataW.weightsEach, Tryd.underlying27, strBytes, strs, hn]
    have := List.all_eq_true.1 h _ (DataW.weights_mem_each ht hd _ hm)
    have := reachBytes_lt
    simp at *
    omega
theorem text_room {H : Type} {ts : List TypeId} {ds : List (DataW H)} (h : (DataW.weightsEach Tryd.prog ts ds).all (· ≤ reachBytes) = true) {j : Nat} {b : ByteArray} (ht : ts[j]? = some 9) (hd : ds[j]? = some (.lit (.string b.data.toList))) : b.size ≤ 140737488355328 := by
  have hm : b.data.toList.length ∈ DataW.weights Tryd.prog 9 (.lit (.string b.data.toList) : DataW H) := by
    simp [DataW.weights]
  have := List.all_eq_true.1 h _ (DataW.weights_mem_each ht hd _ hm)
  have := reachBytes_lt
  simp at *
  omega
end Go.Proofs.YtdckmekfggigjaaDoor
