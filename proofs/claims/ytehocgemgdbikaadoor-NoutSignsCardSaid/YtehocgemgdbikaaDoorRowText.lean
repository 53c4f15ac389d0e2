/- How long a text among the arguments is; a byte among them. -/
import Derived.Test.YtehocgemgdbikaaDoorLawRow
import Derived.Test.YtehocgemgdbikaaDoorGround
namespace Go.Proofs.YtehocgemgdbikaaDoor
namespace D
open Go.ChangeShapes Go.WideShapes Go.ChangeAt Go.RowKit

theorem dec_room {H : Type} {ts : List TypeId} {ds : List (DataW H)} (h : (DataW.weightsEach Tryd.prog ts ds).all (· ≤ reachBytes) = true) {j : Nat} {b : ByteArray} (ht : ts[j]? = some 9) (hd : ds[j]? = some (.lit (.string b.data.toList))) : b.size ≤ 140737488355328 := by
  have hm : b.data.toList.length ∈ DataW.weights Tryd.prog 9 (.lit (.string b.data.toList) : DataW H) := by
    simp [DataW.weights]
  have := List.all_eq_true.1 h _ (DataW.weights_mem_each ht hd _ hm)
  have := reachBytes_lt
  simp at *
  omega
theorem bulk_mem {H : Type} {d : DataW H} : ∀ {l : List (DataW H)}, d ∈ l → Rows.uptoBulk d ≤ Rows.uptoBulkAll l
  | x :: r, h => by
    unfold Rows.uptoBulkAll
    rcases List.mem_cons.1 h with rfl | h'
    · omega
    · have := bulk_mem h'; omega
theorem bulk_dec {H : Type} {l : List (DataW H)} {b : ByteArray} (hk : Rows.uptoSmall H l = true) {j : Nat} (h : l[j]? = some (.lit (.string b.data.toList))) : b.size ≤ 1048576 := by
  have h1 := of_decide_eq_true hk
  have h2 := bulk_mem (List.mem_of_getElem? h)
  unfold Rows.uptoBulk at h2
  rw [ba_size]
  omega
/-- a byte -/
theorem byte_of {n : Int} (h : (Lit.int .u8 n).wf = true) : ∃ c : UInt8, n = (c.toNat : Int) := by
  have hb : 0 ≤ n ∧ n < 256 := by
    simp [Lit.wf, IntKind.min, IntKind.max, IntKind.bits, IntKind.signed] at h
    omega
  exact ⟨UInt8.ofNat n.toNat, by simp; omega⟩
end D
end Go.Proofs.YtehocgemgdbikaaDoor
