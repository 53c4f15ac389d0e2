/- What a row's list gives of strconv's table and errors; how long a text among the arguments is. -/
import Derived.Test.YteekhfiphbhbjaaGreatDoorDecLaid
import Derived.Test.YteekhfiphbhbjaaGreatDoorDecStr
import Derived.Stop.LaidErr
import Derived.Lib.LaidTab
namespace Go.Proofs.YteekhfiphbhbjaaGreatDoor
namespace D
open Go.ChangeShapes Go.WideShapes Go.ChangeAt Go.RowKit

theorem tabGlobal : Tryz.prog.globalNamed "internal/strconv.uint64pow10" = some 4 := by kernel_rfl
theorem tabType : (Tryz.prog.globals[4]?).map (·.type) = some 144 := by kernel_rfl
theorem tabCells : Tryz.prog.cellsOf 144 = 20 := by kernel_rfl
theorem wordCells : Tryz.prog.cellsOf 105 = 1 := by kernel_rfl
theorem rngGlobal : Tryz.prog.globalNamed "strconv.ErrRange" = some 3 := by kernel_rfl
theorem synGlobal : Tryz.prog.globalNamed "strconv.ErrSyntax" = some 2 := by kernel_rfl
theorem rngType : (Tryz.prog.globals[3]?).map (·.type) = some 29 := by kernel_rfl
theorem synType : (Tryz.prog.globals[2]?).map (·.type) = some 29 := by kernel_rfl
theorem starName : "*" ++ "errors.errorString" = "*errors.errorString" := by decide
theorem errRow (u : TypeId) (h : Tryz.prog.typeName? 3 u = some "*errors.errorString") : u = 140 :=
  typeName_ptr_named (nm := "errors.errorString") (by rw [starName]; kernel_rfl) (by kernel_rfl) (by decide) u (by rw [starName]; exact h)
theorem errCells : Tryz.prog.cellsOf 142 = 1 := by kernel_rfl
theorem strCells : Tryz.prog.cellsOf 9 = 1 := by kernel_rfl
theorem tab_data {H : Type} : (Rows.laid_internal_strconv_uint64pow10 : DataW H) = Lib.tabData .u64 Lib.pow10Tab := rfl
/-- an error that a list names is held -/
theorem holds_of {W : World} {n : String} {g : Nat} {a : Addr} (hg : Tryz.prog.globalNamed n = some g) (h : W.var? Tryz.prog n = some #[.iface 140 (.pointer (some a))]) : HoldsErr W g :=
  ⟨_, by simpa using World.var?_cell hg h 0, .inr ⟨_, _, rfl⟩⟩
theorem strc_of {W : World} {d32 d64 : DataW Unit}
    (h : laidMet Tryz.prog [("math/bits.deBruijn32tab", d32), ("math/bits.deBruijn64tab", d64), ("internal/strconv.uint64pow10", Rows.laid_internal_strconv_uint64pow10), ("strconv.ErrRange", Rows.laid_strconv_ErrRange), ("strconv.ErrSyntax", Rows.laid_strconv_ErrSyntax)] W) : Strc W := by
  have h3 := h.tail.tail
  have h4 := h3.tail
  have h5 := h4.tail
  rw [tab_data] at h3
  obtain ⟨a, _, e1, _⟩ := laid_sentinel h4 rngGlobal rngType Tryz.underlying29 errRow Tryz.underlying140 Tryz.underlying142 rfl rfl Tryz.underlying9 errCells strCells
  obtain ⟨b, _, e2, _⟩ := laid_sentinel h5 synGlobal synType Tryz.underlying29 errRow Tryz.underlying140 Tryz.underlying142 rfl rfl Tryz.underlying9 errCells strCells
  exact ⟨Lib.tabIs_of_head tabGlobal tabType Tryz.underlying144 Tryz.underlying105 wordCells tabCells h3, holds_of synGlobal e2, holds_of rngGlobal e1⟩

theorem dec_room {H : Type} {ts : List TypeId} {ds : List (DataW H)} (h : (DataW.weightsEach Tryz.prog ts ds).all (· ≤ reachBytes) = true) {j : Nat} {b : ByteArray} (ht : ts[j]? = some 9) (hd : ds[j]? = some (.lit (.string b.data.toList))) : b.size ≤ 140737488355328 := by
  have hm : b.data.toList.length ∈ DataW.weights Tryz.prog 9 (.lit (.string b.data.toList) : DataW H) := by
    simp [DataW.weights]
  have := List.all_eq_true.1 h _ (DataW.weights_mem_each ht hd _ hm)
  have := reachBytes_lt
  simp at *
  omega
theorem bulk_mem {H : Type} {d : DataW H} : ∀ {l : List (DataW H)}, d ∈ l → Rows.uptoBulk d ≤ Rows.uptoBulkAll l
  | x :: r, h => by
    unfold Rows.uptoBulkAll
    rcases List.mem_cons.1 h with rfl | h'
    · omega
    · have := bulk_mem h'; omega
theorem bulk_dec {H : Type} {l : List (DataW H)} {b : ByteArray} (hk : Rows.uptoSmall H l = true) {j : Nat} (h : l[j]? = some (.lit (.string b.data.toList))) : b.size ≤ 1048576 := by
  have h1 := of_decide_eq_true hk
  have h2 := bulk_mem (List.mem_of_getElem? h)
  unfold Rows.uptoBulk at h2
  rw [ba_size]
  omega
end D
end Go.Proofs.YteekhfiphbhbjaaGreatDoor
