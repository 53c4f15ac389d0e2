/- What a row's list gives of strconv's table and errors; how long a text among the arguments is. -/
import Derived.Test.YteedhnpdffnfjaaDoorLawRow
import Derived.Test.YteedhnpdffnfjaaDoorStrc
import Derived.Stop.LaidErr
import Derived.Lib.LaidTab
namespace Go.Proofs.YteedhnpdffnfjaaDoor
namespace D
open Go.ChangeShapes Go.WideShapes Go.ChangeAt Go.RowKit

theorem tabGlobal : Tryd.prog.globalNamed "internal/strconv.uint64pow10" = some 7 := by kernel_rfl
theorem tabType : (Tryd.prog.globals[7]?).map (·.type) = some 188 := by kernel_rfl
theorem tabCells : Tryd.prog.cellsOf 188 = 20 := by kernel_rfl
theorem wordCells : Tryd.prog.cellsOf 159 = 1 := by kernel_rfl
theorem rngGlobal : Tryd.prog.globalNamed "strconv.ErrRange" = some 4 := by kernel_rfl
theorem synGlobal : Tryd.prog.globalNamed "strconv.ErrSyntax" = some 3 := by kernel_rfl
theorem rngType : (Tryd.prog.globals[4]?).map (·.type) = some 25 := by kernel_rfl
theorem synType : (Tryd.prog.globals[3]?).map (·.type) = some 25 := by kernel_rfl
theorem starName : "*" ++ "errors.errorString" = "*errors.errorString" := by decide
theorem errRow (u : TypeId) (h : Tryd.prog.typeName? 3 u = some "*errors.errorString") : u = 173 :=
  typeName_ptr_named (nm := "errors.errorString") (by rw [starName]; kernel_rfl) (by kernel_rfl) (by decide) u (by rw [starName]; exact h)
theorem errCells : Tryd.prog.cellsOf 175 = 1 := by kernel_rfl
theorem strCells : Tryd.prog.cellsOf 9 = 1 := by kernel_rfl
theorem tab_data {H : Type} : (Rows.laid_internal_strconv_uint64pow10 : DataW H) = Lib.tabData .u64 Lib.pow10Tab := rfl
/-- an error that a list names is held -/
theorem holds_of {W : World} {n : String} {g : Nat} {a : Addr} (hg : Tryd.prog.globalNamed n = some g) (h : W.var? Tryd.prog n = some #[.iface 173 (.pointer (some a))]) : HoldsErr W g :=
  ⟨_, by simpa using World.var?_cell hg h 0, .inr ⟨_, _, rfl⟩⟩
theorem dec_room {H : Type} {ts : List TypeId} {ds : List (DataW H)} (h : (DataW.weightsEach Tryd.prog ts ds).all (· ≤ reachBytes) = true) {j : Nat} {b : ByteArray} (ht : ts[j]? = some 9) (hd : ds[j]? = some (.lit (.string b.data.toList))) : b.size ≤ 140737488355328 := by
  have hm : b.data.toList.length ∈ DataW.weights Tryd.prog 9 (.lit (.string b.data.toList) : DataW H) := by
    simp [DataW.weights]
  have := List.all_eq_true.1 h _ (DataW.weights_mem_each ht hd _ hm)
  have := reachBytes_lt
  simp at *
  omega
theorem bulk_mem {H : Type} {d : DataW H} : ∀ {l : List (DataW H)}, d ∈ l → Rows.uptoBulk d ≤ Rows.uptoBulkAll l
  | x :: r, h => by
    unfold Rows.uptoBulkAll
    rcases List.mem_cons.1 h with rfl | h'
    · omega
    · have := bulk_mem h'; omega
theorem bulk_dec {H : Type} {l : List (DataW H)} {b : ByteArray} (hk : Rows.uptoSmall H l = true) {j : Nat} (h : l[j]? = some (.lit (.string b.data.toList))) : b.size ≤ 1048576 := by
  have h1 := of_decide_eq_true hk
  have h2 := bulk_mem (List.mem_of_getElem? h)
  unfold Rows.uptoBulk at h2
  rw [ba_size]
  omega
end D
end Go.Proofs.YteedhnpdffnfjaaDoor
