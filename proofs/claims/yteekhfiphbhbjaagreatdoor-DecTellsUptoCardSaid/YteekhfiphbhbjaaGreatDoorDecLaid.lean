/- The world for the witnesses of the rows that list variables, and what such a list gives of errors.errorType. -/
import Derived.Test.YteekhfiphbhbjaaGreatDoorDecTold
import Derived.Test.YteekhfiphbhbjaaGreatDoorDecRow
import Derived.LaidHandle
import Derived.Lib.ItoaNum
namespace Go.Proofs.YteekhfiphbhbjaaGreatDoor
namespace D
open Go.ChangeShapes Go.WideShapes Go.ChangeAt Go.RowKit

theorem errGlobal : Tryz.prog.globalNamed "errors.errorType" = some 0 := by kernel_rfl
theorem rtypeNo : (Tryz.prog.cutTypes.find? (·.1 == "internal/reflectlite.rtype")).map (·.2) = some 110 := by kernel_rfl
theorem errorRows : ((List.range Tryz.prog.types.size).filter fun t => Tryz.prog.rowNamed t [101, 114, 114, 111, 114]) = [29] := by kernel_rfl
theorem errorHandle : typeHandle Tryz.prog 29 = .pointer (some ⟨7, 29, none⟩) := by kernel_rfl
/-- what a row's list gives: errors.errorType holds error's own type -/
theorem errType_of {W : World} (h : handlesMet Tryz.prog [("errors.errorType", Rows.laid_errors_errorType)] W) : ErrType W := by
  obtain ⟨name, u, ty, e1, e2, e3, e4, e5⟩ := h _ (List.mem_singleton.2 rfl)
  have en : name = [101, 114, 114, 111, 114] := (Option.some.inj e1).symm
  subst en
  obtain rfl := Option.some.inj (rtypeNo.symm.trans e2)
  have hm : ty ∈ (List.range Tryz.prog.types.size).filter fun t => Tryz.prog.rowNamed t [101, 114, 114, 111, 114] := List.mem_filter.2 ⟨List.mem_range.2 e3, e4⟩
  rw [errorRows] at hm
  obtain rfl := List.mem_singleton.1 hm
  rw [errorHandle] at e5
  have := World.var?_cell errGlobal e5 0
  unfold ErrType
  simpa using this
/-- what a variable's initialiser lays -/
def laidIn (cs : Array Value) : Obj → Obj
  | .cells _ t frozen => .cells cs t frozen
  | o => o
def rangeS : ByteArray := ⟨#[118, 97, 108, 117, 101, 32, 111, 117, 116, 32, 111, 102, 32, 114, 97, 110, 103, 101]⟩
def syntaxS : ByteArray := ⟨#[105, 110, 118, 97, 108, 105, 100, 32, 115, 121, 110, 116, 97, 120]⟩
def tab32 : List Int := [0, 1, 28, 2, 29, 14, 24, 3, 30, 22, 20, 15, 25, 17, 4, 8, 31, 27, 13, 23, 21, 19, 16, 7, 26, 12, 18, 6, 11, 5, 10, 9]
def tab64 : List Int := [0, 1, 56, 2, 57, 49, 28, 3, 61, 58, 42, 50, 38, 29, 17, 4, 62, 47, 59, 36, 45, 43, 51, 22, 53, 39, 33, 30, 24, 18, 12, 5, 63, 55, 48, 27, 60, 41, 37, 16, 46, 35, 44, 21, 52, 32, 23, 11, 54, 26, 40, 15, 34, 20, 31, 10, 25, 14, 19, 9, 13, 8, 7, 6]
noncomputable def lowest : Nat := (World.holding Tryz.prog default ⟨#[], #[], []⟩).heap.size
/-- the settled world, the listed variables holding what their initialisers lay -/
noncomputable def laidWorld (os : Os) : World :=
  let w0 := World.holding Tryz.prog os ⟨#[.cells #[.string rangeS] 142, .cells #[.string syntaxS] 142], #[], []⟩
  { w0 with heap := (((((w0.heap.modify 0 (laidIn #[.iface 110 (.agg #[.pointer (some ⟨7, 29, none⟩)])])).modify 3 (laidIn #[.iface 140 (.pointer (some ⟨lowest, 0, none⟩))])).modify 2 (laidIn #[.iface 140 (.pointer (some ⟨lowest + 1, 0, none⟩))])).modify 4 (laidIn (Lib.pow10Tab.map fun z => Value.int .u64 z).toArray)).modify 5 (laidIn (tab32.map fun z => Value.int .u8 z).toArray)).modify 6 (laidIn (tab64.map fun z => Value.int .u8 z).toArray) }
end D
end Go.Proofs.YteekhfiphbhbjaaGreatDoor
