/- What strconv's functions read, and what Itoa and Atoi tell; what lay in memory stays as it was. And what follows from it. -/
import Derived.Test.YtehocgemgdbikaaGreatDoorPow10
import Derived.Test.YtehocgemgdbikaaGreatDoorRowText
import Derived.Stop.LaidErr
import Derived.Lib.LaidTab
namespace Go.Proofs.YtehocgemgdbikaaGreatDoor
namespace D
open Go.RowKit

/-- a variable that holds an error, or nil -/
def HoldsErr (w : World) (g : Nat) : Prop := ∃ ev, w.cell? ⟨g, 0, none⟩ = some ev ∧ (ev = .nilIface ∨ ∃ te pe, ev = .iface te pe)
theorem HoldsErr.later {w W : World} {g : Nat} (h : HoldsErr w g) (hb : Below w.heap.size w W) : HoldsErr W g := by
  obtain ⟨ev, h1, h2⟩ := h
  exact ⟨ev, (hb.cell (World.block_lt_of_cell? w _ h1)).trans h1, h2⟩
/-- what strconv's functions read: the table of powers, two errors -/
structure Strc (w : World) : Prop where
  tab : Lib.TabIs Tryz.prog w "internal/strconv.uint64pow10" .u64 Lib.pow10Tab
  syn : HoldsErr w 2
  rng : HoldsErr w 3
theorem Strc.later {w W : World} (h : Strc w) (hb : Below w.heap.size w W) : Strc W := ⟨var_later h.tab hb, h.syn.later hb, h.rng.later hb⟩

theorem itoa_any (c : Int) (w : World) (h0 : -1000000000000000 ≤ c) (h1 : c ≤ 1000000000000000) (hs : Strc w) : Calls Tryz.prog 49 #[.int .i64 c] w (Gives w (.string (str (Lib.itoa c)))) := itoa_pow c w h0 h1 hs.tab
/-- Atoi's errors -/
def AtoiBad (w : World) (e : Ending) (w' : World) : Prop := ∃ (v : Int) (N : Nat), e = .returned (.tuple #[.int .i64 v, .iface 155 (.pointer (some ⟨N, 0, none⟩))]) ∧ Below w.heap.size w w'
theorem atoi_bad (s : ByteArray) (w : World) (hs : Strc w) (hl : s.size ≤ 281474976710656) (h : ∀ v, Lib.atoiAll s.data.toList ≠ .ok v) : Calls Tryz.prog 61 #[.string s] w (AtoiBad w) := by
  rcases ha : Lib.atoiAll s.data.toList with v | _ | _
  · exact absurd ha (h v)
  · obtain ⟨ev, h1, h2⟩ := hs.syn
    exact (Any.strconv_Atoi_syntax Tryz.laysC172 s hl ha ev w h1 h2).mono fun _ _ ⟨N, he, _, _, hb⟩ => ⟨_, N, he, hb⟩
  · obtain ⟨ev, h1, h2⟩ := hs.rng
    exact (Any.strconv_Atoi_range Tryz.laysC172 s hl ha ev w h1 h2).mono fun _ _ ⟨N, he, _, _, hb⟩ => ⟨_, N, he, hb⟩
theorem atoi_good (s : ByteArray) (w : World) (hl : s.size ≤ 281474976710656) (v : Int) (h : Lib.atoiAll s.data.toList = .ok v) : Calls Tryz.prog 61 #[.string s] w (Gives w (.tuple #[.int .i64 v, .nilIface])) :=
  (Tryz.strconv_Atoi_ok s (by omega) v h w).mono fun _ _ ⟨he, hw⟩ => ⟨he, by
    rcases hw with rfl | ⟨t, rfl⟩
    · exact Below.refl _ _
    · exact Lib.bytesWorld_below _ _ _⟩
end D
end Go.Proofs.YtehocgemgdbikaaGreatDoor

/- What a row's list gives of strconv's table and errors; how long a text among the arguments is. -/
namespace Go.Proofs.YtehocgemgdbikaaGreatDoor
namespace D
open Go.ChangeShapes Go.WideShapes Go.ChangeAt Go.RowKit

theorem tabGlobal : Tryz.prog.globalNamed "internal/strconv.uint64pow10" = some 4 := by kernel_rfl
theorem tabType : (Tryz.prog.globals[4]?).map (·.type) = some 174 := by kernel_rfl
theorem tabCells : Tryz.prog.cellsOf 174 = 20 := by kernel_rfl
theorem wordCells : Tryz.prog.cellsOf 143 = 1 := by kernel_rfl
theorem rngGlobal : Tryz.prog.globalNamed "strconv.ErrRange" = some 3 := by kernel_rfl
theorem synGlobal : Tryz.prog.globalNamed "strconv.ErrSyntax" = some 2 := by kernel_rfl
theorem rngType : (Tryz.prog.globals[3]?).map (·.type) = some 34 := by kernel_rfl
theorem synType : (Tryz.prog.globals[2]?).map (·.type) = some 34 := by kernel_rfl
theorem starName : "*" ++ "errors.errorString" = "*errors.errorString" := by decide
theorem errRow (u : TypeId) (h : Tryz.prog.typeName? 3 u = some "*errors.errorString") : u = 180 :=
  typeName_ptr_named (nm := "errors.errorString") (by rw [starName]; kernel_rfl) (by kernel_rfl) (by decide) u (by rw [starName]; exact h)
theorem errCells : Tryz.prog.cellsOf 182 = 1 := by kernel_rfl
theorem strCells : Tryz.prog.cellsOf 9 = 1 := by kernel_rfl
theorem tab_data {H : Type} : (Rows.laid_internal_strconv_uint64pow10 : DataW H) = Lib.tabData .u64 Lib.pow10Tab := rfl
/-- an error that a list names is held -/
theorem holds_of {W : World} {n : String} {g : Nat} {a : Addr} (hg : Tryz.prog.globalNamed n = some g) (h : W.var? Tryz.prog n = some #[.iface 180 (.pointer (some a))]) : HoldsErr W g :=
  ⟨_, by simpa using World.var?_cell hg h 0, .inr ⟨_, _, rfl⟩⟩
end D
end Go.Proofs.YtehocgemgdbikaaGreatDoor
