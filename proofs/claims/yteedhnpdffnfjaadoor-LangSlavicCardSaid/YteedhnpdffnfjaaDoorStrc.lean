/- What strconv's functions read, and what Itoa and Atoi tell; what lay in memory stays as it was. -/
import Derived.Test.YteedhnpdffnfjaaDoorShelf
import Derived.Test.YteedhnpdffnfjaaDoorGround
import Derived.Lib.AppendIntMem
namespace Go.Proofs.YteedhnpdffnfjaaDoor
namespace D
open Go.RowKit

theorem var_later {P : Program} {w W : World} {n : String} {cs : Array Value} (h : w.var? P n = some cs) (hb : Below w.heap.size w W) : W.var? P n = some cs := by
  unfold World.var? at h ⊢
  cases hg : P.globalNamed n with
  | none => simp [hg] at h
  | some g =>
    simp only [hg, Option.bind_some] at h ⊢
    have hlt : g < w.heap.size := by
      rcases Nat.lt_or_ge g w.heap.size with h' | h'
      · exact h'
      · simp [Array.getElem?_eq_none h'] at h
    rw [hb.block g hlt]
    exact h
/-- a variable that holds an error, or nil -/
def HoldsErr (w : World) (g : Nat) : Prop := ∃ ev, w.cell? ⟨g, 0, none⟩ = some ev ∧ (ev = .nilIface ∨ ∃ te pe, ev = .iface te pe)
theorem HoldsErr.later {w W : World} {g : Nat} (h : HoldsErr w g) (hb : Below w.heap.size w W) : HoldsErr W g := by
  obtain ⟨ev, h1, h2⟩ := h
  exact ⟨ev, (hb.cell (World.block_lt_of_cell? w _ h1)).trans h1, h2⟩
/-- what strconv's functions read: the table of powers, two errors -/
structure Strc (w : World) : Prop where
  tab : Lib.TabIs Tryd.prog w "internal/strconv.uint64pow10" .u64 Lib.pow10Tab
  syn : HoldsErr w 3
  rng : HoldsErr w 4
theorem Strc.later {w W : World} (h : Strc w) (hb : Below w.heap.size w W) : Strc W := ⟨var_later h.tab hb, h.syn.later hb, h.rng.later hb⟩

theorem itoa_any (c : Int) (w : World) (h0 : -1000000000000000 ≤ c) (h1 : c ≤ 1000000000000000) (hs : Strc w) : Calls Tryd.prog 61 #[.int .i64 c] w (Gives w (.string (str (Lib.itoa c)))) :=
  (Tryd.strconv_Itoa c (by omega) (by omega) w hs.tab).mono fun _ _ ⟨he, k, os, hw⟩ => ⟨he, hw ▸ Lib.below_grow _ _ (Nat.le_refl _) k os⟩
theorem itoa_sign (c : Int) : Lib.itoa c = (if c < 0 then [45] else []) ++ Lib.decDigits c.natAbs := by
  unfold Lib.itoa
  split
  · rfl
  · rw [show c.toNat = c.natAbs by omega]; rfl
/-- Atoi's errors -/
def AtoiBad (w : World) (e : Ending) (w' : World) : Prop := ∃ (v : Int) (N : Nat), e = .returned (.tuple #[.int .i64 v, .iface 144 (.pointer (some ⟨N, 0, none⟩))]) ∧ Below w.heap.size w w'
theorem atoi_bad (s : ByteArray) (w : World) (hs : Strc w) (hl : s.size ≤ 281474976710656) (h : ∀ v, Lib.atoiAll s.data.toList ≠ .ok v) : Calls Tryd.prog 45 #[.string s] w (AtoiBad w) := by
  rcases ha : Lib.atoiAll s.data.toList with v | _ | _
  · exact absurd ha (h v)
  · obtain ⟨ev, h1, h2⟩ := hs.syn
    exact (Any.strconv_Atoi_syntax Tryd.laysC172 s hl ha ev w h1 h2).mono fun _ _ ⟨N, he, _, _, hb⟩ => ⟨_, N, he, hb⟩
  · obtain ⟨ev, h1, h2⟩ := hs.rng
    exact (Any.strconv_Atoi_range Tryd.laysC172 s hl ha ev w h1 h2).mono fun _ _ ⟨N, he, _, _, hb⟩ => ⟨_, N, he, hb⟩
theorem atoi_good (s : ByteArray) (w : World) (hl : s.size ≤ 281474976710656) (v : Int) (h : Lib.atoiAll s.data.toList = .ok v) : Calls Tryd.prog 45 #[.string s] w (Gives w (.tuple #[.int .i64 v, .nilIface])) :=
  (Tryd.strconv_Atoi_ok s (by omega) v h w).mono fun _ _ ⟨he, hw⟩ => ⟨he, by
    rcases hw with rfl | ⟨t, rfl⟩
    · exact Below.refl _ _
    · exact Lib.bytesWorld_below _ _ _⟩
end D
end Go.Proofs.YteedhnpdffnfjaaDoor
