/- The library's functions on texts that the program's decimals call: a number's digits, a sign taken off, noughts, a text cut at its point; what lay in memory stays as it was. -/
import Derived.Test.YteekhfiphbhbjaaGreatDoorShelf
import Derived.Test.YteekhfiphbhbjaaGreatDoorDecCheck
import Derived.Test.YteekhfiphbhbjaaGreatDoorDecTextMath
import Derived.Lib.CutLaws
import Derived.Lib.IndexBytes
import Derived.Lib.AppendIntMem
namespace Go.Proofs.YteekhfiphbhbjaaGreatDoor
namespace D
open Go.RowKit

theorem ba_ext {a b : ByteArray} (h : a.data.toList = b.data.toList) : a = b := ByteArray.ext (Array.ext' h)
theorem ba_size (b : ByteArray) : b.size = b.data.toList.length := by simp
/-- bytes as a text -/
abbrev str (l : List UInt8) : ByteArray := ⟨l.toArray⟩
theorem str_data (l : List UInt8) : (str l).data.toList = l := by simp
theorem str_eq {b : ByteArray} {l : List UInt8} (h : b.data.toList = l) : b = str l := ba_ext (by rw [h, str_data])
theorem var_later {P : Program} {w W : World} {n : String} {cs : Array Value} (h : w.var? P n = some cs) (hb : Below w.heap.size w W) : W.var? P n = some cs := by
  unfold World.var? at h ⊢
  cases hg : P.globalNamed n with
  | none => simp [hg] at h
  | some g =>
    simp only [hg, Option.bind_some] at h ⊢
    have hlt : g < w.heap.size := by
      rcases Nat.lt_or_ge g w.heap.size with h' | h'
      · exact h'
      · simp [Array.getElem?_eq_none h'] at h
    rw [hb.block g hlt]
    exact h
/-- a variable that holds an error, or nil -/
def HoldsErr (w : World) (g : Nat) : Prop := ∃ ev, w.cell? ⟨g, 0, none⟩ = some ev ∧ (ev = .nilIface ∨ ∃ te pe, ev = .iface te pe)
theorem HoldsErr.later {w W : World} {g : Nat} (h : HoldsErr w g) (hb : Below w.heap.size w W) : HoldsErr W g := by
  obtain ⟨ev, h1, h2⟩ := h
  exact ⟨ev, (hb.cell (World.block_lt_of_cell? w _ h1)).trans h1, h2⟩
/-- what strconv's functions read: the table of powers, two errors -/
structure Strc (w : World) : Prop where
  tab : Lib.TabIs Tryz.prog w "internal/strconv.uint64pow10" .u64 Lib.pow10Tab
  syn : HoldsErr w 2
  rng : HoldsErr w 3
theorem Strc.later {w W : World} (h : Strc w) (hb : Below w.heap.size w W) : Strc W := ⟨var_later h.tab hb, h.syn.later hb, h.rng.later hb⟩

theorem itoa_any (c : Int) (w : World) (h0 : -1000000000000000 ≤ c) (h1 : c ≤ 1000000000000000) (hs : Strc w) : Calls Tryz.prog 33 #[.int .i64 c] w (Gives w (.string (str (Lib.itoa c)))) :=
  (Tryz.strconv_Itoa c (by omega) (by omega) w hs.tab).mono fun _ _ ⟨he, k, os, hw⟩ => ⟨he, hw ▸ Lib.below_grow _ _ (Nat.le_refl _) k os⟩
theorem itoa_sign (c : Int) : Lib.itoa c = (if c < 0 then [45] else []) ++ Lib.decDigits c.natAbs := by
  unfold Lib.itoa
  split
  · rfl
  · rw [show c.toNat = c.natAbs by omega]; rfl
theorem dec_no_sign (n : Nat) : Lib.hasPrefix (Lib.decDigits n) [45] = false := by
  obtain ⟨b, r, e⟩ := List.exists_cons_of_ne_nil (dec_ne n)
  have := dec_digs n b (by rw [e]; simp)
  rw [e]
  unfold Lib.hasPrefix
  have hb : (45 == b) = false := by
    rw [beq_eq_false_iff_ne]
    rintro rfl
    exact absurd this.1 (by decide)
  simp [List.isPrefixOf, hb]
theorem cutpre_any (c : Int) (w : World) : Calls Tryz.prog 32 #[.string (str (Lib.itoa c)), .string ⟨#[45]⟩] w fun e w' => e = .returned (.tuple #[.string (str (Lib.decDigits c.natAbs)), .bool (decide (c < 0))]) ∧ w = w' := by
  refine (Tryz.strings_CutPrefix (str (Lib.itoa c)) ⟨#[45]⟩ w).mono fun e w' ⟨he, hw⟩ => ⟨?_, hw.symm⟩
  rw [he, str_data, itoa_sign]
  show Ending.returned (.tuple #[.string (str (Lib.trimPrefix _ [45])), .bool (Lib.hasPrefix _ [45])]) = _
  by_cases h : c < 0
  · rw [if_pos h, decide_eq_true h]
    unfold Lib.trimPrefix Lib.hasPrefix
    simp [List.isPrefixOf]
  · rw [if_neg h, decide_eq_false h, List.nil_append]
    unfold Lib.trimPrefix
    rw [dec_no_sign]
    simp
theorem noughts_any (k : Nat) (w : World) (h : k ≤ 100) : Calls Tryz.prog 35 #[.string ⟨#[48]⟩, .int .i64 k] w (Gives w (.string (str (noughts k)))) := by
  have := Tryz.strings_Repeat ⟨#[48]⟩ k w (by omega) (by show 1 * k ≤ _; omega)
  rw [show Lib.repeatL (⟨#[48]⟩ : ByteArray).data.toList k = noughts k from noughts_repeat k] at this
  exact this

def point : ByteArray := ⟨#[46]⟩
theorem index_point (x : ByteArray) (W : World) : Calls Tryz.prog 61 #[.string x, .string ⟨#[46]⟩] W fun e w' => e = .returned (.int .i64 (Lib.indexB x point)) ∧ w' = W := by
  have := Tryz.stringslite_Index_one x 46 W
  rw [show Lib.indexByte x.data.toList 46 = Lib.indexB x point from (Lib.index_one x.data.toList 46).symm] at this
  exact this
set_option maxHeartbeats 2000000 in
set_option maxRecDepth 100000 in
theorem cutlite_any (s : ByteArray) (w : World) (hs : s.size ≤ 140737488355328) :
    Calls Tryz.prog 42 #[.string s, .string ⟨#[46]⟩] w fun e w' => e = .returned (.tuple #[.string (str (Lib.cut s.data.toList [46]).1), .string (str (Lib.cut s.data.toList [46]).2.1), .bool (Lib.cut s.data.toList [46]).2.2]) ∧ ∃ n, w' = w.drewN n := by
  rcases Lib.indexB_cases s point with hix | ⟨i, hix, hroom⟩
  · obtain ⟨e1, e2, e3⟩ := Lib.cutB_miss s point hix
    have f1 : str (Lib.cut s.data.toList [46]).1 = _ := e1
    have f2 : str (Lib.cut s.data.toList [46]).2.1 = _ := e2
    have f3 : (Lib.cut s.data.toList [46]).2.2 = _ := e3
    rw [f1, f2, f3]
    clear e1 e2 e3 f1 f2 f3
    have HIX := Lib.hid hix; clear hix
    go_enter Tryz.func42, Tryz.ntmps42
    go_wp2_with (go_at_call 61; (with_reducible refine (index_point s _).mono ?_); rintro e w' ⟨rfl, rfl⟩; rw [HIX.out])
    go_ret3
    exact ⟨rfl, 0, rfl⟩
  · obtain ⟨e1, e2, e3⟩ := Lib.cutB_hit s point i hix
    have f1 : str (Lib.cut s.data.toList [46]).1 = _ := e1
    have f2 : str (Lib.cut s.data.toList [46]).2.1 = _ := e2
    have f3 : (Lib.cut s.data.toList [46]).2.2 = _ := e3
    rw [f1, f2, f3]
    clear e1 e2 e3 f1 f2 f3
    have HIX := Lib.hid hix; clear hix
    have hroom1 : i + 1 ≤ s.size := hroom
    clear hroom
    have c1 : (0 : Int) ≤ (i : Int) := by omega
    have c2 : (i : Int) ≤ (s.size : Int) := by omega
    have c3 : (0 : Int) ≤ (i : Int) + 1 := by omega
    have c4 : (i : Int) + 1 ≤ (s.size : Int) := by omega
    have c5 : IntKind.i64.wrap ((i : Int) + 1) = (i : Int) + 1 := by rw [IntKind.wrap_i64]; omega
    go_enter Tryz.func42, Tryz.ntmps42
    go_wp2_with (go_at_call 61; (with_reducible refine (index_point s _).mono ?_); rintro e w' ⟨rfl, rfl⟩; rw [HIX.out])
    go_region
    go_wp2
    go_ret3
    exact ⟨rfl, 1, rfl⟩
theorem cut_any (s : ByteArray) (w : World) (hs : s.size ≤ 140737488355328) :
    Calls Tryz.prog 27 #[.string s, .string ⟨#[46]⟩] w fun e w' => e = .returned (.tuple #[.string (str (Lib.cut s.data.toList [46]).1), .string (str (Lib.cut s.data.toList [46]).2.1), .bool (Lib.cut s.data.toList [46]).2.2]) ∧ ∃ n, w' = w.drewN n := by
  have HC := Lib.hid (cutlite_any s w hs)
  generalize (str (Lib.cut s.data.toList [46]).1) = a at *
  generalize (str (Lib.cut s.data.toList [46]).2.1) = b at *
  generalize (Lib.cut s.data.toList [46]).2.2 = c at *
  go_enter Tryz.func27, Tryz.ntmps27
  go_wp2_with (go_at_call 42; (with_reducible refine HC.out.mono ?_); rintro e w' ⟨rfl, n, rfl⟩; dsimp only)
  go_ret3
  exact ⟨rfl, n, rfl⟩
theorem cut_size (s : ByteArray) : (str (Lib.cut s.data.toList [46]).1).size + (str (Lib.cut s.data.toList [46]).2.1).size ≤ s.size := by
  rw [ba_size, ba_size, ba_size, str_data, str_data]
  unfold Lib.cut
  split
  · simp only [List.length_take, List.length_drop]; omega
  · simp
end D
end Go.Proofs.YteekhfiphbhbjaaGreatDoor
