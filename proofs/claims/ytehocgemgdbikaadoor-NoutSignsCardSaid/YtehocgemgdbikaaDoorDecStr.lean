/- The library's functions on texts that the program's decimals call: a number's digits, a sign taken off, noughts, a text cut at its point; what lay in memory stays as it was. -/
import Derived.Test.YtehocgemgdbikaaDoorPow10
import Derived.Test.YtehocgemgdbikaaDoorDecGround
import Derived.Test.YtehocgemgdbikaaDoorDecFacts
import Derived.Test.YtehocgemgdbikaaDoorGround
import Derived.Lib.CutLaws
import Derived.Lib.IndexBytes
import Derived.Lib.AppendIntMem
namespace Go.Proofs.YtehocgemgdbikaaDoor
namespace D
open Go.RowKit

theorem dec_no_sign (n : Nat) : Lib.hasPrefix (Lib.decDigits n) [45] = false := by
  obtain ⟨b, r, e⟩ := List.exists_cons_of_ne_nil (dec_ne n)
  have := dec_digs n b (by rw [e]; simp)
  rw [e]
  unfold Lib.hasPrefix
  have hb : (45 == b) = false := by
    rw [beq_eq_false_iff_ne]
    rintro rfl
    exact absurd this.1 (by decide)
  simp [List.isPrefixOf, hb]
theorem cutpre_any (c : Int) (w : World) : Calls Tryd.prog 14 #[.string (str (Lib.itoa c)), .string ⟨#[45]⟩] w fun e w' => e = .returned (.tuple #[.string (str (Lib.decDigits c.natAbs)), .bool (decide (c < 0))]) ∧ w = w' := by
  refine (Tryd.strings_CutPrefix (str (Lib.itoa c)) ⟨#[45]⟩ w).mono fun e w' ⟨he, hw⟩ => ⟨?_, hw.symm⟩
  rw [he, str_data, itoa_sign]
  show Ending.returned (.tuple #[.string (str (Lib.trimPrefix _ [45])), .bool (Lib.hasPrefix _ [45])]) = _
  by_cases h : c < 0
  · rw [if_pos h, decide_eq_true h]
    unfold Lib.trimPrefix Lib.hasPrefix
    simp [List.isPrefixOf]
  · rw [if_neg h, decide_eq_false h, List.nil_append]
    unfold Lib.trimPrefix
    rw [dec_no_sign]
    simp
theorem noughts_any (k : Nat) (w : World) (h : k ≤ 100) : Calls Tryd.prog 35 #[.string ⟨#[48]⟩, .int .i64 k] w (Gives w (.string (str (noughts k)))) := by
  have := Tryd.strings_Repeat ⟨#[48]⟩ k w (by omega) (by show 1 * k ≤ _; omega)
  rw [show Lib.repeatL (⟨#[48]⟩ : ByteArray).data.toList k = noughts k from noughts_repeat k] at this
  exact this

def point : ByteArray := ⟨#[46]⟩
theorem index_point (x : ByteArray) (W : World) : Calls Tryd.prog 54 #[.string x, .string ⟨#[46]⟩] W fun e w' => e = .returned (.int .i64 (Lib.indexB x point)) ∧ w' = W := by
  have := Tryd.stringslite_Index_one x 46 W
  rw [show Lib.indexByte x.data.toList 46 = Lib.indexB x point from (Lib.index_one x.data.toList 46).symm] at this
  exact this
set_option maxHeartbeats 2000000 in
set_option maxRecDepth 100000 in
theorem cutlite_any (s : ByteArray) (w : World) (hs : s.size ≤ 140737488355328) :
    Calls Tryd.prog 36 #[.string s, .string ⟨#[46]⟩] w fun e w' => e = .returned (.tuple #[.string (str (Lib.cut s.data.toList [46]).1), .string (str (Lib.cut s.data.toList [46]).2.1), .bool (Lib.cut s.data.toList [46]).2.2]) ∧ ∃ n, w' = w.drewN n := by
  rcases Lib.indexB_cases s point with hix | ⟨i, hix, hroom⟩
  · obtain ⟨e1, e2, e3⟩ := Lib.cutB_miss s point hix
    have f1 : str (Lib.cut s.data.toList [46]).1 = _ := e1
    have f2 : str (Lib.cut s.data.toList [46]).2.1 = _ := e2
    have f3 : (Lib.cut s.data.toList [46]).2.2 = _ := e3
    rw [f1, f2, f3]
    clear e1 e2 e3 f1 f2 f3
    have HIX := Lib.hid hix; clear hix
    go_enter Tryd.func36, Tryd.ntmps36
    go_wp2_with (go_at_call 54; (with_reducible refine (index_point s _).mono ?_); rintro e w' ⟨rfl, rfl⟩; rw [HIX.out])
    go_ret3
    exact ⟨rfl, 0, rfl⟩
  · obtain ⟨e1, e2, e3⟩ := Lib.cutB_hit s point i hix
    have f1 : str (Lib.cut s.data.toList [46]).1 = _ := e1
    have f2 : str (Lib.cut s.data.toList [46]).2.1 = _ := e2
    have f3 : (Lib.cut s.data.toList [46]).2.2 = _ := e3
    rw [f1, f2, f3]
    clear e1 e2 e3 f1 f2 f3
    have HIX := Lib.hid hix; clear hix
    have hroom1 : i + 1 ≤ s.size := hroom
    clear hroom
    have c1 : (0 : Int) ≤ (i : Int) := by omega
    have c2 : (i : Int) ≤ (s.size : Int) := by omega
    have c3 : (0 : Int) ≤ (i : Int) + 1 := by omega
    have c4 : (i : Int) + 1 ≤ (s.size : Int) := by omega
    have c5 : IntKind.i64.wrap ((i : Int) + 1) = (i : Int) + 1 := by rw [IntKind.wrap_i64]; omega
    go_enter Tryd.func36, Tryd.ntmps36
    go_wp2_with (go_at_call 54; (with_reducible refine (index_point s _).mono ?_); rintro e w' ⟨rfl, rfl⟩; rw [HIX.out])
    go_region
    go_wp2
    go_ret3
    exact ⟨rfl, 1, rfl⟩
theorem cut_any (s : ByteArray) (w : World) (hs : s.size ≤ 140737488355328) :
    Calls Tryd.prog 16 #[.string s, .string ⟨#[46]⟩] w fun e w' => e = .returned (.tuple #[.string (str (Lib.cut s.data.toList [46]).1), .string (str (Lib.cut s.data.toList [46]).2.1), .bool (Lib.cut s.data.toList [46]).2.2]) ∧ ∃ n, w' = w.drewN n := by
  have HC := Lib.hid (cutlite_any s w hs)
  generalize (str (Lib.cut s.data.toList [46]).1) = a at *
  generalize (str (Lib.cut s.data.toList [46]).2.1) = b at *
  generalize (Lib.cut s.data.toList [46]).2.2 = c at *
  go_enter Tryd.func16, Tryd.ntmps16
  go_wp2_with (go_at_call 36; (with_reducible refine HC.out.mono ?_); rintro e w' ⟨rfl, n, rfl⟩; dsimp only)
  go_ret3
  exact ⟨rfl, n, rfl⟩
theorem cut_size (s : ByteArray) : (str (Lib.cut s.data.toList [46]).1).size + (str (Lib.cut s.data.toList [46]).2.1).size ≤ s.size := by
  rw [ba_size, ba_size, ba_size, str_data, str_data]
  unfold Lib.cut
  split
  · simp only [List.length_take, List.length_drop]; omega
  · simp
end D
end Go.Proofs.YtehocgemgdbikaaDoor
