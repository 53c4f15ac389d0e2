/- The program's tests on a script and on a region: each returns what the plain test says, and the world stays as it was. -/
import Derived.Test.YtdckmekfggigjaaDoorFills
namespace Go.Proofs.YtdckmekfggigjaaDoor
open Go.RowKit

theorem cons_of_size {s : ByteArray} (h : 0 < s.size) : s.data.toList = s[0] :: s.data.toList.drop 1 := by
  have hl : 0 < s.data.toList.length := by simpa using h
  have e := List.drop_eq_getElem_cons hl
  rw [List.drop_zero] at e
  exact e
theorem scriptB_no {l : P.Bs} (h : l.length ≠ 4) : P.scriptB l = false := by unfold P.scriptB; simp [h]
theorem scriptB_yes {s : ByteArray} (h : s.size = 4) (h0 : 0 < s.size) : P.scriptB s.data.toList = (P.upp s[0] && P.fillsB P.low (s.data.toList.drop 1) 3 3) := by
  unfold P.scriptB
  rw [decide_eq_true (by simpa using h)]
  congr 1
  rw [cons_of_size h0]; simp
theorem extract1 (s : ByteArray) : (s.extract 1 s.size).data.toList = s.data.toList.drop 1 := by
  simp only [ByteArray.data_extract, Array.toList_extract, List.extract_eq_take_drop]
  exact List.take_of_length_le (by simp)
theorem isScript_any (s : ByteArray) (w : World) (hs : s.size ≤ maxLen) : Calls Tryd.prog 45 #[.string s] w fun e w' => e = .returned (.bool (P.scriptB s.data.toList)) ∧ w = w' := by
  unfold maxLen at hs
  by_cases h : s.size = 4
  · have h0 : 0 < s.size := by omega
    have HY := Lib.hid (scriptB_yes h h0)
    have hb : ((s.size : Int) == 4) = true := by simp [h]
    cases hu : P.upp s[0]
    all_goals
      have HU := Lib.hid hu
      have HB := Lib.hid hb
      have h4 : 4 ≤ s.size := by omega
      have h5 : s.size ≤ 4 := by omega
      clear h hu
      go_enter Tryd.func45, Tryd.ntmps45
      go_wp2_with (first
        | (go_at_call 63; refine (upp_any _ _).mono ?_; rintro e w' ⟨rfl, rfl⟩; rw [HU.out])
        | (go_at_call 62; refine (fills_any _ _ low_any (by simp) _ 3 3 _ (by unfold maxLen; simp; omega) (by omega) (by omega)).mono ?_; rintro e w' ⟨rfl, rfl⟩))
      go_ret
      exact ⟨ret_bool (by rw [HY.out, HU.out]; first | rfl | (rw [List.take_of_length_le (by simp)]; simp)), rfl⟩
  · have hn : ((s.size : Int) == 4) = false := by simp; omega
    have HN := Lib.hid (scriptB_no (l := s.data.toList) (by simpa using h))
    clear h
    go_enter Tryd.func45, Tryd.ntmps45
    go_wp2_with fail
    go_ret
    exact ⟨ret_bool HN.out.symm, rfl⟩
theorem isRegion_any (s : ByteArray) (w : World) (hs : s.size ≤ maxLen) : Calls Tryd.prog 46 #[.string s] w fun e w' => e = .returned (.bool (P.regionB s.data.toList)) ∧ w = w' := by
  cases hu : P.fillsB P.upp s.data.toList 2 2
  all_goals
    have HU := Lib.hid hu
    clear hu
    go_enter Tryd.func46, Tryd.ntmps46
    go_wp2_with fail
    refine (fills_any _ _ upp_any (by simp) s 2 2 _ hs (by omega) (by omega)).mono ?_; rintro e w' ⟨rfl, rfl⟩; rw [HU.out]
    try (go_wp2_with fail; refine (fills_any _ _ dig_any (by simp) s 3 3 _ hs (by omega) (by omega)).mono ?_; rintro e w' ⟨rfl, rfl⟩)
    go_wp2_with fail
    go_ret
    exact ⟨ret_bool (by unfold P.regionB; rw [HU.out]; simp), rfl⟩
end Go.Proofs.YtdckmekfggigjaaDoor
