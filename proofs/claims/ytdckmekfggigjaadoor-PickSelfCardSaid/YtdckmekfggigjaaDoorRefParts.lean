/- The parts of a tag that are there, as the reference gathers them. -/
import Derived.Test.YtdckmekfggigjaaDoorText
namespace Go.Proofs.YtdckmekfggigjaaDoor
open Go.RowKit Go.Maps

def PartsPost (w : World) (ps : List ByteArray) (e : Ending) (w' : World) : Prop :=
  ∃ v, e = .returned v ∧ w'.ownsRow w.heap.size 9 1 v ps.length (sv ps) ∧ Below w.heap.size w w'

set_option maxHeartbeats 4000000 in
set_option maxRecDepth 100000 in
theorem parts_any (L S R : ByteArray) (A : Option Addr) (n c : Nat) (vs : List ByteArray) (w : World) (h : Reads w w.heap.size 1 A n (sv vs)) (hn : Few n) :
    Calls Tryd.prog 26 #[.agg #[.string L, .string S, .string R, .slice A n c]] w (PartsPost w (partsOf L S R vs)) := by
  obtain ⟨i0, hi0, hz0, hz1, hz2⟩ := info_parts str_info
  have ha := (h.alloc (Nat.le_refl _) (.cells #[.string L, .string S, .string R, .slice A n c] 29)).alloc (by simp) (.cells #[.string L, .string S, .string R] 9)
  have hb : Below w.heap.size w ((w.alloc (.cells #[.string L, .string S, .string R, .slice A n c] 29)).alloc (.cells #[.string L, .string S, .string R] 9)) := ((Below.refl _ _).alloc (Nat.le_refl _) _).alloc (by simp) _
  have ho : ((w.alloc (.cells #[.string L, .string S, .string R, .slice A n c] 29)).alloc (.cells #[.string L, .string S, .string R] 9)).ownsRow (w.heap.size + 1) 9 1 (.slice (some ⟨w.heap.size + 1, 0, none⟩) 3 3) 3 (sv [L, S, R]) := by
    have := own_lit (w.alloc (.cells #[.string L, .string S, .string R, .slice A n c] 29)) (sv [L, S, R]) 9 (base := w.heap.size + 1) (by simp) (by simp [sv, maxLen])
    simpa [sv] using this
  have hl := h.len
  have hal : (allOf L S R vs).length = 3 + n := by simp [allOf, hl]; omega
  have hsv : sv [L, S, R] ++ sv vs = sv (allOf L S R vs) := by simp [sv, allOf]
  have HAL := Lib.hid hal
  have HSV := Lib.hid hsv
  clear hal hsv hl h
  unfold partsOf
  generalize allOf L S R vs = al at *
  have H3 : 3 + n ≤ 1000003 := by unfold Few at hn; omega
  have HN := Lib.hid H3
  clear hn H3
  go_enter Tryd.func26, Tryd.ntmps26
  go_wp2_with (at_builtin; refine wpList_append_any _ rfl (.tmp 12) (.tmp 14) _ rfl (w.heap.size + 1) 9 i0 _ 1 16 Tryd.underlying27 hi0 hz0 hz1 hz2 rfl (by omega) (.slice (some ⟨w.heap.size + 1, 0, none⟩) 3 3) 3 (sv [L, S, R]) rfl ho w.heap.size A n c (sv vs) rfl ha (sv_one _) (by have := HN.out; unfold maxLen; omega) (by have := HN.out; omega) (by simp) ?_; intro v1 w1 hown1 hg1 hat1)
  obtain ⟨A1, c1, rfl, hc1, hr1⟩ := own_form hown1
  rw [HSV.out] at hr1
  have hb1 : Below w.heap.size w w1 := hb.grown hg1 (by simp; omega) (fun j hj => by simp [Value.ownBlock] at hj; omega)
  clear hown1 hg1 hat1 ho ha hb HSV
  have HC1 := Lib.hid hc1; clear hc1
  go_loopw [3, 5] (fun v i wr => ∃ k : Nat, k ≤ 3 + n ∧ i = .int .i64 k ∧ wr.ownsRow w1.heap.size 9 1 v ((al.take k).filter full).length (sv ((al.take k).filter full)) ∧ Below w1.heap.size w1 wr) (fun _ i _ => 3 + n - (intOf i).toNat)
  case atStart => exact ⟨0, Nat.zero_le _, rfl, World.ownsRow_nil _ _ _ _, Below.refl _ _⟩
  case round =>
    obtain ⟨k, hk, rfl, hown, hbw⟩ := hrel
    have hH := HN.out
    by_cases hlt : k < 3 + n
    · have hka : k < al.length := by rw [HAL.out]; exact hlt
      obtain ⟨ad, rfl, hadb, hcell⟩ := (hr1.below hbw).str hlt hka
      have hfl := filter_len al k
      cases hf : full al[k]
      · have hm := filter_miss al k hka hf
        have HM := Lib.hid hm; clear hm
        have he : al[k].toList = [] := by simpa [full] using hf
        clear hf
        go_wp2_with fail
        go_roundw
        case rel => exact ⟨k + 1, by omega, by go_num, by rw [HM.out]; exact hown, hbw⟩
        case measure => simp [intOf]; omega
      · have hm := filter_hit al k hka hf
        have HM := Lib.hid hm; clear hm
        have he : al[k].toList.isEmpty = false := by simpa [full] using hf
        have he' : ¬ al[k].toList = [] := by simpa [full] using hf
        clear hf
        generalize al[k] = x at *
        go_wp2_with (at_builtin; refine wpList_append_own _ rfl (.tmp 27) (.tmp 32) _ rfl w1.heap.size 9 i0 _ 1 16 Tryd.underlying27 hi0 hz0 hz1 hz2 rfl (by decide) _ _ _ rfl (hown.alloc _) ⟨wr.heap.size, 0, none⟩ 1 1 [.string x] rfl rfl (cell_one_new _ _ _) (sv_one [x]) (by unfold maxLen; omega) (by omega) (by have := hbw.size; simp; omega) ?_; intro v2 w2 hown2 hg2 hnil2)
        have hbw2 : Below w1.heap.size w1 w2 := (hbw.alloc hbw.size _).grown hg2 (by have := hbw.size; simp; omega) (fun j hj => (hown.lt j hj).1)
        go_roundw
        case rel => exact ⟨k + 1, by omega, by go_num, by rw [HM.out, sv_snoc]; simpa using hown2, hbw2⟩
        case measure => simp [intOf]; omega
    · have hkn : al.take k = al := List.take_of_length_le (by rw [HAL.out]; omega)
      rw [hkn] at hown
      clear hkn
      go_wp2_with fail
      go_ret
      exact ⟨_, rfl, own_mono hown hb1.size, hb1.trans (hbw.mono hb1.size)⟩
end Go.Proofs.YtdckmekfggigjaaDoor
