/- The reference's Grouped: it returns the digits in groups; the world is as it was but for draws. -/
import Derived.Test.YtehocgemgdbikaaGreatDoorGrMath
import Derived.Test.YtehocgemgdbikaaGreatDoorKit
import Derived.Test.YtehocgemgdbikaaGreatDoorRefOnly
namespace Go.Proofs.YtehocgemgdbikaaGreatDoor
namespace Gr
open Go.RowKit D Ru

theorem ba_add (a b : List UInt8) : str a ++ str b = str (a ++ b) := by
  apply ba_ext
  rw [ByteArray.data_append, Array.toList_append, str_data, str_data, str_data]
theorem str_size (l : List UInt8) : (str l).size = l.length := by rw [D.ba_size, str_data]
theorem str_take (l : List UInt8) (k : Nat) : (str l).extract 0 k = str (l.take k) := by
  apply ba_ext
  rw [ByteArray.data_extract, Array.toList_extract, str_data, str_data]; simp
theorem str_drop (l : List UInt8) (k : Nat) : (str l).extract k l.length = str (l.drop k) := by
  apply ba_ext
  rw [ByteArray.data_extract, Array.toList_extract, str_data, str_data]
  simp
  exact List.take_of_length_le (by rw [List.length_drop]; exact Nat.le_refl _)
set_option maxHeartbeats 4000000 in
set_option maxRecDepth 100000 in
theorem refGrouped_any (c : UInt8) : ∀ (g g2 : Nat) (l : List UInt8), g ≤ 4 → g2 ≤ 4 → l.length ≤ 1152921504606846976 → ∀ w : World, Calls Tryz.prog 26 #[.string (str l), .int .i64 g, .int .i64 g2, .string (str [c])] w (Drawn w (.string (str (grouped c g g2 l)))) := by
  intro g g2 l
  induction g, g2, l using pcs_ind with
  | one g g2 l h =>
    intro hg hg2 hl w
    rw [grouped_one h]
    have hs := str_size l
    generalize str l = L at *
    by_cases h0 : g = 0
    · subst h0
      clear h
      go_enter Tryz.func26, Tryz.ntmps26
      go_wp2_with fail
      go_ret
      exact ⟨rfl, 0, rfl⟩
    · have h0i : ((g : Int) == 0) = false := by rw [beq_eq_false_iff_ne]; omega
      have hli : (L.size : Int) ≤ (g : Int) := by rcases h with h | h <;> omega
      clear h
      go_enter Tryz.func26, Tryz.ntmps26
      go_wp2_with fail
      go_ret
      exact ⟨rfl, 0, rfl⟩
  | more g g2 l h ih =>
    intro hg hg2 hl w
    have hn : nextG g g2 ≤ 4 := by unfold nextG; split <;> omega
    have CI := Lib.hid (ih hn hn (by rw [List.length_take]; omega))
    clear ih
    have hk : g ≤ l.length := by omega
    have hgl := grouped_le c (nextG g g2) (nextG g g2) (l.take (l.length - g))
    rw [List.length_take] at hgl
    have HE : Hid (str (grouped c g g2 l) = str (grouped c (nextG g g2) (nextG g g2) (l.take (l.length - g))) ++ str [c] ++ str (l.drop (l.length - g))) := Lib.hid (by rw [grouped_more h, ba_add, ba_add, List.append_assoc])
    have HT := Lib.hid (str_take l (l.length - g))
    have HD := Lib.hid (str_drop l (l.length - g))
    have hs := str_size l
    have hds := str_size (l.drop (l.length - g))
    have hgs := str_size (grouped c (nextG g g2) (nextG g g2) (l.take (l.length - g)))
    have hcs := str_size [c]
    rw [List.length_drop] at hds
    rw [List.length_singleton] at hcs
    generalize grouped c (nextG g g2) (nextG g g2) (l.take (l.length - g)) = G at *
    generalize hkk : l.length - g = k at *
    generalize str (l.drop k) = DR at *
    generalize str (l.take k) = TK at *
    generalize str G = GS at *
    generalize str [c] = cs at *
    generalize str (grouped c g g2 l) = RS at *
    generalize str l = L at *
    rw [← hs] at HD
    have CI := Lib.hid (by have := CI.out; rw [← HT.out] at this; exact this)
    have h0i : ((g : Int) == 0) = false := by rw [beq_eq_false_iff_ne]; omega
    have hli : ¬ ((L.size : Int) ≤ (g : Int)) := by omega
    have hwk : IntKind.i64.wrap ((L.size : Int) - (g : Int)) = ((k : Nat) : Int) := by rw [IntKind.wrap_i64]; omega
    have hk1 : (0 : Int) ≤ (k : Int) := by omega
    have hk2 : (k : Int) ≤ (L.size : Int) := by omega
    have hb1 : ¬ 9223372036854775807 < GS.size + cs.size := by omega
    have hb2 : ¬ 9223372036854775807 < GS.size + cs.size + DR.size := by omega
    have hb3 : ¬ 9223372036854775807 < GS.size + cs.size + (L.size - k) := by omega
    have hN : Hid ((if (g2 : Int) = 0 then (g : Int) else (g2 : Int)) = ((nextG g g2 : Nat) : Int)) := Lib.hid (by unfold nextG; split <;> split <;> omega)
    clear h hgl hds hgs hcs hs hkk hk
    generalize nextG g g2 = ng at *
    by_cases h2 : g2 = 0
    · subst h2
      have hng : ng = g := by have := hN.out; simp at this; omega
      subst hng
      go_enter Tryz.func26, Tryz.ntmps26
      go_upto_region 6 with fail
      go_quiet ((go_at_call 26; with_reducible exact quiet_drawn CI.out _ _))
      go_wp2_with fail
      go_ret
      exact ⟨ret_str (by rw [HE.out, ← HD.out]), _, rfl⟩
    · have h2i : ((g2 : Int) == 0) = false := by rw [beq_eq_false_iff_ne]; omega
      have hng : ng = g2 := by have := hN.out; rw [if_neg (by omega)] at this; omega
      subst hng
      go_enter Tryz.func26, Tryz.ntmps26
      go_upto_region 6 with fail
      go_quiet ((go_at_call 26; with_reducible exact quiet_drawn CI.out _ _))
      go_wp2_with fail
      go_ret
      exact ⟨ret_str (by rw [HE.out, ← HD.out]), _, rfl⟩
end Gr
end Go.Proofs.YtehocgemgdbikaaGreatDoor
