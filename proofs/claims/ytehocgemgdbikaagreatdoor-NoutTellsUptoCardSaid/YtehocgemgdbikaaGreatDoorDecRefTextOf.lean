/- The reference's texts of numbers: digits, so many at least; what lay in memory stays as it was. And what follows from it. -/
import Derived.Test.YtehocgemgdbikaaGreatDoorDecRef
import Derived.Test.YtehocgemgdbikaaGreatDoorDecSign
import Derived.Test.YtehocgemgdbikaaGreatDoorRefDigits
import Derived.Laws.IdiomStrings
import Derived.Deep.DeepCutAuto
import Derived.Deep.RegionHeld3
import Derived.Deep.DrawnRows
namespace Go.Proofs.YtehocgemgdbikaaGreatDoor
namespace D
open Go.RowKit

end D
end Go.Proofs.YtehocgemgdbikaaGreatDoor

/- The reference's text of a right number; what lay in memory stays as it was. -/
namespace Go.Proofs.YtehocgemgdbikaaGreatDoor
namespace D
open Go.RowKit

theorem text_pieces_ (c : Int) (k : Nat) (hk : 0 < k) : text c k = sgn c ++ (pad 0 (c.natAbs / 10 ^ k) ++ 46 :: pad k (c.natAbs % 10 ^ k)) := by
  obtain ⟨j, rfl⟩ : ∃ j, k = j + 1 := ⟨k - 1, by omega⟩
  rw [pad_zero, pad_low j _ (Nat.mod_lt _ (Nat.pow_pos (by decide))), low_mod]
  unfold text sgn
  rw [if_neg (show ¬ j + 1 = 0 by omega)]
theorem pad_size {j n : Nat} (hj : j ≤ 9) (hn : n ≤ 1000000000000000) : (str (pad j n)).size ≤ 25 := by
  rw [ba_size, str_data]
  unfold pad
  have := nDigits_le (n := n) (k := 16) (by decide) (by omega)
  rw [List.length_append, noughts, List.length_replicate, Lib.decDigits_length]
  omega
set_option maxHeartbeats 4000000 in
set_option maxRecDepth 100000 in
theorem refDecText_any (c s : Int) (w : World) (h : Right c s) : Calls Tryz.prog 24 #[.agg #[.int .i64 c, .int .i64 s]] w (Gives w (.string (str (text c s.toNat)))) := by
  obtain ⟨h0, h9, hc0, hc1⟩ := h
  obtain ⟨k, rfl⟩ : ∃ k : Nat, s = k := ⟨s.toNat, by omega⟩
  have hb0 : Below w.heap.size w (w.alloc (box c k)) := up_alloc (Below.refl _ _) _
  have z0 : (w.alloc (box c k)).cell? ⟨w.heap.size, 0, none⟩ = some (.int .i64 c) := by simp
  have z1 : (w.alloc (box c k)).cell? ⟨w.heap.size, 1, none⟩ = some (.int .i64 k) := by simp
  have hl0 : w.heap.size < (w.alloc (box c k)).heap.size := by simp
  have HB := Lib.hid hb0
  have HY : Hid (∀ wx, Below (w.alloc (box c k)).heap.size (w.alloc (box c k)) wx → wx.cell? ⟨w.heap.size, 0, none⟩ = some (.int .i64 c) ∧ wx.cell? ⟨w.heap.size, 1, none⟩ = some (.int .i64 k)) := Lib.hid fun wx hb => ⟨(hb.cell (p := ⟨w.heap.size, 0, none⟩) hl0).trans z0, (hb.cell (p := ⟨w.heap.size, 1, none⟩) hl0).trans z1⟩
  clear hl0 hb0
  have CS := Lib.hid fun W => refSize_any c W (by omega) (by omega)
  have CT := Lib.hid fun W => refTen_any k W h0 h9
  have b0 := ten_pos (k : Int)
  have b1 := ten_le_nine h0 h9
  have eT : ten (k : Int) = ((10 ^ k : Nat) : Int) := by rw [ten_nat]; simp
  have hp : 0 < 10 ^ k := Nat.pow_pos (by decide)
  have hq1 : c.natAbs / 10 ^ k ≤ c.natAbs := Nat.div_le_self _ _
  have hq2 : c.natAbs % 10 ^ k ≤ c.natAbs := Nat.mod_le _ _
  have eQ : (c.natAbs : Int) / ten k = ((c.natAbs / 10 ^ k : Nat) : Int) := by rw [eT]; omega
  have eR : (c.natAbs : Int) % ten k = ((c.natAbs % 10 ^ k : Nat) : Int) := by rw [eT]; omega
  have eM : (c.natAbs : Int).tmod (ten k) = (c.natAbs : Int) % ten k := Int.tmod_eq_emod_of_nonneg (by omega)
  have C1 : Hid (∀ W : World, Calls Tryz.prog 46 #[.int .i64 ((c.natAbs : Int) / ten k), .int .i64 0] W (Gives W (.string (str (pad 0 (c.natAbs / 10 ^ k)))))) := Lib.hid fun W => by
    rw [eQ]; exact refDigits_any _ 0 W (by omega) (by omega)
  have C2 : Hid (∀ W : World, Calls Tryz.prog 46 #[.int .i64 ((c.natAbs : Int) % ten k), .int .i64 k] W (Gives W (.string (str (pad k (c.natAbs % 10 ^ k)))))) := Lib.hid fun W => by
    rw [eR]; exact refDigits_any _ k W (by omega) (by omega)
  have hs1 := pad_size (j := 0) (n := c.natAbs / 10 ^ k) (by omega) (by omega)
  have hs2 := pad_size (j := k) (n := c.natAbs % 10 ^ k) (by omega) (by omega)
  have HE : Hid ((k = 0 → str (text c k) = str (sgn c) ++ str (pad 0 (c.natAbs / 10 ^ k))) ∧ (0 < k → str (text c k) = str (sgn c) ++ (str (pad 0 (c.natAbs / 10 ^ k)) ++ ⟨#[46]⟩ ++ str (pad k (c.natAbs % 10 ^ k))))) := Lib.hid ⟨fun hk => by
    subst hk
    apply ba_ext
    rw [str_data, ByteArray.data_append, Array.toList_append, str_data, str_data, text_nought, pad_zero]
    simp, fun hk => by
    apply ba_ext
    simp only [ByteArray.data_append, Array.toList_append]
    rw [text_pieces_ c k hk]
    simp⟩
  rw [show ((k : Int)).toNat = k from rfl]
  clear eQ eR eT hq1 hq2 hp
  have hm0 : (0 : Int) ≤ (c.natAbs : Int) ∧ (c.natAbs : Int) ≤ 1000000000000000 := by omega
  generalize str (pad 0 (c.natAbs / 10 ^ k)) = A at *
  generalize str (pad k (c.natAbs % 10 ^ k)) = B at *
  generalize hN : (c.natAbs : Int) = N at *
  clear hN
  generalize ten (k : Int) = u at *
  generalize str (text c k) = T at *
  have hu0 : (u == 0) = false := by simp; omega
  have hu1 : ¬ u = 0 := by omega
  have g1 : ¬ 9223372036854775807 < A.size + 1 := by omega
  have g2 : ¬ 9223372036854775807 < A.size + (⟨#[46]⟩ : ByteArray).size := g1
  have g3 : ¬ 9223372036854775807 < (A ++ ⟨#[46]⟩ : ByteArray).size + B.size := by rw [ByteArray.size_append]; show ¬ _ < A.size + 1 + B.size; omega
  have g4 : ¬ 9223372036854775807 < A.size + 1 + B.size := by omega
  by_cases hk : 0 < k
  · have hki : (0 : Int) < (k : Int) := by omega
    have HT := Lib.hid (HE.out.2 hk)
    clear HE
    by_cases hc : c < 0
    all_goals
      first
        | have HSG : Hid (str (sgn c) = ⟨#[45]⟩) := Lib.hid (by unfold sgn; rw [if_pos hc])
        | have HSG : Hid (str (sgn c) = ⟨#[]⟩) := Lib.hid (by unfold sgn; rw [if_neg hc])
      go_enter Tryz.func24, Tryz.ntmps24
      go_upto_region 3 with (first
        | (go_at_call 25; (with_reducible refine (CS.out _).mono ?_); rintro e w1 ⟨rfl, rfl⟩)
        | (go_at_call 44; (with_reducible refine (CT.out _).mono ?_); rintro e w1 ⟨rfl, rfl⟩)
        | (go_at_call 46; (with_reducible refine (C1.out _).mono ?_); rintro e w2 ⟨rfl, hb2⟩))
      have HB2 := Lib.hid (up_call HB.out hb2)
      have HY2 : Hid (∀ wx, Below w2.heap.size w2 wx → Below w2.heap.size w2 wx ∧ wx.cell? ⟨w.heap.size, 0, none⟩ = some (.int .i64 c) ∧ wx.cell? ⟨w.heap.size, 1, none⟩ = some (.int .i64 k)) := Lib.hid fun wx hb => ⟨hb, HY.out wx (up_call hb2 hb)⟩
      clear hb2 z0 z1
      obtain ⟨hB0, z0, z1⟩ := HY2.out _ (Below.refl _ _)
      go_upto_region 4 with fail
      go_region_held3 (fun wx => Below w2.heap.size w2 wx ∧ wx.cell? ⟨w.heap.size, 0, none⟩ = some (.int .i64 c) ∧ wx.cell? ⟨w.heap.size, 1, none⟩ = some (.int .i64 k))
        (first | exact HY2.out _ (by assumption) | exact HY2.out _ (Below.drew (by assumption)))
        (first
          | (go_at_call 44; (with_reducible refine (CT.out _).mono ?_); rintro e wy ⟨rfl, rfl⟩)
          | (go_at_call 46; (with_reducible refine (C2.out _).mono ?_); rintro e wz ⟨rfl, hbz⟩; (have hTz : Below w2.heap.size w2 wz := by first | exact up_call (by assumption) hbz | exact up_call (Below.drew (by assumption)) hbz)))
      obtain ⟨_, y0, y1⟩ := HY2.out _ hTz
      have hS : (A ++ ⟨#[46]⟩ ++ B : ByteArray).size ≤ 100 := by rw [ByteArray.size_append, ByteArray.size_append]; show A.size + 1 + B.size ≤ 100; omega
      generalize (A ++ ⟨#[46]⟩ ++ B : ByteArray) = S at *
      go_wp2_with fail
      go_ret
      refine ⟨ret_str ?_, by first | exact up_call HB2.out hTz | exact up_call HB2.out hTz.drew⟩
      rw [HT.out, HSG.out]
      try (apply ba_ext; simp)
  · obtain rfl : k = 0 := by omega
    have HT := Lib.hid (HE.out.1 rfl)
    clear HE C2 g3 g4
    simp only [show ((0 : Nat) : Int) = 0 from rfl] at CT HY HB z0 z1 ⊢
    by_cases hc : c < 0
    all_goals
      first
        | have HSG : Hid (str (sgn c) = ⟨#[45]⟩) := Lib.hid (by unfold sgn; rw [if_pos hc])
        | have HSG : Hid (str (sgn c) = ⟨#[]⟩) := Lib.hid (by unfold sgn; rw [if_neg hc])
      go_enter Tryz.func24, Tryz.ntmps24
      go_upto_region 3 with (first
        | (go_at_call 25; (with_reducible refine (CS.out _).mono ?_); rintro e w1 ⟨rfl, rfl⟩)
        | (go_at_call 44; (with_reducible refine (CT.out _).mono ?_); rintro e w1 ⟨rfl, rfl⟩)
        | (go_at_call 46; (with_reducible refine (C1.out _).mono ?_); rintro e w2 ⟨rfl, hb2⟩))
      have HB2 := Lib.hid (up_call HB.out hb2)
      obtain ⟨y0, y1⟩ := HY.out _ hb2
      clear hb2 z0 z1
      go_wp2_with fail
      go_ret
      refine ⟨ret_str ?_, HB2.out⟩
      rw [HT.out, HSG.out]
      try (apply ba_ext; simp)
end D
end Go.Proofs.YtehocgemgdbikaaGreatDoor
