/- The program's helpers on whole numbers: whether a scale or a coefficient fits, a power of ten, a quotient rounded by a way; each returns what the plain fact says, and the world stays as it was but for draws. And what follows from it. -/
import Derived.Test.YtehocgemgdbikaaDoorDecTens
import Derived.Test.YtehocgemgdbikaaDoorDecGround
import Derived.Test.YtehocgemgdbikaaDoorDecTwo
import Derived.Deep.RegionHeld3
import Derived.Deep.DeepCutAuto
import Derived.Deep.DrawnRows
namespace Go.Proofs.YtehocgemgdbikaaDoor
namespace D
open Go.RowKit

theorem abs_any (n : Int) (w : World) (h0 : -1000000000000000000 ≤ n) (h1 : n ≤ 1000000000000000000) : Calls Tryd.prog 45 #[.int .i64 n] w fun e w' => e = .returned (.int .i64 n.natAbs) ∧ w = w' := by
  by_cases h : 0 ≤ n
  all_goals
    go_enter Tryd.func45, Tryd.ntmps45
    go_wp2
    go_ret
    exact ⟨ret_int (by (repeat' split) <;> omega), rfl⟩
theorem fits_iff {c u m : Int} (hu : 0 < u) (hm : 0 ≤ m) : (c.natAbs : Int) ≤ m.tdiv u ↔ -m ≤ c * u ∧ c * u ≤ m := by
  rw [Int.tdiv_eq_ediv_of_nonneg hm, Int.le_ediv_iff_mul_le hu]
  rcases Int.le_total 0 c with h | h
  · have : (c.natAbs : Int) = c := by omega
    have h0 := Int.mul_nonneg h (show 0 ≤ u by omega)
    rw [this]; omega
  · have : (c.natAbs : Int) = -c := by omega
    have h0 := Int.mul_nonneg (show 0 ≤ -c by omega) (show 0 ≤ u by omega)
    rw [this, Int.neg_mul] at *; omega
set_option maxHeartbeats 1000000 in
theorem extend_any (c z m : Int) (w : World) (hz : 0 ≤ z) (hz9 : z ≤ 9) (h0 : -1000000000000000 ≤ c) (hc : c ≤ 1000000000000000) (hm : 0 ≤ m) (hm2 : m ≤ 2000000000000000) :
    Calls Tryd.prog 31 #[.int .i64 c, .int .i64 z, .int .i64 m] w (Drawn w (.tuple #[.int .i64 (if -m ≤ c * ten z ∧ c * ten z ≤ m then c * ten z else 0), .bool (decide (-m ≤ c * ten z ∧ c * ten z ≤ m))])) := by
  have HT : Hid (∀ W : World, Calls Tryd.prog 30 #[.int .i64 z] W fun e w' => e = .returned (.int .i64 (ten z)) ∧ W = w') := Lib.hid fun W => tens_any z W hz hz9
  have HA : Hid (∀ W : World, Calls Tryd.prog 45 #[.int .i64 c] W fun e w' => e = .returned (.int .i64 c.natAbs) ∧ W = w') := Lib.hid fun W => abs_any c W (by omega) (by omega)
  have b0 := ten_pos z
  have b1 := ten_le_nine hz hz9
  generalize ten z = u at *
  have hu0 : (u == 0) = false := by simp; omega
  have hf := fits_iff (c := c) b0 hm
  have HF := Lib.hid hf
  have hd := go_rest b0 m
  have hq : 0 ≤ m.tdiv u ∧ m.tdiv u ≤ 2000000000000000 := by omega
  clear hd
  generalize hQ : m.tdiv u = q at *
  by_cases hb : (c.natAbs : Int) ≤ q
  · have hcu := hf.1 hb
    have HB := Lib.hid hcu
    clear hf
    generalize hMM : (c.natAbs : Int) = a at *
    have HMM := Lib.hid hMM
    clear hMM
    go_enter Tryd.func31, Tryd.ntmps31
    go_wp2_with (go_at_call 30; (with_reducible refine (HT.out _).mono ?_); rintro e w' ⟨rfl, rfl⟩)
    go_quiet (first | (go_at_call 45; exact quiet_same HA.out _ _))
    go_wp2_with fail
    go_ret2
    exact ⟨rfl, _, rfl⟩
  · have hcu : ¬ (-m ≤ c * u ∧ c * u ≤ m) := fun h => hb (hf.2 h)
    have HB := Lib.hid hcu
    clear hf hcu
    generalize hMM : (c.natAbs : Int) = a at *
    have HMM := Lib.hid hMM
    clear hMM
    go_enter Tryd.func31, Tryd.ntmps31
    go_wp2_with (go_at_call 30; (with_reducible refine (HT.out _).mono ?_); rintro e w' ⟨rfl, rfl⟩)
    go_quiet (first | (go_at_call 45; exact quiet_same HA.out _ _))
    go_wp2_with fail
    go_ret2
    exact ⟨rfl, _, rfl⟩
end D
end Go.Proofs.YtehocgemgdbikaaDoor

/- The program's quotient, rounded by a way: it returns what the plain fact says, and the world stays as it was but for draws. -/
namespace Go.Proofs.YtehocgemgdbikaaDoor
namespace D
open Go.RowKit

set_option maxHeartbeats 4000000 in
theorem divide_any (c u way : Int) (w : World) (hu : 0 < u) (hu1 : u ≤ 1000000000) (h0 : -1000000000000000 ≤ c) (hc : c ≤ 1000000000000000) (h1 : 1 ≤ way) (h5 : way ≤ 5) :
    Calls Tryd.prog 29 #[.int .i64 c, .int .i64 u, .int .i64 way] w (Drawn w (.int .i64 (rnd way c u))) := by
  have hu0 : (u == 0) = false := by simp; omega
  have ht := told_eq hu c way h1 h5
  obtain ⟨r0, r1, r2, r3⟩ := go_rest hu c
  rw [← ht]
  clear ht
  generalize hQ : c.tdiv u = q at *
  generalize hR : c.tmod u = r at *
  have q0 : -1000000000000000 ≤ q ∧ q ≤ 1000000000000000 := by omega
  clear r2 r3
  have HA : Hid (∀ W : World, Calls Tryd.prog 45 #[.int .i64 r] W fun e w' => e = .returned (.int .i64 r.natAbs) ∧ W = w') := Lib.hid fun W => abs_any r W (by omega) (by omega)
  have hm : (0 : Int) ≤ r.natAbs ∧ (r.natAbs : Int) ≤ 1000000000 := by omega
  rcases (show r < 0 ∨ r = 0 ∨ 0 < r by omega) with hr | hr | hr <;>
  rcases (show 2 * (r.natAbs : Int) < u ∨ 2 * (r.natAbs : Int) = u ∨ u < 2 * (r.natAbs : Int) by omega) with hh | hh | hh <;>
  rcases (show way = 1 ∨ way = 2 ∨ way = 3 ∨ way = 4 ∨ way = 5 by omega) with rfl | rfl | rfl | rfl | rfl <;>
  by_cases ho : q.tmod 2 = 0
  all_goals
    first
      | have C1 := Lib.hid (cmp_lt (show r < 0 by omega))
      | have C1 := Lib.hid (cmp_gt (show 0 < r by omega))
      | have C1 := Lib.hid (cmp_eq (show r = 0 by omega))
    first
      | have C2 := Lib.hid (cmp_lt (show 2 * (r.natAbs : Int) < u by omega))
      | have C2 := Lib.hid (cmp_gt (show u < 2 * (r.natAbs : Int) by omega))
      | have C2 := Lib.hid (cmp_eq (show 2 * (r.natAbs : Int) = u by omega))
    have HO := Lib.hid ho
    try (have ho1 : (q.tmod 2 == 0) = true := by simpa using ho)
    try (have ho1 : (q.tmod 2 == 0) = false := by simpa using ho)
    have HR := Lib.hid hr
    have HH := Lib.hid hh
    clear hh hr ho
    generalize hMM : (r.natAbs : Int) = m at *
    have HMM := Lib.hid hMM
    clear hMM
    go_enter Tryd.func29, Tryd.ntmps29
    go_wp2_with fail
    go_quiet (fail)
    go_wp2_with (first
      | (go_at_call 45; (with_reducible refine (HA.out _).mono ?_); rintro e w' ⟨rfl, rfl⟩)
      | (go_at_call 44; (with_reducible refine (C1.out _).mono ?_); rintro e w' ⟨rfl, rfl⟩)
      | (go_at_call 44; (with_reducible refine (C2.out _).mono ?_); rintro e w' ⟨rfl, rfl⟩))
    go_ret
    exact ⟨ret_int (by unfold told; have h1 := HR.out; have h2 := HH.out; have h3 := HO.out; have h4 := HMM.out; simp [h3]; try ((repeat' split) <;> omega)), _, rfl⟩
end D
end Go.Proofs.YtehocgemgdbikaaDoor

/- The program's Round of a number: the number rounded, or what is wrong; what lay in memory stays as it was. -/
namespace Go.Proofs.YtehocgemgdbikaaDoor
namespace D
open Go.RowKit

set_option maxHeartbeats 8000000 in
theorem round_any (c s t way : Int) (w : World) : Calls Tryd.prog 13 #[.agg #[.int .i64 c, .int .i64 s], .int .i64 t, .int .i64 way] w (Gives w (roundV c s t way)) := by
  have HB := Lib.hid fun (wx : World) (hb : Below ((w.alloc (box c s)).alloc (box 0 0)).heap.size ((w.alloc (box c s)).alloc (box 0 0)) wx) => (Boxes.new w c s 0 0).call (lt_two w _ _) hb
  have CK := Lib.hid fun W => check_any c s W
  have CS := Lib.hid fun W => scaleFits_any t W
  by_cases h1 : Right c s
  · by_cases h2 : 0 ≤ t ∧ t ≤ 9
    · by_cases h3 : 1 ≤ way ∧ way ≤ 5
      · by_cases h4 : t < s
        · have hF : roundF c s t way = 0 := roundF_zero.2 ⟨h1, h2, h3, fewer_room h1 h4⟩
          have hrc : rc c s t way = rnd way c (ten (s - t)) := by unfold rc; exact rnd_fewer way (by omega) h1.2.1
          have hroom := fewer_room (way := way) h1 h4
          rw [hrc] at hroom
          rw [roundV_ok hF, hrc]
          simp only [fault_ok h1, errV_zero] at CK
          simp only [h2, and_self, decide_true] at CS
          have CT : Hid (∀ W : World, Calls Tryd.prog 30 #[.int .i64 (s - t)] W fun e w' => e = .returned (.int .i64 (ten (s - t))) ∧ W = w') := Lib.hid fun W => tens_any (s - t) W (by omega) (by have := h1.2.1; omega)
          have CD : Hid (∀ W : World, Calls Tryd.prog 29 #[.int .i64 c, .int .i64 (ten (s - t)), .int .i64 way] W (Drawn W (.int .i64 (rnd way c (ten (s - t)))))) := Lib.hid fun W => divide_any c (ten (s - t)) way W (ten_pos _) (ten_le_nine (by omega) (by have := h1.2.1; omega)) h1.2.2.1 h1.2.2.2 h3.1 h3.2
          obtain ⟨h10, h11, h12, h13⟩ := h1
          obtain ⟨h20, h21⟩ := h2
          obtain ⟨h30, h31⟩ := h3
          clear hF hrc
          generalize rnd way c (ten (s - t)) = r at *
          generalize ten (s - t) = u at *
          go_enter Tryd.func13, Tryd.ntmps13
          go_upto_region 2 with (first
            | (go_at_call 27; (with_reducible refine (CK.out _).mono ?_); rintro e w1 ⟨rfl, hb1⟩))
          have hBX := HB.out _ hb1
          have HX := Lib.hid hBX
          obtain ⟨hb, x0, x1, r0, r1, f0, f1⟩ := hBX
          clear hb hb1 CK
          go_upto_region 9 with (first
            | (go_at_call 28; (with_reducible refine (CS.out _).mono ?_); rintro e w' ⟨rfl, rfl⟩))
          have hws : IntKind.i64.wrap (s - t) = s - t := by rw [IntKind.wrap_i64]; omega
          have hS0 : w1.cell? ⟨w.heap.size, 0, none⟩ = some (.int .i64 c) ∧ w1.cell? ⟨w.heap.size, 1, none⟩ = some (.int .i64 s) := ⟨x0, x1⟩
          go_region_held3 (fun wx => wx.cell? ⟨w.heap.size, 0, none⟩ = some (.int .i64 c) ∧ wx.cell? ⟨w.heap.size, 1, none⟩ = some (.int .i64 s))
            (first | exact ⟨x0, x1⟩ | (refine ⟨?_, ?_⟩; (simpa using x0); (simpa using x1)) | (refine ⟨kept ?_ _ _, kept ?_ _ _⟩; (simpa using x0); (simpa using x1)))
            (first
              | (go_at_call 30; (with_reducible refine (CT.out _).mono ?_); rintro e wy ⟨rfl, rfl⟩)
              | (go_at_call 29; (with_reducible refine (CD.out _).mono ?_); rintro e wz ⟨rfl, dn, rfl⟩))
          go_wp2_with fail
          have zz := fun n => stored (wx := w1.drewN n) (by simpa using HX.out.r0) (by simpa using HX.out.r1) (.int .i64 r) (.int .i64 t)
          have z0 := fun n => (zz n).1
          have z1 := fun n => (zz n).2
          refine bodyPost_ret (v := .tuple #[.agg #[.int .i64 r, .int .i64 t], .nilIface]) ?_ rfl ⟨rfl, ?_⟩
          · simp [results, Tryd.results13, go_sem, z0, z1]
          · exact up_set (up_set (up_drewN HX.out.below _) (Nat.le_succ _) _) (Nat.le_succ _) _
        · have hst : s ≤ t := by omega
          have hrc : rc c s t way = c * ten (t - s) := rnd_more way hst h2.2
          have CE : Hid (∀ W : World, Calls Tryd.prog 31 #[.int .i64 c, .int .i64 (t - s), .int .i64 1000000000000000] W (Drawn W _)) := Lib.hid fun W => extend_any c (t - s) 1000000000000000 W (by omega) (by have := h1.1; omega) h1.2.2.1 h1.2.2.2 (by decide) (by decide)
          simp only [fault_ok h1, errV_zero] at CK
          simp only [h2, and_self, decide_true] at CS
          by_cases hfit : -1000000000000000 ≤ c * ten (t - s) ∧ c * ten (t - s) ≤ 1000000000000000
          · have hF : roundF c s t way = 0 := roundF_zero.2 ⟨h1, h2, h3, by rw [hrc]; exact hfit⟩
            rw [roundV_ok hF, hrc]
            simp only [hfit, and_self, if_true, decide_true] at CE
            obtain ⟨h10, h11, h12, h13⟩ := h1
            obtain ⟨h20, h21⟩ := h2
            obtain ⟨h30, h31⟩ := h3
            clear hF hrc
            generalize c * ten (t - s) = r at *
            go_enter Tryd.func13, Tryd.ntmps13
            go_upto_region 2 with (first
              | (go_at_call 27; (with_reducible refine (CK.out _).mono ?_); rintro e w1 ⟨rfl, hb1⟩))
            have hBX := HB.out _ hb1
            have HX := Lib.hid hBX
            obtain ⟨hb, x0, x1, r0, r1, f0, f1⟩ := hBX
            clear hb hb1 CK
            go_wp2_with (first
              | (go_at_call 28; (with_reducible refine (CS.out _).mono ?_); rintro e w' ⟨rfl, rfl⟩)
              | (go_at_call 31; (with_reducible refine (CE.out _).mono ?_); rintro e w' ⟨rfl, dn, rfl⟩; dsimp only))
            have zz := fun n => stored (wx := w1.drewN n) (by simpa using HX.out.r0) (by simpa using HX.out.r1) (.int .i64 r) (.int .i64 t)
            have z0 := fun n => (zz n).1
            have z1 := fun n => (zz n).2
            refine bodyPost_ret (v := .tuple #[.agg #[.int .i64 r, .int .i64 t], .nilIface]) ?_ rfl ⟨rfl, ?_⟩
            · simp [results, Tryd.results13, go_sem, z0, z1]
            · exact up_set (up_set (up_drewN HX.out.below _) (Nat.le_succ _) _) (Nat.le_succ _) _
          · have hF : roundF c s t way = 1 := by
              unfold roundF
              simp only [h1, h2, h3, hrc, hfit, not_true, not_false_iff, if_true, if_false, and_self]
            rw [roundV_one hF]
            simp only [hfit, if_false, decide_false] at CE
            obtain ⟨h10, h11, h12, h13⟩ := h1
            obtain ⟨h20, h21⟩ := h2
            obtain ⟨h30, h31⟩ := h3
            clear hF hrc hfit
            go_enter Tryd.func13, Tryd.ntmps13
            go_upto_region 2 with (first
              | (go_at_call 27; (with_reducible refine (CK.out _).mono ?_); rintro e w1 ⟨rfl, hb1⟩))
            have hBX := HB.out _ hb1
            have HX := Lib.hid hBX
            obtain ⟨hb, x0, x1, r0, r1, f0, f1⟩ := hBX
            clear hb hb1 CK
            go_wp2_with (first
              | (go_at_call 28; (with_reducible refine (CS.out _).mono ?_); rintro e w' ⟨rfl, rfl⟩)
              | (go_at_call 31; (with_reducible refine (CE.out _).mono ?_); rintro e w' ⟨rfl, dn, rfl⟩; dsimp only))
            have zz := fun n => stored (wx := w1.drewN n) (by simpa using HX.out.r0) (by simpa using HX.out.r1) (.int .i64 0) (.int .i64 0)
            have z0 := fun n => (zz n).1
            have z1 := fun n => (zz n).2
            refine bodyPost_ret (v := .tuple #[.agg #[.int .i64 0, .int .i64 0], .iface 54 (.int .i64 1)]) ?_ rfl ⟨rfl, ?_⟩
            · simp [results, Tryd.results13, go_sem, z0, z1]
            · exact up_set (up_set (up_drewN HX.out.below _) (Nat.le_succ _) _) (Nat.le_succ _) _
      · have hF : roundF c s t way = 3 := by
          unfold roundF
          simp only [h1, h2, h3, not_true, not_false_iff, if_true, if_false, and_self]
        rw [roundV_three hF]
        simp only [fault_ok h1, errV_zero] at CK
        simp only [h2, and_self, decide_true] at CS
        clear hF h1 h2
        by_cases h30 : way < 1
        all_goals
          try (have h31 : 5 < way := by omega)
          go_enter Tryd.func13, Tryd.ntmps13
          go_upto_region 2 with (first
            | (go_at_call 27; (with_reducible refine (CK.out _).mono ?_); rintro e w1 ⟨rfl, hb1⟩))
          have hBX := HB.out _ hb1
          have HX := Lib.hid hBX
          obtain ⟨hb, x0, x1, r0, r1, f0, f1⟩ := hBX
          clear hb hb1 CK
          go_wp2_with (first
            | (go_at_call 28; (with_reducible refine (CS.out _).mono ?_); rintro e w' ⟨rfl, rfl⟩))
          obtain ⟨z0, z1⟩ := stored (wx := w1) HX.out.r0 HX.out.r1 (.int .i64 0) (.int .i64 0)
          refine bodyPost_ret (v := .tuple #[.agg #[.int .i64 0, .int .i64 0], .iface 54 (.int .i64 3)]) ?_ rfl ⟨rfl, ?_⟩
          · simp [results, Tryd.results13, go_sem, z0, z1]
          · exact up_set (up_set HX.out.below (Nat.le_succ _) _) (Nat.le_succ _) _
    · have hF : roundF c s t way = 1 := by
        unfold roundF
        simp only [h1, h2, not_true, not_false_iff, if_true, if_false]
      rw [roundV_one hF]
      simp only [fault_ok h1, errV_zero] at CK
      simp only [h2, decide_false] at CS
      clear hF h1 h2
      go_enter Tryd.func13, Tryd.ntmps13
      go_upto_region 2 with (first
        | (go_at_call 27; (with_reducible refine (CK.out _).mono ?_); rintro e w1 ⟨rfl, hb1⟩))
      have hBX := HB.out _ hb1
      have HX := Lib.hid hBX
      obtain ⟨hb, x0, x1, r0, r1, f0, f1⟩ := hBX
      clear hb hb1 CK
      go_wp2_with (first
        | (go_at_call 28; (with_reducible refine (CS.out _).mono ?_); rintro e w' ⟨rfl, rfl⟩))
      obtain ⟨z0, z1⟩ := stored (wx := w1) HX.out.r0 HX.out.r1 (.int .i64 0) (.int .i64 0)
      refine bodyPost_ret (v := .tuple #[.agg #[.int .i64 0, .int .i64 0], .iface 54 (.int .i64 1)]) ?_ rfl ⟨rfl, ?_⟩
      · simp [results, Tryd.results13, go_sem, z0, z1]
      · exact up_set (up_set HX.out.below (Nat.le_succ _) _) (Nat.le_succ _) _
  · have hF : roundF c s t way = 1 := by
      unfold roundF
      simp only [h1, not_false_iff, if_true]
    rw [roundV_one hF]
    simp only [fault_no h1, errV_one] at CK
    clear hF h1
    go_enter Tryd.func13, Tryd.ntmps13
    go_upto_region 2 with (first
      | (go_at_call 27; (with_reducible refine (CK.out _).mono ?_); rintro e w1 ⟨rfl, hb1⟩))
    have hBX := HB.out _ hb1
    have HX := Lib.hid hBX
    obtain ⟨hb, x0, x1, r0, r1, f0, f1⟩ := hBX
    clear hb hb1 CK
    go_wp2_with fail
    obtain ⟨z0, z1⟩ := stored (wx := w1) HX.out.r0 HX.out.r1 (.int .i64 0) (.int .i64 0)
    refine bodyPost_ret (v := .tuple #[.agg #[.int .i64 0, .int .i64 0], .iface 54 (.int .i64 1)]) ?_ rfl ⟨rfl, ?_⟩
    · simp [results, Tryd.results13, go_sem, z0, z1]
    · exact up_set (up_set HX.out.below (Nat.le_succ _) _) (Nat.le_succ _) _
end D
end Go.Proofs.YtehocgemgdbikaaDoor
