/- The reference's sum of two right numbers; what lay in memory stays as it was. -/
import Derived.Test.YteekhfiphbhbjaaGreatDoorDecRefAdd
namespace Go.Proofs.YteekhfiphbhbjaaGreatDoor
namespace D
open Go.RowKit

theorem Boxes3.drewN {w wx : World} {c s d t : Int} (h : Boxes3 w wx c s d t) (n : Nat) : Boxes3 w (wx.drewN n) c s d t := h.call ⟨rfl, rfl, rfl, by simp, fun _ _ => by simp⟩
set_option maxHeartbeats 8000000 in
set_option maxRecDepth 100000 in
theorem refAdd_lt (c s d t : Int) (w : World) (h : Right c s) (h' : Right d t) (hst : s < t) :
    Calls Tryz.prog 17 #[.agg #[.int .i64 c, .int .i64 s], .agg #[.int .i64 d, .int .i64 t]] w
      (Gives w (if -1000000000000000 ≤ sumC c s d t ∧ sumC c s d t ≤ 1000000000000000 then .tuple #[.agg #[.int .i64 (sumC c s d t), .int .i64 (sumS s t)], .bool true] else .tuple #[.agg #[.int .i64 0, .int .i64 0], .bool false])) := by
  have HB := Lib.hid fun (wx : World) (hb : Below (((w.alloc (box c s)).alloc (box d t)).alloc (box 0 0)).heap.size (((w.alloc (box c s)).alloc (box d t)).alloc (box 0 0)) wx) => (Boxes3.new w c s d t).call hb
  have CF := Lib.hid fun W => refFloor_any c s W h
  have CG := Lib.hid fun W => refFloor_any d t W h'
  have C1 := Lib.hid fun W => refTen_any s W h.1 h.2.1
  have C2 := Lib.hid fun W => refTen_any t W h'.1 h'.2.1
  have C0 := Lib.hid fun W => refTen_any 0 W (by decide) (by decide)
  simp only [ten_zero] at C0
  have k0 : 0 ≤ s ∧ s ≤ 9 := ⟨h.1, h.2.1⟩
  have h0 : 0 ≤ t ∧ t ≤ 9 := ⟨h'.1, h'.2.1⟩
  have fr := floor_room (ten_pos s) c h.2.2.1 h.2.2.2
  have gr := floor_room (ten_pos t) d h'.2.2.1 h'.2.2.2
  have e1 := rest_eq (u := ten s) c
  have e2 := rest_eq (u := ten t) d
  have b0 := ten_pos s
  have b1 := ten_pos t
  have b2 := Int.emod_nonneg c (show ten s ≠ 0 by omega)
  have b3 := Int.emod_lt_of_pos c b0
  have b4 := Int.emod_nonneg d (show ten t ≠ 0 by omega)
  have b5 := Int.emod_lt_of_pos d b1
  have b6 := ten_le_nine h.1 h.2.1
  have b7 := ten_le_nine h'.1 h'.2.1
  have hc := h.2.2
  have hd := h'.2.2
  clear h h'
  have m0 : -2000000000000000 ≤ c / ten s * ten s ∧ c / ten s * ten s ≤ 2000000000000000 := by omega
  have m1 : -2000000000000000 ≤ d / ten t * ten t ∧ d / ten t * ten t ≤ 2000000000000000 := by omega
  have eS : sumS s t = t := if_pos hst
  have CU := Lib.hid fun W => refTen_any t W h0.1 h0.2
  have CV := Lib.hid fun W => refTen_any (t - s) W (by omega) (by omega)
  have sp := sum_pieces (c := c) (d := d) k0 h0
  have sf := sum_far (c := c) (d := d) k0 h0
  have sn := sum_near (u := ten t) (z := c / ten s + d / ten t) (ten_pos _) (ten_le_nine h0.1 h0.2)
  obtain ⟨p0, p1⟩ := frac_room (c := c) (s := s) (k := t) (by omega) (by omega)
  have hm : 0 ≤ (1000000000000000 : Int) / ten t ∧ (1000000000000000 : Int) / ten t ≤ 1000000000000000 := ⟨Int.ediv_nonneg (by decide) (by have := ten_pos t; omega), Int.ediv_le_self _ (by decide)⟩
  have ed : (1000000000000000 : Int).tdiv (ten t) = 1000000000000000 / ten t := Int.tdiv_eq_ediv_of_nonneg (by decide)
  rw [eS] at sp sf
  rw [show t - t = 0 by omega, ten_zero, Int.mul_one] at sp
  rw [eS]
  clear eS
  generalize sumC c s d t = N at *
  generalize hM : (1000000000000000 : Int) / ten t = m at *
  generalize hPP : c % ten s * ten (t - s) = P at *
  generalize hZ : (c / ten s + d / ten t) * ten t = Z at *
  generalize c % ten s = r at *
  generalize d % ten t = r' at *
  generalize c / ten s = x at *
  generalize d / ten t = y at *
  generalize ten (t - s) = v at *
  generalize ten s = u1 at *
  generalize ten t = u2 at *
  have hu1 : (u1 == 0) = false := by simp; omega
  have hu2 : (u2 == 0) = false := by simp; omega
  have hn1 : ¬ u1 = 0 := by omega
  have hn2 : ¬ u2 = 0 := by omega
  have CZ := Lib.hid fun W => refSize_any (x + y) W (by omega) (by omega)
  have ha : 0 ≤ ((x + y).natAbs : Int) ∧ ((x + y).natAbs : Int) ≤ 2000000000000000 := by omega
  generalize ((x + y).natAbs : Int) = A at *
  by_cases hf : m + 2 < A
  · have hno := sf hf
    rw [if_neg hno]
    clear sf sn sp hno hZ
    go_enter Tryz.func17, Tryz.ntmps17
    go_upto_region 3 with (go_at_call 26; (with_reducible refine (CU.out _).mono ?_); rintro e w0 ⟨rfl, rfl⟩)
    go_upto_region 4 with (go_at_call 31; (with_reducible refine (CF.out _).mono ?_); rintro e w1 ⟨rfl, hb1⟩)
    have H1 := Lib.hid (HB.out _ hb1)
    clear hb1
    have d0 := H1.out.d0
    have d1 := H1.out.d1
    go_upto_region 5 with (go_at_call 31; (with_reducible refine (CG.out _).mono ?_); rintro e w2 ⟨rfl, hb2⟩)
    have H2 := Lib.hid (H1.out.call hb2)
    clear hb2 d0 d1
    have c0 := H2.out.c0
    have c1 := H2.out.c1
    have d0 := H2.out.d0
    have d1 := H2.out.d1
    have k0 := wr (x := x * u1) (by omega) (by omega)
    have k1 := wr (x := r) (by omega) (by omega)
    have k2 := wr (x := t - s) (by omega) (by omega)
    have k3 := wr (x := P) (by omega) (by omega)
    go_quiet (first | (go_at_call 26; with_reducible exact quiet_same C1.out _ _) | (go_at_call 26; with_reducible exact quiet_same CV.out _ _))
    clear k0 k1 k2 k3
    have H3 := Lib.hid (H2.out.drewN nq)
    generalize w2.drewN nq = w3 at *
    clear c0 c1 d0 d1
    have c0 := H3.out.c0
    have c1 := H3.out.c1
    have d0 := H3.out.d0
    have d1 := H3.out.d1
    go_upto_region 6 with fail
    have k0 := wr (x := y * u2) (by omega) (by omega)
    have k1 := wr (x := r') (by omega) (by omega)
    have k2 := wr (x := 0) (by omega) (by omega)
    go_quiet (first | (go_at_call 26; with_reducible exact quiet_same C2.out _ _) | (go_at_call 26; with_reducible exact quiet_same C0.out _ _))
    clear k0 k1 k2
    have H4 := Lib.hid (H3.out.drewN nq)
    generalize w3.drewN nq = w4 at *
    clear c0 c1 d0 d1
    have c0 := H4.out.c0
    have c1 := H4.out.c1
    have d0 := H4.out.d0
    have d1 := H4.out.d1
    go_upto_region 7 with fail
    have k0 := wr (x := x + y) (by omega) (by omega)
    have k1 := wr (x := m + 2) (by omega) (by omega)
    go_quiet (first | (go_at_call 36; with_reducible exact quiet_same CZ.out _ _))
    clear k0 k1
    have H5 := Lib.hid (H4.out.drewN nq)
    generalize w4.drewN nq = w5 at *
    clear c0 c1 d0 d1
    have r0 := H5.out.r0
    have r1 := H5.out.r1
    have f0 := H5.out.f0
    have f1 := H5.out.f1
    go_wp2_with fail
    obtain ⟨z0, z1⟩ := stored (wx := w5) H5.out.r0 H5.out.r1 (.int .i64 0) (.int .i64 0)
    refine bodyPost_ret (v := .tuple #[.agg #[.int .i64 0, .int .i64 0], .bool false]) ?_ rfl ⟨rfl, ?_⟩
    · simp [results, Tryz.results17, go_sem, z0, z1]
    · exact up_set (up_set H5.out.below (le_two _) _) (le_two _) _
  · have hz := sn (by omega)
    have hA : A ≤ m + 2 := by omega
    have CN := Lib.hid fun W => refSize_any N W (by omega) (by omega)
    have hB : 0 ≤ (N.natAbs : Int) ∧ (N.natAbs : Int) ≤ 2000000000000000 := by omega
    by_cases hN : -1000000000000000 ≤ N ∧ N ≤ 1000000000000000
    · rw [if_pos hN]
      have hBi : ¬ 1000000000000000 < (N.natAbs : Int) := by omega
      clear sf sn hN hf
      generalize (N.natAbs : Int) = B at *
      go_enter Tryz.func17, Tryz.ntmps17
      go_upto_region 3 with (go_at_call 26; (with_reducible refine (CU.out _).mono ?_); rintro e w0 ⟨rfl, rfl⟩)
      go_upto_region 4 with (go_at_call 31; (with_reducible refine (CF.out _).mono ?_); rintro e w1 ⟨rfl, hb1⟩)
      have H1 := Lib.hid (HB.out _ hb1)
      clear hb1
      have d0 := H1.out.d0
      have d1 := H1.out.d1
      go_upto_region 5 with (go_at_call 31; (with_reducible refine (CG.out _).mono ?_); rintro e w2 ⟨rfl, hb2⟩)
      have H2 := Lib.hid (H1.out.call hb2)
      clear hb2 d0 d1
      have c0 := H2.out.c0
      have c1 := H2.out.c1
      have d0 := H2.out.d0
      have d1 := H2.out.d1
      have k0 := wr (x := x * u1) (by omega) (by omega)
      have k1 := wr (x := r) (by omega) (by omega)
      have k2 := wr (x := t - s) (by omega) (by omega)
      have k3 := wr (x := P) (by omega) (by omega)
      go_quiet (first | (go_at_call 26; with_reducible exact quiet_same C1.out _ _) | (go_at_call 26; with_reducible exact quiet_same CV.out _ _))
      clear k0 k1 k2 k3
      have H3 := Lib.hid (H2.out.drewN nq)
      generalize w2.drewN nq = w3 at *
      clear c0 c1 d0 d1
      have c0 := H3.out.c0
      have c1 := H3.out.c1
      have d0 := H3.out.d0
      have d1 := H3.out.d1
      go_upto_region 6 with fail
      have k0 := wr (x := y * u2) (by omega) (by omega)
      have k1 := wr (x := r') (by omega) (by omega)
      have k2 := wr (x := 0) (by omega) (by omega)
      go_quiet (first | (go_at_call 26; with_reducible exact quiet_same C2.out _ _) | (go_at_call 26; with_reducible exact quiet_same C0.out _ _))
      clear k0 k1 k2
      have H4 := Lib.hid (H3.out.drewN nq)
      generalize w3.drewN nq = w4 at *
      clear c0 c1 d0 d1
      have c0 := H4.out.c0
      have c1 := H4.out.c1
      have d0 := H4.out.d0
      have d1 := H4.out.d1
      go_upto_region 7 with fail
      have k0 := wr (x := x + y) (by omega) (by omega)
      have k1 := wr (x := m + 2) (by omega) (by omega)
      go_quiet (first | (go_at_call 36; with_reducible exact quiet_same CZ.out _ _))
      clear k0 k1
      have H5 := Lib.hid (H4.out.drewN nq)
      generalize w4.drewN nq = w5 at *
      clear c0 c1 d0 d1
      have r0 := H5.out.r0
      have r1 := H5.out.r1
      have f0 := H5.out.f0
      have f1 := H5.out.f1
      go_wp2_with (go_at_call 36; (with_reducible refine (CN.out _).mono ?_); rintro e w6 ⟨rfl, rfl⟩)
      obtain ⟨z0, z1⟩ := stored (wx := w5) H5.out.r0 H5.out.r1 (.int .i64 N) (.int .i64 t)
      refine bodyPost_ret (v := .tuple #[.agg #[.int .i64 N, .int .i64 t], .bool true]) ?_ rfl ⟨rfl, ?_⟩
      · simp [results, Tryz.results17, go_sem, z0, z1]
      · exact up_set (up_set H5.out.below (le_two _) _) (le_two _) _
    · rw [if_neg hN]
      have hBi : 1000000000000000 < (N.natAbs : Int) := by omega
      clear sf sn hN hf
      generalize (N.natAbs : Int) = B at *
      go_enter Tryz.func17, Tryz.ntmps17
      go_upto_region 3 with (go_at_call 26; (with_reducible refine (CU.out _).mono ?_); rintro e w0 ⟨rfl, rfl⟩)
      go_upto_region 4 with (go_at_call 31; (with_reducible refine (CF.out _).mono ?_); rintro e w1 ⟨rfl, hb1⟩)
      have H1 := Lib.hid (HB.out _ hb1)
      clear hb1
      have d0 := H1.out.d0
      have d1 := H1.out.d1
      go_upto_region 5 with (go_at_call 31; (with_reducible refine (CG.out _).mono ?_); rintro e w2 ⟨rfl, hb2⟩)
      have H2 := Lib.hid (H1.out.call hb2)
      clear hb2 d0 d1
      have c0 := H2.out.c0
      have c1 := H2.out.c1
      have d0 := H2.out.d0
      have d1 := H2.out.d1
      have k0 := wr (x := x * u1) (by omega) (by omega)
      have k1 := wr (x := r) (by omega) (by omega)
      have k2 := wr (x := t - s) (by omega) (by omega)
      have k3 := wr (x := P) (by omega) (by omega)
      go_quiet (first | (go_at_call 26; with_reducible exact quiet_same C1.out _ _) | (go_at_call 26; with_reducible exact quiet_same CV.out _ _))
      clear k0 k1 k2 k3
      have H3 := Lib.hid (H2.out.drewN nq)
      generalize w2.drewN nq = w3 at *
      clear c0 c1 d0 d1
      have c0 := H3.out.c0
      have c1 := H3.out.c1
      have d0 := H3.out.d0
      have d1 := H3.out.d1
      go_upto_region 6 with fail
      have k0 := wr (x := y * u2) (by omega) (by omega)
      have k1 := wr (x := r') (by omega) (by omega)
      have k2 := wr (x := 0) (by omega) (by omega)
      go_quiet (first | (go_at_call 26; with_reducible exact quiet_same C2.out _ _) | (go_at_call 26; with_reducible exact quiet_same C0.out _ _))
      clear k0 k1 k2
      have H4 := Lib.hid (H3.out.drewN nq)
      generalize w3.drewN nq = w4 at *
      clear c0 c1 d0 d1
      have c0 := H4.out.c0
      have c1 := H4.out.c1
      have d0 := H4.out.d0
      have d1 := H4.out.d1
      go_upto_region 7 with fail
      have k0 := wr (x := x + y) (by omega) (by omega)
      have k1 := wr (x := m + 2) (by omega) (by omega)
      go_quiet (first | (go_at_call 36; with_reducible exact quiet_same CZ.out _ _))
      clear k0 k1
      have H5 := Lib.hid (H4.out.drewN nq)
      generalize w4.drewN nq = w5 at *
      clear c0 c1 d0 d1
      have r0 := H5.out.r0
      have r1 := H5.out.r1
      have f0 := H5.out.f0
      have f1 := H5.out.f1
      go_wp2_with (go_at_call 36; (with_reducible refine (CN.out _).mono ?_); rintro e w6 ⟨rfl, rfl⟩)
      obtain ⟨z0, z1⟩ := stored (wx := w5) H5.out.r0 H5.out.r1 (.int .i64 0) (.int .i64 0)
      refine bodyPost_ret (v := .tuple #[.agg #[.int .i64 0, .int .i64 0], .bool false]) ?_ rfl ⟨rfl, ?_⟩
      · simp [results, Tryz.results17, go_sem, z0, z1]
      · exact up_set (up_set H5.out.below (le_two _) _) (le_two _) _
set_option maxHeartbeats 8000000 in
set_option maxRecDepth 100000 in
theorem refAdd_ge (c s d t : Int) (w : World) (h : Right c s) (h' : Right d t) (hst : ¬ s < t) :
    Calls Tryz.prog 17 #[.agg #[.int .i64 c, .int .i64 s], .agg #[.int .i64 d, .int .i64 t]] w
      (Gives w (if -1000000000000000 ≤ sumC c s d t ∧ sumC c s d t ≤ 1000000000000000 then .tuple #[.agg #[.int .i64 (sumC c s d t), .int .i64 (sumS s t)], .bool true] else .tuple #[.agg #[.int .i64 0, .int .i64 0], .bool false])) := by
  have HB := Lib.hid fun (wx : World) (hb : Below (((w.alloc (box c s)).alloc (box d t)).alloc (box 0 0)).heap.size (((w.alloc (box c s)).alloc (box d t)).alloc (box 0 0)) wx) => (Boxes3.new w c s d t).call hb
  have CF := Lib.hid fun W => refFloor_any c s W h
  have CG := Lib.hid fun W => refFloor_any d t W h'
  have C1 := Lib.hid fun W => refTen_any s W h.1 h.2.1
  have C2 := Lib.hid fun W => refTen_any t W h'.1 h'.2.1
  have C0 := Lib.hid fun W => refTen_any 0 W (by decide) (by decide)
  simp only [ten_zero] at C0
  have k0 : 0 ≤ s ∧ s ≤ 9 := ⟨h.1, h.2.1⟩
  have h0 : 0 ≤ t ∧ t ≤ 9 := ⟨h'.1, h'.2.1⟩
  have fr := floor_room (ten_pos s) c h.2.2.1 h.2.2.2
  have gr := floor_room (ten_pos t) d h'.2.2.1 h'.2.2.2
  have e1 := rest_eq (u := ten s) c
  have e2 := rest_eq (u := ten t) d
  have b0 := ten_pos s
  have b1 := ten_pos t
  have b2 := Int.emod_nonneg c (show ten s ≠ 0 by omega)
  have b3 := Int.emod_lt_of_pos c b0
  have b4 := Int.emod_nonneg d (show ten t ≠ 0 by omega)
  have b5 := Int.emod_lt_of_pos d b1
  have b6 := ten_le_nine h.1 h.2.1
  have b7 := ten_le_nine h'.1 h'.2.1
  have hc := h.2.2
  have hd := h'.2.2
  clear h h'
  have m0 : -2000000000000000 ≤ c / ten s * ten s ∧ c / ten s * ten s ≤ 2000000000000000 := by omega
  have m1 : -2000000000000000 ≤ d / ten t * ten t ∧ d / ten t * ten t ≤ 2000000000000000 := by omega
  have eS : sumS s t = s := if_neg hst
  have CU := Lib.hid fun W => refTen_any s W k0.1 k0.2
  have CV := Lib.hid fun W => refTen_any (s - t) W (by omega) (by omega)
  have sp := sum_pieces (c := c) (d := d) k0 h0
  have sf := sum_far (c := c) (d := d) k0 h0
  have sn := sum_near (u := ten s) (z := c / ten s + d / ten t) (ten_pos _) (ten_le_nine k0.1 k0.2)
  obtain ⟨p0, p1⟩ := frac_room (c := d) (s := t) (k := s) (by omega) (by omega)
  have hm : 0 ≤ (1000000000000000 : Int) / ten s ∧ (1000000000000000 : Int) / ten s ≤ 1000000000000000 := ⟨Int.ediv_nonneg (by decide) (by have := ten_pos s; omega), Int.ediv_le_self _ (by decide)⟩
  have ed : (1000000000000000 : Int).tdiv (ten s) = 1000000000000000 / ten s := Int.tdiv_eq_ediv_of_nonneg (by decide)
  rw [eS] at sp sf
  rw [show s - s = 0 by omega, ten_zero, Int.mul_one] at sp
  rw [eS]
  clear eS
  generalize sumC c s d t = N at *
  generalize hM : (1000000000000000 : Int) / ten s = m at *
  generalize hPP : d % ten t * ten (s - t) = Q at *
  generalize hZ : (c / ten s + d / ten t) * ten s = Z at *
  generalize c % ten s = r at *
  generalize d % ten t = r' at *
  generalize c / ten s = x at *
  generalize d / ten t = y at *
  generalize ten (s - t) = v at *
  generalize ten s = u1 at *
  generalize ten t = u2 at *
  have hu1 : (u1 == 0) = false := by simp; omega
  have hu2 : (u2 == 0) = false := by simp; omega
  have hn1 : ¬ u1 = 0 := by omega
  have hn2 : ¬ u2 = 0 := by omega
  have CZ := Lib.hid fun W => refSize_any (x + y) W (by omega) (by omega)
  have ha : 0 ≤ ((x + y).natAbs : Int) ∧ ((x + y).natAbs : Int) ≤ 2000000000000000 := by omega
  generalize ((x + y).natAbs : Int) = A at *
  by_cases hf : m + 2 < A
  · have hno := sf hf
    rw [if_neg hno]
    clear sf sn sp hno hZ
    go_enter Tryz.func17, Tryz.ntmps17
    go_upto_region 3 with (go_at_call 26; (with_reducible refine (CU.out _).mono ?_); rintro e w0 ⟨rfl, rfl⟩)
    go_upto_region 4 with (go_at_call 31; (with_reducible refine (CF.out _).mono ?_); rintro e w1 ⟨rfl, hb1⟩)
    have H1 := Lib.hid (HB.out _ hb1)
    clear hb1
    have d0 := H1.out.d0
    have d1 := H1.out.d1
    go_upto_region 5 with (go_at_call 31; (with_reducible refine (CG.out _).mono ?_); rintro e w2 ⟨rfl, hb2⟩)
    have H2 := Lib.hid (H1.out.call hb2)
    clear hb2 d0 d1
    have c0 := H2.out.c0
    have c1 := H2.out.c1
    have d0 := H2.out.d0
    have d1 := H2.out.d1
    have k0 := wr (x := x * u1) (by omega) (by omega)
    have k1 := wr (x := r) (by omega) (by omega)
    have k2 := wr (x := 0) (by omega) (by omega)
    go_quiet (first | (go_at_call 26; with_reducible exact quiet_same C1.out _ _) | (go_at_call 26; with_reducible exact quiet_same C0.out _ _))
    clear k0 k1 k2
    have H3 := Lib.hid (H2.out.drewN nq)
    generalize w2.drewN nq = w3 at *
    clear c0 c1 d0 d1
    have c0 := H3.out.c0
    have c1 := H3.out.c1
    have d0 := H3.out.d0
    have d1 := H3.out.d1
    go_upto_region 6 with fail
    have k0 := wr (x := y * u2) (by omega) (by omega)
    have k1 := wr (x := r') (by omega) (by omega)
    have k2 := wr (x := s - t) (by omega) (by omega)
    have k3 := wr (x := Q) (by omega) (by omega)
    go_quiet (first | (go_at_call 26; with_reducible exact quiet_same C2.out _ _) | (go_at_call 26; with_reducible exact quiet_same CV.out _ _))
    clear k0 k1 k2 k3
    have H4 := Lib.hid (H3.out.drewN nq)
    generalize w3.drewN nq = w4 at *
    clear c0 c1 d0 d1
    have c0 := H4.out.c0
    have c1 := H4.out.c1
    have d0 := H4.out.d0
    have d1 := H4.out.d1
    go_upto_region 7 with fail
    have k0 := wr (x := x + y) (by omega) (by omega)
    have k1 := wr (x := m + 2) (by omega) (by omega)
    go_quiet (first | (go_at_call 36; with_reducible exact quiet_same CZ.out _ _))
    clear k0 k1
    have H5 := Lib.hid (H4.out.drewN nq)
    generalize w4.drewN nq = w5 at *
    clear c0 c1 d0 d1
    have r0 := H5.out.r0
    have r1 := H5.out.r1
    have f0 := H5.out.f0
    have f1 := H5.out.f1
    go_wp2_with fail
    obtain ⟨z0, z1⟩ := stored (wx := w5) H5.out.r0 H5.out.r1 (.int .i64 0) (.int .i64 0)
    refine bodyPost_ret (v := .tuple #[.agg #[.int .i64 0, .int .i64 0], .bool false]) ?_ rfl ⟨rfl, ?_⟩
    · simp [results, Tryz.results17, go_sem, z0, z1]
    · exact up_set (up_set H5.out.below (le_two _) _) (le_two _) _
  · have hz := sn (by omega)
    have hA : A ≤ m + 2 := by omega
    have CN := Lib.hid fun W => refSize_any N W (by omega) (by omega)
    have hB : 0 ≤ (N.natAbs : Int) ∧ (N.natAbs : Int) ≤ 2000000000000000 := by omega
    by_cases hN : -1000000000000000 ≤ N ∧ N ≤ 1000000000000000
    · rw [if_pos hN]
      have hBi : ¬ 1000000000000000 < (N.natAbs : Int) := by omega
      clear sf sn hN hf
      generalize (N.natAbs : Int) = B at *
      go_enter Tryz.func17, Tryz.ntmps17
      go_upto_region 3 with (go_at_call 26; (with_reducible refine (CU.out _).mono ?_); rintro e w0 ⟨rfl, rfl⟩)
      go_upto_region 4 with (go_at_call 31; (with_reducible refine (CF.out _).mono ?_); rintro e w1 ⟨rfl, hb1⟩)
      have H1 := Lib.hid (HB.out _ hb1)
      clear hb1
      have d0 := H1.out.d0
      have d1 := H1.out.d1
      go_upto_region 5 with (go_at_call 31; (with_reducible refine (CG.out _).mono ?_); rintro e w2 ⟨rfl, hb2⟩)
      have H2 := Lib.hid (H1.out.call hb2)
      clear hb2 d0 d1
      have c0 := H2.out.c0
      have c1 := H2.out.c1
      have d0 := H2.out.d0
      have d1 := H2.out.d1
      have k0 := wr (x := x * u1) (by omega) (by omega)
      have k1 := wr (x := r) (by omega) (by omega)
      have k2 := wr (x := 0) (by omega) (by omega)
      go_quiet (first | (go_at_call 26; with_reducible exact quiet_same C1.out _ _) | (go_at_call 26; with_reducible exact quiet_same C0.out _ _))
      clear k0 k1 k2
      have H3 := Lib.hid (H2.out.drewN nq)
      generalize w2.drewN nq = w3 at *
      clear c0 c1 d0 d1
      have c0 := H3.out.c0
      have c1 := H3.out.c1
      have d0 := H3.out.d0
      have d1 := H3.out.d1
      go_upto_region 6 with fail
      have k0 := wr (x := y * u2) (by omega) (by omega)
      have k1 := wr (x := r') (by omega) (by omega)
      have k2 := wr (x := s - t) (by omega) (by omega)
      have k3 := wr (x := Q) (by omega) (by omega)
      go_quiet (first | (go_at_call 26; with_reducible exact quiet_same C2.out _ _) | (go_at_call 26; with_reducible exact quiet_same CV.out _ _))
      clear k0 k1 k2 k3
      have H4 := Lib.hid (H3.out.drewN nq)
      generalize w3.drewN nq = w4 at *
      clear c0 c1 d0 d1
      have c0 := H4.out.c0
      have c1 := H4.out.c1
      have d0 := H4.out.d0
      have d1 := H4.out.d1
      go_upto_region 7 with fail
      have k0 := wr (x := x + y) (by omega) (by omega)
      have k1 := wr (x := m + 2) (by omega) (by omega)
      go_quiet (first | (go_at_call 36; with_reducible exact quiet_same CZ.out _ _))
      clear k0 k1
      have H5 := Lib.hid (H4.out.drewN nq)
      generalize w4.drewN nq = w5 at *
      clear c0 c1 d0 d1
      have r0 := H5.out.r0
      have r1 := H5.out.r1
      have f0 := H5.out.f0
      have f1 := H5.out.f1
      go_wp2_with (go_at_call 36; (with_reducible refine (CN.out _).mono ?_); rintro e w6 ⟨rfl, rfl⟩)
      obtain ⟨z0, z1⟩ := stored (wx := w5) H5.out.r0 H5.out.r1 (.int .i64 N) (.int .i64 s)
      refine bodyPost_ret (v := .tuple #[.agg #[.int .i64 N, .int .i64 s], .bool true]) ?_ rfl ⟨rfl, ?_⟩
      · simp [results, Tryz.results17, go_sem, z0, z1]
      · exact up_set (up_set H5.out.below (le_two _) _) (le_two _) _
    · rw [if_neg hN]
      have hBi : 1000000000000000 < (N.natAbs : Int) := by omega
      clear sf sn hN hf
      generalize (N.natAbs : Int) = B at *
      go_enter Tryz.func17, Tryz.ntmps17
      go_upto_region 3 with (go_at_call 26; (with_reducible refine (CU.out _).mono ?_); rintro e w0 ⟨rfl, rfl⟩)
      go_upto_region 4 with (go_at_call 31; (with_reducible refine (CF.out _).mono ?_); rintro e w1 ⟨rfl, hb1⟩)
      have H1 := Lib.hid (HB.out _ hb1)
      clear hb1
      have d0 := H1.out.d0
      have d1 := H1.out.d1
      go_upto_region 5 with (go_at_call 31; (with_reducible refine (CG.out _).mono ?_); rintro e w2 ⟨rfl, hb2⟩)
      have H2 := Lib.hid (H1.out.call hb2)
      clear hb2 d0 d1
      have c0 := H2.out.c0
      have c1 := H2.out.c1
      have d0 := H2.out.d0
      have d1 := H2.out.d1
      have k0 := wr (x := x * u1) (by omega) (by omega)
      have k1 := wr (x := r) (by omega) (by omega)
      have k2 := wr (x := 0) (by omega) (by omega)
      go_quiet (first | (go_at_call 26; with_reducible exact quiet_same C1.out _ _) | (go_at_call 26; with_reducible exact quiet_same C0.out _ _))
      clear k0 k1 k2
      have H3 := Lib.hid (H2.out.drewN nq)
      generalize w2.drewN nq = w3 at *
      clear c0 c1 d0 d1
      have c0 := H3.out.c0
      have c1 := H3.out.c1
      have d0 := H3.out.d0
      have d1 := H3.out.d1
      go_upto_region 6 with fail
      have k0 := wr (x := y * u2) (by omega) (by omega)
      have k1 := wr (x := r') (by omega) (by omega)
      have k2 := wr (x := s - t) (by omega) (by omega)
      have k3 := wr (x := Q) (by omega) (by omega)
      go_quiet (first | (go_at_call 26; with_reducible exact quiet_same C2.out _ _) | (go_at_call 26; with_reducible exact quiet_same CV.out _ _))
      clear k0 k1 k2 k3
      have H4 := Lib.hid (H3.out.drewN nq)
      generalize w3.drewN nq = w4 at *
      clear c0 c1 d0 d1
      have c0 := H4.out.c0
      have c1 := H4.out.c1
      have d0 := H4.out.d0
      have d1 := H4.out.d1
      go_upto_region 7 with fail
      have k0 := wr (x := x + y) (by omega) (by omega)
      have k1 := wr (x := m + 2) (by omega) (by omega)
      go_quiet (first | (go_at_call 36; with_reducible exact quiet_same CZ.out _ _))
      clear k0 k1
      have H5 := Lib.hid (H4.out.drewN nq)
      generalize w4.drewN nq = w5 at *
      clear c0 c1 d0 d1
      have r0 := H5.out.r0
      have r1 := H5.out.r1
      have f0 := H5.out.f0
      have f1 := H5.out.f1
      go_wp2_with (go_at_call 36; (with_reducible refine (CN.out _).mono ?_); rintro e w6 ⟨rfl, rfl⟩)
      obtain ⟨z0, z1⟩ := stored (wx := w5) H5.out.r0 H5.out.r1 (.int .i64 0) (.int .i64 0)
      refine bodyPost_ret (v := .tuple #[.agg #[.int .i64 0, .int .i64 0], .bool false]) ?_ rfl ⟨rfl, ?_⟩
      · simp [results, Tryz.results17, go_sem, z0, z1]
      · exact up_set (up_set H5.out.below (le_two _) _) (le_two _) _
end D
end Go.Proofs.YteekhfiphbhbjaaGreatDoor
