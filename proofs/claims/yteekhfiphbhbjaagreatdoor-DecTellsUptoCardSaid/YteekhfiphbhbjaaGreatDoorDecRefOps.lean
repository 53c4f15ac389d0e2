/- How the reference reckons with numbers: what is wrong, the floor, the order of two, rounding, sums; what lay in memory stays as it was. -/
import Derived.Test.YteekhfiphbhbjaaGreatDoorDecRef
import Derived.Test.YteekhfiphbhbjaaGreatDoorDecRefSum
import Derived.Test.YteekhfiphbhbjaaGreatDoorDecRound
namespace Go.Proofs.YteekhfiphbhbjaaGreatDoor
namespace D
open Go.RowKit

theorem refFault_any (c s : Int) (w : World) : Calls Tryz.prog 5 #[.agg #[.int .i64 c, .int .i64 s]] w (Gives w (.bool (decide (¬ Right c s)))) := by
  have hb : Below w.heap.size w (w.alloc (box c s)) := up_alloc (Below.refl _ _) _
  rcases (show s < 0 ∨ (0 ≤ s ∧ 9 < s) ∨ (0 ≤ s ∧ s ≤ 9 ∧ c < -1000000000000000) ∨ (0 ≤ s ∧ s ≤ 9 ∧ 1000000000000000 < c) ∨ (0 ≤ s ∧ s ≤ 9 ∧ -1000000000000000 ≤ c ∧ c ≤ 1000000000000000) by omega) with h1 | ⟨h1, h2⟩ | ⟨h1, h2, h3⟩ | ⟨h1, h2, h3⟩ | ⟨h1, h2, h3, h4⟩
  all_goals
    first
      | rw [decide_eq_false (show ¬ ¬ Right c s by unfold Right; omega)]
      | rw [decide_eq_true (show ¬ Right c s by unfold Right; omega)]
    go_enter Tryz.func5, Tryz.ntmps5
    go_wp2_with fail
    go_ret
    first
      | exact ⟨rfl, hb⟩
      | exact ⟨ret_bool (by simp; omega), hb⟩
set_option maxHeartbeats 1000000 in
theorem refFloor_any (c s : Int) (w : World) (h : Right c s) : Calls Tryz.prog 31 #[.agg #[.int .i64 c, .int .i64 s]] w (Gives w (.int .i64 (c / ten s))) := by
  have hb : Below w.heap.size w (w.alloc (box c s)) := up_alloc (Below.refl _ _) _
  obtain ⟨h0, h9, hc0, hc1⟩ := h
  have CT := Lib.hid fun W => refTen_any s W h0 h9
  have b0 := ten_pos s
  have b1 := ten_le_nine h0 h9
  obtain ⟨f1, f2⟩ := floor_fix b0 c
  obtain ⟨r0, r1, r2, r3⟩ := go_rest b0 c
  have e1 := Int.mul_tdiv_add_tmod c (ten s)
  rw [Int.mul_comm] at e1
  have m0 : -2000000000000000 ≤ c.tdiv (ten s) * ten s ∧ c.tdiv (ten s) * ten s ≤ 2000000000000000 := by omega
  have q0 : -1000000000000000 ≤ c.tdiv (ten s) ∧ c.tdiv (ten s) ≤ 1000000000000000 := by omega
  clear e1 r0 r1 r2 r3
  generalize ten s = u at *
  generalize hQ : c.tdiv u = q at *
  have hu0 : (u == 0) = false := by simp; omega
  by_cases hlt : c < q * u
  · have HE := Lib.hid (f1 hlt)
    clear f1 f2
    go_enter Tryz.func31, Tryz.ntmps31
    go_wp2_with (go_at_call 26; (with_reducible refine (CT.out _).mono ?_); rintro e w1 ⟨rfl, rfl⟩)
    go_ret
    exact ⟨ret_int HE.out, hb⟩
  · have HE := Lib.hid (f2 hlt)
    clear f1 f2
    go_enter Tryz.func31, Tryz.ntmps31
    go_wp2_with (go_at_call 26; (with_reducible refine (CT.out _).mono ?_); rintro e w1 ⟨rfl, rfl⟩)
    go_ret
    exact ⟨ret_int HE.out, hb⟩
theorem wr {x : Int} (h0 : -9223372036854775808 ≤ x) (h1 : x ≤ 9223372036854775807) : IntKind.i64.wrap x = x := by rw [IntKind.wrap_i64]; omega
set_option maxHeartbeats 800000 in
set_option maxRecDepth 100000 in
theorem refOrder_any (c s d t : Int) (w : World) (h : Right c s) (h' : Right d t) : Calls Tryz.prog 11 #[.agg #[.int .i64 c, .int .i64 s], .agg #[.int .i64 d, .int .i64 t]] w (Gives w (.int .i64 (ordR c s d t))) := by
  have CF := Lib.hid fun W => refFloor_any c s W h
  have CG := Lib.hid fun W => refFloor_any d t W h'
  have C1 := Lib.hid fun W => refTen_any s W h.1 h.2.1
  have C2 := Lib.hid fun W => refTen_any (9 - s) W (by have := h.2.1; omega) (by have := h.1; omega)
  have C3 := Lib.hid fun W => refTen_any t W h'.1 h'.2.1
  have C4 := Lib.hid fun W => refTen_any (9 - t) W (by have := h'.2.1; omega) (by have := h'.1; omega)
  have HB := Lib.hid (up_alloc (up_alloc (Below.refl w.heap.size w) (box c s)) (box d t))
  have HX := Lib.hid fun (wx : World) (hb : Below ((w.alloc (box c s)).alloc (box d t)).heap.size ((w.alloc (box c s)).alloc (box d t)) wx) => (Boxes.new w c s d t).call (lt_two w _ _) hb
  have fr := floor_room (ten_pos s) c h.2.2.1 h.2.2.2
  have gr := floor_room (ten_pos t) d h'.2.2.1 h'.2.2.2
  have e1 := rest_eq (u := ten s) c
  have e2 := rest_eq (u := ten t) d
  obtain ⟨_, p0, p1⟩ := frac_val (c := c) ⟨h.1, h.2.1⟩
  obtain ⟨_, q0, q1⟩ := frac_val (c := d) ⟨h'.1, h'.2.1⟩
  unfold ordR
  unfold frac at *
  have b0 := ten_pos s
  have b1 := ten_pos t
  have b2 := Int.emod_nonneg c (show ten s ≠ 0 by omega)
  have b3 := Int.emod_lt_of_pos c b0
  have b4 := Int.emod_nonneg d (show ten t ≠ 0 by omega)
  have b5 := Int.emod_lt_of_pos d b1
  have b6 := ten_le_nine h.1 h.2.1
  have b7 := ten_le_nine h'.1 h'.2.1
  obtain ⟨h0, h9, hc0, hc1⟩ := h
  obtain ⟨k0, k9, kc0, kc1⟩ := h'
  have m0 : -2000000000000000 ≤ c / ten s * ten s ∧ c / ten s * ten s ≤ 2000000000000000 := by omega
  have m1 : -2000000000000000 ≤ d / ten t * ten t ∧ d / ten t * ten t ≤ 2000000000000000 := by omega
  generalize hP : c % ten s * ten (9 - s) = P at *
  generalize hQ : d % ten t * ten (9 - t) = Q at *
  generalize c % ten s = r at *
  generalize d % ten t = r' at *
  generalize c / ten s = x at *
  generalize d / ten t = y at *
  generalize ten s = u at *
  generalize ten t = u' at *
  generalize ten (9 - s) = v at *
  generalize ten (9 - t) = v' at *
  by_cases hxy : x = y
  · subst hxy
    rw [if_pos rfl]
    go_enter Tryz.func11, Tryz.ntmps11
    go_upto_region 2 with (go_at_call 31; (with_reducible refine (CF.out _).mono ?_); rintro e w1 ⟨rfl, hb1⟩)
    obtain ⟨_, c0, c1, d0, d1, _, _⟩ := HX.out _ hb1
    have HB1 := Lib.hid hb1
    clear hb1
    go_upto_region 5 with (go_at_call 31; (with_reducible refine (CG.out _).mono ?_); rintro e w2 ⟨rfl, hb2⟩)
    clear c0 c1 d0 d1
    obtain ⟨_, c0, c1, d0, d1, _, _⟩ := HX.out _ (up_call HB1.out hb2)
    have HB2 := Lib.hid (up_call HB.out (up_call HB1.out hb2))
    clear hb2
    have k1 := wr (x := x * u) (by omega) (by omega)
    have k2 := wr (x := r) (by omega) (by omega)
    have k3 := wr (x := 9 - s) (by omega) (by omega)
    have k4 := wr (x := P) (by omega) (by omega)
    go_quiet (first | (go_at_call 26; with_reducible exact quiet_same C1.out _ _) | (go_at_call 26; with_reducible exact quiet_same C2.out _ _))
    clear k1 k2 k3 k4
    have HB3 := Lib.hid (up_drewN HB2.out nq)
    have g0 : (w2.drewN nq).cell? ⟨w.heap.size + 1, 0, none⟩ = some (.int .i64 d) := by simpa using d0
    have g1 : (w2.drewN nq).cell? ⟨w.heap.size + 1, 1, none⟩ = some (.int .i64 t) := by simpa using d1
    clear c0 c1 d0 d1
    generalize w2.drewN nq = W2 at *
    go_upto_region 6 with fail
    have k1 := wr (x := x * u') (by omega) (by omega)
    have k2 := wr (x := r') (by omega) (by omega)
    have k3 := wr (x := 9 - t) (by omega) (by omega)
    have k4 := wr (x := Q) (by omega) (by omega)
    go_quiet (first | (go_at_call 26; with_reducible exact quiet_same C3.out _ _) | (go_at_call 26; with_reducible exact quiet_same C4.out _ _))
    clear k1 k2 k3 k4
    go_wp2_with fail
    go_ret
    exact ⟨rfl, up_drewN HB3.out _⟩
  · rw [if_neg hxy]
    have hne : (x == y) = false := by simpa using hxy
    go_enter Tryz.func11, Tryz.ntmps11
    go_upto_region 2 with (go_at_call 31; (with_reducible refine (CF.out _).mono ?_); rintro e w1 ⟨rfl, hb1⟩)
    obtain ⟨_, c0, c1, d0, d1, _, _⟩ := HX.out _ hb1
    have HB1 := Lib.hid (up_call HB.out hb1)
    clear hb1
    go_wp2_with (go_at_call 31; (with_reducible refine (CG.out _).mono ?_); rintro e w2 ⟨rfl, hb2⟩)
    go_ret
    exact ⟨rfl, up_call HB1.out hb2⟩
end D
end Go.Proofs.YteekhfiphbhbjaaGreatDoor
