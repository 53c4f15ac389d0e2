/- The law OpsSame, walked: it returns true for every number and scale; what lay in memory stays as it was. -/
import Derived.Test.YtppnfjapalilfaaOpsWalk
import Derived.Test.YtppnfjapalilfaaDecLawMath
import Derived.Test.YtppnfjapalilfaaDecRound
import Derived.Test.YtppnfjapalilfaaDecRef
namespace Go.Proofs.Ytppnfjapalilfaa
namespace D
open Go.RowKit

def TrueB (w : World) (e : Ending) (w' : World) : Prop := e = .returned (.bool true) ∧ Below w.heap.size w w'
theorem one_and_half (w : World) : Calls Try.prog 4 #[.agg #[.int .i64 150, .int .i64 2]] w
    (Gives w (.tuple #[.agg #[.int .i64 1, .int .i64 2, .int .i64 1, .int .i64 50, .int .i64 5], .nilIface])) := by
  have h : Right 150 2 := by decide +kernel
  have := of_ok h w
  rwa [show opsI 150 2 = 1 by decide +kernel, show opsW 150 2 = 1 by decide +kernel, show opsF 150 2 = 50 by decide +kernel, show opsT 150 2 = 5 by decide +kernel] at this

set_option maxHeartbeats 4000000 in
theorem same_no {c s : Int} (t : Int) (h : ¬ Right c s) (w : World) : Calls Try.prog 3 #[.agg #[.int .i64 c, .int .i64 s], .int .i64 t] w (TrueB w) := by
  have H0 : Hid (Bs w _ [_]) := Lib.hid (bs_one w [.int .i64 c, .int .i64 s] 23)
  have C1 := Lib.hid one_and_half
  have C2 := Lib.hid (of_no h)
  clear h
  go_enter Try.func3, Try.ntmps3
  go_upto_region 2 with (first
    | (go_at_call 4; (with_reducible refine (C1.out _).mono ?_); rintro e w1 ⟨rfl, hb1⟩; dsimp only))
  have H1 := Lib.hid ((H0.out.call hb1).alloc (opsL 1 2 1 50 5) 25)
  clear hb1
  obtain ⟨v1, hv1⟩ : ∃ V, w1.alloc (.cells (opsL 1 2 1 50 5).toArray 25) = V := ⟨_, rfl⟩
  rw [hv1] at H1 ⊢
  clear hv1
  obtain ⟨x0, x1, x2, x3, x4, d0, d1, -⟩ := H1.out.cells
  go_upto_region 3 with (first
    | (go_at_call 4; (with_reducible refine (C2.out _).mono ?_); rintro e w2 ⟨rfl, hb2⟩; dsimp only))
  clear x0 x1 x2 x3 x4 d0 d1
  have H2 := Lib.hid ((H1.out.call hb2).alloc (opsL 0 0 0 0 0) 25)
  clear hb2
  obtain ⟨v2, hv2⟩ : ∃ V, w2.alloc (.cells (opsL 0 0 0 0 0).toArray 25) = V := ⟨_, rfl⟩
  rw [hv2] at H2 ⊢
  clear hv2
  obtain ⟨o0, o1, o2, o3, o4, x0, x1, x2, x3, x4, d0, d1, -⟩ := H2.out.cells
  go_wp2_with fail
  go_ret
  exact ⟨rfl, H2.out.below⟩

set_option maxHeartbeats 8000000 in
set_option maxRecDepth 100000 in
theorem same_yes {c s : Int} (t : Int) (h : Right c s) (w : World) : Calls Try.prog 3 #[.agg #[.int .i64 c, .int .i64 s], .int .i64 t] w (TrueB w) := by
  have H0 : Hid (Bs w _ [_]) := Lib.hid (bs_one w [.int .i64 c, .int .i64 s] 23)
  have C1 := Lib.hid one_and_half
  have C2 := Lib.hid (of_ok h)
  have C3 := Lib.hid (of_ok (right_neg h))
  obtain ⟨n1, n2, n3, n4⟩ := ops_neg c s
  simp only [n1, n2, n3, n4] at C3
  have CT1 := Lib.hid fun W => refTen_any s W h.1 h.2.1
  obtain ⟨hw0, hw1⟩ := ops_w c s h.1
  have CT2 := Lib.hid fun W => refTen_any (s - opsW c s) W (by omega) (by have := h.2.1; omega)
  have CZ := Lib.hid fun W => refSize_any c W (by have := h.2.2.1; omega) (by have := h.2.2.2; omega)
  have e1 := ops_whole c s
  have e2 := ops_t c s h.1
  have e3 : 0 < opsW c s → ((opsT c s).tmod 10 == 0) = false := fun hp => by rw [Int.tmod_eq_emod_of_nonneg (ops_bounds h).2.2.1]; simpa using ops_last c s hp
  obtain ⟨⟨b1, b2⟩, ⟨b3, b4⟩, ⟨b5, b6⟩⟩ := ops_bounds h
  have b7 := ten_le_nine h.1 h.2.1
  have b8 : (c.natAbs : Int) ≤ 1000000000000000 := by have := h.2.2; omega
  obtain ⟨X, Y, G, ev, hev, C4⟩ : ∃ (X Y G : Int) (ev : Value), Hid ((ev = .nilIface ∧ (s ≤ t → ∀ W, Calls Try.prog 4 #[.agg #[.int .i64 X, .int .i64 Y]] W
      (Gives W (.tuple #[.agg #[.int .i64 (opsI c s), .int .i64 t, .int .i64 (opsW c s), .int .i64 G, .int .i64 (opsT c s)], .nilIface])))) ∨ ∃ z : Int, ev = .iface 38 (.int .i64 z)) ∧
      Hid (∀ W, Calls Try.prog 7 #[.agg #[.int .i64 c, .int .i64 s], .int .i64 t, .int .i64 1] W (Gives W (.tuple #[.agg #[.int .i64 X, .int .i64 Y], ev]))) := by
    by_cases hf : roundF c s t 1 = 0
    · refine ⟨rc c s t 1, t, opsF (rc c s t 1) t, .nilIface, Lib.hid (.inl ⟨rfl, fun hst W => ?_⟩), Lib.hid fun W => by rw [← roundV_ok hf]; exact round_any c s t 1 W⟩
      obtain ⟨-, ht, -, -⟩ := roundF_zero.1 hf
      have := of_ok (right_rc hf) W
      obtain ⟨m1, m2, m3⟩ := ops_more c (j := t - s) h.1 (by omega)
      rw [show s + (t - s) = t by omega] at m1 m2 m3
      have er : rc c s t 1 = c * ten (t - s) := rc_more hst ht.2
      rw [er] at this ⊢
      rwa [m1, m2, m3] at this
    · exact ⟨0, 0, 0, _, Lib.hid (.inr ⟨_, rfl⟩), Lib.hid fun W => by rw [← roundV_no hf]; exact round_any c s t 1 W⟩
  generalize opsI c s = I at *
  generalize opsW c s = K at *
  generalize opsF c s = F at *
  generalize opsT c s = T at *
  generalize ten s = U at *
  generalize ten (s - K) = V at *
  generalize (c.natAbs : Int) = Z at *
  have b9 := Int.mul_nonneg b1 (show 0 ≤ U by omega)
  obtain ⟨P, hP⟩ : ∃ P, I * U = P := ⟨_, rfl⟩
  rw [hP] at e1 b9
  have wP : IntKind.i64.wrap P = P := by rw [IntKind.wrap_i64]; omega
  have wZ : IntKind.i64.wrap Z = Z := by rw [IntKind.wrap_i64]; omega
  have wF : IntKind.i64.wrap F = F := by rw [IntKind.wrap_i64]; omega
  have wK : IntKind.i64.wrap (s - K) = s - K := by rw [IntKind.wrap_i64]; have := h.2.1; omega
  obtain ⟨h0, h9, hc0, hc1⟩ := h
  clear n1 n2 n3 n4
  by_cases hk : 0 < K
  · have e4 := e3 hk
    clear e3
    go_enter Try.func3, Try.ntmps3
    go_upto_region 2 with (first | (go_at_call 4; (with_reducible refine (C1.out _).mono ?_); rintro e w1 ⟨rfl, hb1⟩; dsimp only))
    have H1 := Lib.hid ((H0.out.call hb1).alloc (opsL 1 2 1 50 5) 25)
    clear hb1
    obtain ⟨v1, hv1⟩ : ∃ V, w1.alloc (.cells ((opsL 1 2 1 50 5)).toArray 25) = V := ⟨_, rfl⟩
    rw [hv1] at H1 ⊢
    clear hv1
    obtain ⟨x0, x1, x2, x3, x4, d0, d1, -⟩ := H1.out.cells
    go_upto_region 3 with (first | (go_at_call 4; (with_reducible refine (C2.out _).mono ?_); rintro e w2 ⟨rfl, hb2⟩; dsimp only))
    clear x0 x1 x2 x3 x4 d0 d1
    have H2 := Lib.hid ((H1.out.call hb2).alloc (opsL I s K F T) 25)
    clear hb2
    obtain ⟨v2, hv2⟩ : ∃ V, w2.alloc (.cells ((opsL I s K F T)).toArray 25) = V := ⟨_, rfl⟩
    rw [hv2] at H2 ⊢
    clear hv2
    obtain ⟨o0, o1, o2, o3, o4, x0, x1, x2, x3, x4, d0, d1, -⟩ := H2.out.cells
    go_upto_region 7 with fail
    go_quiet (first | (go_at_call 5; with_reducible exact quiet_same CT1.out _ _) | (go_at_call 5; with_reducible exact quiet_same CT2.out _ _) | (go_at_call 6; with_reducible exact quiet_same CZ.out _ _))
    have H3 := Lib.hid (H2.out.drewN nq)
    clear o0 o1 o2 o3 o4 x0 x1 x2 x3 x4 d0 d1
    generalize v2.drewN nq = v3 at *
    clear nq
    obtain ⟨o0, o1, o2, o3, o4, x0, x1, x2, x3, x4, d0, d1, -⟩ := H3.out.cells
    go_upto_region 9 with fail
    go_upto_region 10 with (first | (go_at_call 4; (with_reducible refine (C3.out _).mono ?_); rintro e w4 ⟨rfl, hb4⟩; dsimp only))
    clear o0 o1 o2 o3 o4 x0 x1 x2 x3 x4 d0 d1
    have H4 := Lib.hid ((H3.out.call hb4).alloc (opsL I s K F T) 25)
    clear hb4
    obtain ⟨v4, hv4⟩ : ∃ V, w4.alloc (.cells ((opsL I s K F T)).toArray 25) = V := ⟨_, rfl⟩
    rw [hv4] at H4 ⊢
    clear hv4
    obtain ⟨p0, p1, p2, p3, p4, o0, o1, o2, o3, o4, x0, x1, x2, x3, x4, d0, d1, -⟩ := H4.out.cells
    go_upto_region 11 with (first | (go_at_call 7; (with_reducible refine (C4.out _).mono ?_); rintro e w5 ⟨rfl, hb5⟩; dsimp only))
    clear p0 p1 p2 p3 p4 o0 o1 o2 o3 o4 x0 x1 x2 x3 x4 d0 d1
    have H5 := Lib.hid ((H4.out.call hb5).alloc [.int .i64 X, .int .i64 Y] 23)
    clear hb5
    obtain ⟨v5, hv5⟩ : ∃ V, w5.alloc (.cells ([.int .i64 X, .int .i64 Y]).toArray 23) = V := ⟨_, rfl⟩
    rw [hv5] at H5 ⊢
    clear hv5
    obtain ⟨r0, r1, p0, p1, p2, p3, p4, o0, o1, o2, o3, o4, x0, x1, x2, x3, x4, d0, d1, -⟩ := H5.out.cells
    rcases hev.out with ⟨rfl, h5⟩ | ⟨z, rfl⟩
    · by_cases hts : t < s
      · clear h5
        go_wp2_with fail
        go_ret
        exact ⟨rfl, H5.out.below⟩
      · have C5 := Lib.hid (h5 (by omega))
        clear h5
        go_upto_region 16 with (first | (go_at_call 4; (with_reducible refine (C5.out _).mono ?_); rintro e w6 ⟨rfl, hb6⟩; dsimp only))
        clear r0 r1 p0 p1 p2 p3 p4 o0 o1 o2 o3 o4 x0 x1 x2 x3 x4 d0 d1
        have H6 := Lib.hid ((H5.out.call hb6).alloc (opsL I t K G T) 25)
        clear hb6
        obtain ⟨v6, hv6⟩ : ∃ V, w6.alloc (.cells ((opsL I t K G T)).toArray 25) = V := ⟨_, rfl⟩
        rw [hv6] at H6 ⊢
        clear hv6
        obtain ⟨q0, q1, q2, q3, q4, r0, r1, p0, p1, p2, p3, p4, o0, o1, o2, o3, o4, x0, x1, x2, x3, x4, d0, d1, -⟩ := H6.out.cells
        go_wp2_with fail
        go_ret
        exact ⟨rfl, H6.out.below⟩
    · go_wp2_with fail
      go_ret
      exact ⟨rfl, H5.out.below⟩
  · clear e3
    go_enter Try.func3, Try.ntmps3
    go_upto_region 2 with (first | (go_at_call 4; (with_reducible refine (C1.out _).mono ?_); rintro e w1 ⟨rfl, hb1⟩; dsimp only))
    have H1 := Lib.hid ((H0.out.call hb1).alloc (opsL 1 2 1 50 5) 25)
    clear hb1
    obtain ⟨v1, hv1⟩ : ∃ V, w1.alloc (.cells ((opsL 1 2 1 50 5)).toArray 25) = V := ⟨_, rfl⟩
    rw [hv1] at H1 ⊢
    clear hv1
    obtain ⟨x0, x1, x2, x3, x4, d0, d1, -⟩ := H1.out.cells
    go_upto_region 3 with (first | (go_at_call 4; (with_reducible refine (C2.out _).mono ?_); rintro e w2 ⟨rfl, hb2⟩; dsimp only))
    clear x0 x1 x2 x3 x4 d0 d1
    have H2 := Lib.hid ((H1.out.call hb2).alloc (opsL I s K F T) 25)
    clear hb2
    obtain ⟨v2, hv2⟩ : ∃ V, w2.alloc (.cells ((opsL I s K F T)).toArray 25) = V := ⟨_, rfl⟩
    rw [hv2] at H2 ⊢
    clear hv2
    obtain ⟨o0, o1, o2, o3, o4, x0, x1, x2, x3, x4, d0, d1, -⟩ := H2.out.cells
    go_upto_region 7 with fail
    go_quiet (first | (go_at_call 5; with_reducible exact quiet_same CT1.out _ _) | (go_at_call 5; with_reducible exact quiet_same CT2.out _ _) | (go_at_call 6; with_reducible exact quiet_same CZ.out _ _))
    have H3 := Lib.hid (H2.out.drewN nq)
    clear o0 o1 o2 o3 o4 x0 x1 x2 x3 x4 d0 d1
    generalize v2.drewN nq = v3 at *
    clear nq
    obtain ⟨o0, o1, o2, o3, o4, x0, x1, x2, x3, x4, d0, d1, -⟩ := H3.out.cells
    go_upto_region 9 with fail
    go_upto_region 10 with (first | (go_at_call 4; (with_reducible refine (C3.out _).mono ?_); rintro e w4 ⟨rfl, hb4⟩; dsimp only))
    clear o0 o1 o2 o3 o4 x0 x1 x2 x3 x4 d0 d1
    have H4 := Lib.hid ((H3.out.call hb4).alloc (opsL I s K F T) 25)
    clear hb4
    obtain ⟨v4, hv4⟩ : ∃ V, w4.alloc (.cells ((opsL I s K F T)).toArray 25) = V := ⟨_, rfl⟩
    rw [hv4] at H4 ⊢
    clear hv4
    obtain ⟨p0, p1, p2, p3, p4, o0, o1, o2, o3, o4, x0, x1, x2, x3, x4, d0, d1, -⟩ := H4.out.cells
    go_upto_region 11 with (first | (go_at_call 7; (with_reducible refine (C4.out _).mono ?_); rintro e w5 ⟨rfl, hb5⟩; dsimp only))
    clear p0 p1 p2 p3 p4 o0 o1 o2 o3 o4 x0 x1 x2 x3 x4 d0 d1
    have H5 := Lib.hid ((H4.out.call hb5).alloc [.int .i64 X, .int .i64 Y] 23)
    clear hb5
    obtain ⟨v5, hv5⟩ : ∃ V, w5.alloc (.cells ([.int .i64 X, .int .i64 Y]).toArray 23) = V := ⟨_, rfl⟩
    rw [hv5] at H5 ⊢
    clear hv5
    obtain ⟨r0, r1, p0, p1, p2, p3, p4, o0, o1, o2, o3, o4, x0, x1, x2, x3, x4, d0, d1, -⟩ := H5.out.cells
    rcases hev.out with ⟨rfl, h5⟩ | ⟨z, rfl⟩
    · by_cases hts : t < s
      · clear h5
        go_wp2_with fail
        go_ret
        exact ⟨rfl, H5.out.below⟩
      · have C5 := Lib.hid (h5 (by omega))
        clear h5
        go_upto_region 16 with (first | (go_at_call 4; (with_reducible refine (C5.out _).mono ?_); rintro e w6 ⟨rfl, hb6⟩; dsimp only))
        clear r0 r1 p0 p1 p2 p3 p4 o0 o1 o2 o3 o4 x0 x1 x2 x3 x4 d0 d1
        have H6 := Lib.hid ((H5.out.call hb6).alloc (opsL I t K G T) 25)
        clear hb6
        obtain ⟨v6, hv6⟩ : ∃ V, w6.alloc (.cells ((opsL I t K G T)).toArray 25) = V := ⟨_, rfl⟩
        rw [hv6] at H6 ⊢
        clear hv6
        obtain ⟨q0, q1, q2, q3, q4, r0, r1, p0, p1, p2, p3, p4, o0, o1, o2, o3, o4, x0, x1, x2, x3, x4, d0, d1, -⟩ := H6.out.cells
        go_wp2_with fail
        go_ret
        exact ⟨rfl, H6.out.below⟩
    · go_wp2_with fail
      go_ret
      exact ⟨rfl, H5.out.below⟩

theorem same_any (c s t : Int) (w : World) : Calls Try.prog 3 #[.agg #[.int .i64 c, .int .i64 s], .int .i64 t] w (TrueB w) := by
  by_cases h : Right c s
  · exact same_yes t h w
  · exact same_no t h w
end D
end Go.Proofs.Ytppnfjapalilfaa
