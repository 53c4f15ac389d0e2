/- The law DecRises, walked: it returns true for all numbers, every scale and way; what lay in memory stays as it was. -/
import Derived.Test.YteekhfiphbhbjaaDecKit
namespace Go.Proofs.Yteekhfiphbhbjaa
namespace D
open Go.RowKit

set_option maxHeartbeats 32000000 in
set_option maxRecDepth 100000 in
theorem rises_any (c s d r t way : Int) (w : World) : Calls Try.prog 5 #[.agg #[.int .i64 c, .int .i64 s], .agg #[.int .i64 d, .int .i64 r], .int .i64 t, .int .i64 way] w (TrueBelow w) := by
  have H0 := Lib.hid (at_two w c s d r)
  have CH := Lib.hid half_any
  have C1 := Lib.hid fun W => round_any c s t way W
  have C2 := Lib.hid fun W => round_any d r t way W
  have CS : Hid (∀ W : World, ∀ (a b x y : Int), Calls Try.prog 12 #[.agg #[.int .i64 a, .int .i64 b], .int .i64 x, .int .i64 y] W (Some2 W)) := Lib.hid fun W a b x y => round_some a b x y W
  by_cases h1 : roundF c s t way = 0
  · simp only [roundV_ok h1] at C1
    by_cases h2 : roundF d r t way = 0
    · simp only [roundV_ok h2] at C2
      obtain ⟨ra, ht, hw, hX⟩ := roundF_zero.1 h1
      obtain ⟨rb, _, _, hY⟩ := roundF_zero.1 h2
      have hc0 := ra.2.2.1
      have hc1 := ra.2.2.2
      have C3' := Lib.hid fun W => round_any (-c) s t way W
      by_cases h3 : roundF (-c) s t way = 0
      · simp only [roundV_ok h3] at C3'
        have hn : way = 1 ∨ way = 4 ∨ way = 5 → rc (-c) s t way = - rc c s t way := rc_neg
        have hm : val c s < val d r → rc c s t way ≤ rc d r t way := rc_mono
        have CL := Lib.hid fun W => less_any c s d r W
        have CM := Lib.hid fun W => less_any (rc d r t way) t (rc c s t way) t W
        have hx := right_rc h1
        have hy := right_rc h2
        have eL : lessB c s d r = decide (val c s < val d r) := by unfold lessB; simp only [ra, rb, true_and]
        have eM : lessB (rc d r t way) t (rc c s t way) t = decide (rc d r t way < rc c s t way) := by unfold lessB; simp only [hx, hy, true_and, val_lt]
        simp only [eL] at CL
        simp only [eM] at CM
        clear h1 h2 h3 eL eM hx hy ra rb
        generalize rc c s t way = X at *
        generalize rc d r t way = Y at *
        generalize rc (-c) s t way = Z at *
        have C3 : Hid (∀ W : World, Calls Try.prog 12 #[.agg #[.int .i64 (0 - c), .int .i64 s], .int .i64 t, .int .i64 way] W (Gives W (.tuple #[.agg #[.int .i64 Z, .int .i64 t], .nilIface]))) := by rw [Int.zero_sub]; exact C3'
        by_cases hl : val c s < val d r
        · have hm := hm hl
          have hm' : ¬ Y < X := by omega
          simp only [hl, decide_true] at CL
          simp only [hm', decide_false] at CM
          rcases (show way = 1 ∨ way = 2 ∨ way = 3 ∨ way = 4 ∨ way = 5 by omega) with rfl | rfl | rfl | rfl | rfl
          all_goals
            first | (have HZ := Lib.hid (hn (.inl rfl))) | (have HZ := Lib.hid (hn (.inr (.inl rfl)))) | (have HZ := Lib.hid (hn (.inr (.inr rfl)))) | skip
            clear hn
            go_enter Try.func5, Try.ntmps5
            go_upto_region 2 with (first | (go_at_call 8; (with_reducible refine (CH.out _).mono ?_); rintro e w1 ⟨rfl, hb1⟩))
            have H1 := Lib.hid (H0.out.call hb1)
            clear hb1
            obtain ⟨b0, b1, a0, a1, -⟩ := H1.out.mem.cells
            go_upto_region 3 with (first | (go_at_call 12; (with_reducible refine (C1.out _).mono ?_); rintro e w2 ⟨rfl, hb2⟩; dsimp only))
            clear b0 b1 a0 a1
            have H2 := Lib.hid ((H1.out.call hb2).alloc (X) (t))
            clear hb2
            obtain ⟨v2, hv2⟩ : ∃ V, w2.alloc (box (X) (t)) = V := ⟨_, rfl⟩
            rw [hv2] at H2 ⊢
            clear hv2
            obtain ⟨x0, x1, b0, b1, a0, a1, -⟩ := H2.out.mem.cells
            go_upto_region 4 with (first | (go_at_call 12; (with_reducible refine (C2.out _).mono ?_); rintro e w3 ⟨rfl, hb3⟩; dsimp only))
            clear x0 x1 b0 b1 a0 a1
            have H3 := Lib.hid ((H2.out.call hb3).alloc (Y) (t))
            clear hb3
            obtain ⟨v3, hv3⟩ : ∃ V, w3.alloc (box (Y) (t)) = V := ⟨_, rfl⟩
            rw [hv3] at H3 ⊢
            clear hv3
            obtain ⟨y0, y1, x0, x1, b0, b1, a0, a1, -⟩ := H3.out.mem.cells
            go_upto_region 5 with (first | (go_at_call 12; (with_reducible refine (C3.out _).mono ?_); rintro e w4 ⟨rfl, hb4⟩; dsimp only) | (go_at_call 12; (with_reducible refine (C3'.out _).mono ?_); rintro e w4 ⟨rfl, hb4⟩; dsimp only))
            clear y0 y1 x0 x1 b0 b1 a0 a1
            have H4 := Lib.hid ((H3.out.call hb4).alloc (Z) (t))
            clear hb4
            obtain ⟨v4, hv4⟩ : ∃ V, w4.alloc (box (Z) (t)) = V := ⟨_, rfl⟩
            rw [hv4] at H4 ⊢
            clear hv4
            obtain ⟨z0, z1, y0, y1, x0, x1, b0, b1, a0, a1, -⟩ := H4.out.mem.cells
            go_upto_region 11 with (first | (go_at_call 10; (with_reducible refine (CL.out _).mono ?_); rintro e wa ⟨rfl, hba⟩; have KA := Lib.hid (H4.out.call hba); obtain ⟨z2, z3, y2, y3, x2, x3, b2, b3, a2, a3, -⟩ := KA.out.mem.cells) | (go_at_call 10; (with_reducible refine (CM.out _).mono ?_); rintro e wb ⟨rfl, hbb⟩))
            have KB := Lib.hid (KA.out.call hbb)
            obtain ⟨z4, z5, y4, y5, x4, x5, b4, b5, a4, a5, -⟩ := KB.out.mem.cells
            try (have hz := HZ.out)
            go_wp2_with fail
            go_ret
            exact ⟨rfl, KB.out.below⟩
        · simp only [hl, decide_false] at CL
          rcases (show way = 1 ∨ way = 2 ∨ way = 3 ∨ way = 4 ∨ way = 5 by omega) with rfl | rfl | rfl | rfl | rfl
          all_goals
            first | (have HZ := Lib.hid (hn (.inl rfl))) | (have HZ := Lib.hid (hn (.inr (.inl rfl)))) | (have HZ := Lib.hid (hn (.inr (.inr rfl)))) | skip
            clear hn
            go_enter Try.func5, Try.ntmps5
            go_upto_region 2 with (first | (go_at_call 8; (with_reducible refine (CH.out _).mono ?_); rintro e w1 ⟨rfl, hb1⟩))
            have H1 := Lib.hid (H0.out.call hb1)
            clear hb1
            obtain ⟨b0, b1, a0, a1, -⟩ := H1.out.mem.cells
            go_upto_region 3 with (first | (go_at_call 12; (with_reducible refine (C1.out _).mono ?_); rintro e w2 ⟨rfl, hb2⟩; dsimp only))
            clear b0 b1 a0 a1
            have H2 := Lib.hid ((H1.out.call hb2).alloc (X) (t))
            clear hb2
            obtain ⟨v2, hv2⟩ : ∃ V, w2.alloc (box (X) (t)) = V := ⟨_, rfl⟩
            rw [hv2] at H2 ⊢
            clear hv2
            obtain ⟨x0, x1, b0, b1, a0, a1, -⟩ := H2.out.mem.cells
            go_upto_region 4 with (first | (go_at_call 12; (with_reducible refine (C2.out _).mono ?_); rintro e w3 ⟨rfl, hb3⟩; dsimp only))
            clear x0 x1 b0 b1 a0 a1
            have H3 := Lib.hid ((H2.out.call hb3).alloc (Y) (t))
            clear hb3
            obtain ⟨v3, hv3⟩ : ∃ V, w3.alloc (box (Y) (t)) = V := ⟨_, rfl⟩
            rw [hv3] at H3 ⊢
            clear hv3
            obtain ⟨y0, y1, x0, x1, b0, b1, a0, a1, -⟩ := H3.out.mem.cells
            go_upto_region 5 with (first | (go_at_call 12; (with_reducible refine (C3.out _).mono ?_); rintro e w4 ⟨rfl, hb4⟩; dsimp only) | (go_at_call 12; (with_reducible refine (C3'.out _).mono ?_); rintro e w4 ⟨rfl, hb4⟩; dsimp only))
            clear y0 y1 x0 x1 b0 b1 a0 a1
            have H4 := Lib.hid ((H3.out.call hb4).alloc (Z) (t))
            clear hb4
            obtain ⟨v4, hv4⟩ : ∃ V, w4.alloc (box (Z) (t)) = V := ⟨_, rfl⟩
            rw [hv4] at H4 ⊢
            clear hv4
            obtain ⟨z0, z1, y0, y1, x0, x1, b0, b1, a0, a1, -⟩ := H4.out.mem.cells
            go_upto_region 11 with (first | (go_at_call 10; (with_reducible refine (CL.out _).mono ?_); rintro e wa ⟨rfl, hba⟩; have KA := Lib.hid (H4.out.call hba); obtain ⟨z2, z3, y2, y3, x2, x3, b2, b3, a2, a3, -⟩ := KA.out.mem.cells))
            try (have hz := HZ.out)
            go_wp2_with fail
            go_ret
            exact ⟨rfl, KA.out.below⟩
      · simp only [roundV_no h3] at C3'
        generalize (roundF (-c) s t way : Int) = z3 at *
        have C3 : Hid (∀ W : World, Calls Try.prog 12 #[.agg #[.int .i64 (0 - c), .int .i64 s], .int .i64 t, .int .i64 way] W (Gives W (.tuple #[.agg #[.int .i64 0, .int .i64 0], .iface 38 (.int .i64 z3)]))) := by rw [Int.zero_sub]; exact C3'
        clear h1 h2 h3
        generalize rc c s t way = X at *
        generalize rc d r t way = Y at *
        go_enter Try.func5, Try.ntmps5
        go_upto_region 2 with (first | (go_at_call 8; (with_reducible refine (CH.out _).mono ?_); rintro e w1 ⟨rfl, hb1⟩))
        have H1 := Lib.hid (H0.out.call hb1)
        clear hb1
        obtain ⟨b0, b1, a0, a1, -⟩ := H1.out.mem.cells
        go_upto_region 3 with (first | (go_at_call 12; (with_reducible refine (C1.out _).mono ?_); rintro e w2 ⟨rfl, hb2⟩; dsimp only))
        clear b0 b1 a0 a1
        have H2 := Lib.hid ((H1.out.call hb2).alloc (X) (t))
        clear hb2
        obtain ⟨v2, hv2⟩ : ∃ V, w2.alloc (box (X) (t)) = V := ⟨_, rfl⟩
        rw [hv2] at H2 ⊢
        clear hv2
        obtain ⟨x0, x1, b0, b1, a0, a1, -⟩ := H2.out.mem.cells
        go_upto_region 4 with (first | (go_at_call 12; (with_reducible refine (C2.out _).mono ?_); rintro e w3 ⟨rfl, hb3⟩; dsimp only))
        clear x0 x1 b0 b1 a0 a1
        have H3 := Lib.hid ((H2.out.call hb3).alloc (Y) (t))
        clear hb3
        obtain ⟨v3, hv3⟩ : ∃ V, w3.alloc (box (Y) (t)) = V := ⟨_, rfl⟩
        rw [hv3] at H3 ⊢
        clear hv3
        obtain ⟨y0, y1, x0, x1, b0, b1, a0, a1, -⟩ := H3.out.mem.cells
        go_upto_region 5 with (first | (go_at_call 12; (with_reducible refine (C3.out _).mono ?_); rintro e w4 ⟨rfl, hb4⟩; dsimp only) | (go_at_call 12; (with_reducible refine (C3'.out _).mono ?_); rintro e w4 ⟨rfl, hb4⟩; dsimp only))
        clear y0 y1 x0 x1 b0 b1 a0 a1
        have H4 := Lib.hid ((H3.out.call hb4).alloc (0) (0))
        clear hb4
        obtain ⟨v4, hv4⟩ : ∃ V, w4.alloc (box (0) (0)) = V := ⟨_, rfl⟩
        rw [hv4] at H4 ⊢
        clear hv4
        obtain ⟨z0, z1, y0, y1, x0, x1, b0, b1, a0, a1, -⟩ := H4.out.mem.cells
        go_wp2_with fail
        go_ret
        exact ⟨rfl, H4.out.below⟩
    · simp only [roundV_no h2] at C2
      generalize (roundF d r t way : Int) = z2 at *
      clear h1 h2
      generalize rc c s t way = X at *
      go_enter Try.func5, Try.ntmps5
      go_upto_region 2 with (first | (go_at_call 8; (with_reducible refine (CH.out _).mono ?_); rintro e w1 ⟨rfl, hb1⟩))
      have H1 := Lib.hid (H0.out.call hb1)
      clear hb1
      obtain ⟨b0, b1, a0, a1, -⟩ := H1.out.mem.cells
      go_upto_region 3 with (first | (go_at_call 12; (with_reducible refine (C1.out _).mono ?_); rintro e w2 ⟨rfl, hb2⟩; dsimp only))
      clear b0 b1 a0 a1
      have H2 := Lib.hid ((H1.out.call hb2).alloc (X) (t))
      clear hb2
      obtain ⟨v2, hv2⟩ : ∃ V, w2.alloc (box (X) (t)) = V := ⟨_, rfl⟩
      rw [hv2] at H2 ⊢
      clear hv2
      obtain ⟨x0, x1, b0, b1, a0, a1, -⟩ := H2.out.mem.cells
      go_upto_region 4 with (first | (go_at_call 12; (with_reducible refine (C2.out _).mono ?_); rintro e w3 ⟨rfl, hb3⟩; dsimp only))
      clear x0 x1 b0 b1 a0 a1
      have H3 := Lib.hid ((H2.out.call hb3).alloc (0) (0))
      clear hb3
      obtain ⟨v3, hv3⟩ : ∃ V, w3.alloc (box (0) (0)) = V := ⟨_, rfl⟩
      rw [hv3] at H3 ⊢
      clear hv3
      obtain ⟨y0, y1, x0, x1, b0, b1, a0, a1, -⟩ := H3.out.mem.cells
      go_upto_region 5 with (first | (go_at_call 12; (with_reducible refine (CS.out _ _ _ _ _).mono ?_); rintro e w4 ⟨pz, qz, evz, rfl, hb4⟩; dsimp only))
      clear y0 y1 x0 x1 b0 b1 a0 a1
      have H4 := Lib.hid ((H3.out.call hb4).alloc (pz) (qz))
      clear hb4
      obtain ⟨v4, hv4⟩ : ∃ V, w4.alloc (box (pz) (qz)) = V := ⟨_, rfl⟩
      rw [hv4] at H4 ⊢
      clear hv4
      obtain ⟨z0, z1, y0, y1, x0, x1, b0, b1, a0, a1, -⟩ := H4.out.mem.cells
      go_wp2_with fail
      go_ret
      exact ⟨rfl, H4.out.below⟩
  · simp only [roundV_no h1] at C1
    generalize (roundF c s t way : Int) = z1 at *
    clear h1
    go_enter Try.func5, Try.ntmps5
    go_upto_region 2 with (first | (go_at_call 8; (with_reducible refine (CH.out _).mono ?_); rintro e w1 ⟨rfl, hb1⟩))
    have H1 := Lib.hid (H0.out.call hb1)
    clear hb1
    obtain ⟨b0, b1, a0, a1, -⟩ := H1.out.mem.cells
    go_upto_region 3 with (first | (go_at_call 12; (with_reducible refine (C1.out _).mono ?_); rintro e w2 ⟨rfl, hb2⟩; dsimp only))
    clear b0 b1 a0 a1
    have H2 := Lib.hid ((H1.out.call hb2).alloc (0) (0))
    clear hb2
    obtain ⟨v2, hv2⟩ : ∃ V, w2.alloc (box (0) (0)) = V := ⟨_, rfl⟩
    rw [hv2] at H2 ⊢
    clear hv2
    obtain ⟨x0, x1, b0, b1, a0, a1, -⟩ := H2.out.mem.cells
    go_upto_region 4 with (first | (go_at_call 12; (with_reducible refine (CS.out _ _ _ _ _).mono ?_); rintro e w3 ⟨py, qy, evy, rfl, hb3⟩; dsimp only))
    clear x0 x1 b0 b1 a0 a1
    have H3 := Lib.hid ((H2.out.call hb3).alloc (py) (qy))
    clear hb3
    obtain ⟨v3, hv3⟩ : ∃ V, w3.alloc (box (py) (qy)) = V := ⟨_, rfl⟩
    rw [hv3] at H3 ⊢
    clear hv3
    obtain ⟨y0, y1, x0, x1, b0, b1, a0, a1, -⟩ := H3.out.mem.cells
    go_upto_region 5 with (first | (go_at_call 12; (with_reducible refine (CS.out _ _ _ _ _).mono ?_); rintro e w4 ⟨pz, qz, evz, rfl, hb4⟩; dsimp only))
    clear y0 y1 x0 x1 b0 b1 a0 a1
    have H4 := Lib.hid ((H3.out.call hb4).alloc (pz) (qz))
    clear hb4
    obtain ⟨v4, hv4⟩ : ∃ V, w4.alloc (box (pz) (qz)) = V := ⟨_, rfl⟩
    rw [hv4] at H4 ⊢
    clear hv4
    obtain ⟨z0, z1, y0, y1, x0, x1, b0, b1, a0, a1, -⟩ := H4.out.mem.cells
    go_wp2_with fail
    go_ret
    exact ⟨rfl, H4.out.below⟩
end D
end Go.Proofs.Yteekhfiphbhbjaa
