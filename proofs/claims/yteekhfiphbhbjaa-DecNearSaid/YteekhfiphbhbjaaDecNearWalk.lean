/- The law DecNear, walked: it returns true for every number, scale and way; what lay in memory stays as it was. -/
import Derived.Test.YteekhfiphbhbjaaDecKit
import Derived.Test.YteekhfiphbhbjaaDecRef
namespace Go.Proofs.Yteekhfiphbhbjaa
namespace D
open Go.RowKit

set_option maxHeartbeats 32000000 in
set_option maxRecDepth 100000 in
theorem near_any (c s t way : Int) (w : World) : Calls Try.prog 4 #[.agg #[.int .i64 c, .int .i64 s], .int .i64 t, .int .i64 way] w (TrueBelow w) := by
  have H0 := Lib.hid (at_one w c s)
  have CH := Lib.hid half_any
  have C1 := Lib.hid fun W => round_any c s t way W
  by_cases h1 : roundF c s t way = 0
  · simp only [roundV_ok h1] at C1
    obtain ⟨rd, ht, hw, hX⟩ := roundF_zero.1 h1
    have hx := right_rc h1
    have C2 := Lib.hid fun W => round_any (rc c s t way) t t way W
    have h2 : roundF (rc c s t way) t t way = 0 := roundF_zero.2 ⟨hx, ht, hw, by rw [rc_again]; exact hX⟩
    simp only [roundV_ok h2, rc_again] at C2
    by_cases h3 : s ≤ t
    · have CS := Lib.hid fun W => same_any (rc c s t way) t c s W
      have e : sameB (rc c s t way) t c s = true := decide_eq_true ⟨hx, rd, val_rc_more h3 ht.2⟩
      simp only [e] at CS
      clear e h1 h2 hx rd
      generalize rc c s t way = X at *
      have h3i : ¬ t < s := by omega
      go_enter Try.func4, Try.ntmps4
      go_upto_region 2 with (first | (go_at_call 8; (with_reducible refine (CH.out _).mono ?_); rintro e w1 ⟨rfl, hb1⟩))
      have H1 := Lib.hid (H0.out.call hb1)
      clear hb1
      obtain ⟨d0, d1, -⟩ := H1.out.mem.cells
      go_upto_region 3 with (first | (go_at_call 12; (with_reducible refine (C1.out _).mono ?_); rintro e w2 ⟨rfl, hb2⟩; dsimp only))
      clear d0 d1
      have H2 := Lib.hid ((H1.out.call hb2).alloc (X) (t))
      clear hb2
      obtain ⟨v2, hv2⟩ : ∃ V, w2.alloc (box (X) (t)) = V := ⟨_, rfl⟩
      rw [hv2] at H2 ⊢
      clear hv2
      obtain ⟨x0, x1, d0, d1, -⟩ := H2.out.mem.cells
      go_upto_region 8 with (first | (go_at_call 12; (with_reducible refine (C2.out _).mono ?_); rintro e w3 ⟨rfl, hb3⟩; dsimp only))
      clear x0 x1 d0 d1
      have H3 := Lib.hid ((H2.out.call hb3).alloc (X) (t))
      clear hb3
      obtain ⟨v3, hv3⟩ : ∃ V, w3.alloc (box (X) (t)) = V := ⟨_, rfl⟩
      rw [hv3] at H3 ⊢
      clear hv3
      obtain ⟨y0, y1, x0, x1, d0, d1, -⟩ := H3.out.mem.cells
      go_wp2_with (first | (go_at_call 11; (with_reducible refine (CS.out _).mono ?_); rintro e wa ⟨rfl, hba⟩))
      go_ret
      exact ⟨rfl, up_call H3.out.below hba⟩
    · have hts : t < s := by omega
      have hX0 := hX.1
      have hX1 := hX.2
      have C3' := Lib.hid fun W => add_any c s (-(rc c s t way)) t W
      obtain ⟨es, eo⟩ := sum_off (c := c) (r := rc c s t way) hts
      by_cases h4 : addF c s (-(rc c s t way)) t = 0
      · simp only [addV_ok h4, es, eo] at C3'
        have hu := ten_pos (s - t)
        have hu9 := ten_le_nine (a := s - t) (by omega) (by have := rd.2.1; omega)
        have hr := rc_fewer (c := c) (way := way) (show t ≤ s by omega) rd.2.1
        obtain ⟨n1, n2, n3, n4, n5, n6, n7⟩ := near hu way c hw.1 hw.2
        rw [← hr] at n1 n2 n3 n4 n5 n6 n7
        have CT : Hid (∀ W : World, Calls Try.prog 14 #[.int .i64 (s - t)] W fun e w' => e = .returned (.int .i64 (ten (s - t))) ∧ W = w') := Lib.hid fun W => refTen_any (s - t) W (by omega) (by have := rd.2.1; omega)
        clear h1 h2 h4 hx es eo hr
        obtain ⟨rd0, rd1, rd2, rd3⟩ := rd
        obtain ⟨ht0, ht1⟩ := ht
        generalize rc c s t way = X at *
        generalize ten (s - t) = u at *
        generalize hO : c - X * u = O at *
        have C3 : Hid (∀ W : World, Calls Try.prog 13 #[.agg #[.int .i64 c, .int .i64 s], .agg #[.int .i64 (0 - X), .int .i64 t]] W (Gives W (.tuple #[.agg #[.int .i64 O, .int .i64 s], .nilIface]))) := by rw [Int.zero_sub]; exact C3'
        clear hO
        have CZ : Hid (∀ W : World, Calls Try.prog 15 #[.int .i64 O] W fun e w' => e = .returned (.int .i64 O.natAbs) ∧ W = w') := Lib.hid fun W => refSize_any O W (by omega) (by omega)
        have a1 : (O.natAbs : Int) < u := by omega
        have a0 : 0 ≤ (O.natAbs : Int) := by omega
        have a2 : way = 4 ∨ way = 5 → 2 * (O.natAbs : Int) ≤ u := fun h => by have := n3 h; omega
        have a3 : way = 5 → 2 * (O.natAbs : Int) = u → X.tmod 2 = 0 := fun h h' => by
          have h2 := n4 h (by omega)
          have := odd_iff X
          omega
        clear n1 n2 n3 n4
        generalize (O.natAbs : Int) = a at *
        have b1 : ¬ u ≤ a := by omega
        rcases (show way = 1 ∨ way = 2 ∨ way = 3 ∨ way = 4 ∨ way = 5 by omega) with rfl | rfl | rfl | rfl | rfl
        · have n7 := n7 rfl
          by_cases hc : 0 ≤ c
          · have g1 := n7.1 hc
            clear n5 n6 n7 a2 a3
            go_enter Try.func4, Try.ntmps4
            go_upto_region 2 with (first | (go_at_call 8; (with_reducible refine (CH.out _).mono ?_); rintro e w1 ⟨rfl, hb1⟩))
            have H1 := Lib.hid (H0.out.call hb1)
            clear hb1
            obtain ⟨d0, d1, -⟩ := H1.out.mem.cells
            go_upto_region 3 with (first | (go_at_call 12; (with_reducible refine (C1.out _).mono ?_); rintro e w2 ⟨rfl, hb2⟩; dsimp only))
            clear d0 d1
            have H2 := Lib.hid ((H1.out.call hb2).alloc (X) (t))
            clear hb2
            obtain ⟨v2, hv2⟩ : ∃ V, w2.alloc (box (X) (t)) = V := ⟨_, rfl⟩
            rw [hv2] at H2 ⊢
            clear hv2
            obtain ⟨x0, x1, d0, d1, -⟩ := H2.out.mem.cells
            go_upto_region 8 with (first | (go_at_call 12; (with_reducible refine (C2.out _).mono ?_); rintro e w3 ⟨rfl, hb3⟩; dsimp only))
            clear x0 x1 d0 d1
            have H3 := Lib.hid ((H2.out.call hb3).alloc (X) (t))
            clear hb3
            obtain ⟨v3, hv3⟩ : ∃ V, w3.alloc (box (X) (t)) = V := ⟨_, rfl⟩
            rw [hv3] at H3 ⊢
            clear hv3
            obtain ⟨y0, y1, x0, x1, d0, d1, -⟩ := H3.out.mem.cells
            go_upto_region 13 with (first | (go_at_call 13; (with_reducible refine (C3.out _).mono ?_); rintro e w4 ⟨rfl, hb4⟩; dsimp only) | (go_at_call 13; (with_reducible refine (C3'.out _).mono ?_); rintro e w4 ⟨rfl, hb4⟩; dsimp only))
            clear y0 y1 x0 x1 d0 d1
            have H4 := Lib.hid ((H3.out.call hb4).alloc (O) (s))
            clear hb4
            obtain ⟨v4, hv4⟩ : ∃ V, w4.alloc (box (O) (s)) = V := ⟨_, rfl⟩
            rw [hv4] at H4 ⊢
            clear hv4
            obtain ⟨o0, o1, y0, y1, x0, x1, d0, d1, -⟩ := H4.out.mem.cells
            go_upto_region 17 with (first | (go_at_call 14; (with_reducible refine (CT.out _).mono ?_); rintro e wa ⟨rfl, rfl⟩) | (go_at_call 15; (with_reducible refine (CZ.out _).mono ?_); rintro e wb ⟨rfl, rfl⟩))
            go_wp2_with fail
            go_ret
            exact ⟨rfl, H4.out.below⟩
          · have g1 := n7.2 (by omega)
            have g2 : c ≤ 0 := by omega
            clear n5 n6 n7 a2 a3
            go_enter Try.func4, Try.ntmps4
            go_upto_region 2 with (first | (go_at_call 8; (with_reducible refine (CH.out _).mono ?_); rintro e w1 ⟨rfl, hb1⟩))
            have H1 := Lib.hid (H0.out.call hb1)
            clear hb1
            obtain ⟨d0, d1, -⟩ := H1.out.mem.cells
            go_upto_region 3 with (first | (go_at_call 12; (with_reducible refine (C1.out _).mono ?_); rintro e w2 ⟨rfl, hb2⟩; dsimp only))
            clear d0 d1
            have H2 := Lib.hid ((H1.out.call hb2).alloc (X) (t))
            clear hb2
            obtain ⟨v2, hv2⟩ : ∃ V, w2.alloc (box (X) (t)) = V := ⟨_, rfl⟩
            rw [hv2] at H2 ⊢
            clear hv2
            obtain ⟨x0, x1, d0, d1, -⟩ := H2.out.mem.cells
            go_upto_region 8 with (first | (go_at_call 12; (with_reducible refine (C2.out _).mono ?_); rintro e w3 ⟨rfl, hb3⟩; dsimp only))
            clear x0 x1 d0 d1
            have H3 := Lib.hid ((H2.out.call hb3).alloc (X) (t))
            clear hb3
            obtain ⟨v3, hv3⟩ : ∃ V, w3.alloc (box (X) (t)) = V := ⟨_, rfl⟩
            rw [hv3] at H3 ⊢
            clear hv3
            obtain ⟨y0, y1, x0, x1, d0, d1, -⟩ := H3.out.mem.cells
            go_upto_region 13 with (first | (go_at_call 13; (with_reducible refine (C3.out _).mono ?_); rintro e w4 ⟨rfl, hb4⟩; dsimp only) | (go_at_call 13; (with_reducible refine (C3'.out _).mono ?_); rintro e w4 ⟨rfl, hb4⟩; dsimp only))
            clear y0 y1 x0 x1 d0 d1
            have H4 := Lib.hid ((H3.out.call hb4).alloc (O) (s))
            clear hb4
            obtain ⟨v4, hv4⟩ : ∃ V, w4.alloc (box (O) (s)) = V := ⟨_, rfl⟩
            rw [hv4] at H4 ⊢
            clear hv4
            obtain ⟨o0, o1, y0, y1, x0, x1, d0, d1, -⟩ := H4.out.mem.cells
            go_upto_region 17 with (first | (go_at_call 14; (with_reducible refine (CT.out _).mono ?_); rintro e wa ⟨rfl, rfl⟩) | (go_at_call 15; (with_reducible refine (CZ.out _).mono ?_); rintro e wb ⟨rfl, rfl⟩))
            go_wp2_with fail
            go_ret
            exact ⟨rfl, H4.out.below⟩
        · have g1 : ¬ O < 0 := by have := n5 rfl; omega
          clear n5 n6 n7 a2 a3
          go_enter Try.func4, Try.ntmps4
          go_upto_region 2 with (first | (go_at_call 8; (with_reducible refine (CH.out _).mono ?_); rintro e w1 ⟨rfl, hb1⟩))
          have H1 := Lib.hid (H0.out.call hb1)
          clear hb1
          obtain ⟨d0, d1, -⟩ := H1.out.mem.cells
          go_upto_region 3 with (first | (go_at_call 12; (with_reducible refine (C1.out _).mono ?_); rintro e w2 ⟨rfl, hb2⟩; dsimp only))
          clear d0 d1
          have H2 := Lib.hid ((H1.out.call hb2).alloc (X) (t))
          clear hb2
          obtain ⟨v2, hv2⟩ : ∃ V, w2.alloc (box (X) (t)) = V := ⟨_, rfl⟩
          rw [hv2] at H2 ⊢
          clear hv2
          obtain ⟨x0, x1, d0, d1, -⟩ := H2.out.mem.cells
          go_upto_region 8 with (first | (go_at_call 12; (with_reducible refine (C2.out _).mono ?_); rintro e w3 ⟨rfl, hb3⟩; dsimp only))
          clear x0 x1 d0 d1
          have H3 := Lib.hid ((H2.out.call hb3).alloc (X) (t))
          clear hb3
          obtain ⟨v3, hv3⟩ : ∃ V, w3.alloc (box (X) (t)) = V := ⟨_, rfl⟩
          rw [hv3] at H3 ⊢
          clear hv3
          obtain ⟨y0, y1, x0, x1, d0, d1, -⟩ := H3.out.mem.cells
          go_upto_region 13 with (first | (go_at_call 13; (with_reducible refine (C3.out _).mono ?_); rintro e w4 ⟨rfl, hb4⟩; dsimp only) | (go_at_call 13; (with_reducible refine (C3'.out _).mono ?_); rintro e w4 ⟨rfl, hb4⟩; dsimp only))
          clear y0 y1 x0 x1 d0 d1
          have H4 := Lib.hid ((H3.out.call hb4).alloc (O) (s))
          clear hb4
          obtain ⟨v4, hv4⟩ : ∃ V, w4.alloc (box (O) (s)) = V := ⟨_, rfl⟩
          rw [hv4] at H4 ⊢
          clear hv4
          obtain ⟨o0, o1, y0, y1, x0, x1, d0, d1, -⟩ := H4.out.mem.cells
          go_upto_region 17 with (first | (go_at_call 14; (with_reducible refine (CT.out _).mono ?_); rintro e wa ⟨rfl, rfl⟩) | (go_at_call 15; (with_reducible refine (CZ.out _).mono ?_); rintro e wb ⟨rfl, rfl⟩))
          go_wp2_with fail
          go_ret
          exact ⟨rfl, H4.out.below⟩
        · have g1 : ¬ 0 < O := by have := n6 rfl; omega
          clear n5 n6 n7 a2 a3
          go_enter Try.func4, Try.ntmps4
          go_upto_region 2 with (first | (go_at_call 8; (with_reducible refine (CH.out _).mono ?_); rintro e w1 ⟨rfl, hb1⟩))
          have H1 := Lib.hid (H0.out.call hb1)
          clear hb1
          obtain ⟨d0, d1, -⟩ := H1.out.mem.cells
          go_upto_region 3 with (first | (go_at_call 12; (with_reducible refine (C1.out _).mono ?_); rintro e w2 ⟨rfl, hb2⟩; dsimp only))
          clear d0 d1
          have H2 := Lib.hid ((H1.out.call hb2).alloc (X) (t))
          clear hb2
          obtain ⟨v2, hv2⟩ : ∃ V, w2.alloc (box (X) (t)) = V := ⟨_, rfl⟩
          rw [hv2] at H2 ⊢
          clear hv2
          obtain ⟨x0, x1, d0, d1, -⟩ := H2.out.mem.cells
          go_upto_region 8 with (first | (go_at_call 12; (with_reducible refine (C2.out _).mono ?_); rintro e w3 ⟨rfl, hb3⟩; dsimp only))
          clear x0 x1 d0 d1
          have H3 := Lib.hid ((H2.out.call hb3).alloc (X) (t))
          clear hb3
          obtain ⟨v3, hv3⟩ : ∃ V, w3.alloc (box (X) (t)) = V := ⟨_, rfl⟩
          rw [hv3] at H3 ⊢
          clear hv3
          obtain ⟨y0, y1, x0, x1, d0, d1, -⟩ := H3.out.mem.cells
          go_upto_region 13 with (first | (go_at_call 13; (with_reducible refine (C3.out _).mono ?_); rintro e w4 ⟨rfl, hb4⟩; dsimp only) | (go_at_call 13; (with_reducible refine (C3'.out _).mono ?_); rintro e w4 ⟨rfl, hb4⟩; dsimp only))
          clear y0 y1 x0 x1 d0 d1
          have H4 := Lib.hid ((H3.out.call hb4).alloc (O) (s))
          clear hb4
          obtain ⟨v4, hv4⟩ : ∃ V, w4.alloc (box (O) (s)) = V := ⟨_, rfl⟩
          rw [hv4] at H4 ⊢
          clear hv4
          obtain ⟨o0, o1, y0, y1, x0, x1, d0, d1, -⟩ := H4.out.mem.cells
          go_upto_region 17 with (first | (go_at_call 14; (with_reducible refine (CT.out _).mono ?_); rintro e wa ⟨rfl, rfl⟩) | (go_at_call 15; (with_reducible refine (CZ.out _).mono ?_); rintro e wb ⟨rfl, rfl⟩))
          go_wp2_with fail
          go_ret
          exact ⟨rfl, H4.out.below⟩
        · have g1 : ¬ u < 2 * a := by have := a2 (.inl rfl); omega
          clear n5 n6 n7 a2 a3
          go_enter Try.func4, Try.ntmps4
          go_upto_region 2 with (first | (go_at_call 8; (with_reducible refine (CH.out _).mono ?_); rintro e w1 ⟨rfl, hb1⟩))
          have H1 := Lib.hid (H0.out.call hb1)
          clear hb1
          obtain ⟨d0, d1, -⟩ := H1.out.mem.cells
          go_upto_region 3 with (first | (go_at_call 12; (with_reducible refine (C1.out _).mono ?_); rintro e w2 ⟨rfl, hb2⟩; dsimp only))
          clear d0 d1
          have H2 := Lib.hid ((H1.out.call hb2).alloc (X) (t))
          clear hb2
          obtain ⟨v2, hv2⟩ : ∃ V, w2.alloc (box (X) (t)) = V := ⟨_, rfl⟩
          rw [hv2] at H2 ⊢
          clear hv2
          obtain ⟨x0, x1, d0, d1, -⟩ := H2.out.mem.cells
          go_upto_region 8 with (first | (go_at_call 12; (with_reducible refine (C2.out _).mono ?_); rintro e w3 ⟨rfl, hb3⟩; dsimp only))
          clear x0 x1 d0 d1
          have H3 := Lib.hid ((H2.out.call hb3).alloc (X) (t))
          clear hb3
          obtain ⟨v3, hv3⟩ : ∃ V, w3.alloc (box (X) (t)) = V := ⟨_, rfl⟩
          rw [hv3] at H3 ⊢
          clear hv3
          obtain ⟨y0, y1, x0, x1, d0, d1, -⟩ := H3.out.mem.cells
          go_upto_region 13 with (first | (go_at_call 13; (with_reducible refine (C3.out _).mono ?_); rintro e w4 ⟨rfl, hb4⟩; dsimp only) | (go_at_call 13; (with_reducible refine (C3'.out _).mono ?_); rintro e w4 ⟨rfl, hb4⟩; dsimp only))
          clear y0 y1 x0 x1 d0 d1
          have H4 := Lib.hid ((H3.out.call hb4).alloc (O) (s))
          clear hb4
          obtain ⟨v4, hv4⟩ : ∃ V, w4.alloc (box (O) (s)) = V := ⟨_, rfl⟩
          rw [hv4] at H4 ⊢
          clear hv4
          obtain ⟨o0, o1, y0, y1, x0, x1, d0, d1, -⟩ := H4.out.mem.cells
          go_upto_region 17 with (first | (go_at_call 14; (with_reducible refine (CT.out _).mono ?_); rintro e wa ⟨rfl, rfl⟩) | (go_at_call 15; (with_reducible refine (CZ.out _).mono ?_); rintro e wb ⟨rfl, rfl⟩))
          go_wp2_with fail
          go_ret
          exact ⟨rfl, H4.out.below⟩
        · have g1 : ¬ u < 2 * a := by have := a2 (.inr rfl); omega
          by_cases hh : 2 * a = u
          · have g2 : (X.tmod 2 == 0) = true := by simpa using a3 rfl hh
            have g3 : X.tmod 2 = 0 := a3 rfl hh
            have g4 : (2 * a == u) = true := by simpa using hh
            clear n5 n6 n7 a2 a3
            go_enter Try.func4, Try.ntmps4
            go_upto_region 2 with (first | (go_at_call 8; (with_reducible refine (CH.out _).mono ?_); rintro e w1 ⟨rfl, hb1⟩))
            have H1 := Lib.hid (H0.out.call hb1)
            clear hb1
            obtain ⟨d0, d1, -⟩ := H1.out.mem.cells
            go_upto_region 3 with (first | (go_at_call 12; (with_reducible refine (C1.out _).mono ?_); rintro e w2 ⟨rfl, hb2⟩; dsimp only))
            clear d0 d1
            have H2 := Lib.hid ((H1.out.call hb2).alloc (X) (t))
            clear hb2
            obtain ⟨v2, hv2⟩ : ∃ V, w2.alloc (box (X) (t)) = V := ⟨_, rfl⟩
            rw [hv2] at H2 ⊢
            clear hv2
            obtain ⟨x0, x1, d0, d1, -⟩ := H2.out.mem.cells
            go_upto_region 8 with (first | (go_at_call 12; (with_reducible refine (C2.out _).mono ?_); rintro e w3 ⟨rfl, hb3⟩; dsimp only))
            clear x0 x1 d0 d1
            have H3 := Lib.hid ((H2.out.call hb3).alloc (X) (t))
            clear hb3
            obtain ⟨v3, hv3⟩ : ∃ V, w3.alloc (box (X) (t)) = V := ⟨_, rfl⟩
            rw [hv3] at H3 ⊢
            clear hv3
            obtain ⟨y0, y1, x0, x1, d0, d1, -⟩ := H3.out.mem.cells
            go_upto_region 13 with (first | (go_at_call 13; (with_reducible refine (C3.out _).mono ?_); rintro e w4 ⟨rfl, hb4⟩; dsimp only) | (go_at_call 13; (with_reducible refine (C3'.out _).mono ?_); rintro e w4 ⟨rfl, hb4⟩; dsimp only))
            clear y0 y1 x0 x1 d0 d1
            have H4 := Lib.hid ((H3.out.call hb4).alloc (O) (s))
            clear hb4
            obtain ⟨v4, hv4⟩ : ∃ V, w4.alloc (box (O) (s)) = V := ⟨_, rfl⟩
            rw [hv4] at H4 ⊢
            clear hv4
            obtain ⟨o0, o1, y0, y1, x0, x1, d0, d1, -⟩ := H4.out.mem.cells
            go_upto_region 17 with (first | (go_at_call 14; (with_reducible refine (CT.out _).mono ?_); rintro e wa ⟨rfl, rfl⟩) | (go_at_call 15; (with_reducible refine (CZ.out _).mono ?_); rintro e wb ⟨rfl, rfl⟩))
            go_wp2_with fail
            go_ret
            exact ⟨rfl, H4.out.below⟩
          · have g4 : (2 * a == u) = false := by simpa using hh
            clear n5 n6 n7 a2 a3
            go_enter Try.func4, Try.ntmps4
            go_upto_region 2 with (first | (go_at_call 8; (with_reducible refine (CH.out _).mono ?_); rintro e w1 ⟨rfl, hb1⟩))
            have H1 := Lib.hid (H0.out.call hb1)
            clear hb1
            obtain ⟨d0, d1, -⟩ := H1.out.mem.cells
            go_upto_region 3 with (first | (go_at_call 12; (with_reducible refine (C1.out _).mono ?_); rintro e w2 ⟨rfl, hb2⟩; dsimp only))
            clear d0 d1
            have H2 := Lib.hid ((H1.out.call hb2).alloc (X) (t))
            clear hb2
            obtain ⟨v2, hv2⟩ : ∃ V, w2.alloc (box (X) (t)) = V := ⟨_, rfl⟩
            rw [hv2] at H2 ⊢
            clear hv2
            obtain ⟨x0, x1, d0, d1, -⟩ := H2.out.mem.cells
            go_upto_region 8 with (first | (go_at_call 12; (with_reducible refine (C2.out _).mono ?_); rintro e w3 ⟨rfl, hb3⟩; dsimp only))
            clear x0 x1 d0 d1
            have H3 := Lib.hid ((H2.out.call hb3).alloc (X) (t))
            clear hb3
            obtain ⟨v3, hv3⟩ : ∃ V, w3.alloc (box (X) (t)) = V := ⟨_, rfl⟩
            rw [hv3] at H3 ⊢
            clear hv3
            obtain ⟨y0, y1, x0, x1, d0, d1, -⟩ := H3.out.mem.cells
            go_upto_region 13 with (first | (go_at_call 13; (with_reducible refine (C3.out _).mono ?_); rintro e w4 ⟨rfl, hb4⟩; dsimp only) | (go_at_call 13; (with_reducible refine (C3'.out _).mono ?_); rintro e w4 ⟨rfl, hb4⟩; dsimp only))
            clear y0 y1 x0 x1 d0 d1
            have H4 := Lib.hid ((H3.out.call hb4).alloc (O) (s))
            clear hb4
            obtain ⟨v4, hv4⟩ : ∃ V, w4.alloc (box (O) (s)) = V := ⟨_, rfl⟩
            rw [hv4] at H4 ⊢
            clear hv4
            obtain ⟨o0, o1, y0, y1, x0, x1, d0, d1, -⟩ := H4.out.mem.cells
            go_upto_region 17 with (first | (go_at_call 14; (with_reducible refine (CT.out _).mono ?_); rintro e wa ⟨rfl, rfl⟩) | (go_at_call 15; (with_reducible refine (CZ.out _).mono ?_); rintro e wb ⟨rfl, rfl⟩))
            go_wp2_with fail
            go_ret
            exact ⟨rfl, H4.out.below⟩
      · simp only [addV_one (addF_one h4)] at C3'
        clear h1 h2 h4 hx es eo
        obtain ⟨rd0, rd1, rd2, rd3⟩ := rd
        obtain ⟨ht0, ht1⟩ := ht
        generalize rc c s t way = X at *
        have C3 : Hid (∀ W : World, Calls Try.prog 13 #[.agg #[.int .i64 c, .int .i64 s], .agg #[.int .i64 (0 - X), .int .i64 t]] W (Gives W (.tuple #[.agg #[.int .i64 0, .int .i64 0], .iface 38 (.int .i64 1)]))) := by rw [Int.zero_sub]; exact C3'
        go_enter Try.func4, Try.ntmps4
        go_upto_region 2 with (first | (go_at_call 8; (with_reducible refine (CH.out _).mono ?_); rintro e w1 ⟨rfl, hb1⟩))
        have H1 := Lib.hid (H0.out.call hb1)
        clear hb1
        obtain ⟨d0, d1, -⟩ := H1.out.mem.cells
        go_upto_region 3 with (first | (go_at_call 12; (with_reducible refine (C1.out _).mono ?_); rintro e w2 ⟨rfl, hb2⟩; dsimp only))
        clear d0 d1
        have H2 := Lib.hid ((H1.out.call hb2).alloc (X) (t))
        clear hb2
        obtain ⟨v2, hv2⟩ : ∃ V, w2.alloc (box (X) (t)) = V := ⟨_, rfl⟩
        rw [hv2] at H2 ⊢
        clear hv2
        obtain ⟨x0, x1, d0, d1, -⟩ := H2.out.mem.cells
        go_upto_region 8 with (first | (go_at_call 12; (with_reducible refine (C2.out _).mono ?_); rintro e w3 ⟨rfl, hb3⟩; dsimp only))
        clear x0 x1 d0 d1
        have H3 := Lib.hid ((H2.out.call hb3).alloc (X) (t))
        clear hb3
        obtain ⟨v3, hv3⟩ : ∃ V, w3.alloc (box (X) (t)) = V := ⟨_, rfl⟩
        rw [hv3] at H3 ⊢
        clear hv3
        obtain ⟨y0, y1, x0, x1, d0, d1, -⟩ := H3.out.mem.cells
        go_upto_region 13 with (first | (go_at_call 13; (with_reducible refine (C3.out _).mono ?_); rintro e w4 ⟨rfl, hb4⟩; dsimp only) | (go_at_call 13; (with_reducible refine (C3'.out _).mono ?_); rintro e w4 ⟨rfl, hb4⟩; dsimp only))
        clear y0 y1 x0 x1 d0 d1
        have H4 := Lib.hid ((H3.out.call hb4).alloc (0) (0))
        clear hb4
        obtain ⟨v4, hv4⟩ : ∃ V, w4.alloc (box (0) (0)) = V := ⟨_, rfl⟩
        rw [hv4] at H4 ⊢
        clear hv4
        obtain ⟨o0, o1, y0, y1, x0, x1, d0, d1, -⟩ := H4.out.mem.cells
        go_wp2_with fail
        go_ret
        exact ⟨rfl, H4.out.below⟩
  · simp only [roundV_no h1] at C1
    generalize (roundF c s t way : Int) = z1 at *
    clear h1
    go_enter Try.func4, Try.ntmps4
    go_upto_region 2 with (first | (go_at_call 8; (with_reducible refine (CH.out _).mono ?_); rintro e w1 ⟨rfl, hb1⟩))
    have H1 := Lib.hid (H0.out.call hb1)
    clear hb1
    obtain ⟨d0, d1, -⟩ := H1.out.mem.cells
    go_upto_region 3 with (first | (go_at_call 12; (with_reducible refine (C1.out _).mono ?_); rintro e w2 ⟨rfl, hb2⟩; dsimp only))
    clear d0 d1
    have H2 := Lib.hid ((H1.out.call hb2).alloc (0) (0))
    clear hb2
    obtain ⟨v2, hv2⟩ : ∃ V, w2.alloc (box (0) (0)) = V := ⟨_, rfl⟩
    rw [hv2] at H2 ⊢
    clear hv2
    obtain ⟨x0, x1, d0, d1, -⟩ := H2.out.mem.cells
    go_wp2_with fail
    go_ret
    exact ⟨rfl, H2.out.below⟩
end D
end Go.Proofs.Yteekhfiphbhbjaa
