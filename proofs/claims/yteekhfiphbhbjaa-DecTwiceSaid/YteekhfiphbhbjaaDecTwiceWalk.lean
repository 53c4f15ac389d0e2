/- The law DecTwice, walked: it returns true for every number, all scales and ways; what lay in memory stays as it was. -/
import Derived.Test.YteekhfiphbhbjaaDecKit
namespace Go.Proofs.Yteekhfiphbhbjaa
namespace D
open Go.RowKit

set_option maxHeartbeats 16000000 in
set_option maxRecDepth 100000 in
theorem twice_any (c s t m way : Int) (w : World) : Calls Try.prog 7 #[.agg #[.int .i64 c, .int .i64 s], .int .i64 t, .int .i64 m, .int .i64 way] w (TrueBelow w) := by
  have H0 := Lib.hid (at_one w c s)
  have CA := Lib.hid fun W => add_any 5 1 1 0 W
  simp only [three_halves] at CA
  have C1 := Lib.hid fun W => round_any c s t way W
  have C2 := Lib.hid fun W => round_any c s m way W
  by_cases h1 : roundF c s t way = 0
  · by_cases h2 : roundF c s m way = 0
    · simp only [roundV_ok h1] at C1
      simp only [roundV_ok h2] at C2
      by_cases h3 : m < t
      · clear h1 h2
        generalize rc c s t way = X at *
        generalize rc c s m way = Y at *
        go_enter Try.func7, Try.ntmps7
        go_upto_region 2 with (first | (go_at_call 13; (with_reducible refine (CA.out _).mono ?_); rintro e w1 ⟨rfl, hb1⟩; dsimp only))
        have H1 := Lib.hid ((H0.out.call hb1).alloc (15) (1))
        clear hb1
        obtain ⟨v1, hv1⟩ : ∃ V, w1.alloc (box (15) (1)) = V := ⟨_, rfl⟩
        rw [hv1] at H1 ⊢
        clear hv1
        obtain ⟨h0, h1, d0, d1, -⟩ := H1.out.mem.cells
        go_upto_region 3 with (first | (go_at_call 12; (with_reducible refine (C1.out _).mono ?_); rintro e w2 ⟨rfl, hb2⟩; dsimp only))
        clear h0 h1 d0 d1
        have H2 := Lib.hid ((H1.out.call hb2).alloc (X) (t))
        clear hb2
        obtain ⟨v2, hv2⟩ : ∃ V, w2.alloc (box (X) (t)) = V := ⟨_, rfl⟩
        rw [hv2] at H2 ⊢
        clear hv2
        obtain ⟨x0, x1, h0, h1, d0, d1, -⟩ := H2.out.mem.cells
        go_upto_region 4 with (first | (go_at_call 12; (with_reducible refine (C2.out _).mono ?_); rintro e w3 ⟨rfl, hb3⟩; dsimp only))
        clear x0 x1 h0 h1 d0 d1
        have H3 := Lib.hid ((H2.out.call hb3).alloc (Y) (m))
        clear hb3
        obtain ⟨v3, hv3⟩ : ∃ V, w3.alloc (box (Y) (m)) = V := ⟨_, rfl⟩
        rw [hv3] at H3 ⊢
        clear hv3
        obtain ⟨y0, y1, x0, x1, h0, h1, d0, d1, -⟩ := H3.out.mem.cells
        go_wp2_with fail
        go_ret
        exact ⟨rfl, H3.out.below⟩
      · by_cases h4 : 3 < way
        · clear h1 h2
          generalize rc c s t way = X at *
          generalize rc c s m way = Y at *
          go_enter Try.func7, Try.ntmps7
          go_upto_region 2 with (first | (go_at_call 13; (with_reducible refine (CA.out _).mono ?_); rintro e w1 ⟨rfl, hb1⟩; dsimp only))
          have H1 := Lib.hid ((H0.out.call hb1).alloc (15) (1))
          clear hb1
          obtain ⟨v1, hv1⟩ : ∃ V, w1.alloc (box (15) (1)) = V := ⟨_, rfl⟩
          rw [hv1] at H1 ⊢
          clear hv1
          obtain ⟨h0, h1, d0, d1, -⟩ := H1.out.mem.cells
          go_upto_region 3 with (first | (go_at_call 12; (with_reducible refine (C1.out _).mono ?_); rintro e w2 ⟨rfl, hb2⟩; dsimp only))
          clear h0 h1 d0 d1
          have H2 := Lib.hid ((H1.out.call hb2).alloc (X) (t))
          clear hb2
          obtain ⟨v2, hv2⟩ : ∃ V, w2.alloc (box (X) (t)) = V := ⟨_, rfl⟩
          rw [hv2] at H2 ⊢
          clear hv2
          obtain ⟨x0, x1, h0, h1, d0, d1, -⟩ := H2.out.mem.cells
          go_upto_region 4 with (first | (go_at_call 12; (with_reducible refine (C2.out _).mono ?_); rintro e w3 ⟨rfl, hb3⟩; dsimp only))
          clear x0 x1 h0 h1 d0 d1
          have H3 := Lib.hid ((H2.out.call hb3).alloc (Y) (m))
          clear hb3
          obtain ⟨v3, hv3⟩ : ∃ V, w3.alloc (box (Y) (m)) = V := ⟨_, rfl⟩
          rw [hv3] at H3 ⊢
          clear hv3
          obtain ⟨y0, y1, x0, x1, h0, h1, d0, d1, -⟩ := H3.out.mem.cells
          go_wp2_with fail
          go_ret
          exact ⟨rfl, H3.out.below⟩
        · have hy := right_rc h2
          obtain ⟨_, ht, hw, hm⟩ := roundF_zero.1 h1
          obtain ⟨_, hmm, _, _⟩ := roundF_zero.1 h2
          have C3 := Lib.hid fun W => round_any (rc c s m way) m t way W
          have e : rc (rc c s m way) m t way = rc c s t way := rc_twice (by omega) hmm.2 hw.1 (by omega)
          have h5 : roundF (rc c s m way) m t way = 0 := roundF_zero.2 ⟨hy, ht, hw, by rw [e]; exact hm⟩
          simp only [roundV_ok h5, e] at C3
          clear h1 h2 h5 e hy
          generalize rc c s t way = X at *
          generalize rc c s m way = Y at *
          go_enter Try.func7, Try.ntmps7
          go_upto_region 2 with (first | (go_at_call 13; (with_reducible refine (CA.out _).mono ?_); rintro e w1 ⟨rfl, hb1⟩; dsimp only))
          have H1 := Lib.hid ((H0.out.call hb1).alloc (15) (1))
          clear hb1
          obtain ⟨v1, hv1⟩ : ∃ V, w1.alloc (box (15) (1)) = V := ⟨_, rfl⟩
          rw [hv1] at H1 ⊢
          clear hv1
          obtain ⟨h0, h1, d0, d1, -⟩ := H1.out.mem.cells
          go_upto_region 3 with (first | (go_at_call 12; (with_reducible refine (C1.out _).mono ?_); rintro e w2 ⟨rfl, hb2⟩; dsimp only))
          clear h0 h1 d0 d1
          have H2 := Lib.hid ((H1.out.call hb2).alloc (X) (t))
          clear hb2
          obtain ⟨v2, hv2⟩ : ∃ V, w2.alloc (box (X) (t)) = V := ⟨_, rfl⟩
          rw [hv2] at H2 ⊢
          clear hv2
          obtain ⟨x0, x1, h0, h1, d0, d1, -⟩ := H2.out.mem.cells
          go_upto_region 4 with (first | (go_at_call 12; (with_reducible refine (C2.out _).mono ?_); rintro e w3 ⟨rfl, hb3⟩; dsimp only))
          clear x0 x1 h0 h1 d0 d1
          have H3 := Lib.hid ((H2.out.call hb3).alloc (Y) (m))
          clear hb3
          obtain ⟨v3, hv3⟩ : ∃ V, w3.alloc (box (Y) (m)) = V := ⟨_, rfl⟩
          rw [hv3] at H3 ⊢
          clear hv3
          obtain ⟨y0, y1, x0, x1, h0, h1, d0, d1, -⟩ := H3.out.mem.cells
          go_upto_region 9 with (first | (go_at_call 12; (with_reducible refine (C3.out _).mono ?_); rintro e w4 ⟨rfl, hb4⟩; dsimp only))
          clear y0 y1 x0 x1 h0 h1 d0 d1
          have H4 := Lib.hid ((H3.out.call hb4).alloc (X) (t))
          clear hb4
          obtain ⟨v4, hv4⟩ : ∃ V, w4.alloc (box (X) (t)) = V := ⟨_, rfl⟩
          rw [hv4] at H4 ⊢
          clear hv4
          obtain ⟨z0, z1, y0, y1, x0, x1, h0, h1, d0, d1, -⟩ := H4.out.mem.cells
          go_wp2_with fail
          go_ret
          exact ⟨rfl, H4.out.below⟩
    · simp only [roundV_ok h1] at C1
      simp only [roundV_no h2] at C2
      generalize (roundF c s m way : Int) = z2 at *
      clear h1 h2
      generalize rc c s t way = X at *
      go_enter Try.func7, Try.ntmps7
      go_upto_region 2 with (first | (go_at_call 13; (with_reducible refine (CA.out _).mono ?_); rintro e w1 ⟨rfl, hb1⟩; dsimp only))
      have H1 := Lib.hid ((H0.out.call hb1).alloc (15) (1))
      clear hb1
      obtain ⟨v1, hv1⟩ : ∃ V, w1.alloc (box (15) (1)) = V := ⟨_, rfl⟩
      rw [hv1] at H1 ⊢
      clear hv1
      obtain ⟨h0, h1, d0, d1, -⟩ := H1.out.mem.cells
      go_upto_region 3 with (first | (go_at_call 12; (with_reducible refine (C1.out _).mono ?_); rintro e w2 ⟨rfl, hb2⟩; dsimp only))
      clear h0 h1 d0 d1
      have H2 := Lib.hid ((H1.out.call hb2).alloc (X) (t))
      clear hb2
      obtain ⟨v2, hv2⟩ : ∃ V, w2.alloc (box (X) (t)) = V := ⟨_, rfl⟩
      rw [hv2] at H2 ⊢
      clear hv2
      obtain ⟨x0, x1, h0, h1, d0, d1, -⟩ := H2.out.mem.cells
      go_upto_region 4 with (first | (go_at_call 12; (with_reducible refine (C2.out _).mono ?_); rintro e w3 ⟨rfl, hb3⟩; dsimp only))
      clear x0 x1 h0 h1 d0 d1
      have H3 := Lib.hid ((H2.out.call hb3).alloc (0) (0))
      clear hb3
      obtain ⟨v3, hv3⟩ : ∃ V, w3.alloc (box (0) (0)) = V := ⟨_, rfl⟩
      rw [hv3] at H3 ⊢
      clear hv3
      obtain ⟨y0, y1, x0, x1, h0, h1, d0, d1, -⟩ := H3.out.mem.cells
      go_wp2_with fail
      go_ret
      exact ⟨rfl, H3.out.below⟩
  · by_cases h2 : roundF c s m way = 0
    · simp only [roundV_ok h2] at C2
      simp only [roundV_no h1] at C1
      generalize (roundF c s t way : Int) = z1 at *
      clear h1 h2
      generalize rc c s m way = Y at *
      go_enter Try.func7, Try.ntmps7
      go_upto_region 2 with (first | (go_at_call 13; (with_reducible refine (CA.out _).mono ?_); rintro e w1 ⟨rfl, hb1⟩; dsimp only))
      have H1 := Lib.hid ((H0.out.call hb1).alloc (15) (1))
      clear hb1
      obtain ⟨v1, hv1⟩ : ∃ V, w1.alloc (box (15) (1)) = V := ⟨_, rfl⟩
      rw [hv1] at H1 ⊢
      clear hv1
      obtain ⟨h0, h1, d0, d1, -⟩ := H1.out.mem.cells
      go_upto_region 3 with (first | (go_at_call 12; (with_reducible refine (C1.out _).mono ?_); rintro e w2 ⟨rfl, hb2⟩; dsimp only))
      clear h0 h1 d0 d1
      have H2 := Lib.hid ((H1.out.call hb2).alloc (0) (0))
      clear hb2
      obtain ⟨v2, hv2⟩ : ∃ V, w2.alloc (box (0) (0)) = V := ⟨_, rfl⟩
      rw [hv2] at H2 ⊢
      clear hv2
      obtain ⟨x0, x1, h0, h1, d0, d1, -⟩ := H2.out.mem.cells
      go_upto_region 4 with (first | (go_at_call 12; (with_reducible refine (C2.out _).mono ?_); rintro e w3 ⟨rfl, hb3⟩; dsimp only))
      clear x0 x1 h0 h1 d0 d1
      have H3 := Lib.hid ((H2.out.call hb3).alloc (Y) (m))
      clear hb3
      obtain ⟨v3, hv3⟩ : ∃ V, w3.alloc (box (Y) (m)) = V := ⟨_, rfl⟩
      rw [hv3] at H3 ⊢
      clear hv3
      obtain ⟨y0, y1, x0, x1, h0, h1, d0, d1, -⟩ := H3.out.mem.cells
      go_wp2_with fail
      go_ret
      exact ⟨rfl, H3.out.below⟩
    · simp only [roundV_no h1] at C1
      simp only [roundV_no h2] at C2
      generalize (roundF c s t way : Int) = z1 at *
      generalize (roundF c s m way : Int) = z2 at *
      clear h1 h2
      go_enter Try.func7, Try.ntmps7
      go_upto_region 2 with (first | (go_at_call 13; (with_reducible refine (CA.out _).mono ?_); rintro e w1 ⟨rfl, hb1⟩; dsimp only))
      have H1 := Lib.hid ((H0.out.call hb1).alloc (15) (1))
      clear hb1
      obtain ⟨v1, hv1⟩ : ∃ V, w1.alloc (box (15) (1)) = V := ⟨_, rfl⟩
      rw [hv1] at H1 ⊢
      clear hv1
      obtain ⟨h0, h1, d0, d1, -⟩ := H1.out.mem.cells
      go_upto_region 3 with (first | (go_at_call 12; (with_reducible refine (C1.out _).mono ?_); rintro e w2 ⟨rfl, hb2⟩; dsimp only))
      clear h0 h1 d0 d1
      have H2 := Lib.hid ((H1.out.call hb2).alloc (0) (0))
      clear hb2
      obtain ⟨v2, hv2⟩ : ∃ V, w2.alloc (box (0) (0)) = V := ⟨_, rfl⟩
      rw [hv2] at H2 ⊢
      clear hv2
      obtain ⟨x0, x1, h0, h1, d0, d1, -⟩ := H2.out.mem.cells
      go_upto_region 4 with (first | (go_at_call 12; (with_reducible refine (C2.out _).mono ?_); rintro e w3 ⟨rfl, hb3⟩; dsimp only))
      clear x0 x1 h0 h1 d0 d1
      have H3 := Lib.hid ((H2.out.call hb3).alloc (0) (0))
      clear hb3
      obtain ⟨v3, hv3⟩ : ∃ V, w3.alloc (box (0) (0)) = V := ⟨_, rfl⟩
      rw [hv3] at H3 ⊢
      clear hv3
      obtain ⟨y0, y1, x0, x1, h0, h1, d0, d1, -⟩ := H3.out.mem.cells
      go_wp2_with fail
      go_ret
      exact ⟨rfl, H3.out.below⟩
end D
end Go.Proofs.Yteekhfiphbhbjaa
