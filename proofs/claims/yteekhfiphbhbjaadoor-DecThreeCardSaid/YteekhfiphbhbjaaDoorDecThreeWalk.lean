/- The law DecThree, walked: it returns true for all numbers; what lay in memory stays as it was. -/
import Derived.Test.YteekhfiphbhbjaaDoorDecToldTwo
namespace Go.Proofs.YteekhfiphbhbjaaDoor
namespace D
open Go.RowKit

set_option maxHeartbeats 32000000 in
set_option maxRecDepth 100000 in
theorem three_any (a s b t c r : Int) (w : World) (hg : ErrType w) : Calls Tryd.prog 4 #[.agg #[.int .i64 a, .int .i64 s], .agg #[.int .i64 b, .int .i64 t], .agg #[.int .i64 c, .int .i64 r]] w (TrueBelow w) := by
  have H0 := Lib.hid (at_three w a s b t c r)
  have CA := Lib.hid fun W => add_any 5 1 1 0 W
  simp only [three_halves] at CA
  have C1 := Lib.hid fun W => add_any a s b t W
  have C2 := Lib.hid fun W => add_any b t c r W
  have T0 := Lib.hid fun (W : World) (hW : Below w.heap.size w W) => told_same 0 W (errType_later hg hW)
  have T1 := Lib.hid fun (W : World) (hW : Below w.heap.size w W) => told_same 1 W (errType_later hg hW)
  simp only [errV_zero] at T0
  simp only [errV_one] at T1
  clear hg
  by_cases h1 : addF a s b t = 0
  · simp only [addV_ok h1] at C1
    by_cases h2 : addF b t c r = 0
    · simp only [addV_ok h2] at C2
      have C3 := Lib.hid fun W => add_any (sumC a s b t) (sumS s t) c r W
      have C4 := Lib.hid fun W => add_any a s (sumC b t c r) (sumS t r) W
      have e := add_three h1 h2
      obtain ⟨ra, rb, _⟩ := addF_zero.1 h1
      obtain ⟨_, rc', _⟩ := addF_zero.1 h2
      have e1 := sum_three (a := a) (b := b) (c := c) (right_scale ra) (right_scale rb) (right_scale rc')
      have e2 := sumS_assoc s t r
      by_cases h3 : addF (sumC a s b t) (sumS s t) c r = 0
      · have h4 := e.symm.trans h3
        simp only [addV_ok h3] at C3
        simp only [addV_ok h4] at C4
        simp only [← e1, ← e2] at C4
        have TT := T0
        clear T0 T1 e e1 e2 h1 h2 h3 h4 ra rb rc'
        generalize sumC (sumC a s b t) (sumS s t) c r = Z at *
        generalize sumS (sumS s t) r = Q at *
        generalize sumC a s b t = X at *
        generalize sumS s t = S at *
        generalize sumC b t c r = Y at *
        generalize sumS t r = R at *
        go_enter Tryd.func4, Tryd.ntmps4
        go_upto_region 2 with (first | (go_at_call 9; (with_reducible refine (CA.out _).mono ?_); rintro e w1 ⟨rfl, hb1⟩; dsimp only))
        have H1 := Lib.hid ((H0.out.call hb1).alloc (15) (1))
        clear hb1
        obtain ⟨v1, hv1⟩ : ∃ V, w1.alloc (box (15) (1)) = V := ⟨_, rfl⟩
        rw [hv1] at H1 ⊢
        clear hv1
        obtain ⟨h0, h1, c0, c1, b0, b1, a0, a1, -⟩ := H1.out.mem.cells
        go_upto_region 3 with (first | (go_at_call 9; (with_reducible refine (C1.out _).mono ?_); rintro e w2 ⟨rfl, hb2⟩; dsimp only))
        clear h0 h1 c0 c1 b0 b1 a0 a1
        have H2 := Lib.hid ((H1.out.call hb2).alloc (X) (S))
        clear hb2
        obtain ⟨v2, hv2⟩ : ∃ V, w2.alloc (box (X) (S)) = V := ⟨_, rfl⟩
        rw [hv2] at H2 ⊢
        clear hv2
        obtain ⟨x0, x1, h0, h1, c0, c1, b0, b1, a0, a1, -⟩ := H2.out.mem.cells
        go_upto_region 4 with (first | (go_at_call 9; (with_reducible refine (C2.out _).mono ?_); rintro e w3 ⟨rfl, hb3⟩; dsimp only))
        clear x0 x1 h0 h1 c0 c1 b0 b1 a0 a1
        have H3 := Lib.hid ((H2.out.call hb3).alloc (Y) (R))
        clear hb3
        obtain ⟨v3, hv3⟩ : ∃ V, w3.alloc (box (Y) (R)) = V := ⟨_, rfl⟩
        rw [hv3] at H3 ⊢
        clear hv3
        obtain ⟨y0, y1, x0, x1, h0, h1, c0, c1, b0, b1, a0, a1, -⟩ := H3.out.mem.cells
        go_upto_region 9 with (first | (go_at_call 9; (with_reducible refine (C3.out _).mono ?_); rintro e w4 ⟨rfl, hb4⟩; dsimp only))
        clear y0 y1 x0 x1 h0 h1 c0 c1 b0 b1 a0 a1
        have H4 := Lib.hid ((H3.out.call hb4).alloc (Z) (Q))
        clear hb4
        obtain ⟨v4, hv4⟩ : ∃ V, w4.alloc (box (Z) (Q)) = V := ⟨_, rfl⟩
        rw [hv4] at H4 ⊢
        clear hv4
        obtain ⟨u0, u1, y0, y1, x0, x1, h0, h1, c0, c1, b0, b1, a0, a1, -⟩ := H4.out.mem.cells
        go_upto_region 10 with (first | (go_at_call 9; (with_reducible refine (C4.out _).mono ?_); rintro e w5 ⟨rfl, hb5⟩; dsimp only))
        clear u0 u1 y0 y1 x0 x1 h0 h1 c0 c1 b0 b1 a0 a1
        have H5 := Lib.hid ((H4.out.call hb5).alloc (Z) (Q))
        clear hb5
        obtain ⟨v5, hv5⟩ : ∃ V, w5.alloc (box (Z) (Q)) = V := ⟨_, rfl⟩
        rw [hv5] at H5 ⊢
        clear hv5
        obtain ⟨v0, v1, u0, u1, y0, y1, x0, x1, h0, h1, c0, c1, b0, b1, a0, a1, -⟩ := H5.out.mem.cells
        go_upto_region 11 with (first | (go_at_call 10; (with_reducible refine (TT.out _ H5.out.below).mono ?_); rintro e wt ⟨rfl, hbt⟩))
        clear v0 v1 u0 u1 y0 y1 x0 x1 h0 h1 c0 c1 b0 b1 a0 a1
        have HT := Lib.hid (H5.out.call hbt)
        obtain ⟨v0, v1, u0, u1, y0, y1, x0, x1, h0, h1, c0, c1, b0, b1, a0, a1, -⟩ := HT.out.mem.cells
        go_wp2_with fail
        go_ret
        exact ⟨rfl, HT.out.below⟩
      · have h4 : ¬ addF a s (sumC b t c r) (sumS t r) = 0 := fun h => h3 (e.trans h)
        simp only [addV_one (addF_one h3)] at C3
        simp only [addV_one (addF_one h4)] at C4
        have TT := T1
        clear T0 T1 e e1 e2 h1 h2 h3 h4 ra rb rc'
        generalize sumC a s b t = X at *
        generalize sumS s t = S at *
        generalize sumC b t c r = Y at *
        generalize sumS t r = R at *
        go_enter Tryd.func4, Tryd.ntmps4
        go_upto_region 2 with (first | (go_at_call 9; (with_reducible refine (CA.out _).mono ?_); rintro e w1 ⟨rfl, hb1⟩; dsimp only))
        have H1 := Lib.hid ((H0.out.call hb1).alloc (15) (1))
        clear hb1
        obtain ⟨v1, hv1⟩ : ∃ V, w1.alloc (box (15) (1)) = V := ⟨_, rfl⟩
        rw [hv1] at H1 ⊢
        clear hv1
        obtain ⟨h0, h1, c0, c1, b0, b1, a0, a1, -⟩ := H1.out.mem.cells
        go_upto_region 3 with (first | (go_at_call 9; (with_reducible refine (C1.out _).mono ?_); rintro e w2 ⟨rfl, hb2⟩; dsimp only))
        clear h0 h1 c0 c1 b0 b1 a0 a1
        have H2 := Lib.hid ((H1.out.call hb2).alloc (X) (S))
        clear hb2
        obtain ⟨v2, hv2⟩ : ∃ V, w2.alloc (box (X) (S)) = V := ⟨_, rfl⟩
        rw [hv2] at H2 ⊢
        clear hv2
        obtain ⟨x0, x1, h0, h1, c0, c1, b0, b1, a0, a1, -⟩ := H2.out.mem.cells
        go_upto_region 4 with (first | (go_at_call 9; (with_reducible refine (C2.out _).mono ?_); rintro e w3 ⟨rfl, hb3⟩; dsimp only))
        clear x0 x1 h0 h1 c0 c1 b0 b1 a0 a1
        have H3 := Lib.hid ((H2.out.call hb3).alloc (Y) (R))
        clear hb3
        obtain ⟨v3, hv3⟩ : ∃ V, w3.alloc (box (Y) (R)) = V := ⟨_, rfl⟩
        rw [hv3] at H3 ⊢
        clear hv3
        obtain ⟨y0, y1, x0, x1, h0, h1, c0, c1, b0, b1, a0, a1, -⟩ := H3.out.mem.cells
        go_upto_region 9 with (first | (go_at_call 9; (with_reducible refine (C3.out _).mono ?_); rintro e w4 ⟨rfl, hb4⟩; dsimp only))
        clear y0 y1 x0 x1 h0 h1 c0 c1 b0 b1 a0 a1
        have H4 := Lib.hid ((H3.out.call hb4).alloc (0) (0))
        clear hb4
        obtain ⟨v4, hv4⟩ : ∃ V, w4.alloc (box (0) (0)) = V := ⟨_, rfl⟩
        rw [hv4] at H4 ⊢
        clear hv4
        obtain ⟨u0, u1, y0, y1, x0, x1, h0, h1, c0, c1, b0, b1, a0, a1, -⟩ := H4.out.mem.cells
        go_upto_region 10 with (first | (go_at_call 9; (with_reducible refine (C4.out _).mono ?_); rintro e w5 ⟨rfl, hb5⟩; dsimp only))
        clear u0 u1 y0 y1 x0 x1 h0 h1 c0 c1 b0 b1 a0 a1
        have H5 := Lib.hid ((H4.out.call hb5).alloc (0) (0))
        clear hb5
        obtain ⟨v5, hv5⟩ : ∃ V, w5.alloc (box (0) (0)) = V := ⟨_, rfl⟩
        rw [hv5] at H5 ⊢
        clear hv5
        obtain ⟨v0, v1, u0, u1, y0, y1, x0, x1, h0, h1, c0, c1, b0, b1, a0, a1, -⟩ := H5.out.mem.cells
        go_upto_region 11 with (first | (go_at_call 10; (with_reducible refine (TT.out _ H5.out.below).mono ?_); rintro e wt ⟨rfl, hbt⟩))
        clear v0 v1 u0 u1 y0 y1 x0 x1 h0 h1 c0 c1 b0 b1 a0 a1
        have HT := Lib.hid (H5.out.call hbt)
        obtain ⟨v0, v1, u0, u1, y0, y1, x0, x1, h0, h1, c0, c1, b0, b1, a0, a1, -⟩ := HT.out.mem.cells
        go_wp2_with fail
        go_ret
        exact ⟨rfl, HT.out.below⟩
    · simp only [addV_one (addF_one h2)] at C2
      clear h1 h2 T0 T1
      generalize sumC a s b t = X at *
      generalize sumS s t = S at *
      go_enter Tryd.func4, Tryd.ntmps4
      go_upto_region 2 with (first | (go_at_call 9; (with_reducible refine (CA.out _).mono ?_); rintro e w1 ⟨rfl, hb1⟩; dsimp only))
      have H1 := Lib.hid ((H0.out.call hb1).alloc (15) (1))
      clear hb1
      obtain ⟨v1, hv1⟩ : ∃ V, w1.alloc (box (15) (1)) = V := ⟨_, rfl⟩
      rw [hv1] at H1 ⊢
      clear hv1
      obtain ⟨h0, h1, c0, c1, b0, b1, a0, a1, -⟩ := H1.out.mem.cells
      go_upto_region 3 with (first | (go_at_call 9; (with_reducible refine (C1.out _).mono ?_); rintro e w2 ⟨rfl, hb2⟩; dsimp only))
      clear h0 h1 c0 c1 b0 b1 a0 a1
      have H2 := Lib.hid ((H1.out.call hb2).alloc (X) (S))
      clear hb2
      obtain ⟨v2, hv2⟩ : ∃ V, w2.alloc (box (X) (S)) = V := ⟨_, rfl⟩
      rw [hv2] at H2 ⊢
      clear hv2
      obtain ⟨x0, x1, h0, h1, c0, c1, b0, b1, a0, a1, -⟩ := H2.out.mem.cells
      go_upto_region 4 with (first | (go_at_call 9; (with_reducible refine (C2.out _).mono ?_); rintro e w3 ⟨rfl, hb3⟩; dsimp only))
      clear x0 x1 h0 h1 c0 c1 b0 b1 a0 a1
      have H3 := Lib.hid ((H2.out.call hb3).alloc (0) (0))
      clear hb3
      obtain ⟨v3, hv3⟩ : ∃ V, w3.alloc (box (0) (0)) = V := ⟨_, rfl⟩
      rw [hv3] at H3 ⊢
      clear hv3
      obtain ⟨y0, y1, x0, x1, h0, h1, c0, c1, b0, b1, a0, a1, -⟩ := H3.out.mem.cells
      all_goals (go_wp2_with fail)
      all_goals go_ret
      all_goals exact ⟨rfl, H3.out.below⟩
  · simp only [addV_one (addF_one h1)] at C1
    have CS : Hid (∀ W : World, ∀ (x y z u : Int), Calls Tryd.prog 9 #[.agg #[.int .i64 x, .int .i64 y], .agg #[.int .i64 z, .int .i64 u]] W (Some2 W)) := Lib.hid fun W x y z u => add_some x y z u W
    clear h1 T0 T1
    go_enter Tryd.func4, Tryd.ntmps4
    go_upto_region 2 with (first | (go_at_call 9; (with_reducible refine (CA.out _).mono ?_); rintro e w1 ⟨rfl, hb1⟩; dsimp only))
    have H1 := Lib.hid ((H0.out.call hb1).alloc (15) (1))
    clear hb1
    obtain ⟨v1, hv1⟩ : ∃ V, w1.alloc (box (15) (1)) = V := ⟨_, rfl⟩
    rw [hv1] at H1 ⊢
    clear hv1
    obtain ⟨h0, h1, c0, c1, b0, b1, a0, a1, -⟩ := H1.out.mem.cells
    go_upto_region 3 with (first | (go_at_call 9; (with_reducible refine (C1.out _).mono ?_); rintro e w2 ⟨rfl, hb2⟩; dsimp only))
    clear h0 h1 c0 c1 b0 b1 a0 a1
    have H2 := Lib.hid ((H1.out.call hb2).alloc (0) (0))
    clear hb2
    obtain ⟨v2, hv2⟩ : ∃ V, w2.alloc (box (0) (0)) = V := ⟨_, rfl⟩
    rw [hv2] at H2 ⊢
    clear hv2
    obtain ⟨x0, x1, h0, h1, c0, c1, b0, b1, a0, a1, -⟩ := H2.out.mem.cells
    go_upto_region 4 with (first | (go_at_call 9; (with_reducible refine (CS.out _ _ _ _ _).mono ?_); rintro e w3 ⟨py, qy, evy, rfl, hb3⟩; dsimp only))
    clear x0 x1 h0 h1 c0 c1 b0 b1 a0 a1
    have H3 := Lib.hid ((H2.out.call hb3).alloc (py) (qy))
    clear hb3
    obtain ⟨v3, hv3⟩ : ∃ V, w3.alloc (box (py) (qy)) = V := ⟨_, rfl⟩
    rw [hv3] at H3 ⊢
    clear hv3
    obtain ⟨y0, y1, x0, x1, h0, h1, c0, c1, b0, b1, a0, a1, -⟩ := H3.out.mem.cells
    all_goals (go_wp2_with fail)
    all_goals go_ret
    all_goals exact ⟨rfl, H3.out.below⟩
end D
end Go.Proofs.YteekhfiphbhbjaaDoor
