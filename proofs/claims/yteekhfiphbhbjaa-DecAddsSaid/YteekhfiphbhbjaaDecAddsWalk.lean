/- The law DecAdds, walked: it returns true for all numbers; what lay in memory stays as it was. -/
import Derived.Test.YteekhfiphbhbjaaDecKit
namespace Go.Proofs.Yteekhfiphbhbjaa
namespace D
open Go.RowKit

set_option maxHeartbeats 16000000 in
set_option maxRecDepth 100000 in
theorem adds_any (a s b t c r : Int) (w : World) : Calls Try.prog 6 #[.agg #[.int .i64 a, .int .i64 s], .agg #[.int .i64 b, .int .i64 t], .agg #[.int .i64 c, .int .i64 r]] w (TrueBelow w) := by
  have H0 := Lib.hid (at_three w a s b t c r)
  have CH := Lib.hid half_any
  have C1 := Lib.hid fun W => add_any a s b t W
  have C2 := Lib.hid fun W => add_any b t a s W
  by_cases h1 : addF a s b t = 0
  · have h2 : addF b t a s = 0 := by rw [addF_zero] at h1 ⊢; rw [sumC_comm]; exact ⟨h1.2.1, h1.1, h1.2.2⟩
    simp only [addV_ok h1] at C1
    simp only [addV_ok h2] at C2
    rw [sumC_comm b t a s, sumS_comm t s] at C2
    obtain ⟨ra, rb, m1⟩ := addF_zero.1 h1
    have rx := right_sum h1
    have hv := sum_val (c := a) (d := b) (right_scale ra) (right_scale rb)
    have C3 := Lib.hid fun W => add_any a s 0 0 W
    have h3 : addF a s 0 0 = 0 := addF_zero.2 ⟨ra, ⟨by decide, by decide, by decide, by decide⟩, by rw [(sum_nought ra.1).2]; exact ⟨ra.2.2.1, ra.2.2.2⟩⟩
    simp only [addV_ok h3, (sum_nought (c := a) ra.1).1, (sum_nought (c := a) ra.1).2] at C3
    have hge : sumS (sumS s t) t = sumS s t := by have := sum_scale (right_scale ra) (right_scale rb); unfold sumS at *; (repeat' split) <;> omega
    generalize sumC a s b t = X at *
    generalize sumS s t = S at *
    have hvb : val (-b) t = - val b t := val_neg b t
    have C4' := Lib.hid fun W => add_any X S (-b) t W
    have C5 := Lib.hid fun W => add_any c r b t W
    have hvy := sum_val (c := X) (d := -b) (right_scale rx) (right_scale rb)
    have hb0 := rb.2.2.1
    have hb1 := rb.2.2.2
    by_cases h4 : addF X S (-b) t = 0 <;> by_cases h5 : addF c r b t = 0
    · obtain ⟨rc5, _, _⟩ := addF_zero.1 h5
      have ry := right_sum h4
      have rz := right_sum h5
      have hvz := sum_val (c := c) (d := b) (right_scale rc5) (right_scale rb)
      simp only [addV_ok h4] at C4'
      simp only [addV_ok h5] at C5
      rw [hge] at hvy ry
      simp only [hge] at C4'
      generalize sumC X S (-b) t = Y at *
      generalize sumC c r b t = Z at *
      generalize sumS r t = R at *
      have C6 := Lib.hid fun W => same_any Y S a s W
      have e6 : sameB Y S a s = true := decide_eq_true ⟨ry, ra, by omega⟩
      simp only [e6] at C6
      have C7 := Lib.hid fun W => less_any a s c r W
      have C8 := Lib.hid fun W => less_any X S Z R W
      have e8 : lessB X S Z R = lessB a s c r := by
        unfold lessB
        simp only [ra, rc5, rx, rz, true_and]
        rw [hvz, hv]
        exact decide_eq_decide.2 (by omega)
      simp only [e8] at C8
      have C4 : Hid (∀ W : World, Calls Try.prog 13 #[.agg #[.int .i64 X, .int .i64 S], .agg #[.int .i64 (0 - b), .int .i64 t]] W (Gives W (.tuple #[.agg #[.int .i64 Y, .int .i64 S], .nilIface]))) := by rw [Int.zero_sub]; exact C4'
      clear e6 e8 hv hvy hvz ry rz rx ra rb rc5 h1 h2 h3 h4 h5 m1 hge hvb
      cases lessB a s c r
      all_goals
        go_enter Try.func6, Try.ntmps6
        go_upto_region 2 with (first | (go_at_call 8; (with_reducible refine (CH.out _).mono ?_); rintro e w1 ⟨rfl, hb1⟩))
        have H1 := Lib.hid (H0.out.call hb1)
        clear hb1
        obtain ⟨c0, c1, b0, b1, a0, a1, -⟩ := H1.out.mem.cells
        go_upto_region 3 with (first | (go_at_call 13; (with_reducible refine (C1.out _).mono ?_); rintro e w2 ⟨rfl, hb2⟩; dsimp only))
        clear c0 c1 b0 b1 a0 a1
        have H2 := Lib.hid ((H1.out.call hb2).alloc (X) (S))
        clear hb2
        obtain ⟨v2, hv2⟩ : ∃ V, w2.alloc (box (X) (S)) = V := ⟨_, rfl⟩
        rw [hv2] at H2 ⊢
        clear hv2
        obtain ⟨x0, x1, c0, c1, b0, b1, a0, a1, -⟩ := H2.out.mem.cells
        go_upto_region 4 with (first | (go_at_call 13; (with_reducible refine (C2.out _).mono ?_); rintro e w3 ⟨rfl, hb3⟩; dsimp only))
        clear x0 x1 c0 c1 b0 b1 a0 a1
        have H3 := Lib.hid ((H2.out.call hb3).alloc (X) (S))
        clear hb3
        obtain ⟨v3, hv3⟩ : ∃ V, w3.alloc (box (X) (S)) = V := ⟨_, rfl⟩
        rw [hv3] at H3 ⊢
        clear hv3
        obtain ⟨y0, y1, x0, x1, c0, c1, b0, b1, a0, a1, -⟩ := H3.out.mem.cells
        go_upto_region 9 with (first | (go_at_call 13; (with_reducible refine (C3.out _).mono ?_); rintro e w4 ⟨rfl, hb4⟩; dsimp only))
        clear y0 y1 x0 x1 c0 c1 b0 b1 a0 a1
        have H4 := Lib.hid ((H3.out.call hb4).alloc (a) (s))
        clear hb4
        obtain ⟨v4, hv4⟩ : ∃ V, w4.alloc (box (a) (s)) = V := ⟨_, rfl⟩
        rw [hv4] at H4 ⊢
        clear hv4
        obtain ⟨z0, z1, y0, y1, x0, x1, c0, c1, b0, b1, a0, a1, -⟩ := H4.out.mem.cells
        go_upto_region 10 with (first | (go_at_call 13; (with_reducible refine (C4.out _).mono ?_); rintro e w5 ⟨rfl, hb5⟩; dsimp only) | (go_at_call 13; (with_reducible refine (C4'.out _).mono ?_); rintro e w5 ⟨rfl, hb5⟩; dsimp only))
        clear z0 z1 y0 y1 x0 x1 c0 c1 b0 b1 a0 a1
        have H5 := Lib.hid ((H4.out.call hb5).alloc (Y) (S))
        clear hb5
        obtain ⟨v5, hv5⟩ : ∃ V, w5.alloc (box (Y) (S)) = V := ⟨_, rfl⟩
        rw [hv5] at H5 ⊢
        clear hv5
        obtain ⟨u0, u1, z0, z1, y0, y1, x0, x1, c0, c1, b0, b1, a0, a1, -⟩ := H5.out.mem.cells
        go_upto_region 11 with (first | (go_at_call 13; (with_reducible refine (C5.out _).mono ?_); rintro e w6 ⟨rfl, hb6⟩; dsimp only))
        clear u0 u1 z0 z1 y0 y1 x0 x1 c0 c1 b0 b1 a0 a1
        have H6 := Lib.hid ((H5.out.call hb6).alloc (Z) (R))
        clear hb6
        obtain ⟨v6, hv6⟩ : ∃ V, w6.alloc (box (Z) (R)) = V := ⟨_, rfl⟩
        rw [hv6] at H6 ⊢
        clear hv6
        obtain ⟨v0, v1, u0, u1, z0, z1, y0, y1, x0, x1, c0, c1, b0, b1, a0, a1, -⟩ := H6.out.mem.cells
        have HS : Hid (∀ wx : World, Below v6.heap.size v6 wx → Below v6.heap.size v6 wx ∧ wx.cell? ⟨w6.heap.size, 0, none⟩ = some (.int .i64 (Z)) ∧ wx.cell? ⟨w6.heap.size, 1, none⟩ = some (.int .i64 (R)) ∧ wx.cell? ⟨w5.heap.size, 0, none⟩ = some (.int .i64 (Y)) ∧ wx.cell? ⟨w5.heap.size, 1, none⟩ = some (.int .i64 (S)) ∧ wx.cell? ⟨w4.heap.size, 0, none⟩ = some (.int .i64 (a)) ∧ wx.cell? ⟨w4.heap.size, 1, none⟩ = some (.int .i64 (s)) ∧ wx.cell? ⟨w3.heap.size, 0, none⟩ = some (.int .i64 (X)) ∧ wx.cell? ⟨w3.heap.size, 1, none⟩ = some (.int .i64 (S)) ∧ wx.cell? ⟨w2.heap.size, 0, none⟩ = some (.int .i64 (X)) ∧ wx.cell? ⟨w2.heap.size, 1, none⟩ = some (.int .i64 (S)) ∧ wx.cell? ⟨w.heap.size + 2, 0, none⟩ = some (.int .i64 (c)) ∧ wx.cell? ⟨w.heap.size + 2, 1, none⟩ = some (.int .i64 (r)) ∧ wx.cell? ⟨w.heap.size + 1, 0, none⟩ = some (.int .i64 (b)) ∧ wx.cell? ⟨w.heap.size + 1, 1, none⟩ = some (.int .i64 (t)) ∧ wx.cell? ⟨w.heap.size, 0, none⟩ = some (.int .i64 (a)) ∧ wx.cell? ⟨w.heap.size, 1, none⟩ = some (.int .i64 (s))) := Lib.hid fun wx hb => by
          obtain ⟨v0, v1, u0, u1, z0, z1, y0, y1, x0, x1, c0, c1, b0, b1, a0, a1, -⟩ := (H6.out.call hb).mem.cells
          exact ⟨hb, v0, v1, u0, u1, z0, z1, y0, y1, x0, x1, c0, c1, b0, b1, a0, a1⟩
        have hS0 := HS.out _ (Below.refl _ _)
        have hB0 := hS0.1
        go_region_held3 (fun wx => Below v6.heap.size v6 wx ∧ wx.cell? ⟨w6.heap.size, 0, none⟩ = some (.int .i64 (Z)) ∧ wx.cell? ⟨w6.heap.size, 1, none⟩ = some (.int .i64 (R)) ∧ wx.cell? ⟨w5.heap.size, 0, none⟩ = some (.int .i64 (Y)) ∧ wx.cell? ⟨w5.heap.size, 1, none⟩ = some (.int .i64 (S)) ∧ wx.cell? ⟨w4.heap.size, 0, none⟩ = some (.int .i64 (a)) ∧ wx.cell? ⟨w4.heap.size, 1, none⟩ = some (.int .i64 (s)) ∧ wx.cell? ⟨w3.heap.size, 0, none⟩ = some (.int .i64 (X)) ∧ wx.cell? ⟨w3.heap.size, 1, none⟩ = some (.int .i64 (S)) ∧ wx.cell? ⟨w2.heap.size, 0, none⟩ = some (.int .i64 (X)) ∧ wx.cell? ⟨w2.heap.size, 1, none⟩ = some (.int .i64 (S)) ∧ wx.cell? ⟨w.heap.size + 2, 0, none⟩ = some (.int .i64 (c)) ∧ wx.cell? ⟨w.heap.size + 2, 1, none⟩ = some (.int .i64 (r)) ∧ wx.cell? ⟨w.heap.size + 1, 0, none⟩ = some (.int .i64 (b)) ∧ wx.cell? ⟨w.heap.size + 1, 1, none⟩ = some (.int .i64 (t)) ∧ wx.cell? ⟨w.heap.size, 0, none⟩ = some (.int .i64 (a)) ∧ wx.cell? ⟨w.heap.size, 1, none⟩ = some (.int .i64 (s)))
          (first | exact HS.out _ (by assumption) | exact HS.out _ (Below.drew (by assumption)))
          (first
          | (go_at_call 11; (with_reducible refine (C6.out _).mono ?_); rintro e wy0 ⟨rfl, hby0⟩; (have hT0 : Below v6.heap.size v6 wy0 := by first | exact up_call (by assumption) hby0 | exact up_call (Below.drew (by assumption)) hby0))
          | (go_at_call 10; (with_reducible refine (C7.out _).mono ?_); rintro e wy1 ⟨rfl, hby1⟩; (have hT1 : Below v6.heap.size v6 wy1 := by first | exact up_call (by assumption) hby1 | exact up_call (Below.drew (by assumption)) hby1))
          | (go_at_call 10; (with_reducible refine (C8.out _).mono ?_); rintro e wy2 ⟨rfl, hby2⟩; (have hT2 : Below v6.heap.size v6 wy2 := by first | exact up_call (by assumption) hby2 | exact up_call (Below.drew (by assumption)) hby2)))
        all_goals (go_wp2_with fail)
        all_goals go_ret
        all_goals exact ⟨rfl, by first | exact up_call H6.out.below (by assumption) | exact up_call H6.out.below (Below.drew (by assumption)) | exact up_drewN H6.out.below _ | exact H6.out.below⟩
    · obtain ⟨rz, _, _⟩ : True ∧ True ∧ True := ⟨trivial, trivial, trivial⟩
      have ry := right_sum h4
      simp only [addV_ok h4] at C4'
      simp only [addV_one (addF_one h5)] at C5
      rw [hge] at hvy ry
      simp only [hge] at C4'
      generalize sumC X S (-b) t = Y at *
      have C6 := Lib.hid fun W => same_any Y S a s W
      have e6 : sameB Y S a s = true := decide_eq_true ⟨ry, ra, by omega⟩
      simp only [e6] at C6
      have C4 : Hid (∀ W : World, Calls Try.prog 13 #[.agg #[.int .i64 X, .int .i64 S], .agg #[.int .i64 (0 - b), .int .i64 t]] W (Gives W (.tuple #[.agg #[.int .i64 Y, .int .i64 S], .nilIface]))) := by rw [Int.zero_sub]; exact C4'
      clear e6 hv hvy ry rx ra rb h1 h2 h3 h4 h5 m1 hge hvb
      go_enter Try.func6, Try.ntmps6
      go_upto_region 2 with (first | (go_at_call 8; (with_reducible refine (CH.out _).mono ?_); rintro e w1 ⟨rfl, hb1⟩))
      have H1 := Lib.hid (H0.out.call hb1)
      clear hb1
      obtain ⟨c0, c1, b0, b1, a0, a1, -⟩ := H1.out.mem.cells
      go_upto_region 3 with (first | (go_at_call 13; (with_reducible refine (C1.out _).mono ?_); rintro e w2 ⟨rfl, hb2⟩; dsimp only))
      clear c0 c1 b0 b1 a0 a1
      have H2 := Lib.hid ((H1.out.call hb2).alloc (X) (S))
      clear hb2
      obtain ⟨v2, hv2⟩ : ∃ V, w2.alloc (box (X) (S)) = V := ⟨_, rfl⟩
      rw [hv2] at H2 ⊢
      clear hv2
      obtain ⟨x0, x1, c0, c1, b0, b1, a0, a1, -⟩ := H2.out.mem.cells
      go_upto_region 4 with (first | (go_at_call 13; (with_reducible refine (C2.out _).mono ?_); rintro e w3 ⟨rfl, hb3⟩; dsimp only))
      clear x0 x1 c0 c1 b0 b1 a0 a1
      have H3 := Lib.hid ((H2.out.call hb3).alloc (X) (S))
      clear hb3
      obtain ⟨v3, hv3⟩ : ∃ V, w3.alloc (box (X) (S)) = V := ⟨_, rfl⟩
      rw [hv3] at H3 ⊢
      clear hv3
      obtain ⟨y0, y1, x0, x1, c0, c1, b0, b1, a0, a1, -⟩ := H3.out.mem.cells
      go_upto_region 9 with (first | (go_at_call 13; (with_reducible refine (C3.out _).mono ?_); rintro e w4 ⟨rfl, hb4⟩; dsimp only))
      clear y0 y1 x0 x1 c0 c1 b0 b1 a0 a1
      have H4 := Lib.hid ((H3.out.call hb4).alloc (a) (s))
      clear hb4
      obtain ⟨v4, hv4⟩ : ∃ V, w4.alloc (box (a) (s)) = V := ⟨_, rfl⟩
      rw [hv4] at H4 ⊢
      clear hv4
      obtain ⟨z0, z1, y0, y1, x0, x1, c0, c1, b0, b1, a0, a1, -⟩ := H4.out.mem.cells
      go_upto_region 10 with (first | (go_at_call 13; (with_reducible refine (C4.out _).mono ?_); rintro e w5 ⟨rfl, hb5⟩; dsimp only) | (go_at_call 13; (with_reducible refine (C4'.out _).mono ?_); rintro e w5 ⟨rfl, hb5⟩; dsimp only))
      clear z0 z1 y0 y1 x0 x1 c0 c1 b0 b1 a0 a1
      have H5 := Lib.hid ((H4.out.call hb5).alloc (Y) (S))
      clear hb5
      obtain ⟨v5, hv5⟩ : ∃ V, w5.alloc (box (Y) (S)) = V := ⟨_, rfl⟩
      rw [hv5] at H5 ⊢
      clear hv5
      obtain ⟨u0, u1, z0, z1, y0, y1, x0, x1, c0, c1, b0, b1, a0, a1, -⟩ := H5.out.mem.cells
      go_upto_region 11 with (first | (go_at_call 13; (with_reducible refine (C5.out _).mono ?_); rintro e w6 ⟨rfl, hb6⟩; dsimp only))
      clear u0 u1 z0 z1 y0 y1 x0 x1 c0 c1 b0 b1 a0 a1
      have H6 := Lib.hid ((H5.out.call hb6).alloc (0) (0))
      clear hb6
      obtain ⟨v6, hv6⟩ : ∃ V, w6.alloc (box (0) (0)) = V := ⟨_, rfl⟩
      rw [hv6] at H6 ⊢
      clear hv6
      obtain ⟨v0, v1, u0, u1, z0, z1, y0, y1, x0, x1, c0, c1, b0, b1, a0, a1, -⟩ := H6.out.mem.cells
      have HS : Hid (∀ wx : World, Below v6.heap.size v6 wx → Below v6.heap.size v6 wx ∧ wx.cell? ⟨w6.heap.size, 0, none⟩ = some (.int .i64 (0)) ∧ wx.cell? ⟨w6.heap.size, 1, none⟩ = some (.int .i64 (0)) ∧ wx.cell? ⟨w5.heap.size, 0, none⟩ = some (.int .i64 (Y)) ∧ wx.cell? ⟨w5.heap.size, 1, none⟩ = some (.int .i64 (S)) ∧ wx.cell? ⟨w4.heap.size, 0, none⟩ = some (.int .i64 (a)) ∧ wx.cell? ⟨w4.heap.size, 1, none⟩ = some (.int .i64 (s)) ∧ wx.cell? ⟨w3.heap.size, 0, none⟩ = some (.int .i64 (X)) ∧ wx.cell? ⟨w3.heap.size, 1, none⟩ = some (.int .i64 (S)) ∧ wx.cell? ⟨w2.heap.size, 0, none⟩ = some (.int .i64 (X)) ∧ wx.cell? ⟨w2.heap.size, 1, none⟩ = some (.int .i64 (S)) ∧ wx.cell? ⟨w.heap.size + 2, 0, none⟩ = some (.int .i64 (c)) ∧ wx.cell? ⟨w.heap.size + 2, 1, none⟩ = some (.int .i64 (r)) ∧ wx.cell? ⟨w.heap.size + 1, 0, none⟩ = some (.int .i64 (b)) ∧ wx.cell? ⟨w.heap.size + 1, 1, none⟩ = some (.int .i64 (t)) ∧ wx.cell? ⟨w.heap.size, 0, none⟩ = some (.int .i64 (a)) ∧ wx.cell? ⟨w.heap.size, 1, none⟩ = some (.int .i64 (s))) := Lib.hid fun wx hb => by
        obtain ⟨v0, v1, u0, u1, z0, z1, y0, y1, x0, x1, c0, c1, b0, b1, a0, a1, -⟩ := (H6.out.call hb).mem.cells
        exact ⟨hb, v0, v1, u0, u1, z0, z1, y0, y1, x0, x1, c0, c1, b0, b1, a0, a1⟩
      refine wp_region_held_drew (S := fun wx => Below v6.heap.size v6 wx ∧ wx.cell? ⟨w6.heap.size, 0, none⟩ = some (.int .i64 (0)) ∧ wx.cell? ⟨w6.heap.size, 1, none⟩ = some (.int .i64 (0)) ∧ wx.cell? ⟨w5.heap.size, 0, none⟩ = some (.int .i64 (Y)) ∧ wx.cell? ⟨w5.heap.size, 1, none⟩ = some (.int .i64 (S)) ∧ wx.cell? ⟨w4.heap.size, 0, none⟩ = some (.int .i64 (a)) ∧ wx.cell? ⟨w4.heap.size, 1, none⟩ = some (.int .i64 (s)) ∧ wx.cell? ⟨w3.heap.size, 0, none⟩ = some (.int .i64 (X)) ∧ wx.cell? ⟨w3.heap.size, 1, none⟩ = some (.int .i64 (S)) ∧ wx.cell? ⟨w2.heap.size, 0, none⟩ = some (.int .i64 (X)) ∧ wx.cell? ⟨w2.heap.size, 1, none⟩ = some (.int .i64 (S)) ∧ wx.cell? ⟨w.heap.size + 2, 0, none⟩ = some (.int .i64 (c)) ∧ wx.cell? ⟨w.heap.size + 2, 1, none⟩ = some (.int .i64 (r)) ∧ wx.cell? ⟨w.heap.size + 1, 0, none⟩ = some (.int .i64 (b)) ∧ wx.cell? ⟨w.heap.size + 1, 1, none⟩ = some (.int .i64 (t)) ∧ wx.cell? ⟨w.heap.size, 0, none⟩ = some (.int .i64 (a)) ∧ wx.cell? ⟨w.heap.size, 1, none⟩ = some (.int .i64 (s))) (by kernel_rfl) (HS.out _ (Below.drew (Below.refl _ _))) (fun hHeld => ?_)
      have hB0 := hHeld.1
      refine wpAnyH_take (i := 0) (oi := { dst := some 68, op := Op.load 23 (Operand.tmp 8), type := 23, pos := "words.go:366", after := #[], guard := none }) (v := ?_) rfl (by kernel_rfl) (by kernel_rfl) (by kernel_rfl) (fun _ _ _ h => h) (Or.inl ⟨by rfl, ?_⟩) (by assumption) ?_
      rotate_left
      · intro w0 hSw; (try dsimp only at hSw); go_simp; (try with_reducible rfl)
      simp only [Act.put, List.setIfInBounds_toArray, List.set_cons_zero, List.set_cons_succ]
      refine wpAnyH_take (i := 1) (oi := { dst := some 69, op := Op.load 23 (Operand.tmp 10), type := 23, pos := "words.go:366", after := #[], guard := none }) (v := ?_) rfl (by kernel_rfl) (by kernel_rfl) (by kernel_rfl) (fun _ _ _ h => h) (Or.inl ⟨by rfl, ?_⟩) (by assumption) ?_
      rotate_left
      · intro w0 hSw; (try dsimp only at hSw); go_simp; (try with_reducible rfl)
      simp only [Act.put, List.setIfInBounds_toArray, List.set_cons_zero, List.set_cons_succ]
      refine wpAnyH_take (i := 2) (oi := { dst := some 70, op := Op.binOp BinOp.eql 23 (Operand.tmp 68) (Operand.tmp 69) 23, type := 4, pos := "words.go:366", after := #[{ on := 0, ground := Ground.data }, { on := 1, ground := Ground.data }], guard := none }) (v := ?_) rfl (by kernel_rfl) (by kernel_rfl) (by kernel_rfl) (fun _ _ _ h => h) (Or.inl ⟨by rfl, ?_⟩) (by assumption) ?_
      rotate_left
      · intro w0 hSw; (try dsimp only at hSw); go_simp; (try with_reducible rfl)
      simp only [Act.put, List.setIfInBounds_toArray, List.set_cons_zero, List.set_cons_succ]
      refine wpAnyH_take (i := 3) (oi := { dst := some 71, op := Op.move (Operand.tmp 70), type := 4, pos := "words.go:366", after := #[{ on := 2, ground := Ground.data }], guard := none }) (v := ?_) rfl (by kernel_rfl) (by kernel_rfl) (by kernel_rfl) (fun _ _ _ h => h) (Or.inl ⟨by rfl, ?_⟩) (by assumption) ?_
      rotate_left
      · intro w0 hSw; (try dsimp only at hSw); go_simp; (try with_reducible rfl)
      simp only [Act.put, List.setIfInBounds_toArray, List.set_cons_zero, List.set_cons_succ]
      refine wpAnyH_take (i := 4) (oi := { dst := some 72, op := Op.move (Operand.tmp 13), type := 26, pos := "words.go:366", after := #[{ on := 3, ground := Ground.guard }], guard := some (3, true) }) (v := ?_) rfl (by kernel_rfl) (by kernel_rfl) (by kernel_rfl) (fun _ _ _ h => h) (Or.inl ⟨by rfl, ?_⟩) (by assumption) ?_
      rotate_left
      · intro w0 hSw; (try dsimp only at hSw); go_simp; (try with_reducible rfl)
      simp only [Act.put, List.setIfInBounds_toArray, List.set_cons_zero, List.set_cons_succ]
      refine wpAnyH_take (i := 5) (oi := { dst := some 73, op := Op.binOp BinOp.eql 26 (Operand.tmp 72) (Operand.const Value.nilIface) 26, type := 4, pos := "words.go:366", after := #[{ on := 4, ground := Ground.data }, { on := 3, ground := Ground.guard }], guard := some (3, true) }) (v := ?_) rfl (by kernel_rfl) (by kernel_rfl) (by kernel_rfl) (fun _ _ _ h => h) (Or.inl ⟨by rfl, ?_⟩) (by assumption) ?_
      rotate_left
      · intro w0 hSw; (try dsimp only at hSw); go_simp; (try with_reducible rfl)
      simp only [Act.put, List.setIfInBounds_toArray, List.set_cons_zero, List.set_cons_succ]
      refine wpAnyH_take (i := 6) (oi := { dst := some 74, op := Op.pick (Operand.tmp 71) (Operand.tmp 73) (Operand.const (Value.bool false)), type := 4, pos := "words.go:366", after := #[{ on := 3, ground := Ground.data }, { on := 5, ground := Ground.data }], guard := none }) (v := ?_) rfl (by kernel_rfl) (by kernel_rfl) (by kernel_rfl) (fun _ _ _ h => h) (Or.inl ⟨by rfl, ?_⟩) (by assumption) ?_
      rotate_left
      · intro w0 hSw; (try dsimp only at hSw); go_simp; (try with_reducible rfl)
      simp only [Act.put, List.setIfInBounds_toArray, List.set_cons_zero, List.set_cons_succ]
      refine wpAnyH_take (i := 7) (oi := { dst := some 75, op := Op.move (Operand.tmp 74), type := 4, pos := "words.go:366", after := #[{ on := 6, ground := Ground.data }, { on := 3, ground := Ground.chain }], guard := none }) (v := ?_) rfl (by kernel_rfl) (by kernel_rfl) (by kernel_rfl) (fun _ _ _ h => h) (Or.inl ⟨by rfl, ?_⟩) (by assumption) ?_
      rotate_left
      · intro w0 hSw; (try dsimp only at hSw); go_simp; (try with_reducible rfl)
      simp only [Act.put, List.setIfInBounds_toArray, List.set_cons_zero, List.set_cons_succ]
      refine wpAnyH_take (i := 8) (oi := { dst := some 76, op := Op.load 23 (Operand.tmp 12), type := 23, pos := "words.go:366", after := #[{ on := 7, ground := Ground.guard }], guard := some (7, true) }) (v := ?_) rfl (by kernel_rfl) (by kernel_rfl) (by kernel_rfl) (fun _ _ _ h => h) (Or.inl ⟨by rfl, ?_⟩) (by assumption) ?_
      rotate_left
      · intro w0 hSw; (try dsimp only at hSw); go_simp; (try with_reducible rfl)
      simp only [Act.put, List.setIfInBounds_toArray, List.set_cons_zero, List.set_cons_succ]
      refine wpAnyH_take (i := 9) (oi := { dst := some 77, op := Op.load 23 (Operand.tmp 3), type := 23, pos := "words.go:366", after := #[{ on := 7, ground := Ground.guard }], guard := some (7, true) }) (v := ?_) rfl (by kernel_rfl) (by kernel_rfl) (by kernel_rfl) (fun _ _ _ h => h) (Or.inl ⟨by rfl, ?_⟩) (by assumption) ?_
      rotate_left
      · intro w0 hSw; (try dsimp only at hSw); go_simp; (try with_reducible rfl)
      simp only [Act.put, List.setIfInBounds_toArray, List.set_cons_zero, List.set_cons_succ]
      refine wpAnyH_take (i := 10) (oi := { dst := some 78, op := Op.binOp BinOp.eql 23 (Operand.tmp 76) (Operand.tmp 77) 23, type := 4, pos := "words.go:366", after := #[{ on := 8, ground := Ground.data }, { on := 9, ground := Ground.data }, { on := 7, ground := Ground.guard }], guard := some (7, true) }) (v := ?_) rfl (by kernel_rfl) (by kernel_rfl) (by kernel_rfl) (fun _ _ _ h => h) (Or.inl ⟨by rfl, ?_⟩) (by assumption) ?_
      rotate_left
      · intro w0 hSw; (try dsimp only at hSw); go_simp; (try with_reducible rfl)
      simp only [Act.put, List.setIfInBounds_toArray, List.set_cons_zero, List.set_cons_succ]
      refine wpAnyH_take (i := 11) (oi := { dst := some 79, op := Op.pick (Operand.tmp 75) (Operand.tmp 78) (Operand.const (Value.bool false)), type := 4, pos := "words.go:366", after := #[{ on := 7, ground := Ground.data }, { on := 10, ground := Ground.data }], guard := none }) (v := ?_) rfl (by kernel_rfl) (by kernel_rfl) (by kernel_rfl) (fun _ _ _ h => h) (Or.inl ⟨by rfl, ?_⟩) (by assumption) ?_
      rotate_left
      · intro w0 hSw; (try dsimp only at hSw); go_simp; (try with_reducible rfl)
      simp only [Act.put, List.setIfInBounds_toArray, List.set_cons_zero, List.set_cons_succ]
      refine wpAnyH_take (i := 12) (oi := { dst := some 80, op := Op.move (Operand.tmp 79), type := 4, pos := "words.go:366", after := #[{ on := 11, ground := Ground.data }, { on := 7, ground := Ground.chain }], guard := none }) (v := ?_) rfl (by kernel_rfl) (by kernel_rfl) (by kernel_rfl) (fun _ _ _ h => h) (Or.inl ⟨by rfl, ?_⟩) (by assumption) ?_
      rotate_left
      · intro w0 hSw; (try dsimp only at hSw); go_simp; (try with_reducible rfl)
      simp only [Act.put, List.setIfInBounds_toArray, List.set_cons_zero, List.set_cons_succ]
      refine wpAnyH_take (i := 13) (oi := { dst := some 81, op := Op.move (Operand.tmp 15), type := 26, pos := "words.go:366", after := #[{ on := 12, ground := Ground.guard }], guard := some (12, true) }) (v := ?_) rfl (by kernel_rfl) (by kernel_rfl) (by kernel_rfl) (fun _ _ _ h => h) (Or.inl ⟨by rfl, ?_⟩) (by assumption) ?_
      rotate_left
      · intro w0 hSw; (try dsimp only at hSw); go_simp; (try with_reducible rfl)
      simp only [Act.put, List.setIfInBounds_toArray, List.set_cons_zero, List.set_cons_succ]
      refine wpAnyH_take (i := 14) (oi := { dst := some 82, op := Op.binOp BinOp.neq 26 (Operand.tmp 81) (Operand.const Value.nilIface) 26, type := 4, pos := "words.go:366", after := #[{ on := 13, ground := Ground.data }, { on := 12, ground := Ground.guard }], guard := some (12, true) }) (v := ?_) rfl (by kernel_rfl) (by kernel_rfl) (by kernel_rfl) (fun _ _ _ h => h) (Or.inl ⟨by rfl, ?_⟩) (by assumption) ?_
      rotate_left
      · intro w0 hSw; (try dsimp only at hSw); go_simp; (try with_reducible rfl)
      simp only [Act.put, List.setIfInBounds_toArray, List.set_cons_zero, List.set_cons_succ]
      refine wpAnyH_take (i := 15) (oi := { dst := some 83, op := Op.move (Operand.tmp 82), type := 4, pos := "words.go:366", after := #[{ on := 14, ground := Ground.data }, { on := 12, ground := Ground.chain }, { on := 12, ground := Ground.guard }], guard := some (12, true) }) (v := ?_) rfl (by kernel_rfl) (by kernel_rfl) (by kernel_rfl) (fun _ _ _ h => h) (Or.inl ⟨by rfl, ?_⟩) (by assumption) ?_
      rotate_left
      · intro w0 hSw; (try dsimp only at hSw); go_simp; (try with_reducible rfl)
      simp only [Act.put, List.setIfInBounds_toArray, List.set_cons_zero, List.set_cons_succ]
      refine wpAnyH_take (i := 16) (oi := { dst := some 84, op := Op.load 23 (Operand.tmp 14), type := 23, pos := "words.go:366", after := #[{ on := 15, ground := Ground.guard }], guard := some (15, false) }) (v := ?_) rfl (by kernel_rfl) (by kernel_rfl) (by kernel_rfl) (fun _ _ _ h => h) (Or.inl ⟨by rfl, ?_⟩) (by assumption) ?_
      rotate_left
      · intro w0 hSw; (try dsimp only at hSw); go_simp; (try with_reducible rfl)
      simp only [Act.put, List.setIfInBounds_toArray, List.set_cons_zero, List.set_cons_succ]
      refine wpAnyH_take (i := 17) (oi := { dst := some 85, op := Op.load 23 (Operand.tmp 3), type := 23, pos := "words.go:366", after := #[{ on := 15, ground := Ground.guard }], guard := some (15, false) }) (v := ?_) rfl (by kernel_rfl) (by kernel_rfl) (by kernel_rfl) (fun _ _ _ h => h) (Or.inl ⟨by rfl, ?_⟩) (by assumption) ?_
      rotate_left
      · intro w0 hSw; (try dsimp only at hSw); go_simp; (try with_reducible rfl)
      simp only [Act.put, List.setIfInBounds_toArray, List.set_cons_zero, List.set_cons_succ]
      refine wpAnyH_ready (rs := [18]) (by kernel_rfl) (by simp) ?_
      refine AllReadyH.cons (o := { dst := some 86, op := Op.call { callee := Callee.value (Operand.func 11), args := #[Operand.tmp 84, Operand.tmp 85], argTypes := #[23, 23] }, type := 4, pos := "words.go:366", after := #[{ on := 16, ground := Ground.data }, { on := 17, ground := Ground.data }, { on := 15, ground := Ground.chain }, { on := 15, ground := Ground.guard }], guard := some (15, false) }) rfl (fun K hK => ?_) AllReadyH.nil
      rw [if_pos (by rfl)]
      go_simp
      (go_at_call 11; (with_reducible refine (C6.out _).mono ?_); rintro e wz0 ⟨rfl, hbwz0⟩; (have hTwz0 : Below v6.heap.size v6 wz0 := by first | exact up_call (by assumption) hbwz0 | exact up_call (Below.drew (by assumption)) hbwz0))
      refine hK.out _ _ ?_ (fun hHeld => ?_)
      · (try dsimp only); exact HS.out _ hTwz0
      clear hK K
      try simp only [Act.put, List.setIfInBounds_toArray, List.set_cons_zero, List.set_cons_succ]
      refine wpAnyH_take (i := 19) (oi := { dst := some 87, op := Op.pick (Operand.tmp 83) (Operand.const (Value.bool true)) (Operand.tmp 86), type := 4, pos := "words.go:366", after := #[{ on := 15, ground := Ground.data }, { on := 18, ground := Ground.data }, { on := 12, ground := Ground.guard }], guard := some (12, true) }) (v := ?_) rfl (by kernel_rfl) (by kernel_rfl) (by kernel_rfl) (fun _ _ _ h => h) (Or.inl ⟨by rfl, ?_⟩) (by assumption) ?_
      rotate_left
      · intro w0 hSw; (try dsimp only at hSw); go_simp; (try with_reducible rfl)
      simp only [Act.put, List.setIfInBounds_toArray, List.set_cons_zero, List.set_cons_succ]
      refine wpAnyH_take (i := 20) (oi := { dst := some 88, op := Op.pick (Operand.tmp 80) (Operand.tmp 87) (Operand.const (Value.bool false)), type := 4, pos := "words.go:366", after := #[{ on := 12, ground := Ground.data }, { on := 19, ground := Ground.data }], guard := none }) (v := ?_) rfl (by kernel_rfl) (by kernel_rfl) (by kernel_rfl) (fun _ _ _ h => h) (Or.inl ⟨by rfl, ?_⟩) (by assumption) ?_
      rotate_left
      · intro w0 hSw; (try dsimp only at hSw); go_simp; (try with_reducible rfl)
      simp only [Act.put, List.setIfInBounds_toArray, List.set_cons_zero, List.set_cons_succ]
      refine wpAnyH_take (i := 21) (oi := { dst := some 89, op := Op.move (Operand.tmp 88), type := 4, pos := "words.go:366", after := #[{ on := 20, ground := Ground.data }, { on := 18, ground := Ground.chain }], guard := none }) (v := ?_) rfl (by kernel_rfl) (by kernel_rfl) (by kernel_rfl) (fun _ _ _ h => h) (Or.inl ⟨by rfl, ?_⟩) (by assumption) ?_
      rotate_left
      · intro w0 hSw; (try dsimp only at hSw); go_simp; (try with_reducible rfl)
      simp only [Act.put, List.setIfInBounds_toArray, List.set_cons_zero, List.set_cons_succ]
      refine wpAnyH_take (i := 22) (oi := { dst := some 90, op := Op.move (Operand.tmp 17), type := 26, pos := "words.go:366", after := #[{ on := 21, ground := Ground.guard }], guard := some (21, true) }) (v := ?_) rfl (by kernel_rfl) (by kernel_rfl) (by kernel_rfl) (fun _ _ _ h => h) (Or.inl ⟨by rfl, ?_⟩) (by assumption) ?_
      rotate_left
      · intro w0 hSw; (try dsimp only at hSw); go_simp; (try with_reducible rfl)
      simp only [Act.put, List.setIfInBounds_toArray, List.set_cons_zero, List.set_cons_succ]
      refine wpAnyH_take (i := 23) (oi := { dst := some 91, op := Op.binOp BinOp.neq 26 (Operand.tmp 90) (Operand.const Value.nilIface) 26, type := 4, pos := "words.go:366", after := #[{ on := 22, ground := Ground.data }, { on := 21, ground := Ground.guard }], guard := some (21, true) }) (v := ?_) rfl (by kernel_rfl) (by kernel_rfl) (by kernel_rfl) (fun _ _ _ h => h) (Or.inl ⟨by rfl, ?_⟩) (by assumption) ?_
      rotate_left
      · intro w0 hSw; (try dsimp only at hSw); go_simp; (try with_reducible rfl)
      simp only [Act.put, List.setIfInBounds_toArray, List.set_cons_zero, List.set_cons_succ]
      refine wpAnyH_take (i := 24) (oi := { dst := some 92, op := Op.move (Operand.tmp 91), type := 4, pos := "words.go:366", after := #[{ on := 23, ground := Ground.data }, { on := 21, ground := Ground.chain }, { on := 21, ground := Ground.guard }], guard := some (21, true) }) (v := ?_) rfl (by kernel_rfl) (by kernel_rfl) (by kernel_rfl) (fun _ _ _ h => h) (Or.inl ⟨by rfl, ?_⟩) (by assumption) ?_
      rotate_left
      · intro w0 hSw; (try dsimp only at hSw); go_simp; (try with_reducible rfl)
      simp only [Act.put, List.setIfInBounds_toArray, List.set_cons_zero, List.set_cons_succ]
      refine wpAnyH_take (i := 25) (oi := { dst := some 93, op := Op.load 23 (Operand.tmp 3), type := 23, pos := "words.go:366", after := #[{ on := 24, ground := Ground.guard }], guard := some (24, false) }) (v := undef) rfl (by kernel_rfl) (by kernel_rfl) (by kernel_rfl) (fun _ _ _ h => h) (Or.inr ⟨by rfl, rfl⟩) (by assumption) ?_
      simp only [Act.put, List.setIfInBounds_toArray, List.set_cons_zero, List.set_cons_succ]
      refine wpAnyH_take (i := 26) (oi := { dst := some 94, op := Op.load 23 (Operand.tmp 5), type := 23, pos := "words.go:366", after := #[{ on := 24, ground := Ground.guard }], guard := some (24, false) }) (v := undef) rfl (by kernel_rfl) (by kernel_rfl) (by kernel_rfl) (fun _ _ _ h => h) (Or.inr ⟨by rfl, rfl⟩) (by assumption) ?_
      simp only [Act.put, List.setIfInBounds_toArray, List.set_cons_zero, List.set_cons_succ]
      refine wpAnyH_take (i := 27) (oi := { dst := some 95, op := Op.call { callee := Callee.value (Operand.func 10), args := #[Operand.tmp 93, Operand.tmp 94], argTypes := #[23, 23] }, type := 4, pos := "words.go:366", after := #[{ on := 25, ground := Ground.data }, { on := 26, ground := Ground.data }, { on := 24, ground := Ground.chain }, { on := 24, ground := Ground.guard }], guard := some (24, false) }) (v := undef) rfl (by kernel_rfl) (by kernel_rfl) (by kernel_rfl) (fun _ _ _ h => h) (Or.inr ⟨by rfl, rfl⟩) (by assumption) ?_
      simp only [Act.put, List.setIfInBounds_toArray, List.set_cons_zero, List.set_cons_succ]
      refine wpAnyH_take (i := 28) (oi := { dst := some 96, op := Op.load 23 (Operand.tmp 8), type := 23, pos := "words.go:366", after := #[{ on := 24, ground := Ground.guard }], guard := some (24, false) }) (v := undef) rfl (by kernel_rfl) (by kernel_rfl) (by kernel_rfl) (fun _ _ _ h => h) (Or.inr ⟨by rfl, rfl⟩) (by assumption) ?_
      simp only [Act.put, List.setIfInBounds_toArray, List.set_cons_zero, List.set_cons_succ]
      refine wpAnyH_take (i := 29) (oi := { dst := some 97, op := Op.load 23 (Operand.tmp 16), type := 23, pos := "words.go:366", after := #[{ on := 24, ground := Ground.guard }], guard := some (24, false) }) (v := undef) rfl (by kernel_rfl) (by kernel_rfl) (by kernel_rfl) (fun _ _ _ h => h) (Or.inr ⟨by rfl, rfl⟩) (by assumption) ?_
      simp only [Act.put, List.setIfInBounds_toArray, List.set_cons_zero, List.set_cons_succ]
      refine wpAnyH_take (i := 30) (oi := { dst := some 98, op := Op.call { callee := Callee.value (Operand.func 10), args := #[Operand.tmp 96, Operand.tmp 97], argTypes := #[23, 23] }, type := 4, pos := "words.go:366", after := #[{ on := 28, ground := Ground.data }, { on := 29, ground := Ground.data }, { on := 27, ground := Ground.chain }, { on := 24, ground := Ground.guard }], guard := some (24, false) }) (v := undef) rfl (by kernel_rfl) (by kernel_rfl) (by kernel_rfl) (fun _ _ _ h => h) (Or.inr ⟨by rfl, rfl⟩) (by assumption) ?_
      simp only [Act.put, List.setIfInBounds_toArray, List.set_cons_zero, List.set_cons_succ]
      refine wpAnyH_take (i := 31) (oi := { dst := some 99, op := Op.binOp BinOp.eql 4 (Operand.tmp 95) (Operand.tmp 98) 4, type := 4, pos := "words.go:366", after := #[{ on := 27, ground := Ground.data }, { on := 30, ground := Ground.data }, { on := 24, ground := Ground.guard }], guard := some (24, false) }) (v := undef) rfl (by kernel_rfl) (by kernel_rfl) (by kernel_rfl) (fun _ _ _ h => h) (Or.inr ⟨by rfl, rfl⟩) (by assumption) ?_
      simp only [Act.put, List.setIfInBounds_toArray, List.set_cons_zero, List.set_cons_succ]
      refine wpAnyH_take (i := 32) (oi := { dst := some 100, op := Op.pick (Operand.tmp 92) (Operand.const (Value.bool true)) (Operand.tmp 99), type := 4, pos := "words.go:366", after := #[{ on := 24, ground := Ground.data }, { on := 31, ground := Ground.data }, { on := 21, ground := Ground.guard }], guard := some (21, true) }) (v := ?_) rfl (by kernel_rfl) (by kernel_rfl) (by kernel_rfl) (fun _ _ _ h => h) (Or.inl ⟨by rfl, ?_⟩) (by assumption) ?_
      rotate_left
      · intro w0 hSw; (try dsimp only at hSw); go_simp; (try with_reducible rfl)
      simp only [Act.put, List.setIfInBounds_toArray, List.set_cons_zero, List.set_cons_succ]
      refine wpAnyH_take (i := 33) (oi := { dst := some 101, op := Op.pick (Operand.tmp 89) (Operand.tmp 100) (Operand.const (Value.bool false)), type := 4, pos := "words.go:366", after := #[{ on := 21, ground := Ground.data }, { on := 32, ground := Ground.data }], guard := none }) (v := ?_) rfl (by kernel_rfl) (by kernel_rfl) (by kernel_rfl) (fun _ _ _ h => h) (Or.inl ⟨by rfl, ?_⟩) (by assumption) ?_
      rotate_left
      · intro w0 hSw; (try dsimp only at hSw); go_simp; (try with_reducible rfl)
      simp only [Act.put, List.setIfInBounds_toArray, List.set_cons_zero, List.set_cons_succ]
      refine wpAnyH_take (i := 34) (oi := { dst := some 6, op := Op.assign (Operand.tmp 101), type := 4, pos := "words.go:366", after := #[{ on := 33, ground := Ground.data }, { on := 30, ground := Ground.chain }, { on := 0, ground := Ground.phase }, { on := 1, ground := Ground.phase }, { on := 2, ground := Ground.phase }, { on := 3, ground := Ground.phase }, { on := 4, ground := Ground.phase }, { on := 5, ground := Ground.phase }, { on := 6, ground := Ground.phase }, { on := 7, ground := Ground.phase }, { on := 8, ground := Ground.phase }, { on := 9, ground := Ground.phase }, { on := 10, ground := Ground.phase }, { on := 11, ground := Ground.phase }, { on := 12, ground := Ground.phase }, { on := 13, ground := Ground.phase }, { on := 14, ground := Ground.phase }, { on := 15, ground := Ground.phase }, { on := 16, ground := Ground.phase }, { on := 17, ground := Ground.phase }, { on := 18, ground := Ground.phase }, { on := 19, ground := Ground.phase }, { on := 20, ground := Ground.phase }, { on := 21, ground := Ground.phase }, { on := 22, ground := Ground.phase }, { on := 23, ground := Ground.phase }, { on := 24, ground := Ground.phase }, { on := 25, ground := Ground.phase }, { on := 26, ground := Ground.phase }, { on := 27, ground := Ground.phase }, { on := 28, ground := Ground.phase }, { on := 29, ground := Ground.phase }, { on := 30, ground := Ground.phase }, { on := 31, ground := Ground.phase }, { on := 32, ground := Ground.phase }, { on := 33, ground := Ground.phase }], guard := none }) (v := ?_) rfl (by kernel_rfl) (by kernel_rfl) (by kernel_rfl) (fun _ _ _ h => h) (Or.inl ⟨by rfl, ?_⟩) (by assumption) ?_
      rotate_left
      · intro w0 hSw; (try dsimp only at hSw); go_simp; (try with_reducible rfl)
      simp only [Act.put, List.setIfInBounds_toArray, List.set_cons_zero, List.set_cons_succ]
      refine wpAnyH_done (by kernel_rfl) ?_ _
      all_goals (go_wp2_with fail)
      all_goals go_ret
      all_goals exact ⟨rfl, by first | exact up_call H6.out.below (by assumption) | exact up_call H6.out.below (Below.drew (by assumption)) | exact up_drewN H6.out.below _ | exact H6.out.below⟩
    · obtain ⟨rc5, _, _⟩ := addF_zero.1 h5
      have rz := right_sum h5
      have hvz := sum_val (c := c) (d := b) (right_scale rc5) (right_scale rb)
      simp only [addV_one (addF_one h4)] at C4'
      simp only [addV_ok h5] at C5
      generalize sumC c r b t = Z at *
      generalize sumS r t = R at *
      have C7 := Lib.hid fun W => less_any a s c r W
      have C8 := Lib.hid fun W => less_any X S Z R W
      have e8 : lessB X S Z R = lessB a s c r := by
        unfold lessB
        simp only [ra, rc5, rx, rz, true_and]
        rw [hvz, hv]
        exact decide_eq_decide.2 (by omega)
      simp only [e8] at C8
      have C4 : Hid (∀ W : World, Calls Try.prog 13 #[.agg #[.int .i64 X, .int .i64 S], .agg #[.int .i64 (0 - b), .int .i64 t]] W (Gives W (.tuple #[.agg #[.int .i64 0, .int .i64 0], .iface 38 (.int .i64 1)]))) := by rw [Int.zero_sub]; exact C4'
      clear e8 hv hvy hvz rz rx ra rb rc5 h1 h2 h3 h4 h5 m1 hge hvb
      cases lessB a s c r
      all_goals
        go_enter Try.func6, Try.ntmps6
        go_upto_region 2 with (first | (go_at_call 8; (with_reducible refine (CH.out _).mono ?_); rintro e w1 ⟨rfl, hb1⟩))
        have H1 := Lib.hid (H0.out.call hb1)
        clear hb1
        obtain ⟨c0, c1, b0, b1, a0, a1, -⟩ := H1.out.mem.cells
        go_upto_region 3 with (first | (go_at_call 13; (with_reducible refine (C1.out _).mono ?_); rintro e w2 ⟨rfl, hb2⟩; dsimp only))
        clear c0 c1 b0 b1 a0 a1
        have H2 := Lib.hid ((H1.out.call hb2).alloc (X) (S))
        clear hb2
        obtain ⟨v2, hv2⟩ : ∃ V, w2.alloc (box (X) (S)) = V := ⟨_, rfl⟩
        rw [hv2] at H2 ⊢
        clear hv2
        obtain ⟨x0, x1, c0, c1, b0, b1, a0, a1, -⟩ := H2.out.mem.cells
        go_upto_region 4 with (first | (go_at_call 13; (with_reducible refine (C2.out _).mono ?_); rintro e w3 ⟨rfl, hb3⟩; dsimp only))
        clear x0 x1 c0 c1 b0 b1 a0 a1
        have H3 := Lib.hid ((H2.out.call hb3).alloc (X) (S))
        clear hb3
        obtain ⟨v3, hv3⟩ : ∃ V, w3.alloc (box (X) (S)) = V := ⟨_, rfl⟩
        rw [hv3] at H3 ⊢
        clear hv3
        obtain ⟨y0, y1, x0, x1, c0, c1, b0, b1, a0, a1, -⟩ := H3.out.mem.cells
        go_upto_region 9 with (first | (go_at_call 13; (with_reducible refine (C3.out _).mono ?_); rintro e w4 ⟨rfl, hb4⟩; dsimp only))
        clear y0 y1 x0 x1 c0 c1 b0 b1 a0 a1
        have H4 := Lib.hid ((H3.out.call hb4).alloc (a) (s))
        clear hb4
        obtain ⟨v4, hv4⟩ : ∃ V, w4.alloc (box (a) (s)) = V := ⟨_, rfl⟩
        rw [hv4] at H4 ⊢
        clear hv4
        obtain ⟨z0, z1, y0, y1, x0, x1, c0, c1, b0, b1, a0, a1, -⟩ := H4.out.mem.cells
        go_upto_region 10 with (first | (go_at_call 13; (with_reducible refine (C4.out _).mono ?_); rintro e w5 ⟨rfl, hb5⟩; dsimp only) | (go_at_call 13; (with_reducible refine (C4'.out _).mono ?_); rintro e w5 ⟨rfl, hb5⟩; dsimp only))
        clear z0 z1 y0 y1 x0 x1 c0 c1 b0 b1 a0 a1
        have H5 := Lib.hid ((H4.out.call hb5).alloc (0) (0))
        clear hb5
        obtain ⟨v5, hv5⟩ : ∃ V, w5.alloc (box (0) (0)) = V := ⟨_, rfl⟩
        rw [hv5] at H5 ⊢
        clear hv5
        obtain ⟨u0, u1, z0, z1, y0, y1, x0, x1, c0, c1, b0, b1, a0, a1, -⟩ := H5.out.mem.cells
        go_upto_region 11 with (first | (go_at_call 13; (with_reducible refine (C5.out _).mono ?_); rintro e w6 ⟨rfl, hb6⟩; dsimp only))
        clear u0 u1 z0 z1 y0 y1 x0 x1 c0 c1 b0 b1 a0 a1
        have H6 := Lib.hid ((H5.out.call hb6).alloc (Z) (R))
        clear hb6
        obtain ⟨v6, hv6⟩ : ∃ V, w6.alloc (box (Z) (R)) = V := ⟨_, rfl⟩
        rw [hv6] at H6 ⊢
        clear hv6
        obtain ⟨v0, v1, u0, u1, z0, z1, y0, y1, x0, x1, c0, c1, b0, b1, a0, a1, -⟩ := H6.out.mem.cells
        have HS : Hid (∀ wx : World, Below v6.heap.size v6 wx → Below v6.heap.size v6 wx ∧ wx.cell? ⟨w6.heap.size, 0, none⟩ = some (.int .i64 (Z)) ∧ wx.cell? ⟨w6.heap.size, 1, none⟩ = some (.int .i64 (R)) ∧ wx.cell? ⟨w5.heap.size, 0, none⟩ = some (.int .i64 (0)) ∧ wx.cell? ⟨w5.heap.size, 1, none⟩ = some (.int .i64 (0)) ∧ wx.cell? ⟨w4.heap.size, 0, none⟩ = some (.int .i64 (a)) ∧ wx.cell? ⟨w4.heap.size, 1, none⟩ = some (.int .i64 (s)) ∧ wx.cell? ⟨w3.heap.size, 0, none⟩ = some (.int .i64 (X)) ∧ wx.cell? ⟨w3.heap.size, 1, none⟩ = some (.int .i64 (S)) ∧ wx.cell? ⟨w2.heap.size, 0, none⟩ = some (.int .i64 (X)) ∧ wx.cell? ⟨w2.heap.size, 1, none⟩ = some (.int .i64 (S)) ∧ wx.cell? ⟨w.heap.size + 2, 0, none⟩ = some (.int .i64 (c)) ∧ wx.cell? ⟨w.heap.size + 2, 1, none⟩ = some (.int .i64 (r)) ∧ wx.cell? ⟨w.heap.size + 1, 0, none⟩ = some (.int .i64 (b)) ∧ wx.cell? ⟨w.heap.size + 1, 1, none⟩ = some (.int .i64 (t)) ∧ wx.cell? ⟨w.heap.size, 0, none⟩ = some (.int .i64 (a)) ∧ wx.cell? ⟨w.heap.size, 1, none⟩ = some (.int .i64 (s))) := Lib.hid fun wx hb => by
          obtain ⟨v0, v1, u0, u1, z0, z1, y0, y1, x0, x1, c0, c1, b0, b1, a0, a1, -⟩ := (H6.out.call hb).mem.cells
          exact ⟨hb, v0, v1, u0, u1, z0, z1, y0, y1, x0, x1, c0, c1, b0, b1, a0, a1⟩
        refine wp_region_held_drew (S := fun wx => Below v6.heap.size v6 wx ∧ wx.cell? ⟨w6.heap.size, 0, none⟩ = some (.int .i64 (Z)) ∧ wx.cell? ⟨w6.heap.size, 1, none⟩ = some (.int .i64 (R)) ∧ wx.cell? ⟨w5.heap.size, 0, none⟩ = some (.int .i64 (0)) ∧ wx.cell? ⟨w5.heap.size, 1, none⟩ = some (.int .i64 (0)) ∧ wx.cell? ⟨w4.heap.size, 0, none⟩ = some (.int .i64 (a)) ∧ wx.cell? ⟨w4.heap.size, 1, none⟩ = some (.int .i64 (s)) ∧ wx.cell? ⟨w3.heap.size, 0, none⟩ = some (.int .i64 (X)) ∧ wx.cell? ⟨w3.heap.size, 1, none⟩ = some (.int .i64 (S)) ∧ wx.cell? ⟨w2.heap.size, 0, none⟩ = some (.int .i64 (X)) ∧ wx.cell? ⟨w2.heap.size, 1, none⟩ = some (.int .i64 (S)) ∧ wx.cell? ⟨w.heap.size + 2, 0, none⟩ = some (.int .i64 (c)) ∧ wx.cell? ⟨w.heap.size + 2, 1, none⟩ = some (.int .i64 (r)) ∧ wx.cell? ⟨w.heap.size + 1, 0, none⟩ = some (.int .i64 (b)) ∧ wx.cell? ⟨w.heap.size + 1, 1, none⟩ = some (.int .i64 (t)) ∧ wx.cell? ⟨w.heap.size, 0, none⟩ = some (.int .i64 (a)) ∧ wx.cell? ⟨w.heap.size, 1, none⟩ = some (.int .i64 (s))) (by kernel_rfl) (HS.out _ (Below.drew (Below.refl _ _))) (fun hHeld => ?_)
        have hB0 := hHeld.1
        refine wpAnyH_take (i := 0) (oi := { dst := some 68, op := Op.load 23 (Operand.tmp 8), type := 23, pos := "words.go:366", after := #[], guard := none }) (v := ?_) rfl (by kernel_rfl) (by kernel_rfl) (by kernel_rfl) (fun _ _ _ h => h) (Or.inl ⟨by rfl, ?_⟩) (by assumption) ?_
        rotate_left
        · intro w0 hSw; (try dsimp only at hSw); go_simp; (try with_reducible rfl)
        simp only [Act.put, List.setIfInBounds_toArray, List.set_cons_zero, List.set_cons_succ]
        refine wpAnyH_take (i := 1) (oi := { dst := some 69, op := Op.load 23 (Operand.tmp 10), type := 23, pos := "words.go:366", after := #[], guard := none }) (v := ?_) rfl (by kernel_rfl) (by kernel_rfl) (by kernel_rfl) (fun _ _ _ h => h) (Or.inl ⟨by rfl, ?_⟩) (by assumption) ?_
        rotate_left
        · intro w0 hSw; (try dsimp only at hSw); go_simp; (try with_reducible rfl)
        simp only [Act.put, List.setIfInBounds_toArray, List.set_cons_zero, List.set_cons_succ]
        refine wpAnyH_take (i := 2) (oi := { dst := some 70, op := Op.binOp BinOp.eql 23 (Operand.tmp 68) (Operand.tmp 69) 23, type := 4, pos := "words.go:366", after := #[{ on := 0, ground := Ground.data }, { on := 1, ground := Ground.data }], guard := none }) (v := ?_) rfl (by kernel_rfl) (by kernel_rfl) (by kernel_rfl) (fun _ _ _ h => h) (Or.inl ⟨by rfl, ?_⟩) (by assumption) ?_
        rotate_left
        · intro w0 hSw; (try dsimp only at hSw); go_simp; (try with_reducible rfl)
        simp only [Act.put, List.setIfInBounds_toArray, List.set_cons_zero, List.set_cons_succ]
        refine wpAnyH_take (i := 3) (oi := { dst := some 71, op := Op.move (Operand.tmp 70), type := 4, pos := "words.go:366", after := #[{ on := 2, ground := Ground.data }], guard := none }) (v := ?_) rfl (by kernel_rfl) (by kernel_rfl) (by kernel_rfl) (fun _ _ _ h => h) (Or.inl ⟨by rfl, ?_⟩) (by assumption) ?_
        rotate_left
        · intro w0 hSw; (try dsimp only at hSw); go_simp; (try with_reducible rfl)
        simp only [Act.put, List.setIfInBounds_toArray, List.set_cons_zero, List.set_cons_succ]
        refine wpAnyH_take (i := 4) (oi := { dst := some 72, op := Op.move (Operand.tmp 13), type := 26, pos := "words.go:366", after := #[{ on := 3, ground := Ground.guard }], guard := some (3, true) }) (v := ?_) rfl (by kernel_rfl) (by kernel_rfl) (by kernel_rfl) (fun _ _ _ h => h) (Or.inl ⟨by rfl, ?_⟩) (by assumption) ?_
        rotate_left
        · intro w0 hSw; (try dsimp only at hSw); go_simp; (try with_reducible rfl)
        simp only [Act.put, List.setIfInBounds_toArray, List.set_cons_zero, List.set_cons_succ]
        refine wpAnyH_take (i := 5) (oi := { dst := some 73, op := Op.binOp BinOp.eql 26 (Operand.tmp 72) (Operand.const Value.nilIface) 26, type := 4, pos := "words.go:366", after := #[{ on := 4, ground := Ground.data }, { on := 3, ground := Ground.guard }], guard := some (3, true) }) (v := ?_) rfl (by kernel_rfl) (by kernel_rfl) (by kernel_rfl) (fun _ _ _ h => h) (Or.inl ⟨by rfl, ?_⟩) (by assumption) ?_
        rotate_left
        · intro w0 hSw; (try dsimp only at hSw); go_simp; (try with_reducible rfl)
        simp only [Act.put, List.setIfInBounds_toArray, List.set_cons_zero, List.set_cons_succ]
        refine wpAnyH_take (i := 6) (oi := { dst := some 74, op := Op.pick (Operand.tmp 71) (Operand.tmp 73) (Operand.const (Value.bool false)), type := 4, pos := "words.go:366", after := #[{ on := 3, ground := Ground.data }, { on := 5, ground := Ground.data }], guard := none }) (v := ?_) rfl (by kernel_rfl) (by kernel_rfl) (by kernel_rfl) (fun _ _ _ h => h) (Or.inl ⟨by rfl, ?_⟩) (by assumption) ?_
        rotate_left
        · intro w0 hSw; (try dsimp only at hSw); go_simp; (try with_reducible rfl)
        simp only [Act.put, List.setIfInBounds_toArray, List.set_cons_zero, List.set_cons_succ]
        refine wpAnyH_take (i := 7) (oi := { dst := some 75, op := Op.move (Operand.tmp 74), type := 4, pos := "words.go:366", after := #[{ on := 6, ground := Ground.data }, { on := 3, ground := Ground.chain }], guard := none }) (v := ?_) rfl (by kernel_rfl) (by kernel_rfl) (by kernel_rfl) (fun _ _ _ h => h) (Or.inl ⟨by rfl, ?_⟩) (by assumption) ?_
        rotate_left
        · intro w0 hSw; (try dsimp only at hSw); go_simp; (try with_reducible rfl)
        simp only [Act.put, List.setIfInBounds_toArray, List.set_cons_zero, List.set_cons_succ]
        refine wpAnyH_take (i := 8) (oi := { dst := some 76, op := Op.load 23 (Operand.tmp 12), type := 23, pos := "words.go:366", after := #[{ on := 7, ground := Ground.guard }], guard := some (7, true) }) (v := ?_) rfl (by kernel_rfl) (by kernel_rfl) (by kernel_rfl) (fun _ _ _ h => h) (Or.inl ⟨by rfl, ?_⟩) (by assumption) ?_
        rotate_left
        · intro w0 hSw; (try dsimp only at hSw); go_simp; (try with_reducible rfl)
        simp only [Act.put, List.setIfInBounds_toArray, List.set_cons_zero, List.set_cons_succ]
        refine wpAnyH_take (i := 9) (oi := { dst := some 77, op := Op.load 23 (Operand.tmp 3), type := 23, pos := "words.go:366", after := #[{ on := 7, ground := Ground.guard }], guard := some (7, true) }) (v := ?_) rfl (by kernel_rfl) (by kernel_rfl) (by kernel_rfl) (fun _ _ _ h => h) (Or.inl ⟨by rfl, ?_⟩) (by assumption) ?_
        rotate_left
        · intro w0 hSw; (try dsimp only at hSw); go_simp; (try with_reducible rfl)
        simp only [Act.put, List.setIfInBounds_toArray, List.set_cons_zero, List.set_cons_succ]
        refine wpAnyH_take (i := 10) (oi := { dst := some 78, op := Op.binOp BinOp.eql 23 (Operand.tmp 76) (Operand.tmp 77) 23, type := 4, pos := "words.go:366", after := #[{ on := 8, ground := Ground.data }, { on := 9, ground := Ground.data }, { on := 7, ground := Ground.guard }], guard := some (7, true) }) (v := ?_) rfl (by kernel_rfl) (by kernel_rfl) (by kernel_rfl) (fun _ _ _ h => h) (Or.inl ⟨by rfl, ?_⟩) (by assumption) ?_
        rotate_left
        · intro w0 hSw; (try dsimp only at hSw); go_simp; (try with_reducible rfl)
        simp only [Act.put, List.setIfInBounds_toArray, List.set_cons_zero, List.set_cons_succ]
        refine wpAnyH_take (i := 11) (oi := { dst := some 79, op := Op.pick (Operand.tmp 75) (Operand.tmp 78) (Operand.const (Value.bool false)), type := 4, pos := "words.go:366", after := #[{ on := 7, ground := Ground.data }, { on := 10, ground := Ground.data }], guard := none }) (v := ?_) rfl (by kernel_rfl) (by kernel_rfl) (by kernel_rfl) (fun _ _ _ h => h) (Or.inl ⟨by rfl, ?_⟩) (by assumption) ?_
        rotate_left
        · intro w0 hSw; (try dsimp only at hSw); go_simp; (try with_reducible rfl)
        simp only [Act.put, List.setIfInBounds_toArray, List.set_cons_zero, List.set_cons_succ]
        refine wpAnyH_take (i := 12) (oi := { dst := some 80, op := Op.move (Operand.tmp 79), type := 4, pos := "words.go:366", after := #[{ on := 11, ground := Ground.data }, { on := 7, ground := Ground.chain }], guard := none }) (v := ?_) rfl (by kernel_rfl) (by kernel_rfl) (by kernel_rfl) (fun _ _ _ h => h) (Or.inl ⟨by rfl, ?_⟩) (by assumption) ?_
        rotate_left
        · intro w0 hSw; (try dsimp only at hSw); go_simp; (try with_reducible rfl)
        simp only [Act.put, List.setIfInBounds_toArray, List.set_cons_zero, List.set_cons_succ]
        refine wpAnyH_take (i := 13) (oi := { dst := some 81, op := Op.move (Operand.tmp 15), type := 26, pos := "words.go:366", after := #[{ on := 12, ground := Ground.guard }], guard := some (12, true) }) (v := ?_) rfl (by kernel_rfl) (by kernel_rfl) (by kernel_rfl) (fun _ _ _ h => h) (Or.inl ⟨by rfl, ?_⟩) (by assumption) ?_
        rotate_left
        · intro w0 hSw; (try dsimp only at hSw); go_simp; (try with_reducible rfl)
        simp only [Act.put, List.setIfInBounds_toArray, List.set_cons_zero, List.set_cons_succ]
        refine wpAnyH_take (i := 14) (oi := { dst := some 82, op := Op.binOp BinOp.neq 26 (Operand.tmp 81) (Operand.const Value.nilIface) 26, type := 4, pos := "words.go:366", after := #[{ on := 13, ground := Ground.data }, { on := 12, ground := Ground.guard }], guard := some (12, true) }) (v := ?_) rfl (by kernel_rfl) (by kernel_rfl) (by kernel_rfl) (fun _ _ _ h => h) (Or.inl ⟨by rfl, ?_⟩) (by assumption) ?_
        rotate_left
        · intro w0 hSw; (try dsimp only at hSw); go_simp; (try with_reducible rfl)
        simp only [Act.put, List.setIfInBounds_toArray, List.set_cons_zero, List.set_cons_succ]
        refine wpAnyH_take (i := 15) (oi := { dst := some 83, op := Op.move (Operand.tmp 82), type := 4, pos := "words.go:366", after := #[{ on := 14, ground := Ground.data }, { on := 12, ground := Ground.chain }, { on := 12, ground := Ground.guard }], guard := some (12, true) }) (v := ?_) rfl (by kernel_rfl) (by kernel_rfl) (by kernel_rfl) (fun _ _ _ h => h) (Or.inl ⟨by rfl, ?_⟩) (by assumption) ?_
        rotate_left
        · intro w0 hSw; (try dsimp only at hSw); go_simp; (try with_reducible rfl)
        simp only [Act.put, List.setIfInBounds_toArray, List.set_cons_zero, List.set_cons_succ]
        refine wpAnyH_take (i := 16) (oi := { dst := some 84, op := Op.load 23 (Operand.tmp 14), type := 23, pos := "words.go:366", after := #[{ on := 15, ground := Ground.guard }], guard := some (15, false) }) (v := undef) rfl (by kernel_rfl) (by kernel_rfl) (by kernel_rfl) (fun _ _ _ h => h) (Or.inr ⟨by rfl, rfl⟩) (by assumption) ?_
        simp only [Act.put, List.setIfInBounds_toArray, List.set_cons_zero, List.set_cons_succ]
        refine wpAnyH_take (i := 17) (oi := { dst := some 85, op := Op.load 23 (Operand.tmp 3), type := 23, pos := "words.go:366", after := #[{ on := 15, ground := Ground.guard }], guard := some (15, false) }) (v := undef) rfl (by kernel_rfl) (by kernel_rfl) (by kernel_rfl) (fun _ _ _ h => h) (Or.inr ⟨by rfl, rfl⟩) (by assumption) ?_
        simp only [Act.put, List.setIfInBounds_toArray, List.set_cons_zero, List.set_cons_succ]
        refine wpAnyH_take (i := 18) (oi := { dst := some 86, op := Op.call { callee := Callee.value (Operand.func 11), args := #[Operand.tmp 84, Operand.tmp 85], argTypes := #[23, 23] }, type := 4, pos := "words.go:366", after := #[{ on := 16, ground := Ground.data }, { on := 17, ground := Ground.data }, { on := 15, ground := Ground.chain }, { on := 15, ground := Ground.guard }], guard := some (15, false) }) (v := undef) rfl (by kernel_rfl) (by kernel_rfl) (by kernel_rfl) (fun _ _ _ h => h) (Or.inr ⟨by rfl, rfl⟩) (by assumption) ?_
        simp only [Act.put, List.setIfInBounds_toArray, List.set_cons_zero, List.set_cons_succ]
        refine wpAnyH_take (i := 19) (oi := { dst := some 87, op := Op.pick (Operand.tmp 83) (Operand.const (Value.bool true)) (Operand.tmp 86), type := 4, pos := "words.go:366", after := #[{ on := 15, ground := Ground.data }, { on := 18, ground := Ground.data }, { on := 12, ground := Ground.guard }], guard := some (12, true) }) (v := ?_) rfl (by kernel_rfl) (by kernel_rfl) (by kernel_rfl) (fun _ _ _ h => h) (Or.inl ⟨by rfl, ?_⟩) (by assumption) ?_
        rotate_left
        · intro w0 hSw; (try dsimp only at hSw); go_simp; (try with_reducible rfl)
        simp only [Act.put, List.setIfInBounds_toArray, List.set_cons_zero, List.set_cons_succ]
        refine wpAnyH_take (i := 20) (oi := { dst := some 88, op := Op.pick (Operand.tmp 80) (Operand.tmp 87) (Operand.const (Value.bool false)), type := 4, pos := "words.go:366", after := #[{ on := 12, ground := Ground.data }, { on := 19, ground := Ground.data }], guard := none }) (v := ?_) rfl (by kernel_rfl) (by kernel_rfl) (by kernel_rfl) (fun _ _ _ h => h) (Or.inl ⟨by rfl, ?_⟩) (by assumption) ?_
        rotate_left
        · intro w0 hSw; (try dsimp only at hSw); go_simp; (try with_reducible rfl)
        simp only [Act.put, List.setIfInBounds_toArray, List.set_cons_zero, List.set_cons_succ]
        refine wpAnyH_take (i := 21) (oi := { dst := some 89, op := Op.move (Operand.tmp 88), type := 4, pos := "words.go:366", after := #[{ on := 20, ground := Ground.data }, { on := 18, ground := Ground.chain }], guard := none }) (v := ?_) rfl (by kernel_rfl) (by kernel_rfl) (by kernel_rfl) (fun _ _ _ h => h) (Or.inl ⟨by rfl, ?_⟩) (by assumption) ?_
        rotate_left
        · intro w0 hSw; (try dsimp only at hSw); go_simp; (try with_reducible rfl)
        simp only [Act.put, List.setIfInBounds_toArray, List.set_cons_zero, List.set_cons_succ]
        refine wpAnyH_take (i := 22) (oi := { dst := some 90, op := Op.move (Operand.tmp 17), type := 26, pos := "words.go:366", after := #[{ on := 21, ground := Ground.guard }], guard := some (21, true) }) (v := ?_) rfl (by kernel_rfl) (by kernel_rfl) (by kernel_rfl) (fun _ _ _ h => h) (Or.inl ⟨by rfl, ?_⟩) (by assumption) ?_
        rotate_left
        · intro w0 hSw; (try dsimp only at hSw); go_simp; (try with_reducible rfl)
        simp only [Act.put, List.setIfInBounds_toArray, List.set_cons_zero, List.set_cons_succ]
        refine wpAnyH_take (i := 23) (oi := { dst := some 91, op := Op.binOp BinOp.neq 26 (Operand.tmp 90) (Operand.const Value.nilIface) 26, type := 4, pos := "words.go:366", after := #[{ on := 22, ground := Ground.data }, { on := 21, ground := Ground.guard }], guard := some (21, true) }) (v := ?_) rfl (by kernel_rfl) (by kernel_rfl) (by kernel_rfl) (fun _ _ _ h => h) (Or.inl ⟨by rfl, ?_⟩) (by assumption) ?_
        rotate_left
        · intro w0 hSw; (try dsimp only at hSw); go_simp; (try with_reducible rfl)
        simp only [Act.put, List.setIfInBounds_toArray, List.set_cons_zero, List.set_cons_succ]
        refine wpAnyH_take (i := 24) (oi := { dst := some 92, op := Op.move (Operand.tmp 91), type := 4, pos := "words.go:366", after := #[{ on := 23, ground := Ground.data }, { on := 21, ground := Ground.chain }, { on := 21, ground := Ground.guard }], guard := some (21, true) }) (v := ?_) rfl (by kernel_rfl) (by kernel_rfl) (by kernel_rfl) (fun _ _ _ h => h) (Or.inl ⟨by rfl, ?_⟩) (by assumption) ?_
        rotate_left
        · intro w0 hSw; (try dsimp only at hSw); go_simp; (try with_reducible rfl)
        simp only [Act.put, List.setIfInBounds_toArray, List.set_cons_zero, List.set_cons_succ]
        refine wpAnyH_take (i := 25) (oi := { dst := some 93, op := Op.load 23 (Operand.tmp 3), type := 23, pos := "words.go:366", after := #[{ on := 24, ground := Ground.guard }], guard := some (24, false) }) (v := ?_) rfl (by kernel_rfl) (by kernel_rfl) (by kernel_rfl) (fun _ _ _ h => h) (Or.inl ⟨by rfl, ?_⟩) (by assumption) ?_
        rotate_left
        · intro w0 hSw; (try dsimp only at hSw); go_simp; (try with_reducible rfl)
        simp only [Act.put, List.setIfInBounds_toArray, List.set_cons_zero, List.set_cons_succ]
        refine wpAnyH_take (i := 26) (oi := { dst := some 94, op := Op.load 23 (Operand.tmp 5), type := 23, pos := "words.go:366", after := #[{ on := 24, ground := Ground.guard }], guard := some (24, false) }) (v := ?_) rfl (by kernel_rfl) (by kernel_rfl) (by kernel_rfl) (fun _ _ _ h => h) (Or.inl ⟨by rfl, ?_⟩) (by assumption) ?_
        rotate_left
        · intro w0 hSw; (try dsimp only at hSw); go_simp; (try with_reducible rfl)
        simp only [Act.put, List.setIfInBounds_toArray, List.set_cons_zero, List.set_cons_succ]
        refine wpAnyH_take (i := 28) (oi := { dst := some 96, op := Op.load 23 (Operand.tmp 8), type := 23, pos := "words.go:366", after := #[{ on := 24, ground := Ground.guard }], guard := some (24, false) }) (v := ?_) rfl (by kernel_rfl) (by kernel_rfl) (by kernel_rfl) (fun _ _ _ h => h) (Or.inl ⟨by rfl, ?_⟩) (by assumption) ?_
        rotate_left
        · intro w0 hSw; (try dsimp only at hSw); go_simp; (try with_reducible rfl)
        simp only [Act.put, List.setIfInBounds_toArray, List.set_cons_zero, List.set_cons_succ]
        refine wpAnyH_take (i := 29) (oi := { dst := some 97, op := Op.load 23 (Operand.tmp 16), type := 23, pos := "words.go:366", after := #[{ on := 24, ground := Ground.guard }], guard := some (24, false) }) (v := ?_) rfl (by kernel_rfl) (by kernel_rfl) (by kernel_rfl) (fun _ _ _ h => h) (Or.inl ⟨by rfl, ?_⟩) (by assumption) ?_
        rotate_left
        · intro w0 hSw; (try dsimp only at hSw); go_simp; (try with_reducible rfl)
        simp only [Act.put, List.setIfInBounds_toArray, List.set_cons_zero, List.set_cons_succ]
        refine wpAnyH_ready (rs := [27]) (by kernel_rfl) (by simp) ?_
        refine AllReadyH.cons (o := { dst := some 95, op := Op.call { callee := Callee.value (Operand.func 10), args := #[Operand.tmp 93, Operand.tmp 94], argTypes := #[23, 23] }, type := 4, pos := "words.go:366", after := #[{ on := 25, ground := Ground.data }, { on := 26, ground := Ground.data }, { on := 24, ground := Ground.chain }, { on := 24, ground := Ground.guard }], guard := some (24, false) }) rfl (fun K hK => ?_) AllReadyH.nil
        rw [if_pos (by rfl)]
        go_simp
        (go_at_call 10; (with_reducible refine (C7.out _).mono ?_); rintro e wz0 ⟨rfl, hbwz0⟩; (have hTwz0 : Below v6.heap.size v6 wz0 := by first | exact up_call (by assumption) hbwz0 | exact up_call (Below.drew (by assumption)) hbwz0))
        refine hK.out _ _ ?_ (fun hHeld => ?_)
        · (try dsimp only); exact HS.out _ hTwz0
        clear hK K
        try simp only [Act.put, List.setIfInBounds_toArray, List.set_cons_zero, List.set_cons_succ]
        refine wpAnyH_ready (rs := [30]) (by kernel_rfl) (by simp) ?_
        refine AllReadyH.cons (o := { dst := some 98, op := Op.call { callee := Callee.value (Operand.func 10), args := #[Operand.tmp 96, Operand.tmp 97], argTypes := #[23, 23] }, type := 4, pos := "words.go:366", after := #[{ on := 28, ground := Ground.data }, { on := 29, ground := Ground.data }, { on := 27, ground := Ground.chain }, { on := 24, ground := Ground.guard }], guard := some (24, false) }) rfl (fun K hK => ?_) AllReadyH.nil
        rw [if_pos (by rfl)]
        go_simp
        (go_at_call 10; (with_reducible refine (C8.out _).mono ?_); rintro e wz1 ⟨rfl, hbwz1⟩; (have hTwz1 : Below v6.heap.size v6 wz1 := by first | exact up_call (by assumption) hbwz1 | exact up_call (Below.drew (by assumption)) hbwz1))
        refine hK.out _ _ ?_ (fun hHeld => ?_)
        · (try dsimp only); exact HS.out _ hTwz1
        clear hK K
        try simp only [Act.put, List.setIfInBounds_toArray, List.set_cons_zero, List.set_cons_succ]
        refine wpAnyH_take (i := 31) (oi := { dst := some 99, op := Op.binOp BinOp.eql 4 (Operand.tmp 95) (Operand.tmp 98) 4, type := 4, pos := "words.go:366", after := #[{ on := 27, ground := Ground.data }, { on := 30, ground := Ground.data }, { on := 24, ground := Ground.guard }], guard := some (24, false) }) (v := ?_) rfl (by kernel_rfl) (by kernel_rfl) (by kernel_rfl) (fun _ _ _ h => h) (Or.inl ⟨by rfl, ?_⟩) (by assumption) ?_
        rotate_left
        · intro w0 hSw; (try dsimp only at hSw); go_simp; (try with_reducible rfl)
        simp only [Act.put, List.setIfInBounds_toArray, List.set_cons_zero, List.set_cons_succ]
        refine wpAnyH_take (i := 32) (oi := { dst := some 100, op := Op.pick (Operand.tmp 92) (Operand.const (Value.bool true)) (Operand.tmp 99), type := 4, pos := "words.go:366", after := #[{ on := 24, ground := Ground.data }, { on := 31, ground := Ground.data }, { on := 21, ground := Ground.guard }], guard := some (21, true) }) (v := ?_) rfl (by kernel_rfl) (by kernel_rfl) (by kernel_rfl) (fun _ _ _ h => h) (Or.inl ⟨by rfl, ?_⟩) (by assumption) ?_
        rotate_left
        · intro w0 hSw; (try dsimp only at hSw); go_simp; (try with_reducible rfl)
        simp only [Act.put, List.setIfInBounds_toArray, List.set_cons_zero, List.set_cons_succ]
        refine wpAnyH_take (i := 33) (oi := { dst := some 101, op := Op.pick (Operand.tmp 89) (Operand.tmp 100) (Operand.const (Value.bool false)), type := 4, pos := "words.go:366", after := #[{ on := 21, ground := Ground.data }, { on := 32, ground := Ground.data }], guard := none }) (v := ?_) rfl (by kernel_rfl) (by kernel_rfl) (by kernel_rfl) (fun _ _ _ h => h) (Or.inl ⟨by rfl, ?_⟩) (by assumption) ?_
        rotate_left
        · intro w0 hSw; (try dsimp only at hSw); go_simp; (try with_reducible rfl)
        simp only [Act.put, List.setIfInBounds_toArray, List.set_cons_zero, List.set_cons_succ]
        refine wpAnyH_take (i := 34) (oi := { dst := some 6, op := Op.assign (Operand.tmp 101), type := 4, pos := "words.go:366", after := #[{ on := 33, ground := Ground.data }, { on := 30, ground := Ground.chain }, { on := 0, ground := Ground.phase }, { on := 1, ground := Ground.phase }, { on := 2, ground := Ground.phase }, { on := 3, ground := Ground.phase }, { on := 4, ground := Ground.phase }, { on := 5, ground := Ground.phase }, { on := 6, ground := Ground.phase }, { on := 7, ground := Ground.phase }, { on := 8, ground := Ground.phase }, { on := 9, ground := Ground.phase }, { on := 10, ground := Ground.phase }, { on := 11, ground := Ground.phase }, { on := 12, ground := Ground.phase }, { on := 13, ground := Ground.phase }, { on := 14, ground := Ground.phase }, { on := 15, ground := Ground.phase }, { on := 16, ground := Ground.phase }, { on := 17, ground := Ground.phase }, { on := 18, ground := Ground.phase }, { on := 19, ground := Ground.phase }, { on := 20, ground := Ground.phase }, { on := 21, ground := Ground.phase }, { on := 22, ground := Ground.phase }, { on := 23, ground := Ground.phase }, { on := 24, ground := Ground.phase }, { on := 25, ground := Ground.phase }, { on := 26, ground := Ground.phase }, { on := 27, ground := Ground.phase }, { on := 28, ground := Ground.phase }, { on := 29, ground := Ground.phase }, { on := 30, ground := Ground.phase }, { on := 31, ground := Ground.phase }, { on := 32, ground := Ground.phase }, { on := 33, ground := Ground.phase }], guard := none }) (v := ?_) rfl (by kernel_rfl) (by kernel_rfl) (by kernel_rfl) (fun _ _ _ h => h) (Or.inl ⟨by rfl, ?_⟩) (by assumption) ?_
        rotate_left
        · intro w0 hSw; (try dsimp only at hSw); go_simp; (try with_reducible rfl)
        simp only [Act.put, List.setIfInBounds_toArray, List.set_cons_zero, List.set_cons_succ]
        refine wpAnyH_done (by kernel_rfl) ?_ _
        all_goals (go_wp2_with fail)
        all_goals go_ret
        all_goals exact ⟨rfl, by first | exact up_call H6.out.below (by assumption) | exact up_call H6.out.below (Below.drew (by assumption)) | exact up_drewN H6.out.below _ | exact H6.out.below⟩
    · simp only [addV_one (addF_one h4)] at C4'
      simp only [addV_one (addF_one h5)] at C5
      have C4 : Hid (∀ W : World, Calls Try.prog 13 #[.agg #[.int .i64 X, .int .i64 S], .agg #[.int .i64 (0 - b), .int .i64 t]] W (Gives W (.tuple #[.agg #[.int .i64 0, .int .i64 0], .iface 38 (.int .i64 1)]))) := by rw [Int.zero_sub]; exact C4'
      clear hv hvy rx ra rb h1 h2 h3 h4 h5 m1 hge hvb
      go_enter Try.func6, Try.ntmps6
      go_upto_region 2 with (first | (go_at_call 8; (with_reducible refine (CH.out _).mono ?_); rintro e w1 ⟨rfl, hb1⟩))
      have H1 := Lib.hid (H0.out.call hb1)
      clear hb1
      obtain ⟨c0, c1, b0, b1, a0, a1, -⟩ := H1.out.mem.cells
      go_upto_region 3 with (first | (go_at_call 13; (with_reducible refine (C1.out _).mono ?_); rintro e w2 ⟨rfl, hb2⟩; dsimp only))
      clear c0 c1 b0 b1 a0 a1
      have H2 := Lib.hid ((H1.out.call hb2).alloc (X) (S))
      clear hb2
      obtain ⟨v2, hv2⟩ : ∃ V, w2.alloc (box (X) (S)) = V := ⟨_, rfl⟩
      rw [hv2] at H2 ⊢
      clear hv2
      obtain ⟨x0, x1, c0, c1, b0, b1, a0, a1, -⟩ := H2.out.mem.cells
      go_upto_region 4 with (first | (go_at_call 13; (with_reducible refine (C2.out _).mono ?_); rintro e w3 ⟨rfl, hb3⟩; dsimp only))
      clear x0 x1 c0 c1 b0 b1 a0 a1
      have H3 := Lib.hid ((H2.out.call hb3).alloc (X) (S))
      clear hb3
      obtain ⟨v3, hv3⟩ : ∃ V, w3.alloc (box (X) (S)) = V := ⟨_, rfl⟩
      rw [hv3] at H3 ⊢
      clear hv3
      obtain ⟨y0, y1, x0, x1, c0, c1, b0, b1, a0, a1, -⟩ := H3.out.mem.cells
      go_upto_region 9 with (first | (go_at_call 13; (with_reducible refine (C3.out _).mono ?_); rintro e w4 ⟨rfl, hb4⟩; dsimp only))
      clear y0 y1 x0 x1 c0 c1 b0 b1 a0 a1
      have H4 := Lib.hid ((H3.out.call hb4).alloc (a) (s))
      clear hb4
      obtain ⟨v4, hv4⟩ : ∃ V, w4.alloc (box (a) (s)) = V := ⟨_, rfl⟩
      rw [hv4] at H4 ⊢
      clear hv4
      obtain ⟨z0, z1, y0, y1, x0, x1, c0, c1, b0, b1, a0, a1, -⟩ := H4.out.mem.cells
      go_upto_region 10 with (first | (go_at_call 13; (with_reducible refine (C4.out _).mono ?_); rintro e w5 ⟨rfl, hb5⟩; dsimp only) | (go_at_call 13; (with_reducible refine (C4'.out _).mono ?_); rintro e w5 ⟨rfl, hb5⟩; dsimp only))
      clear z0 z1 y0 y1 x0 x1 c0 c1 b0 b1 a0 a1
      have H5 := Lib.hid ((H4.out.call hb5).alloc (0) (0))
      clear hb5
      obtain ⟨v5, hv5⟩ : ∃ V, w5.alloc (box (0) (0)) = V := ⟨_, rfl⟩
      rw [hv5] at H5 ⊢
      clear hv5
      obtain ⟨u0, u1, z0, z1, y0, y1, x0, x1, c0, c1, b0, b1, a0, a1, -⟩ := H5.out.mem.cells
      go_upto_region 11 with (first | (go_at_call 13; (with_reducible refine (C5.out _).mono ?_); rintro e w6 ⟨rfl, hb6⟩; dsimp only))
      clear u0 u1 z0 z1 y0 y1 x0 x1 c0 c1 b0 b1 a0 a1
      have H6 := Lib.hid ((H5.out.call hb6).alloc (0) (0))
      clear hb6
      obtain ⟨v6, hv6⟩ : ∃ V, w6.alloc (box (0) (0)) = V := ⟨_, rfl⟩
      rw [hv6] at H6 ⊢
      clear hv6
      obtain ⟨v0, v1, u0, u1, z0, z1, y0, y1, x0, x1, c0, c1, b0, b1, a0, a1, -⟩ := H6.out.mem.cells
      go_quiet (fail)
      all_goals (go_wp2_with fail)
      all_goals go_ret
      all_goals exact ⟨rfl, by first | exact up_call H6.out.below (by assumption) | exact up_call H6.out.below (Below.drew (by assumption)) | exact up_drewN H6.out.below _ | exact H6.out.below⟩
  · have h2 : ¬ addF b t a s = 0 := fun h => h1 (by rw [addF_zero] at h ⊢; rw [sumC_comm]; exact ⟨h.2.1, h.1, h.2.2⟩)
    simp only [addV_one (addF_one h1)] at C1
    simp only [addV_one (addF_one h2)] at C2
    clear h1 h2
    go_enter Try.func6, Try.ntmps6
    go_upto_region 2 with (first | (go_at_call 8; (with_reducible refine (CH.out _).mono ?_); rintro e w1 ⟨rfl, hb1⟩))
    have H1 := Lib.hid (H0.out.call hb1)
    clear hb1
    obtain ⟨c0, c1, b0, b1, a0, a1, -⟩ := H1.out.mem.cells
    go_upto_region 3 with (first | (go_at_call 13; (with_reducible refine (C1.out _).mono ?_); rintro e w2 ⟨rfl, hb2⟩; dsimp only))
    clear c0 c1 b0 b1 a0 a1
    have H2 := Lib.hid ((H1.out.call hb2).alloc (0) (0))
    clear hb2
    obtain ⟨v2, hv2⟩ : ∃ V, w2.alloc (box (0) (0)) = V := ⟨_, rfl⟩
    rw [hv2] at H2 ⊢
    clear hv2
    obtain ⟨x0, x1, c0, c1, b0, b1, a0, a1, -⟩ := H2.out.mem.cells
    go_upto_region 4 with (first | (go_at_call 13; (with_reducible refine (C2.out _).mono ?_); rintro e w3 ⟨rfl, hb3⟩; dsimp only))
    clear x0 x1 c0 c1 b0 b1 a0 a1
    have H3 := Lib.hid ((H2.out.call hb3).alloc (0) (0))
    clear hb3
    obtain ⟨v3, hv3⟩ : ∃ V, w3.alloc (box (0) (0)) = V := ⟨_, rfl⟩
    rw [hv3] at H3 ⊢
    clear hv3
    obtain ⟨y0, y1, x0, x1, c0, c1, b0, b1, a0, a1, -⟩ := H3.out.mem.cells
    go_wp2_with fail
    go_ret
    exact ⟨rfl, H3.out.below⟩
end D
end Go.Proofs.Yteekhfiphbhbjaa
