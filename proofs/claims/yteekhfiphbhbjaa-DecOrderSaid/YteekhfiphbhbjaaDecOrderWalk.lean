/- The law DecOrder, walked: it returns true for all numbers; what lay in memory stays as it was. -/
import Derived.Test.YteekhfiphbhbjaaDecKit
namespace Go.Proofs.Yteekhfiphbhbjaa
namespace D
open Go.RowKit

theorem less_right {c s d t : Int} (h : Right c s) (h' : Right d t) : lessB c s d t = decide (val c s < val d t) := by unfold lessB; simp only [h, h', true_and]
theorem same_right {c s d t : Int} (h : Right c s) (h' : Right d t) : sameB c s d t = decide (val c s = val d t) := by unfold sameB; simp only [h, h', true_and]
theorem less_wrong {c s d t : Int} (h : ¬ (Right c s ∧ Right d t)) : lessB c s d t = false := decide_eq_false fun h' => h ⟨h'.1, h'.2.1⟩
set_option maxHeartbeats 32000000 in
set_option maxRecDepth 100000 in
theorem order_any (a s b t c r : Int) (w : World) : Calls Try.prog 3 #[.agg #[.int .i64 a, .int .i64 s], .agg #[.int .i64 b, .int .i64 t], .agg #[.int .i64 c, .int .i64 r]] w (TrueBelow w) := by
  have H0 := Lib.hid (at_three w a s b t c r)
  have CH := Lib.hid half_any
  have KA := Lib.hid fun W => check_any a s W
  have KB := Lib.hid fun W => check_any b t W
  have KC := Lib.hid fun W => check_any c r W
  have CAB := Lib.hid fun W => less_any a s b t W
  by_cases ra : Right a s
  · simp only [fault_ok ra, errV_zero] at KA
    by_cases rb : Right b t
    · simp only [fault_ok rb, errV_zero] at KB
      simp only [less_right ra rb] at CAB
      by_cases rc' : Right c r
      · simp only [fault_ok rc', errV_zero] at KC
        have CBA := Lib.hid fun W => less_any b t a s W
        have CSM := Lib.hid fun W => same_any a s b t W
        have CBC := Lib.hid fun W => less_any b t c r W
        have CAC := Lib.hid fun W => less_any a s c r W
        have CR := Lib.hid fun W => round_any a s 9 1 W
        simp only [less_right rb ra] at CBA
        simp only [same_right ra rb] at CSM
        simp only [less_right rb rc'] at CBC
        simp only [less_right ra rc'] at CAC
        by_cases h9 : roundF a s 9 1 = 0
        · simp only [roundV_ok h9] at CR
          have r9 := right_rc h9
          have v9 : val (rc a s 9 1) 9 = val a s := val_rc_more ra.2.1 (by decide)
          have CS9 := Lib.hid fun W => same_any (rc a s 9 1) 9 a s W
          have CL9 := Lib.hid fun W => less_any (rc a s 9 1) 9 b t W
          simp only [same_right r9 ra, v9, decide_true] at CS9
          simp only [less_right r9 rb, v9] at CL9
          clear h9 r9 v9 ra rb rc'
          generalize rc a s 9 1 = A at *
          generalize val a s = va at *
          generalize val b t = vb at *
          generalize val c r = vc at *
          rcases (show va < vb ∨ vb < va ∨ va = vb by omega) with h | h | h
          · have g1 : ¬ vb < va := by omega
            have g2 : ¬ va = vb := by omega
            simp only [h, decide_true] at CAB CL9
            simp only [g1, decide_false] at CBA
            simp only [g2, decide_false] at CSM
            by_cases hb : vb < vc
            · have g3 : va < vc := by omega
              simp only [hb, decide_true] at CBC
              simp only [g3, decide_true] at CAC
              go_enter Try.func3, Try.ntmps3
              go_upto_region 2 with (first | (go_at_call 8; (with_reducible refine (CH.out _).mono ?_); rintro e w1 ⟨rfl, hb1⟩))
              have H1 := Lib.hid (H0.out.call hb1)
              clear hb1
              obtain ⟨c0, c1, b0, b1, a0, a1, -⟩ := H1.out.mem.cells
              go_upto_region 7 with (first | (go_at_call 9; (with_reducible refine (KA.out _).mono ?_); rintro e uA0 ⟨rfl, huA0⟩; have KA0 := Lib.hid (H1.out.call huA0); obtain ⟨c2, c3, b2, b3, a2, a3, -⟩ := KA0.out.mem.cells) | (go_at_call 9; (with_reducible refine (KB.out _).mono ?_); rintro e uA1 ⟨rfl, huA1⟩; have KA1 := Lib.hid (KA0.out.call huA1); obtain ⟨c4, c5, b4, b5, a4, a5, -⟩ := KA1.out.mem.cells) | (go_at_call 9; (with_reducible refine (KC.out _).mono ?_); rintro e uA2 ⟨rfl, huA2⟩; have KA2 := Lib.hid (KA1.out.call huA2); obtain ⟨c6, c7, b6, b7, a6, a7, -⟩ := KA2.out.mem.cells))
              clear c0 c1 c2 c3 c4 c5 b0 b1 b2 b3 b4 b5 a0 a1 a2 a3 a4 a5
              clear c6 c7 b6 b7 a6 a7
              obtain ⟨c0, c1, b0, b1, a0, a1, -⟩ := KA2.out.mem.cells
              go_upto_region 9 with (first | (go_at_call 10; (with_reducible refine (CAB.out _).mono ?_); rintro e w2 ⟨rfl, hb2⟩))
              clear c0 c1 b0 b1 a0 a1
              have H2 := Lib.hid (KA2.out.call hb2)
              clear hb2
              obtain ⟨c0, c1, b0, b1, a0, a1, -⟩ := H2.out.mem.cells
              go_upto_region 11 with (first | (go_at_call 10; (with_reducible refine (CBA.out _).mono ?_); rintro e w3 ⟨rfl, hb3⟩))
              clear c0 c1 b0 b1 a0 a1
              have H3 := Lib.hid (H2.out.call hb3)
              clear hb3
              obtain ⟨c0, c1, b0, b1, a0, a1, -⟩ := H3.out.mem.cells
              go_upto_region 13 with (first | (go_at_call 11; (with_reducible refine (CSM.out _).mono ?_); rintro e w4 ⟨rfl, hb4⟩))
              clear c0 c1 b0 b1 a0 a1
              have H4 := Lib.hid (H3.out.call hb4)
              clear hb4
              obtain ⟨c0, c1, b0, b1, a0, a1, -⟩ := H4.out.mem.cells
              go_upto_region 14 with (first | (go_at_call 12; (with_reducible refine (CR.out _).mono ?_); rintro e w5 ⟨rfl, hb5⟩; dsimp only))
              clear c0 c1 b0 b1 a0 a1
              have H5 := Lib.hid ((H4.out.call hb5).alloc (A) (9))
              clear hb5
              obtain ⟨v5, hv5⟩ : ∃ V, w5.alloc (box (A) (9)) = V := ⟨_, rfl⟩
              rw [hv5] at H5 ⊢
              clear hv5
              obtain ⟨l0, l1, c0, c1, b0, b1, a0, a1, -⟩ := H5.out.mem.cells
              have HS : Hid (∀ wx : World, Below v5.heap.size v5 wx → Below v5.heap.size v5 wx ∧ wx.cell? ⟨w5.heap.size, 0, none⟩ = some (.int .i64 (A)) ∧ wx.cell? ⟨w5.heap.size, 1, none⟩ = some (.int .i64 (9)) ∧ wx.cell? ⟨w.heap.size + 2, 0, none⟩ = some (.int .i64 (c)) ∧ wx.cell? ⟨w.heap.size + 2, 1, none⟩ = some (.int .i64 (r)) ∧ wx.cell? ⟨w.heap.size + 1, 0, none⟩ = some (.int .i64 (b)) ∧ wx.cell? ⟨w.heap.size + 1, 1, none⟩ = some (.int .i64 (t)) ∧ wx.cell? ⟨w.heap.size, 0, none⟩ = some (.int .i64 (a)) ∧ wx.cell? ⟨w.heap.size, 1, none⟩ = some (.int .i64 (s))) := Lib.hid fun wx hb => by
                obtain ⟨l0, l1, c0, c1, b0, b1, a0, a1, -⟩ := (H5.out.call hb).mem.cells
                exact ⟨hb, l0, l1, c0, c1, b0, b1, a0, a1⟩
              have hS0 := HS.out _ (Below.refl _ _)
              have hB0 := hS0.1
              go_region_held3 (fun wx => Below v5.heap.size v5 wx ∧ wx.cell? ⟨w5.heap.size, 0, none⟩ = some (.int .i64 (A)) ∧ wx.cell? ⟨w5.heap.size, 1, none⟩ = some (.int .i64 (9)) ∧ wx.cell? ⟨w.heap.size + 2, 0, none⟩ = some (.int .i64 (c)) ∧ wx.cell? ⟨w.heap.size + 2, 1, none⟩ = some (.int .i64 (r)) ∧ wx.cell? ⟨w.heap.size + 1, 0, none⟩ = some (.int .i64 (b)) ∧ wx.cell? ⟨w.heap.size + 1, 1, none⟩ = some (.int .i64 (t)) ∧ wx.cell? ⟨w.heap.size, 0, none⟩ = some (.int .i64 (a)) ∧ wx.cell? ⟨w.heap.size, 1, none⟩ = some (.int .i64 (s)))
                (first | exact HS.out _ (by assumption) | exact HS.out _ (Below.drew (by assumption)))
                (first
                | (go_at_call 11; (with_reducible refine (CS9.out _).mono ?_); rintro e wy0 ⟨rfl, hby0⟩; (have hT0 : Below v5.heap.size v5 wy0 := by first | exact up_call (by assumption) hby0 | exact up_call (Below.drew (by assumption)) hby0))
                | (go_at_call 10; (with_reducible refine (CL9.out _).mono ?_); rintro e wy1 ⟨rfl, hby1⟩; (have hT1 : Below v5.heap.size v5 wy1 := by first | exact up_call (by assumption) hby1 | exact up_call (Below.drew (by assumption)) hby1))
                | (go_at_call 10; (with_reducible refine (CAB.out _).mono ?_); rintro e wy2 ⟨rfl, hby2⟩; (have hT2 : Below v5.heap.size v5 wy2 := by first | exact up_call (by assumption) hby2 | exact up_call (Below.drew (by assumption)) hby2)))
              have KH := Lib.hid (H5.out.call hT2)
              obtain ⟨l2, l3, c2, c3, b2, b3, a2, a3, -⟩ := KH.out.mem.cells
              clear l0 l1 c0 c1 b0 b1 a0 a1
              go_wp2_with (first | (go_at_call 10; (with_reducible refine (CAB.out _).mono ?_); rintro e uC0 ⟨rfl, huC0⟩; have KC0 := Lib.hid (KH.out.call huC0); obtain ⟨l4, l5, c4, c5, b4, b5, a4, a5, -⟩ := KC0.out.mem.cells) | (go_at_call 10; (with_reducible refine (CBC.out _).mono ?_); rintro e uC1 ⟨rfl, huC1⟩; have KC1 := Lib.hid (KC0.out.call huC1); obtain ⟨l6, l7, c6, c7, b6, b7, a6, a7, -⟩ := KC1.out.mem.cells) | (go_at_call 10; (with_reducible refine (CAC.out _).mono ?_); rintro e uC2 ⟨rfl, huC2⟩; have KC2 := Lib.hid (KC1.out.call huC2); obtain ⟨l8, l9, c8, c9, b8, b9, a8, a9, -⟩ := KC2.out.mem.cells))
              go_ret
              exact ⟨rfl, KC2.out.below⟩
            · simp only [hb, decide_false] at CBC
              go_enter Try.func3, Try.ntmps3
              go_upto_region 2 with (first | (go_at_call 8; (with_reducible refine (CH.out _).mono ?_); rintro e w1 ⟨rfl, hb1⟩))
              have H1 := Lib.hid (H0.out.call hb1)
              clear hb1
              obtain ⟨c0, c1, b0, b1, a0, a1, -⟩ := H1.out.mem.cells
              go_upto_region 7 with (first | (go_at_call 9; (with_reducible refine (KA.out _).mono ?_); rintro e uA0 ⟨rfl, huA0⟩; have KA0 := Lib.hid (H1.out.call huA0); obtain ⟨c2, c3, b2, b3, a2, a3, -⟩ := KA0.out.mem.cells) | (go_at_call 9; (with_reducible refine (KB.out _).mono ?_); rintro e uA1 ⟨rfl, huA1⟩; have KA1 := Lib.hid (KA0.out.call huA1); obtain ⟨c4, c5, b4, b5, a4, a5, -⟩ := KA1.out.mem.cells) | (go_at_call 9; (with_reducible refine (KC.out _).mono ?_); rintro e uA2 ⟨rfl, huA2⟩; have KA2 := Lib.hid (KA1.out.call huA2); obtain ⟨c6, c7, b6, b7, a6, a7, -⟩ := KA2.out.mem.cells))
              clear c0 c1 c2 c3 c4 c5 b0 b1 b2 b3 b4 b5 a0 a1 a2 a3 a4 a5
              clear c6 c7 b6 b7 a6 a7
              obtain ⟨c0, c1, b0, b1, a0, a1, -⟩ := KA2.out.mem.cells
              go_upto_region 9 with (first | (go_at_call 10; (with_reducible refine (CAB.out _).mono ?_); rintro e w2 ⟨rfl, hb2⟩))
              clear c0 c1 b0 b1 a0 a1
              have H2 := Lib.hid (KA2.out.call hb2)
              clear hb2
              obtain ⟨c0, c1, b0, b1, a0, a1, -⟩ := H2.out.mem.cells
              go_upto_region 11 with (first | (go_at_call 10; (with_reducible refine (CBA.out _).mono ?_); rintro e w3 ⟨rfl, hb3⟩))
              clear c0 c1 b0 b1 a0 a1
              have H3 := Lib.hid (H2.out.call hb3)
              clear hb3
              obtain ⟨c0, c1, b0, b1, a0, a1, -⟩ := H3.out.mem.cells
              go_upto_region 13 with (first | (go_at_call 11; (with_reducible refine (CSM.out _).mono ?_); rintro e w4 ⟨rfl, hb4⟩))
              clear c0 c1 b0 b1 a0 a1
              have H4 := Lib.hid (H3.out.call hb4)
              clear hb4
              obtain ⟨c0, c1, b0, b1, a0, a1, -⟩ := H4.out.mem.cells
              go_upto_region 14 with (first | (go_at_call 12; (with_reducible refine (CR.out _).mono ?_); rintro e w5 ⟨rfl, hb5⟩; dsimp only))
              clear c0 c1 b0 b1 a0 a1
              have H5 := Lib.hid ((H4.out.call hb5).alloc (A) (9))
              clear hb5
              obtain ⟨v5, hv5⟩ : ∃ V, w5.alloc (box (A) (9)) = V := ⟨_, rfl⟩
              rw [hv5] at H5 ⊢
              clear hv5
              obtain ⟨l0, l1, c0, c1, b0, b1, a0, a1, -⟩ := H5.out.mem.cells
              have HS : Hid (∀ wx : World, Below v5.heap.size v5 wx → Below v5.heap.size v5 wx ∧ wx.cell? ⟨w5.heap.size, 0, none⟩ = some (.int .i64 (A)) ∧ wx.cell? ⟨w5.heap.size, 1, none⟩ = some (.int .i64 (9)) ∧ wx.cell? ⟨w.heap.size + 2, 0, none⟩ = some (.int .i64 (c)) ∧ wx.cell? ⟨w.heap.size + 2, 1, none⟩ = some (.int .i64 (r)) ∧ wx.cell? ⟨w.heap.size + 1, 0, none⟩ = some (.int .i64 (b)) ∧ wx.cell? ⟨w.heap.size + 1, 1, none⟩ = some (.int .i64 (t)) ∧ wx.cell? ⟨w.heap.size, 0, none⟩ = some (.int .i64 (a)) ∧ wx.cell? ⟨w.heap.size, 1, none⟩ = some (.int .i64 (s))) := Lib.hid fun wx hb => by
                obtain ⟨l0, l1, c0, c1, b0, b1, a0, a1, -⟩ := (H5.out.call hb).mem.cells
                exact ⟨hb, l0, l1, c0, c1, b0, b1, a0, a1⟩
              have hS0 := HS.out _ (Below.refl _ _)
              have hB0 := hS0.1
              go_region_held3 (fun wx => Below v5.heap.size v5 wx ∧ wx.cell? ⟨w5.heap.size, 0, none⟩ = some (.int .i64 (A)) ∧ wx.cell? ⟨w5.heap.size, 1, none⟩ = some (.int .i64 (9)) ∧ wx.cell? ⟨w.heap.size + 2, 0, none⟩ = some (.int .i64 (c)) ∧ wx.cell? ⟨w.heap.size + 2, 1, none⟩ = some (.int .i64 (r)) ∧ wx.cell? ⟨w.heap.size + 1, 0, none⟩ = some (.int .i64 (b)) ∧ wx.cell? ⟨w.heap.size + 1, 1, none⟩ = some (.int .i64 (t)) ∧ wx.cell? ⟨w.heap.size, 0, none⟩ = some (.int .i64 (a)) ∧ wx.cell? ⟨w.heap.size, 1, none⟩ = some (.int .i64 (s)))
                (first | exact HS.out _ (by assumption) | exact HS.out _ (Below.drew (by assumption)))
                (first
                | (go_at_call 11; (with_reducible refine (CS9.out _).mono ?_); rintro e wy0 ⟨rfl, hby0⟩; (have hT0 : Below v5.heap.size v5 wy0 := by first | exact up_call (by assumption) hby0 | exact up_call (Below.drew (by assumption)) hby0))
                | (go_at_call 10; (with_reducible refine (CL9.out _).mono ?_); rintro e wy1 ⟨rfl, hby1⟩; (have hT1 : Below v5.heap.size v5 wy1 := by first | exact up_call (by assumption) hby1 | exact up_call (Below.drew (by assumption)) hby1))
                | (go_at_call 10; (with_reducible refine (CAB.out _).mono ?_); rintro e wy2 ⟨rfl, hby2⟩; (have hT2 : Below v5.heap.size v5 wy2 := by first | exact up_call (by assumption) hby2 | exact up_call (Below.drew (by assumption)) hby2)))
              have KH := Lib.hid (H5.out.call hT2)
              obtain ⟨l2, l3, c2, c3, b2, b3, a2, a3, -⟩ := KH.out.mem.cells
              clear l0 l1 c0 c1 b0 b1 a0 a1
              go_wp2_with (first | (go_at_call 10; (with_reducible refine (CAB.out _).mono ?_); rintro e uC0 ⟨rfl, huC0⟩; have KC0 := Lib.hid (KH.out.call huC0); obtain ⟨l4, l5, c4, c5, b4, b5, a4, a5, -⟩ := KC0.out.mem.cells) | (go_at_call 10; (with_reducible refine (CBC.out _).mono ?_); rintro e uC1 ⟨rfl, huC1⟩; have KC1 := Lib.hid (KC0.out.call huC1); obtain ⟨l6, l7, c6, c7, b6, b7, a6, a7, -⟩ := KC1.out.mem.cells))
              go_ret
              exact ⟨rfl, KC1.out.below⟩
          · have g1 : ¬ va < vb := by omega
            have g2 : ¬ va = vb := by omega
            simp only [h, decide_true] at CBA
            simp only [g1, decide_false] at CAB CL9
            simp only [g2, decide_false] at CSM
            go_enter Try.func3, Try.ntmps3
            go_upto_region 2 with (first | (go_at_call 8; (with_reducible refine (CH.out _).mono ?_); rintro e w1 ⟨rfl, hb1⟩))
            have H1 := Lib.hid (H0.out.call hb1)
            clear hb1
            obtain ⟨c0, c1, b0, b1, a0, a1, -⟩ := H1.out.mem.cells
            go_upto_region 7 with (first | (go_at_call 9; (with_reducible refine (KA.out _).mono ?_); rintro e uA0 ⟨rfl, huA0⟩; have KA0 := Lib.hid (H1.out.call huA0); obtain ⟨c2, c3, b2, b3, a2, a3, -⟩ := KA0.out.mem.cells) | (go_at_call 9; (with_reducible refine (KB.out _).mono ?_); rintro e uA1 ⟨rfl, huA1⟩; have KA1 := Lib.hid (KA0.out.call huA1); obtain ⟨c4, c5, b4, b5, a4, a5, -⟩ := KA1.out.mem.cells) | (go_at_call 9; (with_reducible refine (KC.out _).mono ?_); rintro e uA2 ⟨rfl, huA2⟩; have KA2 := Lib.hid (KA1.out.call huA2); obtain ⟨c6, c7, b6, b7, a6, a7, -⟩ := KA2.out.mem.cells))
            clear c0 c1 c2 c3 c4 c5 b0 b1 b2 b3 b4 b5 a0 a1 a2 a3 a4 a5
            clear c6 c7 b6 b7 a6 a7
            obtain ⟨c0, c1, b0, b1, a0, a1, -⟩ := KA2.out.mem.cells
            go_upto_region 9 with (first | (go_at_call 10; (with_reducible refine (CAB.out _).mono ?_); rintro e w2 ⟨rfl, hb2⟩))
            clear c0 c1 b0 b1 a0 a1
            have H2 := Lib.hid (KA2.out.call hb2)
            clear hb2
            obtain ⟨c0, c1, b0, b1, a0, a1, -⟩ := H2.out.mem.cells
            go_upto_region 11 with (first | (go_at_call 10; (with_reducible refine (CBA.out _).mono ?_); rintro e w3 ⟨rfl, hb3⟩))
            clear c0 c1 b0 b1 a0 a1
            have H3 := Lib.hid (H2.out.call hb3)
            clear hb3
            obtain ⟨c0, c1, b0, b1, a0, a1, -⟩ := H3.out.mem.cells
            go_upto_region 13 with (first | (go_at_call 11; (with_reducible refine (CSM.out _).mono ?_); rintro e w4 ⟨rfl, hb4⟩))
            clear c0 c1 b0 b1 a0 a1
            have H4 := Lib.hid (H3.out.call hb4)
            clear hb4
            obtain ⟨c0, c1, b0, b1, a0, a1, -⟩ := H4.out.mem.cells
            go_upto_region 14 with (first | (go_at_call 12; (with_reducible refine (CR.out _).mono ?_); rintro e w5 ⟨rfl, hb5⟩; dsimp only))
            clear c0 c1 b0 b1 a0 a1
            have H5 := Lib.hid ((H4.out.call hb5).alloc (A) (9))
            clear hb5
            obtain ⟨v5, hv5⟩ : ∃ V, w5.alloc (box (A) (9)) = V := ⟨_, rfl⟩
            rw [hv5] at H5 ⊢
            clear hv5
            obtain ⟨l0, l1, c0, c1, b0, b1, a0, a1, -⟩ := H5.out.mem.cells
            have HS : Hid (∀ wx : World, Below v5.heap.size v5 wx → Below v5.heap.size v5 wx ∧ wx.cell? ⟨w5.heap.size, 0, none⟩ = some (.int .i64 (A)) ∧ wx.cell? ⟨w5.heap.size, 1, none⟩ = some (.int .i64 (9)) ∧ wx.cell? ⟨w.heap.size + 2, 0, none⟩ = some (.int .i64 (c)) ∧ wx.cell? ⟨w.heap.size + 2, 1, none⟩ = some (.int .i64 (r)) ∧ wx.cell? ⟨w.heap.size + 1, 0, none⟩ = some (.int .i64 (b)) ∧ wx.cell? ⟨w.heap.size + 1, 1, none⟩ = some (.int .i64 (t)) ∧ wx.cell? ⟨w.heap.size, 0, none⟩ = some (.int .i64 (a)) ∧ wx.cell? ⟨w.heap.size, 1, none⟩ = some (.int .i64 (s))) := Lib.hid fun wx hb => by
              obtain ⟨l0, l1, c0, c1, b0, b1, a0, a1, -⟩ := (H5.out.call hb).mem.cells
              exact ⟨hb, l0, l1, c0, c1, b0, b1, a0, a1⟩
            have hS0 := HS.out _ (Below.refl _ _)
            have hB0 := hS0.1
            go_region_held3 (fun wx => Below v5.heap.size v5 wx ∧ wx.cell? ⟨w5.heap.size, 0, none⟩ = some (.int .i64 (A)) ∧ wx.cell? ⟨w5.heap.size, 1, none⟩ = some (.int .i64 (9)) ∧ wx.cell? ⟨w.heap.size + 2, 0, none⟩ = some (.int .i64 (c)) ∧ wx.cell? ⟨w.heap.size + 2, 1, none⟩ = some (.int .i64 (r)) ∧ wx.cell? ⟨w.heap.size + 1, 0, none⟩ = some (.int .i64 (b)) ∧ wx.cell? ⟨w.heap.size + 1, 1, none⟩ = some (.int .i64 (t)) ∧ wx.cell? ⟨w.heap.size, 0, none⟩ = some (.int .i64 (a)) ∧ wx.cell? ⟨w.heap.size, 1, none⟩ = some (.int .i64 (s)))
              (first | exact HS.out _ (by assumption) | exact HS.out _ (Below.drew (by assumption)))
              (first
              | (go_at_call 11; (with_reducible refine (CS9.out _).mono ?_); rintro e wy0 ⟨rfl, hby0⟩; (have hT0 : Below v5.heap.size v5 wy0 := by first | exact up_call (by assumption) hby0 | exact up_call (Below.drew (by assumption)) hby0))
              | (go_at_call 10; (with_reducible refine (CL9.out _).mono ?_); rintro e wy1 ⟨rfl, hby1⟩; (have hT1 : Below v5.heap.size v5 wy1 := by first | exact up_call (by assumption) hby1 | exact up_call (Below.drew (by assumption)) hby1))
              | (go_at_call 10; (with_reducible refine (CAB.out _).mono ?_); rintro e wy2 ⟨rfl, hby2⟩; (have hT2 : Below v5.heap.size v5 wy2 := by first | exact up_call (by assumption) hby2 | exact up_call (Below.drew (by assumption)) hby2)))
            have KH := Lib.hid (H5.out.call hT2)
            obtain ⟨l2, l3, c2, c3, b2, b3, a2, a3, -⟩ := KH.out.mem.cells
            clear l0 l1 c0 c1 b0 b1 a0 a1
            go_wp2_with (first | (go_at_call 10; (with_reducible refine (CAB.out _).mono ?_); rintro e uC0 ⟨rfl, huC0⟩; have KC0 := Lib.hid (KH.out.call huC0); obtain ⟨l4, l5, c4, c5, b4, b5, a4, a5, -⟩ := KC0.out.mem.cells))
            go_ret
            exact ⟨rfl, KC0.out.below⟩
          · have g1 : ¬ va < vb := by omega
            have g2 : ¬ vb < va := by omega
            simp only [h, decide_true] at CSM
            simp only [g1, decide_false] at CAB CL9
            simp only [g2, decide_false] at CBA
            go_enter Try.func3, Try.ntmps3
            go_upto_region 2 with (first | (go_at_call 8; (with_reducible refine (CH.out _).mono ?_); rintro e w1 ⟨rfl, hb1⟩))
            have H1 := Lib.hid (H0.out.call hb1)
            clear hb1
            obtain ⟨c0, c1, b0, b1, a0, a1, -⟩ := H1.out.mem.cells
            go_upto_region 7 with (first | (go_at_call 9; (with_reducible refine (KA.out _).mono ?_); rintro e uA0 ⟨rfl, huA0⟩; have KA0 := Lib.hid (H1.out.call huA0); obtain ⟨c2, c3, b2, b3, a2, a3, -⟩ := KA0.out.mem.cells) | (go_at_call 9; (with_reducible refine (KB.out _).mono ?_); rintro e uA1 ⟨rfl, huA1⟩; have KA1 := Lib.hid (KA0.out.call huA1); obtain ⟨c4, c5, b4, b5, a4, a5, -⟩ := KA1.out.mem.cells) | (go_at_call 9; (with_reducible refine (KC.out _).mono ?_); rintro e uA2 ⟨rfl, huA2⟩; have KA2 := Lib.hid (KA1.out.call huA2); obtain ⟨c6, c7, b6, b7, a6, a7, -⟩ := KA2.out.mem.cells))
            clear c0 c1 c2 c3 c4 c5 b0 b1 b2 b3 b4 b5 a0 a1 a2 a3 a4 a5
            clear c6 c7 b6 b7 a6 a7
            obtain ⟨c0, c1, b0, b1, a0, a1, -⟩ := KA2.out.mem.cells
            go_upto_region 9 with (first | (go_at_call 10; (with_reducible refine (CAB.out _).mono ?_); rintro e w2 ⟨rfl, hb2⟩))
            clear c0 c1 b0 b1 a0 a1
            have H2 := Lib.hid (KA2.out.call hb2)
            clear hb2
            obtain ⟨c0, c1, b0, b1, a0, a1, -⟩ := H2.out.mem.cells
            go_upto_region 11 with (first | (go_at_call 10; (with_reducible refine (CBA.out _).mono ?_); rintro e w3 ⟨rfl, hb3⟩))
            clear c0 c1 b0 b1 a0 a1
            have H3 := Lib.hid (H2.out.call hb3)
            clear hb3
            obtain ⟨c0, c1, b0, b1, a0, a1, -⟩ := H3.out.mem.cells
            go_upto_region 13 with (first | (go_at_call 11; (with_reducible refine (CSM.out _).mono ?_); rintro e w4 ⟨rfl, hb4⟩))
            clear c0 c1 b0 b1 a0 a1
            have H4 := Lib.hid (H3.out.call hb4)
            clear hb4
            obtain ⟨c0, c1, b0, b1, a0, a1, -⟩ := H4.out.mem.cells
            go_upto_region 14 with (first | (go_at_call 12; (with_reducible refine (CR.out _).mono ?_); rintro e w5 ⟨rfl, hb5⟩; dsimp only))
            clear c0 c1 b0 b1 a0 a1
            have H5 := Lib.hid ((H4.out.call hb5).alloc (A) (9))
            clear hb5
            obtain ⟨v5, hv5⟩ : ∃ V, w5.alloc (box (A) (9)) = V := ⟨_, rfl⟩
            rw [hv5] at H5 ⊢
            clear hv5
            obtain ⟨l0, l1, c0, c1, b0, b1, a0, a1, -⟩ := H5.out.mem.cells
            have HS : Hid (∀ wx : World, Below v5.heap.size v5 wx → Below v5.heap.size v5 wx ∧ wx.cell? ⟨w5.heap.size, 0, none⟩ = some (.int .i64 (A)) ∧ wx.cell? ⟨w5.heap.size, 1, none⟩ = some (.int .i64 (9)) ∧ wx.cell? ⟨w.heap.size + 2, 0, none⟩ = some (.int .i64 (c)) ∧ wx.cell? ⟨w.heap.size + 2, 1, none⟩ = some (.int .i64 (r)) ∧ wx.cell? ⟨w.heap.size + 1, 0, none⟩ = some (.int .i64 (b)) ∧ wx.cell? ⟨w.heap.size + 1, 1, none⟩ = some (.int .i64 (t)) ∧ wx.cell? ⟨w.heap.size, 0, none⟩ = some (.int .i64 (a)) ∧ wx.cell? ⟨w.heap.size, 1, none⟩ = some (.int .i64 (s))) := Lib.hid fun wx hb => by
              obtain ⟨l0, l1, c0, c1, b0, b1, a0, a1, -⟩ := (H5.out.call hb).mem.cells
              exact ⟨hb, l0, l1, c0, c1, b0, b1, a0, a1⟩
            have hS0 := HS.out _ (Below.refl _ _)
            have hB0 := hS0.1
            go_region_held3 (fun wx => Below v5.heap.size v5 wx ∧ wx.cell? ⟨w5.heap.size, 0, none⟩ = some (.int .i64 (A)) ∧ wx.cell? ⟨w5.heap.size, 1, none⟩ = some (.int .i64 (9)) ∧ wx.cell? ⟨w.heap.size + 2, 0, none⟩ = some (.int .i64 (c)) ∧ wx.cell? ⟨w.heap.size + 2, 1, none⟩ = some (.int .i64 (r)) ∧ wx.cell? ⟨w.heap.size + 1, 0, none⟩ = some (.int .i64 (b)) ∧ wx.cell? ⟨w.heap.size + 1, 1, none⟩ = some (.int .i64 (t)) ∧ wx.cell? ⟨w.heap.size, 0, none⟩ = some (.int .i64 (a)) ∧ wx.cell? ⟨w.heap.size, 1, none⟩ = some (.int .i64 (s)))
              (first | exact HS.out _ (by assumption) | exact HS.out _ (Below.drew (by assumption)))
              (first
              | (go_at_call 11; (with_reducible refine (CS9.out _).mono ?_); rintro e wy0 ⟨rfl, hby0⟩; (have hT0 : Below v5.heap.size v5 wy0 := by first | exact up_call (by assumption) hby0 | exact up_call (Below.drew (by assumption)) hby0))
              | (go_at_call 10; (with_reducible refine (CL9.out _).mono ?_); rintro e wy1 ⟨rfl, hby1⟩; (have hT1 : Below v5.heap.size v5 wy1 := by first | exact up_call (by assumption) hby1 | exact up_call (Below.drew (by assumption)) hby1))
              | (go_at_call 10; (with_reducible refine (CAB.out _).mono ?_); rintro e wy2 ⟨rfl, hby2⟩; (have hT2 : Below v5.heap.size v5 wy2 := by first | exact up_call (by assumption) hby2 | exact up_call (Below.drew (by assumption)) hby2)))
            have KH := Lib.hid (H5.out.call hT2)
            obtain ⟨l2, l3, c2, c3, b2, b3, a2, a3, -⟩ := KH.out.mem.cells
            clear l0 l1 c0 c1 b0 b1 a0 a1
            go_wp2_with (first | (go_at_call 10; (with_reducible refine (CAB.out _).mono ?_); rintro e uC0 ⟨rfl, huC0⟩; have KC0 := Lib.hid (KH.out.call huC0); obtain ⟨l4, l5, c4, c5, b4, b5, a4, a5, -⟩ := KC0.out.mem.cells))
            go_ret
            exact ⟨rfl, KC0.out.below⟩
        · simp only [roundV_no h9] at CR
          generalize (roundF a s 9 1 : Int) = z9 at *
          clear h9 ra rb rc'
          generalize val a s = va at *
          generalize val b t = vb at *
          generalize val c r = vc at *
          rcases (show va < vb ∨ vb < va ∨ va = vb by omega) with h | h | h
          · have g1 : ¬ vb < va := by omega
            have g2 : ¬ va = vb := by omega
            simp only [h, decide_true] at CAB
            simp only [g1, decide_false] at CBA
            simp only [g2, decide_false] at CSM
            by_cases hb : vb < vc
            · have g3 : va < vc := by omega
              simp only [hb, decide_true] at CBC
              simp only [g3, decide_true] at CAC
              go_enter Try.func3, Try.ntmps3
              go_upto_region 2 with (first | (go_at_call 8; (with_reducible refine (CH.out _).mono ?_); rintro e w1 ⟨rfl, hb1⟩))
              have H1 := Lib.hid (H0.out.call hb1)
              clear hb1
              obtain ⟨c0, c1, b0, b1, a0, a1, -⟩ := H1.out.mem.cells
              go_upto_region 7 with (first | (go_at_call 9; (with_reducible refine (KA.out _).mono ?_); rintro e uA0 ⟨rfl, huA0⟩; have KA0 := Lib.hid (H1.out.call huA0); obtain ⟨c2, c3, b2, b3, a2, a3, -⟩ := KA0.out.mem.cells) | (go_at_call 9; (with_reducible refine (KB.out _).mono ?_); rintro e uA1 ⟨rfl, huA1⟩; have KA1 := Lib.hid (KA0.out.call huA1); obtain ⟨c4, c5, b4, b5, a4, a5, -⟩ := KA1.out.mem.cells) | (go_at_call 9; (with_reducible refine (KC.out _).mono ?_); rintro e uA2 ⟨rfl, huA2⟩; have KA2 := Lib.hid (KA1.out.call huA2); obtain ⟨c6, c7, b6, b7, a6, a7, -⟩ := KA2.out.mem.cells))
              clear c0 c1 c2 c3 c4 c5 b0 b1 b2 b3 b4 b5 a0 a1 a2 a3 a4 a5
              clear c6 c7 b6 b7 a6 a7
              obtain ⟨c0, c1, b0, b1, a0, a1, -⟩ := KA2.out.mem.cells
              go_upto_region 9 with (first | (go_at_call 10; (with_reducible refine (CAB.out _).mono ?_); rintro e w2 ⟨rfl, hb2⟩))
              clear c0 c1 b0 b1 a0 a1
              have H2 := Lib.hid (KA2.out.call hb2)
              clear hb2
              obtain ⟨c0, c1, b0, b1, a0, a1, -⟩ := H2.out.mem.cells
              go_upto_region 11 with (first | (go_at_call 10; (with_reducible refine (CBA.out _).mono ?_); rintro e w3 ⟨rfl, hb3⟩))
              clear c0 c1 b0 b1 a0 a1
              have H3 := Lib.hid (H2.out.call hb3)
              clear hb3
              obtain ⟨c0, c1, b0, b1, a0, a1, -⟩ := H3.out.mem.cells
              go_upto_region 13 with (first | (go_at_call 11; (with_reducible refine (CSM.out _).mono ?_); rintro e w4 ⟨rfl, hb4⟩))
              clear c0 c1 b0 b1 a0 a1
              have H4 := Lib.hid (H3.out.call hb4)
              clear hb4
              obtain ⟨c0, c1, b0, b1, a0, a1, -⟩ := H4.out.mem.cells
              go_upto_region 14 with (first | (go_at_call 12; (with_reducible refine (CR.out _).mono ?_); rintro e w5 ⟨rfl, hb5⟩; dsimp only))
              clear c0 c1 b0 b1 a0 a1
              have H5 := Lib.hid ((H4.out.call hb5).alloc (0) (0))
              clear hb5
              obtain ⟨v5, hv5⟩ : ∃ V, w5.alloc (box (0) (0)) = V := ⟨_, rfl⟩
              rw [hv5] at H5 ⊢
              clear hv5
              obtain ⟨l0, l1, c0, c1, b0, b1, a0, a1, -⟩ := H5.out.mem.cells
              go_quiet (fail)
              have KH := Lib.hid (H5.out.call (up_drewN (Below.refl _ _) nq))
              obtain ⟨l2, l3, c2, c3, b2, b3, a2, a3, -⟩ := KH.out.mem.cells
              clear l0 l1 c0 c1 b0 b1 a0 a1
              go_wp2_with (first | (go_at_call 10; (with_reducible refine (CAB.out _).mono ?_); rintro e uC0 ⟨rfl, huC0⟩; have KC0 := Lib.hid (KH.out.call huC0); obtain ⟨l4, l5, c4, c5, b4, b5, a4, a5, -⟩ := KC0.out.mem.cells) | (go_at_call 10; (with_reducible refine (CBC.out _).mono ?_); rintro e uC1 ⟨rfl, huC1⟩; have KC1 := Lib.hid (KC0.out.call huC1); obtain ⟨l6, l7, c6, c7, b6, b7, a6, a7, -⟩ := KC1.out.mem.cells) | (go_at_call 10; (with_reducible refine (CAC.out _).mono ?_); rintro e uC2 ⟨rfl, huC2⟩; have KC2 := Lib.hid (KC1.out.call huC2); obtain ⟨l8, l9, c8, c9, b8, b9, a8, a9, -⟩ := KC2.out.mem.cells))
              go_ret
              exact ⟨rfl, KC2.out.below⟩
            · simp only [hb, decide_false] at CBC
              go_enter Try.func3, Try.ntmps3
              go_upto_region 2 with (first | (go_at_call 8; (with_reducible refine (CH.out _).mono ?_); rintro e w1 ⟨rfl, hb1⟩))
              have H1 := Lib.hid (H0.out.call hb1)
              clear hb1
              obtain ⟨c0, c1, b0, b1, a0, a1, -⟩ := H1.out.mem.cells
              go_upto_region 7 with (first | (go_at_call 9; (with_reducible refine (KA.out _).mono ?_); rintro e uA0 ⟨rfl, huA0⟩; have KA0 := Lib.hid (H1.out.call huA0); obtain ⟨c2, c3, b2, b3, a2, a3, -⟩ := KA0.out.mem.cells) | (go_at_call 9; (with_reducible refine (KB.out _).mono ?_); rintro e uA1 ⟨rfl, huA1⟩; have KA1 := Lib.hid (KA0.out.call huA1); obtain ⟨c4, c5, b4, b5, a4, a5, -⟩ := KA1.out.mem.cells) | (go_at_call 9; (with_reducible refine (KC.out _).mono ?_); rintro e uA2 ⟨rfl, huA2⟩; have KA2 := Lib.hid (KA1.out.call huA2); obtain ⟨c6, c7, b6, b7, a6, a7, -⟩ := KA2.out.mem.cells))
              clear c0 c1 c2 c3 c4 c5 b0 b1 b2 b3 b4 b5 a0 a1 a2 a3 a4 a5
              clear c6 c7 b6 b7 a6 a7
              obtain ⟨c0, c1, b0, b1, a0, a1, -⟩ := KA2.out.mem.cells
              go_upto_region 9 with (first | (go_at_call 10; (with_reducible refine (CAB.out _).mono ?_); rintro e w2 ⟨rfl, hb2⟩))
              clear c0 c1 b0 b1 a0 a1
              have H2 := Lib.hid (KA2.out.call hb2)
              clear hb2
              obtain ⟨c0, c1, b0, b1, a0, a1, -⟩ := H2.out.mem.cells
              go_upto_region 11 with (first | (go_at_call 10; (with_reducible refine (CBA.out _).mono ?_); rintro e w3 ⟨rfl, hb3⟩))
              clear c0 c1 b0 b1 a0 a1
              have H3 := Lib.hid (H2.out.call hb3)
              clear hb3
              obtain ⟨c0, c1, b0, b1, a0, a1, -⟩ := H3.out.mem.cells
              go_upto_region 13 with (first | (go_at_call 11; (with_reducible refine (CSM.out _).mono ?_); rintro e w4 ⟨rfl, hb4⟩))
              clear c0 c1 b0 b1 a0 a1
              have H4 := Lib.hid (H3.out.call hb4)
              clear hb4
              obtain ⟨c0, c1, b0, b1, a0, a1, -⟩ := H4.out.mem.cells
              go_upto_region 14 with (first | (go_at_call 12; (with_reducible refine (CR.out _).mono ?_); rintro e w5 ⟨rfl, hb5⟩; dsimp only))
              clear c0 c1 b0 b1 a0 a1
              have H5 := Lib.hid ((H4.out.call hb5).alloc (0) (0))
              clear hb5
              obtain ⟨v5, hv5⟩ : ∃ V, w5.alloc (box (0) (0)) = V := ⟨_, rfl⟩
              rw [hv5] at H5 ⊢
              clear hv5
              obtain ⟨l0, l1, c0, c1, b0, b1, a0, a1, -⟩ := H5.out.mem.cells
              go_quiet (fail)
              have KH := Lib.hid (H5.out.call (up_drewN (Below.refl _ _) nq))
              obtain ⟨l2, l3, c2, c3, b2, b3, a2, a3, -⟩ := KH.out.mem.cells
              clear l0 l1 c0 c1 b0 b1 a0 a1
              go_wp2_with (first | (go_at_call 10; (with_reducible refine (CAB.out _).mono ?_); rintro e uC0 ⟨rfl, huC0⟩; have KC0 := Lib.hid (KH.out.call huC0); obtain ⟨l4, l5, c4, c5, b4, b5, a4, a5, -⟩ := KC0.out.mem.cells) | (go_at_call 10; (with_reducible refine (CBC.out _).mono ?_); rintro e uC1 ⟨rfl, huC1⟩; have KC1 := Lib.hid (KC0.out.call huC1); obtain ⟨l6, l7, c6, c7, b6, b7, a6, a7, -⟩ := KC1.out.mem.cells))
              go_ret
              exact ⟨rfl, KC1.out.below⟩
          · have g1 : ¬ va < vb := by omega
            have g2 : ¬ va = vb := by omega
            simp only [h, decide_true] at CBA
            simp only [g1, decide_false] at CAB
            simp only [g2, decide_false] at CSM
            go_enter Try.func3, Try.ntmps3
            go_upto_region 2 with (first | (go_at_call 8; (with_reducible refine (CH.out _).mono ?_); rintro e w1 ⟨rfl, hb1⟩))
            have H1 := Lib.hid (H0.out.call hb1)
            clear hb1
            obtain ⟨c0, c1, b0, b1, a0, a1, -⟩ := H1.out.mem.cells
            go_upto_region 7 with (first | (go_at_call 9; (with_reducible refine (KA.out _).mono ?_); rintro e uA0 ⟨rfl, huA0⟩; have KA0 := Lib.hid (H1.out.call huA0); obtain ⟨c2, c3, b2, b3, a2, a3, -⟩ := KA0.out.mem.cells) | (go_at_call 9; (with_reducible refine (KB.out _).mono ?_); rintro e uA1 ⟨rfl, huA1⟩; have KA1 := Lib.hid (KA0.out.call huA1); obtain ⟨c4, c5, b4, b5, a4, a5, -⟩ := KA1.out.mem.cells) | (go_at_call 9; (with_reducible refine (KC.out _).mono ?_); rintro e uA2 ⟨rfl, huA2⟩; have KA2 := Lib.hid (KA1.out.call huA2); obtain ⟨c6, c7, b6, b7, a6, a7, -⟩ := KA2.out.mem.cells))
            clear c0 c1 c2 c3 c4 c5 b0 b1 b2 b3 b4 b5 a0 a1 a2 a3 a4 a5
            clear c6 c7 b6 b7 a6 a7
            obtain ⟨c0, c1, b0, b1, a0, a1, -⟩ := KA2.out.mem.cells
            go_upto_region 9 with (first | (go_at_call 10; (with_reducible refine (CAB.out _).mono ?_); rintro e w2 ⟨rfl, hb2⟩))
            clear c0 c1 b0 b1 a0 a1
            have H2 := Lib.hid (KA2.out.call hb2)
            clear hb2
            obtain ⟨c0, c1, b0, b1, a0, a1, -⟩ := H2.out.mem.cells
            go_upto_region 11 with (first | (go_at_call 10; (with_reducible refine (CBA.out _).mono ?_); rintro e w3 ⟨rfl, hb3⟩))
            clear c0 c1 b0 b1 a0 a1
            have H3 := Lib.hid (H2.out.call hb3)
            clear hb3
            obtain ⟨c0, c1, b0, b1, a0, a1, -⟩ := H3.out.mem.cells
            go_upto_region 13 with (first | (go_at_call 11; (with_reducible refine (CSM.out _).mono ?_); rintro e w4 ⟨rfl, hb4⟩))
            clear c0 c1 b0 b1 a0 a1
            have H4 := Lib.hid (H3.out.call hb4)
            clear hb4
            obtain ⟨c0, c1, b0, b1, a0, a1, -⟩ := H4.out.mem.cells
            go_upto_region 14 with (first | (go_at_call 12; (with_reducible refine (CR.out _).mono ?_); rintro e w5 ⟨rfl, hb5⟩; dsimp only))
            clear c0 c1 b0 b1 a0 a1
            have H5 := Lib.hid ((H4.out.call hb5).alloc (0) (0))
            clear hb5
            obtain ⟨v5, hv5⟩ : ∃ V, w5.alloc (box (0) (0)) = V := ⟨_, rfl⟩
            rw [hv5] at H5 ⊢
            clear hv5
            obtain ⟨l0, l1, c0, c1, b0, b1, a0, a1, -⟩ := H5.out.mem.cells
            go_quiet (fail)
            have KH := Lib.hid (H5.out.call (up_drewN (Below.refl _ _) nq))
            obtain ⟨l2, l3, c2, c3, b2, b3, a2, a3, -⟩ := KH.out.mem.cells
            clear l0 l1 c0 c1 b0 b1 a0 a1
            go_wp2_with (first | (go_at_call 10; (with_reducible refine (CAB.out _).mono ?_); rintro e uC0 ⟨rfl, huC0⟩; have KC0 := Lib.hid (KH.out.call huC0); obtain ⟨l4, l5, c4, c5, b4, b5, a4, a5, -⟩ := KC0.out.mem.cells))
            go_ret
            exact ⟨rfl, KC0.out.below⟩
          · have g1 : ¬ va < vb := by omega
            have g2 : ¬ vb < va := by omega
            simp only [h, decide_true] at CSM
            simp only [g1, decide_false] at CAB
            simp only [g2, decide_false] at CBA
            go_enter Try.func3, Try.ntmps3
            go_upto_region 2 with (first | (go_at_call 8; (with_reducible refine (CH.out _).mono ?_); rintro e w1 ⟨rfl, hb1⟩))
            have H1 := Lib.hid (H0.out.call hb1)
            clear hb1
            obtain ⟨c0, c1, b0, b1, a0, a1, -⟩ := H1.out.mem.cells
            go_upto_region 7 with (first | (go_at_call 9; (with_reducible refine (KA.out _).mono ?_); rintro e uA0 ⟨rfl, huA0⟩; have KA0 := Lib.hid (H1.out.call huA0); obtain ⟨c2, c3, b2, b3, a2, a3, -⟩ := KA0.out.mem.cells) | (go_at_call 9; (with_reducible refine (KB.out _).mono ?_); rintro e uA1 ⟨rfl, huA1⟩; have KA1 := Lib.hid (KA0.out.call huA1); obtain ⟨c4, c5, b4, b5, a4, a5, -⟩ := KA1.out.mem.cells) | (go_at_call 9; (with_reducible refine (KC.out _).mono ?_); rintro e uA2 ⟨rfl, huA2⟩; have KA2 := Lib.hid (KA1.out.call huA2); obtain ⟨c6, c7, b6, b7, a6, a7, -⟩ := KA2.out.mem.cells))
            clear c0 c1 c2 c3 c4 c5 b0 b1 b2 b3 b4 b5 a0 a1 a2 a3 a4 a5
            clear c6 c7 b6 b7 a6 a7
            obtain ⟨c0, c1, b0, b1, a0, a1, -⟩ := KA2.out.mem.cells
            go_upto_region 9 with (first | (go_at_call 10; (with_reducible refine (CAB.out _).mono ?_); rintro e w2 ⟨rfl, hb2⟩))
            clear c0 c1 b0 b1 a0 a1
            have H2 := Lib.hid (KA2.out.call hb2)
            clear hb2
            obtain ⟨c0, c1, b0, b1, a0, a1, -⟩ := H2.out.mem.cells
            go_upto_region 11 with (first | (go_at_call 10; (with_reducible refine (CBA.out _).mono ?_); rintro e w3 ⟨rfl, hb3⟩))
            clear c0 c1 b0 b1 a0 a1
            have H3 := Lib.hid (H2.out.call hb3)
            clear hb3
            obtain ⟨c0, c1, b0, b1, a0, a1, -⟩ := H3.out.mem.cells
            go_upto_region 13 with (first | (go_at_call 11; (with_reducible refine (CSM.out _).mono ?_); rintro e w4 ⟨rfl, hb4⟩))
            clear c0 c1 b0 b1 a0 a1
            have H4 := Lib.hid (H3.out.call hb4)
            clear hb4
            obtain ⟨c0, c1, b0, b1, a0, a1, -⟩ := H4.out.mem.cells
            go_upto_region 14 with (first | (go_at_call 12; (with_reducible refine (CR.out _).mono ?_); rintro e w5 ⟨rfl, hb5⟩; dsimp only))
            clear c0 c1 b0 b1 a0 a1
            have H5 := Lib.hid ((H4.out.call hb5).alloc (0) (0))
            clear hb5
            obtain ⟨v5, hv5⟩ : ∃ V, w5.alloc (box (0) (0)) = V := ⟨_, rfl⟩
            rw [hv5] at H5 ⊢
            clear hv5
            obtain ⟨l0, l1, c0, c1, b0, b1, a0, a1, -⟩ := H5.out.mem.cells
            go_quiet (fail)
            have KH := Lib.hid (H5.out.call (up_drewN (Below.refl _ _) nq))
            obtain ⟨l2, l3, c2, c3, b2, b3, a2, a3, -⟩ := KH.out.mem.cells
            clear l0 l1 c0 c1 b0 b1 a0 a1
            go_wp2_with (first | (go_at_call 10; (with_reducible refine (CAB.out _).mono ?_); rintro e uC0 ⟨rfl, huC0⟩; have KC0 := Lib.hid (KH.out.call huC0); obtain ⟨l4, l5, c4, c5, b4, b5, a4, a5, -⟩ := KC0.out.mem.cells))
            go_ret
            exact ⟨rfl, KC0.out.below⟩
      · simp only [fault_no rc', errV_one] at KC
        by_cases h : val a s < val b t
        · simp only [h, decide_true] at CAB
          go_enter Try.func3, Try.ntmps3
          go_upto_region 2 with (first | (go_at_call 8; (with_reducible refine (CH.out _).mono ?_); rintro e w1 ⟨rfl, hb1⟩))
          have H1 := Lib.hid (H0.out.call hb1)
          clear hb1
          obtain ⟨c0, c1, b0, b1, a0, a1, -⟩ := H1.out.mem.cells
          go_upto_region 5 with (first | (go_at_call 9; (with_reducible refine (KA.out _).mono ?_); rintro e uA0 ⟨rfl, huA0⟩; have KA0 := Lib.hid (H1.out.call huA0); obtain ⟨c2, c3, b2, b3, a2, a3, -⟩ := KA0.out.mem.cells) | (go_at_call 9; (with_reducible refine (KB.out _).mono ?_); rintro e uA1 ⟨rfl, huA1⟩; have KA1 := Lib.hid (KA0.out.call huA1); obtain ⟨c4, c5, b4, b5, a4, a5, -⟩ := KA1.out.mem.cells) | (go_at_call 9; (with_reducible refine (KC.out _).mono ?_); rintro e uA2 ⟨rfl, huA2⟩; have KA2 := Lib.hid (KA1.out.call huA2); obtain ⟨c6, c7, b6, b7, a6, a7, -⟩ := KA2.out.mem.cells))
          go_wp2_with (first | (go_at_call 10; (with_reducible refine (CAB.out _).mono ?_); rintro e uB0 ⟨rfl, huB0⟩; have KB0 := Lib.hid (KA2.out.call huB0); obtain ⟨c10, c11, b10, b11, a10, a11, -⟩ := KB0.out.mem.cells) | (go_at_call 9; (with_reducible refine (KC.out _).mono ?_); rintro e uB1 ⟨rfl, huB1⟩; have KB1 := Lib.hid (KB0.out.call huB1); obtain ⟨c12, c13, b12, b13, a12, a13, -⟩ := KB1.out.mem.cells))
          go_ret
          exact ⟨rfl, KB1.out.below⟩
        · simp only [h, decide_false] at CAB
          go_enter Try.func3, Try.ntmps3
          go_upto_region 2 with (first | (go_at_call 8; (with_reducible refine (CH.out _).mono ?_); rintro e w1 ⟨rfl, hb1⟩))
          have H1 := Lib.hid (H0.out.call hb1)
          clear hb1
          obtain ⟨c0, c1, b0, b1, a0, a1, -⟩ := H1.out.mem.cells
          go_upto_region 5 with (first | (go_at_call 9; (with_reducible refine (KA.out _).mono ?_); rintro e uA0 ⟨rfl, huA0⟩; have KA0 := Lib.hid (H1.out.call huA0); obtain ⟨c2, c3, b2, b3, a2, a3, -⟩ := KA0.out.mem.cells) | (go_at_call 9; (with_reducible refine (KB.out _).mono ?_); rintro e uA1 ⟨rfl, huA1⟩; have KA1 := Lib.hid (KA0.out.call huA1); obtain ⟨c4, c5, b4, b5, a4, a5, -⟩ := KA1.out.mem.cells) | (go_at_call 9; (with_reducible refine (KC.out _).mono ?_); rintro e uA2 ⟨rfl, huA2⟩; have KA2 := Lib.hid (KA1.out.call huA2); obtain ⟨c6, c7, b6, b7, a6, a7, -⟩ := KA2.out.mem.cells))
          go_wp2_with (first | (go_at_call 10; (with_reducible refine (CAB.out _).mono ?_); rintro e uB0 ⟨rfl, huB0⟩; have KB0 := Lib.hid (KA2.out.call huB0); obtain ⟨c10, c11, b10, b11, a10, a11, -⟩ := KB0.out.mem.cells))
          go_ret
          exact ⟨rfl, KB0.out.below⟩
    · simp only [fault_no rb, errV_one] at KB
      simp only [less_wrong fun h => rb h.2] at CAB
      go_enter Try.func3, Try.ntmps3
      go_upto_region 2 with (first | (go_at_call 8; (with_reducible refine (CH.out _).mono ?_); rintro e w1 ⟨rfl, hb1⟩))
      have H1 := Lib.hid (H0.out.call hb1)
      clear hb1
      obtain ⟨c0, c1, b0, b1, a0, a1, -⟩ := H1.out.mem.cells
      go_upto_region 5 with (first | (go_at_call 9; (with_reducible refine (KA.out _).mono ?_); rintro e uA0 ⟨rfl, huA0⟩; have KA0 := Lib.hid (H1.out.call huA0); obtain ⟨c2, c3, b2, b3, a2, a3, -⟩ := KA0.out.mem.cells) | (go_at_call 9; (with_reducible refine (KB.out _).mono ?_); rintro e uA1 ⟨rfl, huA1⟩; have KA1 := Lib.hid (KA0.out.call huA1); obtain ⟨c4, c5, b4, b5, a4, a5, -⟩ := KA1.out.mem.cells))
      go_wp2_with (first | (go_at_call 10; (with_reducible refine (CAB.out _).mono ?_); rintro e uB0 ⟨rfl, huB0⟩; have KB0 := Lib.hid (KA1.out.call huB0); obtain ⟨c10, c11, b10, b11, a10, a11, -⟩ := KB0.out.mem.cells))
      go_ret
      exact ⟨rfl, KB0.out.below⟩
  · simp only [fault_no ra, errV_one] at KA
    simp only [less_wrong fun h => ra h.1] at CAB
    go_enter Try.func3, Try.ntmps3
    go_upto_region 2 with (first | (go_at_call 8; (with_reducible refine (CH.out _).mono ?_); rintro e w1 ⟨rfl, hb1⟩))
    have H1 := Lib.hid (H0.out.call hb1)
    clear hb1
    obtain ⟨c0, c1, b0, b1, a0, a1, -⟩ := H1.out.mem.cells
    go_upto_region 5 with (first | (go_at_call 9; (with_reducible refine (KA.out _).mono ?_); rintro e uA0 ⟨rfl, huA0⟩; have KA0 := Lib.hid (H1.out.call huA0); obtain ⟨c2, c3, b2, b3, a2, a3, -⟩ := KA0.out.mem.cells))
    go_wp2_with (first | (go_at_call 10; (with_reducible refine (CAB.out _).mono ?_); rintro e uB0 ⟨rfl, huB0⟩; have KB0 := Lib.hid (KA0.out.call huB0); obtain ⟨c10, c11, b10, b11, a10, a11, -⟩ := KB0.out.mem.cells))
    go_ret
    exact ⟨rfl, KB0.out.below⟩
end D
end Go.Proofs.Yteekhfiphbhbjaa
