/- The law DecTells, walked: it returns true for all numbers, every text, scale and way; what lay in memory stays as it was. -/
import Derived.Test.YteekhfiphbhbjaaGreatDoorDecTellsKit
namespace Go.Proofs.YteekhfiphbhbjaaGreatDoor
namespace D
open Go.RowKit

set_option maxHeartbeats 16000000 in
set_option maxRecDepth 100000 in
theorem tells_wrong (a s b t m n : Int) (T : ByteArray) (w : World) (ht : T.size ≤ 1048576) (hS : Strc w) (hg : ErrType w) (hr : ¬ Right a s) : Calls Tryz.prog 3 #[.agg #[.int .i64 a, .int .i64 s], .agg #[.int .i64 b, .int .i64 t], .string T, .int .i64 m, .int .i64 n] w (TrueBelow w) := by
  have H0 := Lib.hid (bx_two w a s b t)
  have CH := Lib.hid fun W => half_any W
  have CFA := Lib.hid fun W => refFault_any a s W
  have CFB := Lib.hid fun W => refFault_any b t W
  have CKA := Lib.hid fun W => check_any a s W
  have CL := Lib.hid fun W => less_any a s b t W
  have CS := Lib.hid fun W => same_any a s b t W
  obtain ⟨x, k, ib, f, hbf, co, cp⟩ := text_both T w ht hS
  have CO := Lib.hid co
  have CP := Lib.hid cp
  have HBF := Lib.hid hbf
  clear hbf co cp
  have EF := Lib.hid fun (W : World) (hW : Below w.heap.size w W) => error_same f W (errType_later hg hW)
  have E0 := Lib.hid fun (W : World) (hW : Below w.heap.size w W) => error_same 0 W (errType_later hg hW)
  have E1 := Lib.hid fun (W : World) (hW : Below w.heap.size w W) => error_same 1 W (errType_later hg hW)
  simp only [errV_zero, show ((0 : Nat) : Int) = 0 from rfl] at E0
  simp only [errV_one, show ((1 : Nat) : Int) = 1 from rfl] at E1
  generalize errV f = fv at *
  rw [decide_eq_true hr] at CFA
  simp only [fault_no hr, errV_one] at CKA
  have hl : lessB a s b t = false := decide_eq_false fun h => hr h.1
  have hm : sameB a s b t = false := decide_eq_false fun h => hr h.1
  rw [hl] at CL
  rw [hm] at CS
  have CRP := Lib.hid fun W => round_any a s m n W
  have hF : roundF a s m n = 1 := by unfold roundF; rw [if_pos hr]
  simp only [roundV_one hF] at CRP
  have CAP := Lib.hid fun W => add_any a s b t W
  have hA : addF a s b t = 1 := by unfold addF; rw [if_pos hr]
  simp only [addV_one hA] at CAP
  clear hr hl hm hF hA E0 CFB
  go_enter Tryz.func3, Tryz.ntmps3
  go_upto_region 2 with (go_at_call 4; (with_reducible refine (CH.out _).mono ?_); rintro e w1 ⟨rfl, hw1⟩)
  have H1 := Lib.hid (H0.out.call hw1)
  clear hw1
  obtain ⟨-, -, a0, a1, -⟩ := H1.out.cells
  go_upto_region 5 with (go_at_call 5; (with_reducible refine (CFA.out _).mono ?_); rintro e w2 ⟨rfl, hw2⟩)
  have H2 := Lib.hid (H1.out.call hw2)
  clear hw2
  clear a0 a1
  obtain ⟨-, -, a0, a1, -⟩ := H2.out.cells
  go_upto_region 6 with (first | (go_at_call 7; (with_reducible refine (CKA.out _).mono ?_); rintro e w3 ⟨rfl, hw3⟩) | (go_at_call 6; (with_reducible refine (E1.out _ (up_call H2.out.below hw3)).mono ?_); rintro e w3e ⟨rfl, hw3e⟩))
  have H3 := Lib.hid ((H2.out.call hw3).call hw3e)
  clear hw3 hw3e
  clear a0 a1
  go_upto_region 7 with (go_at_call 8; (with_reducible refine (CO.out _ H3.out.below).mono ?_); rintro e w4 ⟨rfl, hw4⟩; dsimp only)
  have H4 := Lib.hid (H3.out.call hw4)
  clear hw4
  have H4a := Lib.hid (H4.out.alloc (x) (k))
  obtain ⟨v4, hv4⟩ : ∃ V, w4.alloc (box (x) (k)) = V := ⟨_, rfl⟩
  rw [hv4] at H4a ⊢
  clear hv4
  go_upto_if 46 with fail
  go_cut [16] (fun s16 wx => s16 = .int .i64 (f : Int) ∧ v4 = wx)
  case first =>
    rcases HBF.out with ⟨rfl, rfl⟩ | ⟨rfl, rfl⟩
    all_goals
      go_wp2_with fail
      go_meet
      exact ⟨rfl, rfl⟩
  case rest =>
    obtain ⟨rfl, rfl⟩ := hcut
    go_upto_region 11 with (go_at_call 9; (with_reducible refine (CP.out _ H4a.out.below).mono ?_); rintro e w6 ⟨rfl, hw6⟩; dsimp only)
    have H6 := Lib.hid (H4a.out.call hw6)
    clear hw6
    have H6a := Lib.hid (H6.out.alloc (x) (k))
    obtain ⟨v6, hv6⟩ : ∃ V, w6.alloc (box (x) (k)) = V := ⟨_, rfl⟩
    rw [hv6] at H6a ⊢
    clear hv6
    go_upto_region 12 with (go_at_call 6; (with_reducible refine (EF.out _ H6a.out.below).mono ?_); rintro e w7 ⟨rfl, hw7⟩)
    have H7 := Lib.hid (H6a.out.call hw7)
    clear hw7
    go_upto_region 13 with fail
    obtain ⟨x0, x1, d0, d1, b0, b1, a0, a1, -⟩ := H7.out.cells
    go_upto_region 15 with (first
      | (go_at_call 10; (with_reducible refine (CL.out _).mono ?_); rintro e l9 ⟨rfl, hl9⟩; (have HL9 := Lib.hid (H7.out.call hl9)); clear hl9 a0 a1 b0 b1 x0 x1 d0 d1; (obtain ⟨-, -, -, -, b0, b1, a0, a1, -⟩ := HL9.out.cells))
      | (go_at_call 12; (with_reducible refine (CS.out _).mono ?_); rintro e m9 ⟨rfl, hm9⟩; (have HM9 := Lib.hid (HL9.out.call hm9)); clear hm9 a0 a1 b0 b1; (obtain ⟨-, -, -, -, b0, b1, a0, a1, -⟩ := HM9.out.cells)))
    go_quiet (fail)
    have H10 := Lib.hid (HM9.out.drewN nq)
    generalize m9.drewN nq = w10 at *
    clear a0 a1 b0 b1
    go_upto_region 19 with fail
    have H10a := Lib.hid (H10.out.alloc (0) (0))
    obtain ⟨v11, hv11⟩ : ∃ V, w10.alloc (box (0) (0)) = V := ⟨_, rfl⟩
    rw [hv11] at H10a ⊢
    clear hv11
    go_upto_region 29 with fail
    obtain ⟨-, -, -, -, -, -, -, -, a0, a1, -⟩ := H10a.out.cells
    go_upto_region 30 with (go_at_call 16; (with_reducible refine (CRP.out _).mono ?_); rintro e w12 ⟨rfl, hw12⟩; dsimp only)
    have H12 := Lib.hid (H10a.out.call hw12)
    clear hw12
    have H12a := Lib.hid (H12.out.alloc (0) (0))
    obtain ⟨v12, hv12⟩ : ∃ V, w12.alloc (box (0) (0)) = V := ⟨_, rfl⟩
    rw [hv12] at H12a ⊢
    clear hv12
    clear a0 a1
    go_upto_region 33 with (go_at_call 6; (with_reducible refine (E1.out _ H12a.out.below).mono ?_); rintro e w13 ⟨rfl, hw13⟩)
    have H13 := Lib.hid (H12a.out.call hw13)
    clear hw13
    have H13a := Lib.hid (H13.out.alloc (0) (0))
    obtain ⟨v13, hv13⟩ : ∃ V, w13.alloc (box (0) (0)) = V := ⟨_, rfl⟩
    rw [hv13] at H13a ⊢
    clear hv13
    go_upto_region 38 with fail
    obtain ⟨-, -, -, -, -, -, -, -, -, -, b0, b1, a0, a1, -⟩ := H13a.out.cells
    go_upto_region 39 with (go_at_call 18; (with_reducible refine (CAP.out _).mono ?_); rintro e w14 ⟨rfl, hw14⟩; dsimp only)
    have H14 := Lib.hid (H13a.out.call hw14)
    clear hw14
    have H14a := Lib.hid (H14.out.alloc (0) (0))
    obtain ⟨v14, hv14⟩ : ∃ V, w14.alloc (box (0) (0)) = V := ⟨_, rfl⟩
    rw [hv14] at H14a ⊢
    clear hv14
    clear b0 b1 a0 a1
    go_upto_region 40 with (go_at_call 6; (with_reducible refine (E1.out _ H14a.out.below).mono ?_); rintro e w15 ⟨rfl, hw15⟩)
    have H15 := Lib.hid (H14a.out.call hw15)
    clear hw15
    obtain ⟨u0, u1, s0, s1, q0, q1, p0, p1, -, -, -, -, -, -, -, -, -⟩ := H15.out.cells
    go_wp2_with fail
    go_ret
    exact ⟨rfl, H15.out.below⟩
end D
end Go.Proofs.YteekhfiphbhbjaaGreatDoor
