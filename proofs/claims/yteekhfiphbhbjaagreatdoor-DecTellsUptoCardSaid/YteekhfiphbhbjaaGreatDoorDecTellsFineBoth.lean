/- The law DecTells, walked where the first number is right: so are the scale and the way; so is the other number. -/
import Derived.Test.YteekhfiphbhbjaaGreatDoorDecTellsKit
namespace Go.Proofs.YteekhfiphbhbjaaGreatDoor
namespace D
open Go.RowKit

set_option maxHeartbeats 16000000 in
set_option maxRecDepth 100000 in
theorem tells_ok_both (a s b t m n : Int) (T : ByteArray) (w : World) (ht : T.size ≤ 1048576) (hS : Strc w) (hg : ErrType w) (hr : Right a s) (hm : 0 ≤ m ∧ m ≤ 9) (hn : 1 ≤ n ∧ n ≤ 5) (hb : Right b t) : Calls Tryz.prog 3 #[.agg #[.int .i64 a, .int .i64 s], .agg #[.int .i64 b, .int .i64 t], .string T, .int .i64 m, .int .i64 n] w (TrueBelow w) := by
  have H0 := Lib.hid (bx_two w a s b t)
  have CH := Lib.hid fun W => half_any W
  have CFA := Lib.hid fun W => refFault_any a s W
  have CFB := Lib.hid fun W => refFault_any b t W
  have CKA := Lib.hid fun W => check_any a s W
  have CL := Lib.hid fun W => less_any a s b t W
  have CS := Lib.hid fun W => same_any a s b t W
  obtain ⟨x, k, ib, f, hbf, co, cp⟩ := text_both T w ht hS
  have CO := Lib.hid co
  have CP := Lib.hid cp
  have HBF := Lib.hid hbf
  clear hbf co cp
  have EF := Lib.hid fun (W : World) (hW : Below w.heap.size w W) => error_same f W (errType_later hg hW)
  have E0 := Lib.hid fun (W : World) (hW : Below w.heap.size w W) => error_same 0 W (errType_later hg hW)
  have E1 := Lib.hid fun (W : World) (hW : Below w.heap.size w W) => error_same 1 W (errType_later hg hW)
  simp only [errV_zero, show ((0 : Nat) : Int) = 0 from rfl] at E0
  simp only [errV_one, show ((1 : Nat) : Int) = 1 from rfl] at E1
  generalize errV f = fv at *
  rw [decide_eq_false (Classical.not_not.2 hr)] at CFA
  simp only [fault_ok hr, errV_zero] at CKA
  have CT := Lib.hid fun (W : World) (hW : Below w.heap.size w W) => text_any a s W hr (hS.later hW)
  have CU := Lib.hid fun W => refDecText_any a s W hr
  generalize str (text a s.toNat) = X at *
  obtain ⟨P, Q, ir, f2, hb2, cro, crp⟩ := round_both (t := m) (way := n) hr hm hn
  have CRO := Lib.hid cro
  have CRP := Lib.hid crp
  have HB2 := Lib.hid hb2
  clear hb2 cro crp
  have EG := Lib.hid fun (W : World) (hW : Below w.heap.size w W) => error_same f2 W (errType_later hg hW)
  generalize errV f2 = fv2 at *
  obtain ⟨hm1, hm2⟩ := hm
  obtain ⟨hn1, hn2⟩ := hn
  rw [decide_eq_false (Classical.not_not.2 hb)] at CFB
  have CR := Lib.hid fun W => refOrder_any a s b t W hr hb
  obtain ⟨o1, o2⟩ := ordR_lt (c := a) (d := b) (right_scale hr) (right_scale hb)
  have hl : lessB a s b t = decide (ordR a s b t < 0) := by
    unfold lessB
    exact decide_eq_decide.2 ⟨fun h => o1.2 h.2.2, fun h => ⟨hr, hb, o1.1 h⟩⟩
  have he : sameB a s b t = (ordR a s b t == 0) := by
    unfold sameB
    rw [Bool.eq_iff_iff]
    simp only [decide_eq_true_eq, beq_iff_eq]
    exact ⟨fun h => o2.2 h.2.2, fun h => ⟨hr, hb, o2.1 h⟩⟩
  rw [hl] at CL
  rw [he] at CS
  have hO : -4000000000000000 ≤ ordR a s b t ∧ ordR a s b t ≤ 4000000000000000 := by
    have f1 := floor_room (ten_pos s) a hr.2.2.1 hr.2.2.2
    have f2 := floor_room (ten_pos t) b hb.2.2.1 hb.2.2.2
    obtain ⟨_, p0, p1⟩ := frac_val (c := a) (right_scale hr)
    obtain ⟨_, q0, q1⟩ := frac_val (c := b) (right_scale hb)
    unfold ordR
    split <;> omega
  obtain ⟨P2, Q2, ia, f3, hb3, cao, cap⟩ := add_both hr hb
  have CAO := Lib.hid cao
  have CAP := Lib.hid cap
  have HB3 := Lib.hid hb3
  have EH := Lib.hid fun (W : World) (hW : Below w.heap.size w W) => error_same f3 W (errType_later hg hW)
  generalize errV f3 = fv3 at *
  clear o1 o2 hl he hb3 cao cap hg hS hb hr E1
  generalize ordR a s b t = O at *
  go_enter Tryz.func3, Tryz.ntmps3
  go_upto_region 2 with (go_at_call 4; (with_reducible refine (CH.out _).mono ?_); rintro e w1 ⟨rfl, hw1⟩)
  have H1 := Lib.hid (H0.out.call hw1)
  clear hw1
  obtain ⟨-, -, a0, a1, -⟩ := H1.out.cells
  go_upto_region 5 with (go_at_call 5; (with_reducible refine (CFA.out _).mono ?_); rintro e w2 ⟨rfl, hw2⟩)
  have H2 := Lib.hid (H1.out.call hw2)
  clear hw2
  clear a0 a1
  obtain ⟨-, -, a0, a1, -⟩ := H2.out.cells
  go_upto_region 6 with (first | (go_at_call 7; (with_reducible refine (CKA.out _).mono ?_); rintro e w3 ⟨rfl, hw3⟩) | (go_at_call 6; (with_reducible refine (E0.out _ (up_call H2.out.below hw3)).mono ?_); rintro e w3e ⟨rfl, hw3e⟩))
  have H3 := Lib.hid ((H2.out.call hw3).call hw3e)
  clear hw3 hw3e
  clear a0 a1
  go_upto_region 7 with (go_at_call 8; (with_reducible refine (CO.out _ H3.out.below).mono ?_); rintro e w4 ⟨rfl, hw4⟩; dsimp only)
  have H4 := Lib.hid (H3.out.call hw4)
  clear hw4
  have H4a := Lib.hid (H4.out.alloc (x) (k))
  obtain ⟨v4, hv4⟩ : ∃ V, w4.alloc (box (x) (k)) = V := ⟨_, rfl⟩
  rw [hv4] at H4a ⊢
  clear hv4
  go_upto_if 46 with fail
  go_cut [16] (fun s16 wx => s16 = .int .i64 (f : Int) ∧ v4 = wx)
  case first =>
    rcases HBF.out with ⟨rfl, rfl⟩ | ⟨rfl, rfl⟩
    all_goals
      go_wp2_with fail
      go_meet
      exact ⟨rfl, rfl⟩
  case rest =>
    obtain ⟨rfl, rfl⟩ := hcut
    go_upto_region 11 with (go_at_call 9; (with_reducible refine (CP.out _ H4a.out.below).mono ?_); rintro e w6 ⟨rfl, hw6⟩; dsimp only)
    have H6 := Lib.hid (H4a.out.call hw6)
    clear hw6
    have H6a := Lib.hid (H6.out.alloc (x) (k))
    obtain ⟨v6, hv6⟩ : ∃ V, w6.alloc (box (x) (k)) = V := ⟨_, rfl⟩
    rw [hv6] at H6a ⊢
    clear hv6
    go_upto_region 12 with (go_at_call 6; (with_reducible refine (EF.out _ H6a.out.below).mono ?_); rintro e w7 ⟨rfl, hw7⟩)
    have H7 := Lib.hid (H6a.out.call hw7)
    clear hw7
    obtain ⟨-, -, -, -, b0, b1, -, -, -⟩ := H7.out.cells
    go_upto_region 13 with (go_at_call 5; (with_reducible refine (CFB.out _).mono ?_); rintro e w8 ⟨rfl, hw8⟩)
    have H8 := Lib.hid (H7.out.call hw8)
    clear hw8
    clear b0 b1
    obtain ⟨x0, x1, d0, d1, b0, b1, a0, a1, -⟩ := H8.out.cells
    go_upto_region 15 with (first
      | (go_at_call 10; (with_reducible refine (CL.out _).mono ?_); rintro e l9 ⟨rfl, hl9⟩; (have HL9 := Lib.hid (H8.out.call hl9)); clear hl9 a0 a1 b0 b1 x0 x1 d0 d1; (obtain ⟨-, -, -, -, b0, b1, a0, a1, -⟩ := HL9.out.cells))
      | (go_at_call 12; (with_reducible refine (CS.out _).mono ?_); rintro e m9 ⟨rfl, hm9⟩; (have HM9 := Lib.hid (HO9.out.call hm9)); clear hm9 a0 a1 b0 b1; (obtain ⟨-, -, -, -, b0, b1, a0, a1, -⟩ := HM9.out.cells))
      | (go_at_call 11; (with_reducible refine (CR.out _).mono ?_); rintro e o9 ⟨rfl, ho9⟩; (have HP9 := Lib.hid (HM9.out.call ho9)); clear ho9 a0 a1 b0 b1; (obtain ⟨-, -, -, -, b0, b1, a0, a1, -⟩ := HP9.out.cells))
      | (go_at_call 11; (with_reducible refine (CR.out _).mono ?_); rintro e q9 ⟨rfl, hq9⟩; (have HO9 := Lib.hid (HL9.out.call hq9)); clear hq9 a0 a1 b0 b1; (obtain ⟨-, -, -, -, b0, b1, a0, a1, -⟩ := HO9.out.cells)))
    go_cut [111] (fun s111 wx => s111 = .bool false ∧ ∃ V, Hid (Bx w V [(w6.heap.size, x, k), (w4.heap.size, x, k), (w.heap.size + 1, b, t), (w.heap.size, a, s)]) ∧ V = wx)
    case first =>
      have HS : Hid (∀ wx, Below o9.heap.size o9 wx → Below o9.heap.size o9 wx ∧ wx.cell? ⟨w.heap.size, 0, none⟩ = some (.int .i64 a) ∧ wx.cell? ⟨w.heap.size, 1, none⟩ = some (.int .i64 s)) := Lib.hid fun wx hb => by
        obtain ⟨-, -, -, -, -, -, a0, a1, -⟩ := (HP9.out.call hb).cells
        exact ⟨hb, a0, a1⟩
      have hS0 := HS.out _ (Below.refl _ _)
      have hB0 := hS0.1
      go_region_held3 (fun wx => Below o9.heap.size o9 wx ∧ wx.cell? ⟨w.heap.size, 0, none⟩ = some (.int .i64 a) ∧ wx.cell? ⟨w.heap.size, 1, none⟩ = some (.int .i64 s))
        (first | exact HS.out _ (by assumption) | exact HS.out _ (Below.drew (by assumption)))
        (first
          | (go_at_call 13; (with_reducible refine (CT.out _ ?_).mono ?_); (first | exact up_call HP9.out.below (by assumption) | exact up_call HP9.out.below (Below.drew (by assumption))); rintro e wy ⟨rfl, hby⟩; (have hTy : Below o9.heap.size o9 wy := by first | exact up_call (by assumption) hby | exact up_call (Below.drew (by assumption)) hby))
          | (go_at_call 14; (with_reducible refine (CU.out _).mono ?_); rintro e wz ⟨rfl, hbz⟩; (have hTz : Below o9.heap.size o9 wz := by first | exact up_call (by assumption) hbz | exact up_call (Below.drew (by assumption)) hbz)))
      all_goals
        go_wp2_with fail
        go_meet
        exact ⟨rfl, _, Lib.hid (HP9.out.call (by first | exact hTz | exact hTy | exact hTz.drew | exact hTy.drew)), rfl⟩
    case rest =>
      obtain ⟨rfl, V10, H10, rfl⟩ := hcut
      clear a0 a1 b0 b1
      go_upto_region 19 with fail
      have H10a := Lib.hid (H10.out.alloc (0) (0))
      obtain ⟨v11, hv11⟩ : ∃ V, V10.alloc (box (0) (0)) = V := ⟨_, rfl⟩
      rw [hv11] at H10a ⊢
      clear hv11
      obtain ⟨-, -, -, -, -, -, -, -, a0, a1, -⟩ := H10a.out.cells
      go_upto_region 25 with (go_at_call 15; (with_reducible refine (CRO.out _).mono ?_); rintro e w12 ⟨rfl, hw12⟩; dsimp only)
      have H12 := Lib.hid (H10a.out.call hw12)
      clear hw12
      have H12a := Lib.hid (H12.out.alloc (P) (Q))
      obtain ⟨v12, hv12⟩ : ∃ V, w12.alloc (box (P) (Q)) = V := ⟨_, rfl⟩
      rw [hv12] at H12a ⊢
      clear hv12
      clear a0 a1
      obtain ⟨r0, r1, p0, p1, -, -, -, -, -, -, -, -, -⟩ := H12a.out.cells
      obtain ⟨f0, f1⟩ := H12a.out.free2
      go_upto_if 144 with fail
      have H13 := Lib.hid (H12a.out.store P Q)
      clear r0 r1 p0 p1
      clear f0 f1
      generalize (v12.setCell ⟨V10.heap.size, 0, none⟩ (.int .i64 P)).setCell ⟨V10.heap.size, 1, none⟩ (.int .i64 Q) = w13 at *
      go_cut [21] (fun s21 wx => s21 = .int .i64 (f2 : Int) ∧ ∃ V, Hid (Bx w V [(w12.heap.size, P, Q), (V10.heap.size, P, Q), (w6.heap.size, x, k), (w4.heap.size, x, k), (w.heap.size + 1, b, t), (w.heap.size, a, s)]) ∧ V = wx)
      case first =>
        rcases HB2.out with ⟨rfl, rfl⟩ | ⟨rfl, rfl, rfl, rfl⟩
        · go_wp2_with fail
          go_meet
          exact ⟨rfl, _, H13, rfl⟩
        · obtain ⟨-, -, p0, p1, -, -, -, -, -, -, -, -, -⟩ := H13.out.cells
          obtain ⟨f0, f1⟩ := H13.out.free2
          go_wp2_with fail
          go_meet
          exact ⟨rfl, _, Lib.hid (H13.out.store 0 0), rfl⟩
      case rest =>
        obtain ⟨rfl, V14, H14, rfl⟩ := hcut
        obtain ⟨-, -, -, -, -, -, -, -, -, -, a0, a1, -⟩ := H14.out.cells
        go_upto_region 30 with (go_at_call 16; (with_reducible refine (CRP.out _).mono ?_); rintro e w15 ⟨rfl, hw15⟩; dsimp only)
        have H15 := Lib.hid (H14.out.call hw15)
        clear hw15
        have H15a := Lib.hid (H15.out.alloc (P) (Q))
        obtain ⟨v15, hv15⟩ : ∃ V, w15.alloc (box (P) (Q)) = V := ⟨_, rfl⟩
        rw [hv15] at H15a ⊢
        clear hv15
        clear a0 a1
        go_upto_region 33 with (go_at_call 6; (with_reducible refine (EG.out _ H15a.out.below).mono ?_); rintro e w16 ⟨rfl, hw16⟩)
        have H16 := Lib.hid (H15a.out.call hw16)
        clear hw16
        have H16a := Lib.hid (H16.out.alloc (0) (0))
        obtain ⟨v16, hv16⟩ : ∃ V, w16.alloc (box (0) (0)) = V := ⟨_, rfl⟩
        rw [hv16] at H16a ⊢
        clear hv16
        obtain ⟨-, -, -, -, -, -, -, -, -, -, -, -, b0, b1, a0, a1, -⟩ := H16a.out.cells
        go_upto_region 35 with (go_at_call 17; (with_reducible refine (CAO.out _).mono ?_); rintro e w17 ⟨rfl, hw17⟩; dsimp only)
        have H17 := Lib.hid (H16a.out.call hw17)
        clear hw17
        have H17a := Lib.hid (H17.out.alloc (P2) (Q2))
        obtain ⟨v17, hv17⟩ : ∃ V, w17.alloc (box (P2) (Q2)) = V := ⟨_, rfl⟩
        rw [hv17] at H17a ⊢
        clear hv17
        clear b0 b1 a0 a1
        obtain ⟨t0, t1, s0, s1, -, -, -, -, -, -, -, -, -, -, -, -, -, -, -⟩ := H17a.out.cells
        obtain ⟨f0, f1⟩ := H17a.out.free2
        go_upto_if 163 with fail
        go_cut [27] (fun s27 wx => s27 = .int .i64 (f3 : Int) ∧ ∃ V, Hid (Bx w V [(w17.heap.size, P2, Q2), (w16.heap.size, P2, Q2), (w15.heap.size, P, Q), (w12.heap.size, P, Q), (V10.heap.size, P, Q), (w6.heap.size, x, k), (w4.heap.size, x, k), (w.heap.size + 1, b, t), (w.heap.size, a, s)]) ∧ V = wx)
        case first =>
          rcases HB3.out with ⟨rfl, rfl⟩ | ⟨rfl, rfl, rfl, rfl⟩
          · go_wp2_with fail
            go_meet
            exact ⟨rfl, _, Lib.hid (H17a.out.store P2 Q2), rfl⟩
          · go_wp2_with fail
            go_meet
            exact ⟨rfl, _, H17a, rfl⟩
        case rest =>
          clear t0 t1 s0 s1
          clear f0 f1
          obtain ⟨rfl, V18, H18, rfl⟩ := hcut
          obtain ⟨-, -, -, -, -, -, -, -, -, -, -, -, -, -, b0, b1, a0, a1, -⟩ := H18.out.cells
          go_upto_region 39 with (go_at_call 18; (with_reducible refine (CAP.out _).mono ?_); rintro e w19 ⟨rfl, hw19⟩; dsimp only)
          have H19 := Lib.hid (H18.out.call hw19)
          clear hw19
          have H19a := Lib.hid (H19.out.alloc (P2) (Q2))
          obtain ⟨v19, hv19⟩ : ∃ V, w19.alloc (box (P2) (Q2)) = V := ⟨_, rfl⟩
          rw [hv19] at H19a ⊢
          clear hv19
          clear b0 b1 a0 a1
          go_upto_region 40 with (go_at_call 6; (with_reducible refine (EH.out _ H19a.out.below).mono ?_); rintro e w20 ⟨rfl, hw20⟩)
          have H20 := Lib.hid (H19a.out.call hw20)
          clear hw20
          obtain ⟨u0, u1, -, -, s0, s1, q0, q1, -, -, p0, p1, -, -, -, -, -, -, -, -, -⟩ := H20.out.cells
          go_wp2_with fail
          go_ret
          exact ⟨rfl, H20.out.below⟩
end D
end Go.Proofs.YteekhfiphbhbjaaGreatDoor
