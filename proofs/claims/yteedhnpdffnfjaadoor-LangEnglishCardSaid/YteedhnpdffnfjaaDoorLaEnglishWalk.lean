/- The law LangEnglish returns true. -/
import Derived.Test.YteedhnpdffnfjaaDoorLaSays
import Derived.Test.YteedhnpdffnfjaaDoorDecRef
namespace Go.Proofs.YteedhnpdffnfjaaDoor
namespace Ru
open Go.RowKit Go.Maps D

set_option maxHeartbeats 8000000 in
set_option maxRecDepth 100000 in
theorem english_any (c s : Int) (w : World) (hR : RulesOk w) (hE : Env w) (hN : Names w) :
    Calls Tryd.prog 6 #[.agg #[.int .i64 c, .int .i64 s]] w (TrueB w) := by
  have HB0 : Hid (Bs w _ [_]) := Lib.hid (bs_one w [.int .i64 c, .int .i64 s] 36)
  have hb0 := HB0.out.below
  have C1 := Lib.hid (show ∀ W, Below w.heap.size w W → Calls Tryd.prog 8 #[.string ⟨#[101, 110]⟩] W (Says W [] enOneB [] [] []) from hR.en)
  have C2 := Lib.hid (show ∀ W, Below w.heap.size w W → Calls Tryd.prog 8 #[.string ⟨#[102, 114]⟩] W (Says W [] frOneB [] [] []) from hR.fr)
  have C3 := Lib.hid (show ∀ W, Below w.heap.size w W → Calls Tryd.prog 8 #[.string ⟨#[106, 97]⟩] W (Says W [] [] [] [] []) from hR.ja)
  by_cases hd : Right c s
  · have K1 := Lib.hid fun (W : World) (hW : Below w.heap.size w W) => en_tells hd W (hE.later hW) (hN.later hW)
    have K2 := Lib.hid fun (W : World) (hW : Below w.heap.size w W) => fr_tells hd W (hE.later hW) (hN.later hW)
    have K3 := Lib.hid fun (W : World) (hW : Below w.heap.size w W) => ja_tells hd W (hE.later hW) (hN.later hW)
    have CS := Lib.hid fun (W : World) => refSize_any c W (by have := hd.2.2; omega) (by have := hd.2.2; omega)
    have CT := Lib.hid fun (W : World) => refTen_any s W hd.1 hd.2.1
    have HEN := Lib.hid (show (enK (opsI c s) s = [111, 110, 101] ∧ s = 0 ∧ (c.natAbs : Int) = 1) ∨ (enK (opsI c s) s = [111, 116, 104, 101, 114] ∧ s = 0 ∧ ¬ (c.natAbs : Int) = 1) ∨ (enK (opsI c s) s = [111, 116, 104, 101, 114] ∧ ¬ s = 0) from by
      unfold enK
      by_cases h : opsI c s = 1 ∧ s = 0
      · rw [if_pos h]; exact .inl ⟨rfl, (en_one hd).1 h⟩
      · rw [if_neg h]
        by_cases h0 : s = 0
        · exact .inr (.inl ⟨rfl, h0, fun h1 => h ((en_one hd).2 ⟨h0, h1⟩)⟩)
        · exact .inr (.inr ⟨rfl, h0⟩))
    have HFR := Lib.hid (show (frK (opsI c s) = [111, 110, 101] ∧ (c.natAbs : Int) < 2 * ten s) ∨ (frK (opsI c s) = [111, 116, 104, 101, 114] ∧ ¬ (c.natAbs : Int) < 2 * ten s) from by
      unfold frK
      by_cases h : opsI c s = 0 ∨ opsI c s = 1
      · rw [if_pos h]; exact .inl ⟨rfl, (fr_near hd).1 h⟩
      · rw [if_neg h]; exact .inr ⟨rfl, fun h1 => h ((fr_near hd).2 h1)⟩)
    have ht := ten_le_nine hd.1 hd.2.1
    have ht0 := ten_pos s
    clear hd hE hN hR
    generalize enK (opsI c s) s = KE at *
    generalize frK (opsI c s) = KF at *
    generalize (c.natAbs : Int) = m at *
    generalize ten s = t at *
    have hwt : IntKind.i64.wrap (2 * t) = 2 * t := by rw [IntKind.wrap_i64]; omega
    obtain ⟨d0, d1, -⟩ := HB0.out.cells
    go_enter Tryd.func6, Tryd.ntmps6
    go_upto_region 2 with (go_at_call 8; (with_reducible refine (C1.out _ hb0).mono ?_); rintro e w1 ⟨rfl, hb1⟩; dsimp only)
    have HB1 := Lib.hid ((HB0.out.call hb1).alloc [.string (str []), .string (str enOneB), .string (str []), .string (str []), .string (str [])] 23)
    have hB1 := HB1.out.below
    go_upto_region 3 with (go_at_call 8; (with_reducible refine (C2.out _ hB1).mono ?_); rintro e w2 ⟨rfl, hb2⟩; dsimp only)
    have HB2 := Lib.hid ((HB1.out.call hb2).alloc [.string (str []), .string (str frOneB), .string (str []), .string (str []), .string (str [])] 23)
    have hB2 := HB2.out.below
    go_upto_region 6 with (go_at_call 8; (with_reducible refine (C3.out _ hB2).mono ?_); rintro e w3 ⟨rfl, hb3⟩; dsimp only)
    have HB3 := Lib.hid ((HB2.out.call hb3).alloc [.string (str []), .string (str []), .string (str []), .string (str []), .string (str [])] 23)
    have hB3 := HB3.out.below
    clear d0 d1 C1 C2 C3
    obtain ⟨z0, z1, z2, z3, z4, y0, y1, y2, y3, y4, x0, x1, x2, x3, x4, d0, d1, -⟩ := HB3.out.cells
    go_upto_region 7 with (go_at_call 11; (with_reducible refine (K1.out _ hB3).mono ?_); rintro e w4 ⟨rfl, hb4⟩; (have HB4 := Lib.hid (HB3.out.call hb4)); (have hB4 := HB4.out.below); dsimp only)
    clear z0 z1 z2 z3 z4 y0 y1 y2 y3 y4 x0 x1 x2 x3 x4 d0 d1
    obtain ⟨z0, z1, z2, z3, z4, y0, y1, y2, y3, y4, x0, x1, x2, x3, x4, d0, d1, -⟩ := HB4.out.cells
    go_upto_region 8 with (go_at_call 11; (with_reducible refine (K2.out _ hB4).mono ?_); rintro e w5 ⟨rfl, hb5⟩; (have HB5 := Lib.hid (HB4.out.call hb5)); (have hB5 := HB5.out.below); dsimp only)
    clear z0 z1 z2 z3 z4 y0 y1 y2 y3 y4 x0 x1 x2 x3 x4 d0 d1
    obtain ⟨z0, z1, z2, z3, z4, -, -, -, -, -, -, -, -, -, -, d0, d1, -⟩ := HB5.out.cells
    go_upto_region 11 with (go_at_call 11; (with_reducible refine (K3.out _ hB5).mono ?_); rintro e w6 ⟨rfl, hb6⟩; (have HB6 := Lib.hid (HB5.out.call hb6)); (have hB6 := HB6.out.below); dsimp only)
    clear z0 z1 z2 z3 z4 d0 d1 K1 K2 K3
    obtain ⟨-, -, -, -, -, -, -, -, -, -, -, -, -, -, -, d0, d1, -⟩ := HB6.out.cells
    rcases HEN.out with ⟨rfl, rfl, rfl⟩ | ⟨rfl, rfl, h1⟩ | ⟨rfl, h1⟩
    · go_upto_region 12 with (go_at_call 13; (with_reducible refine (CS.out _).mono ?_); rintro e w7 ⟨rfl, rfl⟩)
      rcases HFR.out with ⟨rfl, h2⟩ | ⟨rfl, h2⟩
      · go_quiet (first | (go_at_call 13; with_reducible exact quiet_same CS.out _ _) | (go_at_call 15; with_reducible exact quiet_same CT.out _ _))
        all_goals
          (try go_wp2_with fail)
          go_ret
          exact ⟨rfl, (by repeat (first | exact hB6 | exact below_drewN hB6 _ | refine Below.drew ?_))⟩
      · have h2' : decide (1 < 2 * t) = false := decide_eq_false (by omega)
        go_quiet (first | (go_at_call 13; with_reducible exact quiet_same CS.out _ _) | (go_at_call 15; with_reducible exact quiet_same CT.out _ _))
        all_goals
          (try go_wp2_with fail)
          go_ret
          exact ⟨rfl, (by repeat (first | exact hB6 | exact below_drewN hB6 _ | refine Below.drew ?_))⟩
    · have h1' : (m == 1) = false := by simpa using h1
      go_upto_region 12 with (go_at_call 13; (with_reducible refine (CS.out _).mono ?_); rintro e w7 ⟨rfl, rfl⟩)
      rcases HFR.out with ⟨rfl, h2⟩ | ⟨rfl, h2⟩
      · go_quiet (first | (go_at_call 13; with_reducible exact quiet_same CS.out _ _) | (go_at_call 15; with_reducible exact quiet_same CT.out _ _))
        all_goals
          (try go_wp2_with fail)
          go_ret
          exact ⟨rfl, (by repeat (first | exact hB6 | exact below_drewN hB6 _ | refine Below.drew ?_))⟩
      · have h2' : decide (m < 2 * t) = false := decide_eq_false (by omega)
        go_quiet (first | (go_at_call 13; with_reducible exact quiet_same CS.out _ _) | (go_at_call 15; with_reducible exact quiet_same CT.out _ _))
        all_goals
          (try go_wp2_with fail)
          go_ret
          exact ⟨rfl, (by repeat (first | exact hB6 | exact below_drewN hB6 _ | refine Below.drew ?_))⟩
    · go_upto_region 12 with (go_at_call 13; (with_reducible refine (CS.out _).mono ?_); rintro e w7 ⟨rfl, rfl⟩)
      rcases HFR.out with ⟨rfl, h2⟩ | ⟨rfl, h2⟩
      · go_quiet (first | (go_at_call 13; with_reducible exact quiet_same CS.out _ _) | (go_at_call 15; with_reducible exact quiet_same CT.out _ _))
        all_goals
          (try go_wp2_with fail)
          go_ret
          exact ⟨rfl, (by repeat (first | exact hB6 | exact below_drewN hB6 _ | refine Below.drew ?_))⟩
      · have h2' : decide (m < 2 * t) = false := decide_eq_false (by omega)
        go_quiet (first | (go_at_call 13; with_reducible exact quiet_same CS.out _ _) | (go_at_call 15; with_reducible exact quiet_same CT.out _ _))
        all_goals
          (try go_wp2_with fail)
          go_ret
          exact ⟨rfl, (by repeat (first | exact hB6 | exact below_drewN hB6 _ | refine Below.drew ?_))⟩
  · have K1 := Lib.hid fun (W : World) (hW : Below w.heap.size w W) => (kind_bad [] enOneB [] [] [] c s W enLen (hE.later hW)).2 enRight hd
    have K2 := Lib.hid fun (W : World) (hW : Below w.heap.size w W) => (kind_bad [] frOneB [] [] [] c s W frLen (hE.later hW)).2 frRight hd
    have K3 := Lib.hid fun (W : World) (hW : Below w.heap.size w W) => (kind_bad [] [] [] [] [] c s W jaLen (hE.later hW)).2 jaRight hd
    have CD := Lib.hid fun (W : World) => (show Calls Tryd.prog 12 #[.agg #[.int .i64 c, .int .i64 s]] W (Gives W (.iface 30 (.int .i64 1))) from (D.check_any c s W).mono fun _ _ h => ⟨by rw [h.1, fault_no hd]; rfl, h.2⟩)
    clear hd hE hN hR
    obtain ⟨d0, d1, -⟩ := HB0.out.cells
    go_enter Tryd.func6, Tryd.ntmps6
    go_upto_region 2 with (go_at_call 8; (with_reducible refine (C1.out _ hb0).mono ?_); rintro e w1 ⟨rfl, hb1⟩; dsimp only)
    have HB1 := Lib.hid ((HB0.out.call hb1).alloc [.string (str []), .string (str enOneB), .string (str []), .string (str []), .string (str [])] 23)
    have hB1 := HB1.out.below
    go_upto_region 3 with (go_at_call 8; (with_reducible refine (C2.out _ hB1).mono ?_); rintro e w2 ⟨rfl, hb2⟩; dsimp only)
    have HB2 := Lib.hid ((HB1.out.call hb2).alloc [.string (str []), .string (str frOneB), .string (str []), .string (str []), .string (str [])] 23)
    have hB2 := HB2.out.below
    go_upto_region 6 with (go_at_call 8; (with_reducible refine (C3.out _ hB2).mono ?_); rintro e w3 ⟨rfl, hb3⟩; dsimp only)
    have HB3 := Lib.hid ((HB2.out.call hb3).alloc [.string (str []), .string (str []), .string (str []), .string (str []), .string (str [])] 23)
    have hB3 := HB3.out.below
    clear d0 d1 C1 C2 C3
    obtain ⟨z0, z1, z2, z3, z4, y0, y1, y2, y3, y4, x0, x1, x2, x3, x4, d0, d1, -⟩ := HB3.out.cells
    go_upto_region 7 with (go_at_call 11; (with_reducible refine (K1.out _ hB3).mono ?_); rintro e w4 ⟨rfl, hb4⟩; (have HB4 := Lib.hid (HB3.out.call hb4)); (have hB4 := HB4.out.below); dsimp only)
    clear z0 z1 z2 z3 z4 y0 y1 y2 y3 y4 x0 x1 x2 x3 x4 d0 d1
    obtain ⟨z0, z1, z2, z3, z4, y0, y1, y2, y3, y4, x0, x1, x2, x3, x4, d0, d1, -⟩ := HB4.out.cells
    go_upto_region 8 with (go_at_call 11; (with_reducible refine (K2.out _ hB4).mono ?_); rintro e w5 ⟨rfl, hb5⟩; (have HB5 := Lib.hid (HB4.out.call hb5)); (have hB5 := HB5.out.below); dsimp only)
    clear z0 z1 z2 z3 z4 y0 y1 y2 y3 y4 x0 x1 x2 x3 x4 d0 d1
    obtain ⟨z0, z1, z2, z3, z4, -, -, -, -, -, -, -, -, -, -, d0, d1, -⟩ := HB5.out.cells
    go_upto_region 10 with (go_at_call 11; (with_reducible refine (K3.out _ hB5).mono ?_); rintro e w6 ⟨rfl, hb6⟩; (have HB6 := Lib.hid (HB5.out.call hb6)); (have hB6 := HB6.out.below); dsimp only)
    clear z0 z1 z2 z3 z4 d0 d1 K1 K2 K3
    obtain ⟨-, -, -, -, -, -, -, -, -, -, -, -, -, -, -, d0, d1, -⟩ := HB6.out.cells
    go_wp2_with (go_at_call 12; (with_reducible refine (CD.out _).mono ?_); rintro e w7 ⟨rfl, hb7⟩; (have hB7 := bel_call hB6 hb7))
    go_ret
    exact ⟨rfl, hB7⟩
end Ru
end Go.Proofs.YteedhnpdffnfjaaDoor
