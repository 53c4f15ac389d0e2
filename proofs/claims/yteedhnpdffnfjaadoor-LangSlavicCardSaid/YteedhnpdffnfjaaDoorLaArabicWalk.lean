/- The law LangArabic returns true. -/
import Derived.Test.YteedhnpdffnfjaaDoorLaSays
namespace Go.Proofs.YteedhnpdffnfjaaDoor
namespace Ru
open Go.RowKit Go.Maps D

theorem ar_ways (I T : Int) (h : 0 ≤ I) : (T ≠ 0 ∧ arK I T = [111, 116, 104, 101, 114]) ∨ (T = 0 ∧ ((I = 0 ∧ arK I T = [122, 101, 114, 111]) ∨ (I = 1 ∧ arK I T = [111, 110, 101]) ∨ (I = 2 ∧ arK I T = [116, 119, 111]) ∨
    (¬ I < 3 ∧ I % 100 < 3 ∧ arK I T = [111, 116, 104, 101, 114]) ∨ (¬ I < 3 ∧ 3 ≤ I % 100 ∧ I % 100 ≤ 10 ∧ arK I T = [102, 101, 119]) ∨ (¬ I < 3 ∧ 11 ≤ I % 100 ∧ arK I T = [109, 97, 110, 121]))) := by
  unfold arK
  by_cases hT : T = 0
  · rw [if_pos hT]
    refine .inr ⟨hT, ?_⟩
    by_cases h0 : I = 0
    · rw [if_pos h0]; exact .inl ⟨h0, rfl⟩
    rw [if_neg h0]
    by_cases h1 : I = 1
    · rw [if_pos h1]; exact .inr (.inl ⟨h1, rfl⟩)
    rw [if_neg h1]
    by_cases h2 : I = 2
    · rw [if_pos h2]; exact .inr (.inr (.inl ⟨h2, rfl⟩))
    rw [if_neg h2]
    by_cases h3 : 3 ≤ I % 100 ∧ I % 100 ≤ 10
    · rw [if_pos h3]; exact .inr (.inr (.inr (.inr (.inl ⟨by omega, h3.1, h3.2, rfl⟩))))
    rw [if_neg h3]
    by_cases h4 : 11 ≤ I % 100
    · rw [if_pos h4]; exact .inr (.inr (.inr (.inr (.inr ⟨by omega, h4, rfl⟩))))
    rw [if_neg h4]
    exact .inr (.inr (.inr (.inl ⟨by omega, by omega, rfl⟩)))
  · rw [if_neg hT]
    exact .inl ⟨hT, rfl⟩
set_option maxHeartbeats 8000000 in
set_option maxRecDepth 100000 in
theorem arabic_any (c s : Int) (w : World) (hR : RulesOk w) (hE : Env w) (hN : Names w) :
    Calls Tryd.prog 5 #[.agg #[.int .i64 c, .int .i64 s]] w (TrueB w) := by
  have HB0 : Hid (Bs w _ [_]) := Lib.hid (bs_one w [.int .i64 c, .int .i64 s] 36)
  have hb0 := HB0.out.below
  have CR := Lib.hid (show ∀ W, Below w.heap.size w W → Calls Tryd.prog 8 #[.string ⟨#[97, 114]⟩] W (Says W arZeroB arOneB arTwoB arFewB arManyB) from hR.ar)
  by_cases hd : Right c s
  · have CK := Lib.hid fun (W : World) (hW : Below w.heap.size w W) => ar_tells hd W (hE.later hW) (hN.later hW)
    have CO := Lib.hid fun (W : World) => of_ok hd W
    have hI0 := (ops_bounds hd).1.1
    have hI1 := (ops_bounds hd).1.2
    have HAR := Lib.hid (ar_ways (opsI c s) (opsT c s) hI0)
    clear hd hE hN hR
    generalize arK (opsI c s) (opsT c s) = KA at *
    generalize opsI c s = oI at *
    generalize opsW c s = oW at *
    generalize opsF c s = oF at *
    generalize opsT c s = oT at *
    obtain ⟨a, ha⟩ : ∃ a : Int, oI % 100 = a := ⟨_, rfl⟩
    have h100 : oI.tmod 100 = a := by rw [Int.tmod_eq_emod_of_nonneg hI0, ha]
    have ha0 : 0 ≤ a ∧ a < 100 := by omega
    have hwa : IntKind.i64.wrap a = a := by rw [IntKind.wrap_i64]; omega
    rw [ha] at HAR
    obtain ⟨d0, d1, -⟩ := HB0.out.cells
    go_enter Tryd.func5, Tryd.ntmps5
    go_upto_region 2 with (go_at_call 8; (with_reducible refine (CR.out _ hb0).mono ?_); rintro e w1 ⟨rfl, hb1⟩; dsimp only)
    have HB1 := Lib.hid ((HB0.out.call hb1).alloc [.string (str arZeroB), .string (str arOneB), .string (str arTwoB), .string (str arFewB), .string (str arManyB)] 23)
    have hB1 := HB1.out.below
    clear d0 d1
    obtain ⟨x0, x1, x2, x3, x4, d0, d1, -⟩ := HB1.out.cells
    go_upto_region 7 with (go_at_call 11; (with_reducible refine (CK.out _ hB1).mono ?_); rintro e w2 ⟨rfl, hb2⟩; (have HB2 := Lib.hid (HB1.out.call hb2)); dsimp only)
    clear x0 x1 x2 x3 x4 d0 d1
    obtain ⟨x0, x1, x2, x3, x4, d0, d1, -⟩ := HB2.out.cells
    go_upto_region 10 with (go_at_call 14; (with_reducible refine (CO.out _).mono ?_); rintro e w3 ⟨rfl, hb3⟩; (have HB3 := Lib.hid ((HB2.out.call hb3).alloc [.int .i64 oI, .int .i64 s, .int .i64 oW, .int .i64 oF, .int .i64 oT] 41)); dsimp only)
    clear x0 x1 x2 x3 x4 d0 d1 CR CK CO
    have hB3 := HB3.out.below
    obtain ⟨p0, p1, p2, p3, p4, -⟩ := HB3.out.cells
    rcases HAR.out with ⟨h1, rfl⟩ | ⟨rfl, ⟨rfl, rfl⟩ | ⟨rfl, rfl⟩ | ⟨rfl, rfl⟩ | ⟨h1, h2, rfl⟩ | ⟨h1, h2, h3, rfl⟩ | ⟨h1, h2, rfl⟩⟩
    · go_wp2_with fail
      go_ret
      exact ⟨rfl, hB3⟩
    · obtain rfl : a = 0 := by rw [← ha]; rfl
      go_wp2_with fail
      go_ret
      exact ⟨rfl, bel_alloc hB3 _⟩
    · obtain rfl : a = 1 := by rw [← ha]; rfl
      go_wp2_with fail
      go_ret
      exact ⟨rfl, bel_alloc hB3 _⟩
    · obtain rfl : a = 2 := by rw [← ha]; rfl
      go_wp2_with fail
      go_ret
      exact ⟨rfl, bel_alloc hB3 _⟩
    · have h3 : ¬ (3 ≤ a) := by omega
      have h4 : ¬ (11 ≤ a) := by omega
      go_wp2_with fail
      go_ret
      exact ⟨rfl, hB3⟩
    · have h4 : ¬ (11 ≤ a) := by omega
      go_wp2_with fail
      go_ret
      exact ⟨rfl, hB3⟩
    · have h4 : ¬ (a ≤ 10) := by omega
      have h5 : 3 ≤ a := by omega
      go_wp2_with fail
      go_ret
      exact ⟨rfl, hB3⟩
  · have CK := Lib.hid fun (W : World) (hW : Below w.heap.size w W) => (kind_bad arZeroB arOneB arTwoB arFewB arManyB c s W arLen (hE.later hW)).2 arRight hd
    have CD := Lib.hid fun (W : World) => (show Calls Tryd.prog 12 #[.agg #[.int .i64 c, .int .i64 s]] W (Gives W (.iface 30 (.int .i64 1))) from (D.check_any c s W).mono fun _ _ h => ⟨by rw [h.1, fault_no hd]; rfl, h.2⟩)
    clear hd hE hN hR
    obtain ⟨d0, d1, -⟩ := HB0.out.cells
    go_enter Tryd.func5, Tryd.ntmps5
    go_upto_region 2 with (go_at_call 8; (with_reducible refine (CR.out _ hb0).mono ?_); rintro e w1 ⟨rfl, hb1⟩; dsimp only)
    have HB1 := Lib.hid ((HB0.out.call hb1).alloc [.string (str arZeroB), .string (str arOneB), .string (str arTwoB), .string (str arFewB), .string (str arManyB)] 23)
    have hB1 := HB1.out.below
    clear d0 d1
    obtain ⟨x0, x1, x2, x3, x4, d0, d1, -⟩ := HB1.out.cells
    go_upto_region 5 with (go_at_call 11; (with_reducible refine (CK.out _ hB1).mono ?_); rintro e w2 ⟨rfl, hb2⟩; (have HB2 := Lib.hid (HB1.out.call hb2)); dsimp only)
    clear x0 x1 x2 x3 x4 d0 d1
    obtain ⟨-, -, -, -, -, d0, d1, -⟩ := HB2.out.cells
    go_wp2_with (go_at_call 12; (with_reducible refine (CD.out _).mono ?_); rintro e w3 ⟨rfl, hb3⟩; (have hB3 := bel_call HB2.out.below hb3))
    go_ret
    exact ⟨rfl, hB3⟩
end Ru
end Go.Proofs.YteedhnpdffnfjaaDoor
