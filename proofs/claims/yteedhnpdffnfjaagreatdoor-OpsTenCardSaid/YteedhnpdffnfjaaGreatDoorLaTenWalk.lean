/- The law OpsTen returns true. -/
import Derived.Test.YteedhnpdffnfjaaGreatDoorLaTenFacts
import Derived.Test.YteedhnpdffnfjaaGreatDoorDecText
import Derived.Test.YteedhnpdffnfjaaGreatDoorDecComp
import Derived.Test.YteedhnpdffnfjaaGreatDoorDecSize
namespace Go.Proofs.YteedhnpdffnfjaaGreatDoor
namespace Ru
open Go.RowKit Go.Maps D

theorem str_app (a b : List UInt8) : str (a ++ b) = str a ++ (⟨b.toArray⟩ : ByteArray) := by apply ba_ext; simp
theorem text_small {c k : Int} (h : Right c k) : (str (text c k.toNat)).size ≤ 27 := by
  obtain ⟨k0, k9, c0, c1⟩ := h
  rw [ba_size, str_data]
  unfold text
  have e : (Lib.decDigits (c.natAbs / 10 ^ k.toNat)).length ≤ 16 := by
    rw [Lib.decDigits_length]
    exact nDigits_le (by decide) (Nat.lt_of_le_of_lt (Nat.div_le_self _ _) (by omega))
  have e1 : (if c < 0 then [45] else ([] : List UInt8)).length ≤ 1 := by split <;> simp
  have e2 : (if k.toNat = 0 then [] else 46 :: low k.toNat c.natAbs).length ≤ 10 := by
    split
    · simp
    · rw [List.length_cons, low_length]; omega
  rw [List.length_append, List.length_append]
  omega
theorem toNat_succ {s : Int} (h : 0 ≤ s) : (s + 1).toNat = s.toNat + 1 := by omega
set_option maxHeartbeats 8000000 in
set_option maxRecDepth 100000 in
theorem opsTen_any (c s : Int) (w : World) (hR : RulesOk w) (hE : Env w) (hN : Names w) :
    Calls Tryz.prog 3 #[.agg #[.int .i64 c, .int .i64 s]] w (TrueB w) := by
  have HB0 : Hid (Bs w _ [_]) := Lib.hid (bs_one w [.int .i64 c, .int .i64 s] 23)
  have hb0 := HB0.out.below
  have CR := Lib.hid (show ∀ W, Below w.heap.size w W → Calls Tryz.prog 4 #[.string ⟨#[97, 114]⟩] W (Says W arZeroB arOneB arTwoB arFewB arManyB) from hR.ar)
  have hen : (arTwoB == []) = false := rfl
  by_cases hd : Right c s
  · have hs0 := hd.1
    have hs9 := hd.2.1
    have hcb := hd.2.2
    have hw1 : IntKind.i64.wrap (10 * c) = 10 * c := by rw [IntKind.wrap_i64]; omega
    have hw2 : IntKind.i64.wrap (s + 1) = s + 1 := by rw [IntKind.wrap_i64]; omega
    have C1 := Lib.hid fun (W : World) => (show Calls Tryz.prog 5 #[.agg #[.int .i64 c, .int .i64 s]] W (Gives W .nilIface) from (D.check_any c s W).mono fun _ _ h => ⟨by rw [h.1, show faultD c s = 0 from if_pos hd]; rfl, h.2⟩)
    by_cases hd' : Right (10 * c) (s + 1)
    · have C2 := Lib.hid fun (W : World) => (show Calls Tryz.prog 5 #[.agg #[.int .i64 (10 * c), .int .i64 (s + 1)]] W (Gives W .nilIface) from (D.check_any (10 * c) (s + 1) W).mono fun _ _ h => ⟨by rw [h.1, show faultD (10 * c) (s + 1) = 0 from if_pos hd']; rfl, h.2⟩)
      have CS := Lib.hid fun (W : World) => refSize_any c W (by omega) (by omega)
      have hsm : ¬ ((100000000000000 : Int) < (c.natAbs : Int)) := by have := hd'.2.2; omega
      have K1 := Lib.hid fun (W : World) (hW : Below w.heap.size w W) => ar_tells hd W (hE.later hW) (hN.later hW)
      have K2 := Lib.hid fun (W : World) (hW : Below w.heap.size w W) => ar_tells hd' W (hE.later hW) (hN.later hW)
      obtain ⟨o1, o2⟩ := ops_ten c hs0
      rw [o1, o2] at K2
      have T1 := Lib.hid fun (W : World) (hW : Below w.heap.size w W) => D.text_any c s W hd (hE.strc.later hW)
      have T2 := Lib.hid fun (W : World) (hW : Below w.heap.size w W) => D.text_any (10 * c) (s + 1) W hd' (hE.strc.later hW)
      rw [toNat_succ hs0, text_ten] at T2
      have CM := Lib.hid fun (W : World) => (show Calls Tryz.prog 9 #[.agg #[.int .i64 c, .int .i64 s], .agg #[.int .i64 (10 * c), .int .i64 (s + 1)]] W (Gives W (.bool true)) from (D.same_any c s (10 * c) (s + 1) W).mono fun _ _ h => ⟨by rw [h.1, show sameB c s (10 * c) (s + 1) = true from decide_eq_true ⟨hd, hd', (val_ten hs0 (by have := hd'.2.1; omega)).symm⟩], h.2⟩)
      have HT : Hid ((s = 0 → str ((if s.toNat = 0 then text c 0 ++ [46] else text c s.toNat) ++ [48]) = (str (text c s.toNat) ++ (⟨#[46]⟩ : ByteArray)) ++ (⟨#[48]⟩ : ByteArray)) ∧ (¬ s = 0 → str ((if s.toNat = 0 then text c 0 ++ [46] else text c s.toNat) ++ [48]) = str (text c s.toNat) ++ (⟨#[48]⟩ : ByteArray))) := Lib.hid ⟨fun h => by
        subst h
        rw [show (0 : Int).toNat = 0 from rfl, if_pos rfl, str_app, str_app], fun h => by
        rw [if_neg (by omega), str_app]⟩
      generalize hs1 : s + 1 = s1 at C2 K2 T2 CM
      have hw3 : IntKind.i64.wrap (s + 1) = s1 := by rw [hw2, hs1]
      have hts := text_small hd
      clear hd hd' hE hN hR o1 o2 hcb hw2 hs1
      generalize str ((if s.toNat = 0 then text c 0 ++ [46] else text c s.toNat) ++ [48]) = t2 at *
      generalize str (text c s.toNat) = t1 at *
      have hts1 : ¬ 9223372036854775807 < t1.size + 1 := by omega
      have hts2 : ¬ 9223372036854775807 < t1.size + 1 + 1 := by omega
      clear hts
      generalize arK (opsI c s) (opsT c s) = K at *
      generalize (c.natAbs : Int) = m at *
      have hsm2 : m ≤ 100000000000000 := by omega
      clear hsm
      obtain ⟨d0, d1, -⟩ := HB0.out.cells
      go_enter Tryz.func3, Tryz.ntmps3
      go_upto_region 2 with (go_at_call 4; (with_reducible refine (CR.out _ hb0).mono ?_); rintro e w1 ⟨rfl, hb1⟩; dsimp only)
      have HB1 := Lib.hid ((HB0.out.call hb1).alloc [.string (str arZeroB), .string (str arOneB), .string (str arTwoB), .string (str arFewB), .string (str arManyB)] 25)
      clear d0 d1 CR
      obtain ⟨x0, x1, x2, x3, x4, d0, d1, -⟩ := HB1.out.cells
      go_upto_region 5 with fail
      have HB2 : Hid (Bs w _ [(w1.heap.size + 1, _), _, _]) := Lib.hid (by have h := HB1.out.alloc [.int .i64 (10 * c), .int .i64 s1] 23; rwa [World.size_alloc] at h)
      have hB2 := HB2.out.below
      clear x0 x1 x2 x3 x4 d0 d1
      obtain ⟨y0, y1, x0, x1, x2, x3, x4, d0, d1, -⟩ := HB2.out.cells
      go_upto_region 7 with (first
        | (go_at_call 5; (with_reducible refine (C1.out _).mono ?_); rintro e w3 ⟨rfl, hb3⟩; (have HB3 := Lib.hid (HB2.out.call hb3)); (obtain ⟨y0, y1, x0, x1, x2, x3, x4, d0, d1, -⟩ := HB3.out.cells))
        | (go_at_call 5; (with_reducible refine (C2.out _).mono ?_); rintro e w4 ⟨rfl, hb4⟩; (have HB4 := Lib.hid (HB3.out.call hb4)); (obtain ⟨y0, y1, x0, x1, x2, x3, x4, d0, d1, -⟩ := HB4.out.cells))
        | (go_at_call 6; (with_reducible refine (CS.out _).mono ?_); rintro e w5 ⟨rfl, rfl⟩))
      any_goals (first | (exfalso; omega) | skip)
      have hB4 := HB4.out.below
      clear C1 C2 CS
      go_upto_region 8 with (go_at_call 7; (with_reducible refine (K1.out _ hB4).mono ?_); rintro e w6 ⟨rfl, hb6⟩; (have HB6 := Lib.hid (HB4.out.call hb6)); (have hB6 := HB6.out.below); (obtain ⟨y0, y1, x0, x1, x2, x3, x4, d0, d1, -⟩ := HB6.out.cells); dsimp only)
      go_upto_region 9 with (go_at_call 7; (with_reducible refine (K2.out _ hB6).mono ?_); rintro e w7 ⟨rfl, hb7⟩; (have HB7 := Lib.hid (HB6.out.call hb7)); (have hB7 := HB7.out.below); (obtain ⟨y0, y1, x0, x1, x2, x3, x4, d0, d1, -⟩ := HB7.out.cells); dsimp only)
      go_upto_region 10 with (go_at_call 8; (with_reducible refine (T1.out _ hB7).mono ?_); rintro e w8 ⟨rfl, hb8⟩; (have HB8 := Lib.hid (HB7.out.call hb8)); (have hB8 := HB8.out.below); (obtain ⟨y0, y1, -, -, -, -, -, d0, d1, -⟩ := HB8.out.cells))
      by_cases hz : s = 0
      · obtain rfl : t2 = (t1 ++ (⟨#[46]⟩ : ByteArray)) ++ (⟨#[48]⟩ : ByteArray) := HT.out.1 hz
        subst hz
        clear HT K1 K2 T1
        go_wp2_with (first
          | (go_at_call 9; (with_reducible refine (CM.out _).mono ?_); rintro e w9 ⟨rfl, hb9⟩; (have HB9 := Lib.hid (HB8.out.call hb9)); (have hB9 := HB9.out.below); (obtain ⟨y0, y1, -⟩ := HB9.out.cells))
          | (go_at_call 8; (with_reducible refine (T2.out _ hB9).mono ?_); rintro e w10 ⟨rfl, hb10⟩; (have hB10 := bel_call hB9 hb10)))
        go_ret
        exact ⟨rfl, hB10⟩
      · obtain rfl : t2 = t1 ++ (⟨#[48]⟩ : ByteArray) := HT.out.2 hz
        clear HT K1 K2 T1
        go_wp2_with (first
          | (go_at_call 9; (with_reducible refine (CM.out _).mono ?_); rintro e w9 ⟨rfl, hb9⟩; (have HB9 := Lib.hid (HB8.out.call hb9)); (have hB9 := HB9.out.below); (obtain ⟨y0, y1, -⟩ := HB9.out.cells))
          | (go_at_call 8; (with_reducible refine (T2.out _ hB9).mono ?_); rintro e w10 ⟨rfl, hb10⟩; (have hB10 := bel_call hB9 hb10)))
        go_ret
        exact ⟨rfl, hB10⟩
    · have C2 := Lib.hid fun (W : World) => (show Calls Tryz.prog 5 #[.agg #[.int .i64 (10 * c), .int .i64 (s + 1)]] W (Gives W (.iface 37 (.int .i64 1))) from (D.check_any (10 * c) (s + 1) W).mono fun _ _ h => ⟨by rw [h.1, fault_no hd']; rfl, h.2⟩)
      clear hd hd' hE hN hR hcb
      obtain ⟨d0, d1, -⟩ := HB0.out.cells
      go_enter Tryz.func3, Tryz.ntmps3
      go_upto_region 2 with (go_at_call 4; (with_reducible refine (CR.out _ hb0).mono ?_); rintro e w1 ⟨rfl, hb1⟩; dsimp only)
      have HB1 := Lib.hid ((HB0.out.call hb1).alloc [.string (str arZeroB), .string (str arOneB), .string (str arTwoB), .string (str arFewB), .string (str arManyB)] 25)
      clear d0 d1 CR
      obtain ⟨x0, x1, x2, x3, x4, d0, d1, -⟩ := HB1.out.cells
      go_upto_region 5 with fail
      have HB2 : Hid (Bs w _ [(w1.heap.size + 1, _), _, _]) := Lib.hid (by have h := HB1.out.alloc [.int .i64 (10 * c), .int .i64 (s + 1)] 23; rwa [World.size_alloc] at h)
      clear x0 x1 x2 x3 x4 d0 d1
      obtain ⟨y0, y1, -, -, -, -, -, d0, d1, -⟩ := HB2.out.cells
      go_wp2_with (first
        | (go_at_call 5; (with_reducible refine (C1.out _).mono ?_); rintro e w3 ⟨rfl, hb3⟩; (have HB3 := Lib.hid (HB2.out.call hb3)); (obtain ⟨y0, y1, -, -, -, -, -, d0, d1, -⟩ := HB3.out.cells))
        | (go_at_call 5; (with_reducible refine (C2.out _).mono ?_); rintro e w4 ⟨rfl, hb4⟩; (have HB4 := Lib.hid (HB3.out.call hb4))))
      go_ret
      exact ⟨rfl, HB4.out.below⟩
  · have C1 := Lib.hid fun (W : World) => (show Calls Tryz.prog 5 #[.agg #[.int .i64 c, .int .i64 s]] W (Gives W (.iface 37 (.int .i64 1))) from (D.check_any c s W).mono fun _ _ h => ⟨by rw [h.1, fault_no hd]; rfl, h.2⟩)
    obtain ⟨c', hc'⟩ : ∃ c' : Int, IntKind.i64.wrap (10 * c) = c' := ⟨_, rfl⟩
    obtain ⟨s', hs'⟩ : ∃ s' : Int, IntKind.i64.wrap (s + 1) = s' := ⟨_, rfl⟩
    clear hd hE hN hR
    obtain ⟨d0, d1, -⟩ := HB0.out.cells
    go_enter Tryz.func3, Tryz.ntmps3
    go_upto_region 2 with (go_at_call 4; (with_reducible refine (CR.out _ hb0).mono ?_); rintro e w1 ⟨rfl, hb1⟩; dsimp only)
    have HB1 := Lib.hid ((HB0.out.call hb1).alloc [.string (str arZeroB), .string (str arOneB), .string (str arTwoB), .string (str arFewB), .string (str arManyB)] 25)
    clear d0 d1 CR
    obtain ⟨x0, x1, x2, x3, x4, d0, d1, -⟩ := HB1.out.cells
    go_upto_region 5 with fail
    have HB2 : Hid (Bs w _ [(w1.heap.size + 1, _), _, _]) := Lib.hid (by have h := HB1.out.alloc [.int .i64 c', .int .i64 s'] 23; rwa [World.size_alloc] at h)
    clear x0 x1 x2 x3 x4 d0 d1
    obtain ⟨y0, y1, -, -, -, -, -, d0, d1, -⟩ := HB2.out.cells
    go_wp2_with (go_at_call 5; (with_reducible refine (C1.out _).mono ?_); rintro e w3 ⟨rfl, hb3⟩; (have HB3 := Lib.hid (HB2.out.call hb3)))
    go_ret
    exact ⟨rfl, HB3.out.below⟩
end Ru
end Go.Proofs.YteedhnpdffnfjaaGreatDoor
