/- The law LangSlavic returns true. -/
import Derived.Test.YteedhnpdffnfjaaDoorLaSays
import Derived.Test.YteedhnpdffnfjaaDoorDecRef
namespace Go.Proofs.YteedhnpdffnfjaaDoor
namespace Ru
open Go.RowKit Go.Maps D

set_option maxHeartbeats 8000000 in
set_option maxRecDepth 100000 in
theorem slavic_any (n : Int) (w : World) (hR : RulesOk w) (hE : Env w) (hN : Names w) :
    Calls Tryd.prog 4 #[.int .i64 n] w (TrueB w) := by
  have hb0 := Below.refl w.heap.size w
  have CR := Lib.hid (show ∀ W, Below w.heap.size w W → Calls Tryd.prog 8 #[.string ⟨#[114, 117]⟩] W (Says W [] ruOneB [] plFewB ruManyB) from hR.ru)
  have CP := Lib.hid (show ∀ W, Below w.heap.size w W → Calls Tryd.prog 8 #[.string ⟨#[112, 108]⟩] W (Says W [] enOneB [] plFewB plManyB) from hR.pl)
  by_cases hd : Right n 0
  · have CKR := Lib.hid fun (W : World) (hW : Below w.heap.size w W) => ru_tells hd W (hE.later hW) (hN.later hW)
    have CKP := Lib.hid fun (W : World) (hW : Below w.heap.size w W) => pl_tells hd W (hE.later hW) (hN.later hW)
    have CS := Lib.hid fun (W : World) => refSize_any n W (by have := hd.2.2; omega) (by have := hd.2.2; omega)
    obtain ⟨m, hm⟩ : ∃ m : Int, (n.natAbs : Int) = m := ⟨_, rfl⟩
    have hm0 : 0 ≤ m := by omega
    have hm1 : m ≤ 1000000000000000 := by have := hd.2.2; omega
    rw [hm] at CKR CKP CS
    obtain ⟨a, ha⟩ : ∃ a : Int, m % 100 = a := ⟨_, rfl⟩
    obtain ⟨b, hb⟩ : ∃ b : Int, m % 10 = b := ⟨_, rfl⟩
    have h100 : m.tmod 100 = a := by rw [Int.tmod_eq_emod_of_nonneg hm0, ha]
    have h10 : m.tmod 10 = b := by rw [Int.tmod_eq_emod_of_nonneg hm0, hb]
    have ha0 : 0 ≤ a ∧ a < 100 := by omega
    have hb00 : 0 ≤ b ∧ b < 10 := by omega
    have hwa : IntKind.i64.wrap a = a := by rw [IntKind.wrap_i64]; omega
    have hwb : IntKind.i64.wrap b = b := by rw [IntKind.wrap_i64]; omega
    have HKR := Lib.hid (show ruK m = if (2 ≤ b ∧ b ≤ 4) ∧ ¬ (11 ≤ a ∧ a ≤ 14) then [102, 101, 119] else if b = 1 ∧ ¬ (11 ≤ a ∧ a ≤ 14) then [111, 110, 101] else [109, 97, 110, 121] from by unfold ruK; rw [ha, hb])
    have HKP := Lib.hid (show plK m = if m = 1 then [111, 110, 101] else if (2 ≤ b ∧ b ≤ 4) ∧ ¬ (11 ≤ a ∧ a ≤ 14) then [102, 101, 119] else [109, 97, 110, 121] from by unfold plK; rw [ha, hb])
    have HAB := Lib.hid (show m = 1 → a = 1 ∧ b = 1 from fun h => by omega)
    have HBA := Lib.hid (show a % 10 = b from by omega)
    clear hm hd hE hN hR ha hb
    generalize ruK m = KR at *
    generalize plK m = KP at *
    go_enter Tryd.func4, Tryd.ntmps4
    go_upto_region 2 with (go_at_call 8; (with_reducible refine (CR.out _ hb0).mono ?_); rintro e w1 ⟨rfl, hb1⟩; dsimp only)
    have HB1 := Lib.hid (((Bs.start w).call hb1).alloc [.string (str []), .string (str ruOneB), .string (str []), .string (str plFewB), .string (str ruManyB)] 23)
    have hB1 := HB1.out.below
    go_upto_region 5 with (go_at_call 8; (with_reducible refine (CP.out _ hB1).mono ?_); rintro e w2 ⟨rfl, hb2⟩; dsimp only)
    have HB2 := Lib.hid ((HB1.out.call hb2).alloc [.string (str []), .string (str enOneB), .string (str []), .string (str plFewB), .string (str plManyB)] 23)
    have hB2 := HB2.out.below
    obtain ⟨y0, y1, y2, y3, y4, x0, x1, x2, x3, x4, -⟩ := HB2.out.cells
    go_upto_region 6 with (go_at_call 11; (with_reducible refine (CKR.out _ hB2).mono ?_); rintro e w3 ⟨rfl, hb3⟩; (have HB3 := Lib.hid (HB2.out.call hb3)); (have hB3 := HB3.out.below); dsimp only)
    clear y0 y1 y2 y3 y4 x0 x1 x2 x3 x4
    obtain ⟨y0, y1, y2, y3, y4, -⟩ := HB3.out.cells
    go_upto_region 9 with (go_at_call 11; (with_reducible refine (CKP.out _ hB3).mono ?_); rintro e w4 ⟨rfl, hb4⟩; (have hB4 := bel_call hB3 hb4); dsimp only)
    clear y0 y1 y2 y3 y4 CR CP CKR CKP
    go_upto_region 10 with (go_at_call 13; (with_reducible refine (CS.out _).mono ?_); rintro e w5 ⟨rfl, rfl⟩)
    clear CS
    rcases (show a < 11 ∨ (11 ≤ a ∧ a ≤ 14) ∨ 14 < a from by omega) with hA | ⟨hA, hA'⟩ | hA
    · rcases (show b < 1 ∨ b = 1 ∨ (2 ≤ b ∧ b ≤ 4) ∨ 4 < b from by omega) with hB | rfl | ⟨hB, hB'⟩ | hB
      · have hM : ¬ m = 1 := fun h => by have h1 := HAB.out h; omega
        have c1 : ¬ (11 ≤ a) := by omega
        have c3 : ¬ (2 ≤ b) := by omega
        have c5 : ¬ b = 1 := by omega
        obtain rfl : KR = [109, 97, 110, 121] := by rw [HKR.out, if_neg (by omega), if_neg (by omega)]
        obtain rfl : KP = [109, 97, 110, 121] := by rw [HKP.out, if_neg (by omega), if_neg (by omega)]
        clear HKR HKP HAB HBA
        go_wp2_with fail
        go_ret
        exact ⟨rfl, hB4⟩
      · rcases (show m = 1 ∨ ¬ m = 1 from by omega) with rfl | hM
        · have c1 : ¬ (11 ≤ a) := by omega
          obtain rfl : KR = [111, 110, 101] := by rw [HKR.out, if_neg (by omega), if_pos (by omega)]
          obtain rfl : KP = [111, 110, 101] := by rw [HKP.out, if_pos rfl]
          clear HKR HKP HAB HBA
          go_wp2_with fail
          go_ret
          exact ⟨rfl, hB4⟩
        · have c1 : ¬ (11 ≤ a) := by omega
          obtain rfl : KR = [111, 110, 101] := by rw [HKR.out, if_neg (by omega), if_pos (by omega)]
          obtain rfl : KP = [109, 97, 110, 121] := by rw [HKP.out, if_neg (by omega), if_neg (by omega)]
          clear HKR HKP HAB HBA
          go_wp2_with fail
          go_ret
          exact ⟨rfl, hB4⟩
      · have hM : ¬ m = 1 := fun h => by have h1 := HAB.out h; omega
        have c1 : ¬ (11 ≤ a) := by omega
        have c5 : ¬ b = 1 := by omega
        obtain rfl : KR = [102, 101, 119] := by rw [HKR.out, if_pos (by omega)]
        obtain rfl : KP = [102, 101, 119] := by rw [HKP.out, if_neg (by omega), if_pos (by omega)]
        clear HKR HKP HAB HBA
        go_wp2_with fail
        go_ret
        exact ⟨rfl, hB4⟩
      · have hM : ¬ m = 1 := fun h => by have h1 := HAB.out h; omega
        have c1 : ¬ (11 ≤ a) := by omega
        have c3 : 2 ≤ b := by omega
        have c4 : ¬ (b ≤ 4) := by omega
        have c5 : ¬ b = 1 := by omega
        obtain rfl : KR = [109, 97, 110, 121] := by rw [HKR.out, if_neg (by omega), if_neg (by omega)]
        obtain rfl : KP = [109, 97, 110, 121] := by rw [HKP.out, if_neg (by omega), if_neg (by omega)]
        clear HKR HKP HAB HBA
        go_wp2_with fail
        go_ret
        exact ⟨rfl, hB4⟩
    · rcases (show b < 1 ∨ b = 1 ∨ (2 ≤ b ∧ b ≤ 4) ∨ 4 < b from by omega) with hB | rfl | ⟨hB, hB'⟩ | hB
      · exfalso; have h2 := HBA.out; omega
      · have hM : ¬ m = 1 := fun h => by have h1 := HAB.out h; omega
        obtain rfl : KR = [109, 97, 110, 121] := by rw [HKR.out, if_neg (by omega), if_neg (by omega)]
        obtain rfl : KP = [109, 97, 110, 121] := by rw [HKP.out, if_neg (by omega), if_neg (by omega)]
        clear HKR HKP HAB HBA
        go_wp2_with fail
        go_ret
        exact ⟨rfl, hB4⟩
      · have hM : ¬ m = 1 := fun h => by have h1 := HAB.out h; omega
        have c5 : ¬ b = 1 := by omega
        obtain rfl : KR = [109, 97, 110, 121] := by rw [HKR.out, if_neg (by omega), if_neg (by omega)]
        obtain rfl : KP = [109, 97, 110, 121] := by rw [HKP.out, if_neg (by omega), if_neg (by omega)]
        clear HKR HKP HAB HBA
        go_wp2_with fail
        go_ret
        exact ⟨rfl, hB4⟩
      · exfalso; have h2 := HBA.out; omega
    · rcases (show b < 1 ∨ b = 1 ∨ (2 ≤ b ∧ b ≤ 4) ∨ 4 < b from by omega) with hB | rfl | ⟨hB, hB'⟩ | hB
      · have hM : ¬ m = 1 := fun h => by have h1 := HAB.out h; omega
        have c1 : 11 ≤ a := by omega
        have c2 : ¬ (a ≤ 14) := by omega
        have c3 : ¬ (2 ≤ b) := by omega
        have c5 : ¬ b = 1 := by omega
        obtain rfl : KR = [109, 97, 110, 121] := by rw [HKR.out, if_neg (by omega), if_neg (by omega)]
        obtain rfl : KP = [109, 97, 110, 121] := by rw [HKP.out, if_neg (by omega), if_neg (by omega)]
        clear HKR HKP HAB HBA
        go_wp2_with fail
        go_ret
        exact ⟨rfl, hB4⟩
      · have hM : ¬ m = 1 := fun h => by have h1 := HAB.out h; omega
        have c1 : 11 ≤ a := by omega
        have c2 : ¬ (a ≤ 14) := by omega
        obtain rfl : KR = [111, 110, 101] := by rw [HKR.out, if_neg (by omega), if_pos (by omega)]
        obtain rfl : KP = [109, 97, 110, 121] := by rw [HKP.out, if_neg (by omega), if_neg (by omega)]
        clear HKR HKP HAB HBA
        go_wp2_with fail
        go_ret
        exact ⟨rfl, hB4⟩
      · have hM : ¬ m = 1 := fun h => by have h1 := HAB.out h; omega
        have c1 : 11 ≤ a := by omega
        have c2 : ¬ (a ≤ 14) := by omega
        have c5 : ¬ b = 1 := by omega
        obtain rfl : KR = [102, 101, 119] := by rw [HKR.out, if_pos (by omega)]
        obtain rfl : KP = [102, 101, 119] := by rw [HKP.out, if_neg (by omega), if_pos (by omega)]
        clear HKR HKP HAB HBA
        go_wp2_with fail
        go_ret
        exact ⟨rfl, hB4⟩
      · have hM : ¬ m = 1 := fun h => by have h1 := HAB.out h; omega
        have c1 : 11 ≤ a := by omega
        have c2 : ¬ (a ≤ 14) := by omega
        have c3 : 2 ≤ b := by omega
        have c4 : ¬ (b ≤ 4) := by omega
        have c5 : ¬ b = 1 := by omega
        obtain rfl : KR = [109, 97, 110, 121] := by rw [HKR.out, if_neg (by omega), if_neg (by omega)]
        obtain rfl : KP = [109, 97, 110, 121] := by rw [HKP.out, if_neg (by omega), if_neg (by omega)]
        clear HKR HKP HAB HBA
        go_wp2_with fail
        go_ret
        exact ⟨rfl, hB4⟩
  · have KR := Lib.hid fun (W : World) (hW : Below w.heap.size w W) => (kind_bad [] ruOneB [] plFewB ruManyB n 0 W ruLen (hE.later hW)).2 ruRight hd
    have KP := Lib.hid fun (W : World) (hW : Below w.heap.size w W) => (kind_bad [] enOneB [] plFewB plManyB n 0 W plLen (hE.later hW)).2 plRight hd
    have CD := Lib.hid fun (W : World) => (show Calls Tryd.prog 12 #[.agg #[.int .i64 n, .int .i64 0]] W (Gives W (.iface 30 (.int .i64 1))) from (D.check_any n 0 W).mono fun _ _ h => ⟨by rw [h.1, fault_no hd]; rfl, h.2⟩)
    clear hd hE hN hR
    go_enter Tryd.func4, Tryd.ntmps4
    go_upto_region 2 with (go_at_call 8; (with_reducible refine (CR.out _ hb0).mono ?_); rintro e w1 ⟨rfl, hb1⟩; dsimp only)
    have HB1 := Lib.hid (((Bs.start w).call hb1).alloc [.string (str []), .string (str ruOneB), .string (str []), .string (str plFewB), .string (str ruManyB)] 23)
    have hB1 := HB1.out.below
    go_upto_region 5 with (go_at_call 8; (with_reducible refine (CP.out _ hB1).mono ?_); rintro e w2 ⟨rfl, hb2⟩; dsimp only)
    have HB2 := Lib.hid ((HB1.out.call hb2).alloc [.string (str []), .string (str enOneB), .string (str []), .string (str plFewB), .string (str plManyB)] 23)
    have hB2 := HB2.out.below
    obtain ⟨y0, y1, y2, y3, y4, x0, x1, x2, x3, x4, -⟩ := HB2.out.cells
    go_upto_region 6 with (go_at_call 11; (with_reducible refine (KR.out _ hB2).mono ?_); rintro e w3 ⟨rfl, hb3⟩; (have HB3 := Lib.hid (HB2.out.call hb3)); (have hB3 := HB3.out.below); dsimp only)
    clear y0 y1 y2 y3 y4 x0 x1 x2 x3 x4
    obtain ⟨y0, y1, y2, y3, y4, -⟩ := HB3.out.cells
    go_upto_region 8 with (go_at_call 11; (with_reducible refine (KP.out _ hB3).mono ?_); rintro e w4 ⟨rfl, hb4⟩; (have hB4 := bel_call hB3 hb4); dsimp only)
    clear y0 y1 y2 y3 y4 CR CP KR KP
    go_wp2_with (go_at_call 12; (with_reducible refine (CD.out _).mono ?_); rintro e w5 ⟨rfl, hb5⟩; (have hB5 := bel_call hB4 hb5))
    go_ret
    exact ⟨rfl, hB5⟩
end Ru
end Go.Proofs.YteedhnpdffnfjaaDoor
