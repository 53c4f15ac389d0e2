/- The law PluralJust returns true. -/
import Derived.Test.YtabglcpllfcmbaaDoorPlLaw
namespace Go.Proofs.YtabglcpllfcmbaaDoor
namespace Ru
open Go.RowKit Go.Maps D

set_option maxHeartbeats 8000000 in
set_option maxRecDepth 100000 in
theorem just_any (z o t f m : List UInt8) (c s : Int) (w : World) (hs : ∀ x ∈ [z, o, t, f, m], x.length ≤ 1073741824) (hE : Env w) (hN : Names w) :
    Calls Tryd.prog 3 #[.agg #[.string (str z), .string (str o), .string (str t), .string (str f), .string (str m)], .agg #[.int .i64 c, .int .i64 s]] w (TrueB w) := by
  have HB0 := Lib.hid (bs_two w [.string (str z), .string (str o), .string (str t), .string (str f), .string (str m)] [.int .i64 c, .int .i64 s] 23 25)
  have CF := Lib.hid fun (W : World) (hW : Below w.heap.size w W) => fact_ruled W (hE.later hW) (hN.later hW)
  have hb0 := HB0.out.below
  by_cases hg : RightS z o t f m ∧ Right c s
  · obtain ⟨hr, hd⟩ := hg
    have CK := Lib.hid fun (W : World) (hW : Below w.heap.size w W) => kind_good z o t f m c s W hs (hE.later hW) (hN.later hW) hr hd
    have CN := Lib.hid fun (W : World) (hW : Below w.heap.size w W) => (show Calls Tryd.prog 5 #[.agg #[.string (str z), .string (str o), .string (str t), .string (str f), .string (str m)], .agg #[.int .i64 (-c), .int .i64 s]] W (KindYes W (str (kindS [z, o, t, f, m] (opsI c s) s (opsW c s) (opsF c s) (opsT c s)))) from by
      obtain ⟨e1, e2, e3, e4⟩ := ops_neg c s
      have := kind_good z o t f m (-c) s W hs (hE.later hW) (hN.later hW) hr (by unfold Right at hd ⊢; omega)
      rwa [e1, e2, e3, e4] at this)
    have hsub : (0 : Int) - c = -c := by omega
    have hwr : IntKind.i64.wrap (-c) = -c := by have := hd.2.2; rw [IntKind.wrap_i64]; omega
    have hwr0 : IntKind.i64.wrap (0 - c) = -c := by rw [hsub, hwr]
    have CO := Lib.hid fun W => of_ok hd W
    have CT := Lib.hid fun (W : World) => setTexts_any z o t f m W
    have CD := Lib.hid fun (W : World) => kinds_any W
    have CP := Lib.hid fun (x : List UInt8) (hx : x ∈ [z, o, t, f, m]) (h0 : x ≠ []) (W : World) (hW : Below w.heap.size w W) => parse_yes (str x) (ruleOfL x) W (by rw [ba_size, str_data]; exact hs x hx) (hE.later hW) (by rw [str_data]; exact (hr x hx).resolve_left h0)
    have CH := Lib.hid fun (x : List UInt8) (hx : x ∈ [z, o, t, f, m]) (h0 : x ≠ []) (A : Option Addr) (cc base : Nat) (ps : List PartX) (W : World) (hv : ruleV ps = ruleOfL x) (ho : OwnRule W base (.slice A ps.length cc) ps) =>
      (slot_holds (slot_new h0 (hs x hx) ((hr x hx).resolve_left h0) hv ho) h0 (opsI c s) s (opsW c s) (opsF c s) (opsT c s) (ops_i64 hd).1 (ops_i64 hd).2.1 (ops_i64 hd).2.2.1 (ops_i64 hd).2.2.2.1 (ops_i64 hd).2.2.2.2).2 W (Below.refl _ _)
    have HKS : Hid (kindS [z, o, t, f, m] (opsI c s) s (opsW c s) (opsF c s) (opsT c s) = kindL (firstB ([z, o, t, f, m].map (hitB (opsI c s) s (opsW c s) (opsF c s) (opsT c s))))) := Lib.hid rfl
    have HHN : Hid (hitB (opsI c s) s (opsW c s) (opsF c s) (opsT c s) [] = false) := Lib.hid rfl
    have HT5 : Hid ([z, o, t, f, m].length = 5) := Lib.hid rfl
    clear hs hE hN hr hd
    generalize kindS [z, o, t, f, m] (opsI c s) s (opsW c s) (opsF c s) (opsT c s) = KS at *
    generalize hitB (opsI c s) s (opsW c s) (opsF c s) (opsT c s) = hit at *
    generalize [z, o, t, f, m] = ts at *
    generalize opsI c s = oI at *
    generalize opsW c s = oW at *
    generalize opsF c s = oF at *
    generalize opsT c s = oT at *
    obtain ⟨d0, d1, x0, x1, x2, x3, x4, -⟩ := HB0.out.cells
    go_enter Tryd.func3, Tryd.ntmps3
    go_upto_region 2 with (go_at_call 5; (with_reducible refine (CF.out _ hb0).mono ?_); rintro e w1 ⟨rfl, hb1⟩; (have hB1 := bel_call hb0 hb1); (have HB1 := Lib.hid (HB0.out.call hb1)); dsimp only)
    clear d0 d1 x0 x1 x2 x3 x4
    obtain ⟨d0, d1, x0, x1, x2, x3, x4, -⟩ := HB1.out.cells
    go_upto_region 7 with (go_at_call 5; (with_reducible refine (CK.out _ hB1).mono ?_); rintro e w2 ⟨rfl, hb2⟩; (have hB2 := bel_call hB1 hb2); (have HB2 := Lib.hid (HB1.out.call hb2)); dsimp only)
    clear d0 d1 x0 x1 x2 x3 x4
    obtain ⟨d0, d1, x0, x1, x2, x3, x4, -⟩ := HB2.out.cells
    go_upto_region 8 with (go_at_call 5; (with_reducible refine (CN.out _ hB2).mono ?_); rintro e w3 ⟨rfl, hb3⟩; (have hB3 := bel_call hB2 hb3); (have HB3 := Lib.hid (HB2.out.call hb3)); dsimp only)
    clear d0 d1 x0 x1 x2 x3 x4
    obtain ⟨d0, d1, x0, x1, x2, x3, x4, -⟩ := HB3.out.cells
    go_upto_region 11 with (go_at_call 6; (with_reducible refine (CO.out _).mono ?_); rintro e w4 ⟨rfl, hb4⟩; (have HB4 := Lib.hid ((HB3.out.call hb4).alloc [.int .i64 oI, .int .i64 s, .int .i64 oW, .int .i64 oF, .int .i64 oT] 31)); dsimp only)
    clear d0 d1 x0 x1 x2 x3 x4
    obtain ⟨p0, p1, p2, p3, p4, d0, d1, x0, x1, x2, x3, x4, -⟩ := HB4.out.cells
    go_upto_region 12 with (go_at_call 7; (with_reducible refine (CT.out _).mono ?_); rintro e w5 ⟨g, rfl, hg, hc, hb5⟩; (have HB5 := Lib.hid (HB4.out.call hb5)))
    have HC := Lib.hid fun (U : World) (hU : Below w5.heap.size w5 U) (j : Nat) (x : List UInt8) (h : ts[j]? = some x) => (hU.cell (p := ⟨g, j, none⟩) hg).trans (hc j x h)
    clear hc p0 p1 p2 p3 p4 d0 d1 x0 x1 x2 x3 x4 CF CK CN CO CT
    go_wp2_with fail
    go_loopw [14] (fun i wr => ∃ k : Nat, k ≤ 5 ∧ i = .int .i64 k ∧ Below w5.heap.size w5 wr ∧ Hid (∀ (j : Nat) (x : List UInt8), j < k → ts[j]? = some x → hit x = false)) (fun i _ => 5 - (intOf i).toNat)
    case atStart => exact ⟨0, Nat.zero_le _, rfl, Below.refl _ _, Lib.hid fun j _ h => absurd h (Nat.not_lt_zero _)⟩
    case round =>
      obtain ⟨k, hk, rfl, hb, HOK⟩ := hrel
      by_cases hlt : k < 5
      · have hki : (k : Int) < 5 := by omega
        have hki0 : (0 : Int) ≤ (k : Int) := by omega
        obtain ⟨x, hx⟩ : ∃ x, ts[k]? = some x := ⟨_, List.getElem?_eq_getElem (by rw [HT5.out]; exact hlt)⟩
        have x0 := HC.out wr hb k x hx
        have hxm : x ∈ ts := List.mem_of_getElem? hx
        have HXG := Lib.hid hx
        have HBR := Lib.hid (HB5.out.call hb)
        have HNEXT : Hid (hit x = false → ∀ (j : Nat) (y : List UInt8), j < k + 1 → ts[j]? = some y → hit y = false) := Lib.hid fun hh j y hj hy => by
          rcases Nat.lt_succ_iff_lt_or_eq.1 hj with hj | rfl
          · exact HOK.out j y hj hy
          · have e1 := HXG.out.symm.trans hy
            injection e1 with e1
            subst e1
            exact hh
        clear hx
        by_cases h0 : x = []
        · subst h0
          clear hxm
          go_wp2_with fail
          go_roundw
          case rel => exact ⟨k + 1, by omega, by go_num, hb, Lib.hid (HNEXT.out HHN.out)⟩
          case measure => simp [intOf]; omega
        · have hxe : (x == []) = false := by simpa using h0
          have CA := Lib.hid (CP.out x hxm h0 wr HBR.out.below)
          have CHX := Lib.hid (CH.out x hxm h0)
          clear hxm h0
          cases hh : hit x with
          | false =>
            rw [hh] at CHX
            go_wp2_with (first
              | (go_at_call 8; (with_reducible refine (CA.out).mono ?_); rintro e w6 ⟨ps, A, cc, hv, rfl, hcc, ho, hb6⟩; (have hd6 := HBR.out.call hb6); (obtain ⟨p0, p1, p2, p3, p4, -⟩ := hd6.cells); dsimp only)
              | (go_at_call 9; (with_reducible refine (CHX.out A cc _ ps _ hv ho).mono ?_); rintro e w7 ⟨rfl, hb7⟩; dsimp only))
            go_roundw
            case rel => exact ⟨k + 1, by omega, by go_num, bel_call hb (bel_call hb6 hb7), Lib.hid (HNEXT.out hh)⟩
            case measure => simp [intOf]; omega
          | true =>
            rw [hh] at CHX
            have HE : Hid (KS = kindL k) := Lib.hid (by rw [HKS.out, first_eq (k := k) (by rw [List.getElem?_map, HXG.out]; simpa using hh) (fun j hj => by
              obtain ⟨y, hy⟩ : ∃ y, ts[j]? = some y := ⟨_, List.getElem?_eq_getElem (by rw [HT5.out]; omega)⟩
              rw [List.getElem?_map, hy]
              simpa using HOK.out j y hj hy)])
            have HKA := Lib.hid fun (y : List UInt8) (hy : [kindL 0, kindL 1, kindL 2, kindL 3, kindL 4][k]? = some y) => (kind_at hlt hy).trans HE.out.symm
            have HKG : Hid (∃ y, [kindL 0, kindL 1, kindL 2, kindL 3, kindL 4][k]? = some y) := Lib.hid ⟨_, List.getElem?_eq_getElem (by simpa using hlt)⟩
            clear hh HE
            go_wp2_with (first
              | (go_at_call 8; (with_reducible refine (CA.out).mono ?_); rintro e w6 ⟨ps, A, cc, hv, rfl, hcc, ho, hb6⟩; (have hd6 := HBR.out.call hb6); (obtain ⟨p0, p1, p2, p3, p4, -⟩ := hd6.cells); dsimp only)
              | (go_at_call 9; (with_reducible refine (CHX.out A cc _ ps _ hv ho).mono ?_); rintro e w7 ⟨rfl, hb7⟩; dsimp only)
              | (go_at_call 10; (with_reducible refine (CD.out _).mono ?_); rintro e w8 ⟨g8, rfl, hg8, hc8, hb8⟩; (obtain ⟨y, hy⟩ := HKG.out); (obtain rfl := HKA.out y hy); (have z0 := hc8 k y hy); clear hc8 hy))
            go_ret
            exact ⟨rfl, bel_call HBR.out.below (bel_call hb6 (bel_call hb7 hb8))⟩
      · obtain rfl : k = 5 := by omega
        obtain rfl : KS = [111, 116, 104, 101, 114] := by
          rw [HKS.out, first_none (fun b hb => by
            obtain ⟨x, hx, rfl⟩ := List.mem_map.1 hb
            obtain ⟨j, hj⟩ := List.mem_iff_getElem?.1 hx
            exact HOK.out j x (by have := (List.getElem?_eq_some_iff.1 hj).1; rw [HT5.out] at this; exact this) hj), List.length_map, HT5.out]
          rfl
        clear HOK
        go_wp2_with fail
        go_ret
        exact ⟨rfl, bel_call HB5.out.below hb⟩
  · obtain ⟨kk, CK⟩ : ∃ kk : Nat, Hid (∀ W, Below w.heap.size w W → Calls Tryd.prog 5 #[.agg #[.string (str z), .string (str o), .string (str t), .string (str f), .string (str m)], .agg #[.int .i64 c, .int .i64 s]] W (KindNo W kk)) := by
      by_cases hr : RightS z o t f m
      · exact ⟨1, Lib.hid fun W hW => (kind_bad z o t f m c s W hs (hE.later hW)).2 hr (fun hd => hg ⟨hr, hd⟩)⟩
      · exact ⟨3, Lib.hid fun W hW => (kind_bad z o t f m c s W hs (hE.later hW)).1 hr⟩
    clear hs hE hN hg
    obtain ⟨d0, d1, x0, x1, x2, x3, x4, -⟩ := HB0.out.cells
    go_enter Tryd.func3, Tryd.ntmps3
    go_upto_region 2 with (go_at_call 5; (with_reducible refine (CF.out _ hb0).mono ?_); rintro e w1 ⟨rfl, hb1⟩; (have hB1 := bel_call hb0 hb1); (have HB1 := Lib.hid (HB0.out.call hb1)); dsimp only)
    clear d0 d1 x0 x1 x2 x3 x4
    obtain ⟨d0, d1, x0, x1, x2, x3, x4, -⟩ := HB1.out.cells
    go_wp2_with (go_at_call 5; (with_reducible refine (CK.out _ hB1).mono ?_); rintro e w2 ⟨rfl, hb2⟩; (have hB2 := bel_call hB1 hb2); dsimp only)
    go_ret
    exact ⟨rfl, hB2⟩
end Ru
end Go.Proofs.YtabglcpllfcmbaaDoor
