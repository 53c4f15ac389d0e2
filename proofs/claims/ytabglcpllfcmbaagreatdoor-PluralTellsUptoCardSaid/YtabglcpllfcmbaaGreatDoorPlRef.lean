/- The reference's SetFault and KindOf; what lay in memory stays as it was. -/
import Derived.Test.YtabglcpllfcmbaaGreatDoorPlTexts
import Derived.Test.YtabglcpllfcmbaaGreatDoorRuRuleOf
import Derived.Test.YtabglcpllfcmbaaGreatDoorOpsRef
namespace Go.Proofs.YtabglcpllfcmbaaGreatDoor
namespace Ru
open Go.RowKit Go.Maps D

set_option maxHeartbeats 2000000 in
set_option maxRecDepth 100000 in
theorem setCheck_any (z o t f m : List UInt8) (w : World) (hs : ∀ x ∈ [z, o, t, f, m], x.length ≤ 1073741824) (hE : Env w) :
    (RightS z o t f m → Calls Tryz.prog 17 #[.agg #[.string (str z), .string (str o), .string (str t), .string (str f), .string (str m)]] w (Gives w .nilIface)) ∧
    (¬ RightS z o t f m → Calls Tryz.prog 17 #[.agg #[.string (str z), .string (str o), .string (str t), .string (str f), .string (str m)]] w (Gives w (.iface 26 (.int .i64 3)))) := by
  have HB0 : Hid (Bs w _ [_]) := Lib.hid (bs_one w [.string (str z), .string (str o), .string (str t), .string (str f), .string (str m)] 44)
  have HR := Lib.hid (read_any z o t f m _ hs (hE.later HB0.out.below))
  obtain ⟨x0, x1, x2, x3, x4, -⟩ := HB0.out.cells
  clear hs hE
  constructor
  · intro h
    have CY := Lib.hid (read_yes HR.out h)
    clear h HR
    go_enter Tryz.func17, Tryz.ntmps17
    go_wp2_with (go_at_call 41; (with_reducible refine (CY.out).mono ?_); rintro e w2 ⟨v0, v1, v2, v3, v4, rfl, s0, s1, s2, s3, s4, hb2⟩; (obtain ⟨A0, n0, k0, rfl⟩ := s0.shape); (obtain ⟨A1, n1, k1, rfl⟩ := s1.shape); (obtain ⟨A2, n2, k2, rfl⟩ := s2.shape); (obtain ⟨A3, n3, k3, rfl⟩ := s3.shape); (obtain ⟨A4, n4, k4, rfl⟩ := s4.shape); (have HB2 := Lib.hid ((HB0.out.call hb2).alloc [.slice A0 n0 k0, .slice A1 n1 k1, .slice A2 n2 k2, .slice A3 n3 k3, .slice A4 n4 k4] 81)); dsimp only)
    go_ret
    exact ⟨rfl, HB2.out.below⟩
  · intro h
    have CY := Lib.hid (read_no HR.out h)
    clear h HR
    go_enter Tryz.func17, Tryz.ntmps17
    go_wp2_with (go_at_call 41; (with_reducible refine (CY.out).mono ?_); rintro e w2 ⟨rfl, hb2⟩; (have HB2 := Lib.hid ((HB0.out.call hb2).alloc [.slice none 0 0, .slice none 0 0, .slice none 0 0, .slice none 0 0, .slice none 0 0] 81)); dsimp only)
    go_ret
    exact ⟨rfl, HB2.out.below⟩
/-- whatever a text: some row, and whether it is a rule's -/
def OfAny (w : World) (e : Ending) (w' : World) : Prop := ∃ (A : Option Addr) (n c : Nat) (b : Bool), e = .returned (.tuple #[.slice A n c, .bool b]) ∧ Below w.heap.size w w'
theorem of_any {s : List UInt8} {w : World} (h : Calls Tryz.prog 10 #[.string (str s)] w (OfP w s (ruleOfL s))) : Calls Tryz.prog 10 #[.string (str s)] w (OfAny w) :=
  h.mono fun _ _ h => h.elim (fun ⟨_, _, A, c, _, he, _, _, hb⟩ => ⟨A, _, c, true, he, hb⟩) (fun ⟨_, he, hb⟩ => ⟨none, 0, 0, false, he, hb⟩)
theorem of_yes {s : List UInt8} {w : World} (h : Calls Tryz.prog 10 #[.string (str s)] w (OfP w s (ruleOfL s))) (hr : IsRule s (ruleOfL s)) : Calls Tryz.prog 10 #[.string (str s)] w (OfYes w (ruleOfL s)) :=
  h.mono fun _ _ h => h.elim (fun h => h.2) (fun h => absurd hr h.1)
theorem of_no_ {s : List UInt8} {w : World} (h : Calls Tryz.prog 10 #[.string (str s)] w (OfP w s (ruleOfL s))) (hr : ¬ IsRule s (ruleOfL s)) : Calls Tryz.prog 10 #[.string (str s)] w (OfNo w) :=
  h.mono fun _ _ h => h.elim (fun h => absurd h.1 hr) (fun h => h.2)
def FaultP (w : World) (z o t f m : List UInt8) (e : Ending) (w' : World) : Prop := (RightS z o t f m ∧ Gives w (.int .i64 0) e w') ∨ (¬ RightS z o t f m ∧ Gives w (.int .i64 3) e w')
set_option maxHeartbeats 4000000 in
set_option maxRecDepth 100000 in
theorem refSetFault_any (z o t f m : List UInt8) (w : World) (hs : ∀ x ∈ [z, o, t, f, m], x.length ≤ 1073741824) :
    Calls Tryz.prog 16 #[.agg #[.string (str z), .string (str o), .string (str t), .string (str f), .string (str m)]] w (FaultP w z o t f m) := by
  have HB0 : Hid (Bs w _ [_]) := Lib.hid (bs_one w [.string (str z), .string (str o), .string (str t), .string (str f), .string (str m)] 44)
  obtain ⟨x0, x1, x2, x3, x4, -⟩ := HB0.out.cells
  have CT := Lib.hid fun (W : World) => setTexts_any z o t f m W
  have CR := Lib.hid fun (x : List UInt8) (hx : x.length ≤ 1073741824) (W : World) => refRuleOf_any x W hx
  have HS := Lib.hid hs
  have HRS : Hid (RightS z o t f m ↔ ∀ x ∈ [z, o, t, f, m], RightT x) := Lib.hid Iff.rfl
  have HT5 : Hid ([z, o, t, f, m].length = 5) := Lib.hid rfl
  clear hs
  generalize [z, o, t, f, m] = ts at *
  go_enter Tryz.func16, Tryz.ntmps16
  go_wp2_with (go_at_call 45; (with_reducible refine (CT.out _).mono ?_); rintro e w1 ⟨g, rfl, hg, hc, hb1⟩)
  have HB1 := Lib.hid (HB0.out.call hb1)
  have HC := Lib.hid fun (U : World) (hU : Below w1.heap.size w1 U) (j : Nat) (x : List UInt8) (h : ts[j]? = some x) => (hU.cell (p := ⟨g, j, none⟩) hg).trans (hc j x h)
  clear hc CT x0 x1 x2 x3 x4
  go_loopw [4] (fun i wr => ∃ k : Nat, k ≤ 5 ∧ i = .int .i64 k ∧ Below w1.heap.size w1 wr ∧ Hid (∀ (j : Nat) (x : List UInt8), j < k → ts[j]? = some x → RightT x)) (fun i _ => 5 - (intOf i).toNat)
  case atStart => exact ⟨0, Nat.zero_le _, rfl, Below.refl _ _, Lib.hid fun j _ h => absurd h (Nat.not_lt_zero _)⟩
  case round =>
    obtain ⟨k, hk, rfl, hb, HOK⟩ := hrel
    by_cases hlt : k < 5
    · have hki : (k : Int) < 5 := by omega
      have hki0 : (0 : Int) ≤ (k : Int) := by omega
      obtain ⟨x, hx⟩ : ∃ x, ts[k]? = some x := ⟨_, List.getElem?_eq_getElem (by rw [HT5.out]; exact hlt)⟩
      have x0 := HC.out wr hb k x hx
      have hxm : x ∈ ts := List.mem_of_getElem? hx
      have C := CR.out x (HS.out x hxm) wr
      have HXM := Lib.hid hxm
      have HXG := Lib.hid hx
      have HXC := Lib.hid fun (U : World) (hU : Below wr.heap.size wr U) => HC.out U (bel_call hb hU) k x hx
      clear hx hxm
      by_cases h0 : x = []
      · have CA := Lib.hid (of_any C)
        clear C
        subst h0
        go_wp2_with (go_at_call 10; (with_reducible refine (CA.out).mono ?_); rintro e w2 ⟨A, n, c, b, rfl, hb2⟩; (have y0 := HXC.out _ hb2); dsimp only)
        go_roundw
        case rel => exact ⟨k + 1, by omega, by go_num, bel_call hb hb2, Lib.hid fun j y hj hy => by
          rcases Nat.lt_succ_iff_lt_or_eq.1 hj with hj | rfl
          · exact HOK.out j y hj hy
          · have e1 := HXG.out.symm.trans hy
            injection e1 with e1
            subst e1
            exact .inl rfl⟩
        case measure => simp [intOf]; omega
      · have hxe : (x == []) = false := by simpa using h0
        have hxn : (x != []) = true := by simpa using h0
        by_cases hR : IsRule x (ruleOfL x)
        · have CA := Lib.hid (of_yes C hR)
          have HRX := Lib.hid hR
          clear C hR h0
          go_wp2_with (go_at_call 10; (with_reducible refine (CA.out).mono ?_); rintro e w2 ⟨ps, A, c, -, rfl, -, -, hb2⟩; (have y0 := HXC.out _ hb2); dsimp only)
          go_roundw
          case rel => exact ⟨k + 1, by omega, by go_num, bel_call hb hb2, Lib.hid fun j y hj hy => by
            rcases Nat.lt_succ_iff_lt_or_eq.1 hj with hj | rfl
            · exact HOK.out j y hj hy
            · have e1 := HXG.out.symm.trans hy
              injection e1 with e1
              subst e1
              exact .inr HRX.out⟩
          case measure => simp [intOf]; omega
        · have CA := Lib.hid (of_no_ C hR)
          have HNO : Hid (¬ RightS z o t f m) := Lib.hid fun h => (HRS.out.1 h x HXM.out).elim h0 hR
          clear C hR h0
          go_wp2_with (go_at_call 10; (with_reducible refine (CA.out).mono ?_); rintro e w2 ⟨rfl, hb2⟩; (have y0 := HXC.out _ hb2); dsimp only)
          go_ret
          exact .inr ⟨HNO.out, rfl, bel_call (bel_call HB0.out.below hb1) (bel_call hb hb2)⟩
    · obtain rfl : k = 5 := by omega
      have HYES : Hid (RightS z o t f m) := Lib.hid (HRS.out.2 fun x hx => by
        obtain ⟨j, hj⟩ := List.mem_iff_getElem?.1 hx
        exact HOK.out j x (by have := (List.getElem?_eq_some_iff.1 hj).1; rw [HT5.out] at this; exact this) hj)
      clear HOK
      go_wp2_with fail
      go_ret
      exact .inl ⟨HYES.out, rfl, bel_call (bel_call HB0.out.below hb1) hb⟩
set_option maxHeartbeats 4000000 in
set_option maxRecDepth 100000 in
theorem refKindOf_any (z o t f m : List UInt8) (c s : Int) (w : World) (hs : ∀ x ∈ [z, o, t, f, m], x.length ≤ 1073741824) (hr : RightS z o t f m) (hd : Right c s) :
    Calls Tryz.prog 19 #[.agg #[.string (str z), .string (str o), .string (str t), .string (str f), .string (str m)], .agg #[.int .i64 c, .int .i64 s]] w (Gives w (.string (str (kindS [z, o, t, f, m] (opsI c s) s (opsW c s) (opsF c s) (opsT c s))))) := by
  have HB0 := Lib.hid (bs_two w [.string (str z), .string (str o), .string (str t), .string (str f), .string (str m)] [.int .i64 c, .int .i64 s] 44 46)
  obtain ⟨d0, d1, x0, x1, x2, x3, x4, -⟩ := HB0.out.cells
  have CT := Lib.hid fun (W : World) => setTexts_any z o t f m W
  have CK := Lib.hid fun (W : World) => kinds_any W
  have CO := Lib.hid fun (W : World) => refOps_any hd W
  have CR := Lib.hid fun (x : List UInt8) (hx : x.length ≤ 1073741824) (W : World) => refRuleOf_any x W hx
  have HS := Lib.hid hs
  have HR : Hid (∀ x ∈ [z, o, t, f, m], RightT x) := Lib.hid hr
  have HT5 : Hid ([z, o, t, f, m].length = 5) := Lib.hid rfl
  have HH := Lib.hid fun (x : List UInt8) (hx : x ≠ []) => hit_of hx (opsI c s) s (opsW c s) (opsF c s) (opsT c s)
  have CH := Lib.hid fun (x : List UInt8) (hx : x.length ≤ 1073741824) (A : Option Addr) (cc base : Nat) (ps : List PartX) (W U : World) (hv : ruleV ps = ruleOfL x) (ho : OwnRule W base (.slice A ps.length cc) ps) (hU : Below W.heap.size W U) =>
    (show Calls Tryz.prog 14 #[.slice A ps.length cc, .agg #[.int .i64 (opsI c s), .int .i64 s, .int .i64 (opsW c s), .int .i64 (opsF c s), .int .i64 (opsT c s)]] U (GivesB U (ruleH (ruleOfL x) (opsI c s) s (opsW c s) (opsF c s) (opsT c s))) from by
      obtain ⟨f1, f2, f3⟩ := few_of hx hv
      have := refRuleHolds_any A ps.length cc ps (opsI c s) s (opsW c s) (opsF c s) (opsT c s) U ((own_rule_at ho).later hU) (by unfold maxLen; omega) f2.few
      rwa [hv] at this)
  have HKS : Hid (kindS [z, o, t, f, m] (opsI c s) s (opsW c s) (opsF c s) (opsT c s) = kindL (firstB ([z, o, t, f, m].map (hitB (opsI c s) s (opsW c s) (opsF c s) (opsT c s))))) := Lib.hid rfl
  have HHN : Hid (hitB (opsI c s) s (opsW c s) (opsF c s) (opsT c s) [] = false) := Lib.hid rfl
  clear hs hr hd
  generalize kindS [z, o, t, f, m] (opsI c s) s (opsW c s) (opsF c s) (opsT c s) = KS at *
  generalize hitB (opsI c s) s (opsW c s) (opsF c s) (opsT c s) = hit at *
  generalize [z, o, t, f, m] = ts at *
  generalize opsI c s = oI at *
  generalize opsW c s = oW at *
  generalize opsF c s = oF at *
  generalize opsT c s = oT at *
  go_enter Tryz.func19, Tryz.ntmps19
  go_wp2_with (go_at_call 45; (with_reducible refine (CT.out _).mono ?_); rintro e w1 ⟨g, rfl, hg, hc, hb1⟩)
  have HB1 := Lib.hid (HB0.out.call hb1)
  have HC := Lib.hid fun (U : World) (hU : Below w1.heap.size w1 U) (j : Nat) (x : List UInt8) (h : ts[j]? = some x) => (hU.cell (p := ⟨g, j, none⟩) hg).trans (hc j x h)
  clear hc CT d0 d1 x0 x1 x2 x3 x4
  go_loopw [6] (fun i wr => ∃ k : Nat, k ≤ 5 ∧ i = .int .i64 k ∧ Below w1.heap.size w1 wr ∧ Hid (∀ (j : Nat) (x : List UInt8), j < k → ts[j]? = some x → hit x = false)) (fun i _ => 5 - (intOf i).toNat)
  case atStart => exact ⟨0, Nat.zero_le _, rfl, Below.refl _ _, Lib.hid fun j _ h => absurd h (Nat.not_lt_zero _)⟩
  case round =>
    obtain ⟨k, hk, rfl, hb, HOK⟩ := hrel
    by_cases hlt : k < 5
    · have hki : (k : Int) < 5 := by omega
      have hki0 : (0 : Int) ≤ (k : Int) := by omega
      obtain ⟨x, hx⟩ : ∃ x, ts[k]? = some x := ⟨_, List.getElem?_eq_getElem (by rw [HT5.out]; exact hlt)⟩
      have x0 := HC.out wr hb k x hx
      have hxm : x ∈ ts := List.mem_of_getElem? hx
      have hxl := HS.out x hxm
      have hxr := HR.out x hxm
      have C := CR.out x hxl wr
      have HXG := Lib.hid hx
      have HXC := Lib.hid fun (U : World) (hU : Below wr.heap.size wr U) => HC.out U (bel_call hb hU) k x hx
      have HNEXT : Hid (hit x = false → ∀ (j : Nat) (y : List UInt8), j < k + 1 → ts[j]? = some y → hit y = false) := Lib.hid fun hh j y hj hy => by
        rcases Nat.lt_succ_iff_lt_or_eq.1 hj with hj | rfl
        · exact HOK.out j y hj hy
        · have e1 := HXG.out.symm.trans hy
          injection e1 with e1
          subst e1
          exact hh
      clear hx hxm
      by_cases h0 : x = []
      · have CA := Lib.hid (of_any C)
        clear C
        subst h0
        go_wp2_with (go_at_call 10; (with_reducible refine (CA.out).mono ?_); rintro e w2 ⟨A, n, c, b, rfl, hb2⟩; (have y0 := HXC.out _ hb2); dsimp only)
        go_roundw
        case rel => exact ⟨k + 1, by omega, by go_num, bel_call hb hb2, Lib.hid (HNEXT.out HHN.out)⟩
        case measure => simp [intOf]; omega
      · have hxe : (x == []) = false := by simpa using h0
        have hxn : (x != []) = true := by simpa using h0
        have hR : IsRule x (ruleOfL x) := hxr.resolve_left h0
        have CA := Lib.hid (of_yes C hR)
        have HHX := HH.out x h0
        have CHX := Lib.hid (CH.out x hxl)
        rw [← HHX] at CHX
        have HHX := Lib.hid HHX
        clear C hR h0 hxr
        have HD := Lib.hid fun (U : World) (hU : Below wr.heap.size wr U) => (HB1.out.call (bel_call hb hU))
        cases hh : hit x with
        | false =>
          rw [hh] at CHX
          go_wp2_with (first
            | (go_at_call 10; (with_reducible refine (CA.out).mono ?_); rintro e w2 ⟨ps, A, cc, hv, rfl, hcc, ho, hb2⟩; (have y0 := HXC.out _ hb2); (have hd2 := HD.out _ hb2); (obtain ⟨d0, d1, -⟩ := hd2.cells); dsimp only)
            | (go_at_call 46; (with_reducible refine (CO.out _).mono ?_); rintro e w3 ⟨rfl, hb3⟩)
            | (go_at_call 14; (with_reducible refine (CHX.out A cc _ ps _ _ hv ho hb3).mono ?_); rintro e w4 ⟨rfl, hb4⟩))
          go_roundw
          case rel => exact ⟨k + 1, by omega, by go_num, bel_call hb (bel_call hb2 (bel_call hb3 hb4)), Lib.hid (HNEXT.out hh)⟩
          case measure => simp [intOf]; omega
        | true =>
          rw [hh] at CHX
          have HE : Hid (KS = kindL k) := Lib.hid (by rw [HKS.out, first_eq (k := k) (by rw [List.getElem?_map, HXG.out]; simpa using hh) (fun j hj => by
            obtain ⟨y, hy⟩ : ∃ y, ts[j]? = some y := ⟨_, List.getElem?_eq_getElem (by rw [HT5.out]; omega)⟩
            rw [List.getElem?_map, hy]
            simpa using HOK.out j y hj hy)])
          have HKA := Lib.hid fun (y : List UInt8) (hy : [kindL 0, kindL 1, kindL 2, kindL 3, kindL 4][k]? = some y) => (kind_at hlt hy).trans HE.out.symm
          have HKG : Hid (∃ y, [kindL 0, kindL 1, kindL 2, kindL 3, kindL 4][k]? = some y) := Lib.hid ⟨_, List.getElem?_eq_getElem (by simpa using hlt)⟩
          clear hh HE
          go_wp2_with (first
            | (go_at_call 10; (with_reducible refine (CA.out).mono ?_); rintro e w2 ⟨ps, A, cc, hv, rfl, hcc, ho, hb2⟩; (have y0 := HXC.out _ hb2); (have hd2 := HD.out _ hb2); (obtain ⟨d0, d1, -⟩ := hd2.cells); dsimp only)
            | (go_at_call 46; (with_reducible refine (CO.out _).mono ?_); rintro e w3 ⟨rfl, hb3⟩)
            | (go_at_call 14; (with_reducible refine (CHX.out A cc _ ps _ _ hv ho hb3).mono ?_); rintro e w4 ⟨rfl, hb4⟩)
            | (go_at_call 47; (with_reducible refine (CK.out _).mono ?_); rintro e w5 ⟨g5, rfl, hg5, hc5, hb5⟩; (obtain ⟨y, hy⟩ := HKG.out); (obtain rfl := HKA.out y hy); (have z0 := hc5 k y hy); clear hc5 hy))
          go_ret
          exact ⟨rfl, bel_call (bel_call HB0.out.below hb1) (bel_call hb (bel_call hb2 (bel_call hb3 (bel_call hb4 hb5))))⟩
    · obtain rfl : k = 5 := by omega
      have HE : Hid (KS = kindL 5) := Lib.hid (by rw [HKS.out, first_none (fun b hb => by
        obtain ⟨x, hx, rfl⟩ := List.mem_map.1 hb
        obtain ⟨j, hj⟩ := List.mem_iff_getElem?.1 hx
        exact HOK.out j x (by have := (List.getElem?_eq_some_iff.1 hj).1; rw [HT5.out] at this; exact this) hj), List.length_map, HT5.out])
      clear HOK
      go_wp2_with fail
      go_ret
      exact ⟨by rw [HE.out]; rfl, bel_call (bel_call HB0.out.below hb1) hb⟩
end Ru
end Go.Proofs.YtabglcpllfcmbaaGreatDoor
