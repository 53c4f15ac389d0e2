/- The reference's RuleOf: the rule that a text reads as, a row of the call's own, if the text is that rule's; what lay in memory stays as it was. -/
import Derived.Test.YtabglcpllfcmbaaGreatDoorRuOfMath
import Derived.Test.YtabglcpllfcmbaaGreatDoorRuRelOf
import Derived.Test.YtabglcpllfcmbaaGreatDoorRuRefRule
namespace Go.Proofs.YtabglcpllfcmbaaGreatDoor
namespace Ru
open Go.RowKit Go.Maps D

def OfYes (w : World) (R : List (List RelV)) (e : Ending) (w' : World) : Prop := ∃ (ps : List PartX) (A : Option Addr) (c : Nat), ruleV ps = R ∧ e = .returned (.tuple #[.slice A ps.length c, .bool true]) ∧ ps.length ≤ c ∧ OwnRule w' w.heap.size (.slice A ps.length c) ps ∧ Below w.heap.size w w'
def OfNo (w : World) (e : Ending) (w' : World) : Prop := e = .returned (.tuple #[.slice none 0 0, .bool false]) ∧ Below w.heap.size w w'
def OfP (w : World) (s : List UInt8) (R : List (List RelV)) (e : Ending) (w' : World) : Prop := (IsRule s R ∧ OfYes w R e w') ∨ (¬ IsRule s R ∧ OfNo w e w')
set_option maxHeartbeats 8000000 in
set_option maxRecDepth 100000 in
theorem refRuleOf_any (s : List UInt8) (w : World) (hs : s.length ≤ 1073741824) : Calls Tryz.prog 10 #[.string (str s)] w (OfP w s (ruleOfL s)) := by
  obtain ⟨i0, hi0, hz0, hz1, hz2⟩ := info_parts part_info
  obtain ⟨i1, hi1, hz3, hz4, hz5⟩ := info_parts rel_info
  have CS := Lib.hid (refCutL s [32, 111, 114, 32] w (by omega) (by simp) (by decide))
  have CP := Lib.hid fun (p : List UInt8) (hp : p ∈ cutL [32, 111, 114, 32] s) (U : World) => refCutL p [32, 97, 110, 100, 32] U (by have := cut_le_all _ s p hp; omega) (by simp) (by decide)
  have CR := Lib.hid fun (p : List UInt8) (hp : p ∈ cutL [32, 111, 114, 32] s) (t : List UInt8) (ht : t ∈ cutL [32, 97, 110, 100, 32] p) (U : World) => refRelOf_any t U (by have := cut_le_all _ s p hp; have := cut_le_all _ p t ht; omega)
  have HL := Lib.hid fun (p : List UInt8) (hp : p ∈ cutL [32, 111, 114, 32] s) => (by have := cut_le_all _ s p hp; have := cut_many [32, 97, 110, 100, 32] p (by simp); omega : (cutL [32, 97, 110, 100, 32] p).length ≤ 1073741825)
  have hmany := cut_many [32, 111, 114, 32] s (by simp)
  have HW : Hid (ruleOfL s = (cutL [32, 111, 114, 32] s).map partOfL) := Lib.hid rfl
  have HFEW := Lib.hid fun (ps : List PartX) (hr : ruleV ps = ruleOfL s) => few_of hs hr
  have HIS : Hid (IsRule s (ruleOfL s) ↔ ruleF (ruleOfL s) = 0 ∧ ruleT (ruleOfL s) = s) := Lib.hid Iff.rfl
  generalize ruleOfL s = R at *
  generalize cutL [32, 111, 114, 32] s = pcs at *
  generalize hg0 : pcs.length = N at *
  have HN := Lib.hid hg0
  clear hg0
  have hN : N ≤ 1073741825 := by omega
  clear hmany
  go_enter Tryz.func10, Tryz.ntmps10
  go_wp2_with (go_at_call 29; (with_reducible refine (CS.out).mono ?_); rintro e w1 ⟨A, c, rfl, hAc, hcm, hown1, hb1⟩)
  rw [HN.out] at hAc hown1 ⊢
  have HRD := Lib.hid (Reads.of_own hown1)
  clear hown1 CS
  unfold maxLen at hcm
  go_loopw [4, 6] (fun v i wr => ∃ (k : Nat) (done : List PartX), k ≤ N ∧ done.length = k ∧ i = .int .i64 k ∧ Below w1.heap.size w1 wr ∧ OwnRule wr w1.heap.size v done ∧ Hid (ruleV done = (pcs.take k).map partOfL)) (fun _ i _ => N - (intOf i).toNat)
  case atStart => exact ⟨0, [], Nat.zero_le _, rfl, rfl, Below.refl _ _, OwnRule.nil _ _, Lib.hid (by simp [ruleV])⟩
  case round =>
    obtain ⟨k, done, hk, hdl, rfl, hb, hown, HA⟩ := hrel
    rename World => wo
    have HDL := Lib.hid hdl
    clear hdl
    by_cases hlt : k < N
    · have hkr : k < pcs.length := by have := HN.out; omega
      have hki : (k : Int) < (N : Int) := by omega
      have hki0 : (0 : Int) ≤ (k : Int) := by omega
      obtain ⟨ad, u, rfl, hadb, hu, x0⟩ := ((HRD.out.below hb).more hb.size).at_ (k := k) hlt
      have hu2 : u = .string (str pcs[k]) := by
        rw [strC_get, List.getElem?_eq_getElem hkr] at hu
        injection hu with hu
        exact hu.symm
      rw [hu2] at x0
      have hmem : pcs[k] ∈ pcs := List.getElem_mem hkr
      have CC := Lib.hid (CP.out _ hmem wo)
      have CR2 := Lib.hid (CR.out _ hmem)
      have hL2 := HL.out _ hmem
      have HTK : Hid ((pcs.take (k + 1)).map partOfL = ruleV done ++ [partOfL pcs[k]]) := Lib.hid (by rw [List.take_succ_eq_append_getElem hkr, List.map_append, HA.out]; rfl)
      have HPO : Hid (partOfL pcs[k] = (cutL [32, 97, 110, 100, 32] pcs[k]).map relOfL) := Lib.hid rfl
      clear hu hu2 hmem HA
      generalize partOfL pcs[k] = P at *
      generalize pcs[k] = pc at *
      generalize cutL [32, 97, 110, 100, 32] pc = qcs at *
      generalize hg2 : qcs.length = M at *
      have HM := Lib.hid hg2
      clear hg2
      obtain ⟨A1, c1, rfl, hc1, hm1, -, -⟩ := own_shape hown.row
      go_wp2_with (go_at_call 29; (with_reducible refine (CC.out).mono ?_); rintro e w2 ⟨A2, c2, rfl, hAc2, hcm2, hown2, hb2⟩)
      rw [HM.out] at hAc2 hown2 ⊢
      have HRD2 := Lib.hid (Reads.of_own hown2)
      unfold maxLen at hcm2
      clear hown2 CC x0
      go_loopw [7, 9] (fun v2 j wi => ∃ (q : Nat) (rels : List RelX), q ≤ M ∧ rels.length = q ∧ j = .int .i64 q ∧ Below w2.heap.size w2 wi ∧ OwnRels wi w2.heap.size v2 rels ∧ Hid (relsV rels = (qcs.take q).map relOfL)) (fun _ j _ => M - (intOf j).toNat)
      case atStart => exact ⟨0, [], Nat.zero_le _, rfl, rfl, Below.refl _ _, OwnRels.nil _ _, Lib.hid (by simp [relsV])⟩
      case round =>
        obtain ⟨q, rels, hq, hrl, rfl, hbi, howni, HB⟩ := hrel
        have HRL := Lib.hid hrl
        clear hrl
        obtain ⟨A3, c3, rfl, hc3, hm3, -, -⟩ := own_shape howni.row
        by_cases hqm : q < M
        · have hqr : q < qcs.length := by have := HM.out; omega
          have hqi : (q : Int) < (M : Int) := by omega
          have hqi0 : (0 : Int) ≤ (q : Int) := by omega
          obtain ⟨ad2, u, rfl, hadb2, hu, x0⟩ := ((HRD2.out.below hbi).more hbi.size).at_ (k := q) hqm
          have hu2 : u = .string (str qcs[q]) := by
            rw [strC_get, List.getElem?_eq_getElem hqr] at hu
            injection hu with hu
            exact hu.symm
          rw [hu2] at x0
          have CX := Lib.hid (CR2.out _ (List.getElem_mem hqr) wr)
          have HTQ : Hid ((qcs.take (q + 1)).map relOfL = relsV rels ++ [relOfL qcs[q]]) := Lib.hid (by rw [List.take_succ_eq_append_getElem hqr, List.map_append, HB.out]; rfl)
          clear hu hu2 HB
          generalize qcs[q] = qc at *
          generalize relOfL qc = x at *
          go_wp2_with (first
            | (go_at_call 30; (with_reducible refine (CX.out).mono ?_); rintro e w3 ⟨Ax, cx, rfl, hcx, hmx, hox, hb3⟩; (have hbx := bel_call hbi hb3); (have hb4 := bel_alloc hbx (.cells #[.int .u8 x.op, .int .i64 x.mod, .bool x.nt, .slice Ax x.rs.length cx] 57)); (have hO4 := howni.later (bel_alloc hb3 (.cells #[.int .u8 x.op, .int .i64 x.mod, .bool x.nt, .slice Ax x.rs.length cx] 57))); (have hown4 := hO4.row); (have hox4 := own_base (own_later hox (bel_alloc (Below.refl w3.heap.size w3) (.cells #[.int .u8 x.op, .int .i64 x.mod, .bool x.nt, .slice Ax x.rs.length cx] 57))) hbi.size); (have hrd4 := Reads.of_own (own_lit w3 [.int .u8 x.op, .int .i64 x.mod, .bool x.nt, .slice Ax x.rs.length cx] 57 (base := 0) (k := 4) (Nat.zero_le _) rfl)))
            | (at_builtin; refine wpList_append_any _ rfl (.tmp 29) (.tmp 35) _ rfl w2.heap.size 57 i1 _ 4 48 Tryz.underlying53 hi1 hz3 hz4 hz5 rfl (by omega) (.slice A3 rels.length c3) rels.length _ rfl hown4 _ _ 1 1 [.int .u8 x.op, .int .i64 x.mod, .bool x.nt, .slice Ax x.rs.length cx] rfl hrd4 (by intro u hu; simp at hu; rcases hu with rfl | rfl | rfl | rfl <;> rfl) (by have := HRL.out; unfold maxLen; omega) (by have := HRL.out; omega) hb4.size ?_; intro v6 w6 hown6 hg6 hat6))
          have hB6 : Below w2.heap.size w2 w6 := hb4.grown hg6 hb4.size (fun j hj => (hown4.lt j hj).1)
          go_roundw
          case rel => exact ⟨q + 1, rels ++ [(⟨x, Ax, cx⟩ : RelX)], by omega, by rw [List.length_append, HRL.out]; rfl, by go_num, hB6, OwnRels.snoc (x := ⟨x, Ax, cx⟩) hO4 hcx hox4 (by simpa using hown6) hg6, Lib.hid (by rw [HTQ.out]; simp [relsV])⟩
          case measure => simp [intOf]; omega
        · have hqi : ¬ ((q : Int) < (M : Int)) := by omega
          have HE : Hid (relsV rels = P) := Lib.hid (by rw [HPO.out, HB.out, List.take_of_length_le (by have := HM.out; omega)])
          clear hqm hq HB
          have hbz := bel_call hb2 hbi
          have hb5 := bel_alloc (bel_call hb hbz) (.cells #[.slice A3 rels.length c3] 53)
          have hO5 := hown.later (bel_alloc hbz (.cells #[.slice A3 rels.length c3] 53))
          have hown5 := hO5.row
          have hoxb := howni.base_ hb2.size
          have hox5 := (hoxb.later ((Below.refl wr.heap.size wr).alloc (Nat.le_refl _) (.cells #[.slice A3 rels.length c3] 53))).base_ hb.size
          have hap := hown.apart_new (p := ⟨A3, c3, rels⟩) hoxb.row
          have hrd5 := Reads.of_own (own_lit wr [.slice A3 rels.length c3] 53 (base := 0) (k := 1) (Nat.zero_le _) rfl)
          go_wp2_with (at_builtin; refine wpList_append_any _ rfl (.tmp 37) (.tmp 39) _ rfl w1.heap.size 53 i0 _ 1 24 Tryz.underlying22 hi0 hz0 hz1 hz2 rfl (by omega) (.slice A1 done.length c1) done.length _ rfl hown5 _ _ 1 1 [.slice A3 rels.length c3] rfl hrd5 (by intro u hu; simp at hu; subst hu; rfl) (by have := HDL.out; unfold maxLen; omega) (by have := HDL.out; omega) hb5.size ?_; intro v6 w6 hown6 hg6 hat6)
          have hB6 : Below w1.heap.size w1 w6 := hb5.grown hg6 hb5.size (fun j hj => (hown5.lt j hj).1)
          go_roundw
          case rel => exact ⟨k + 1, done ++ [(⟨A3, c3, rels⟩ : PartX)], by omega, by rw [List.length_append, HDL.out]; rfl, by go_num, hB6, OwnRule.snoc (p := ⟨A3, c3, rels⟩) hO5 hc3 hox5 hap (by simpa using hown6) hg6, Lib.hid (by rw [HTK.out, ← HE.out]; simp [ruleV])⟩
          case measure => simp [intOf]; omega
    · have hki : ¬ ((k : Int) < (N : Int)) := by omega
      have HE : Hid (ruleV done = R) := Lib.hid (by rw [HW.out, HA.out, List.take_of_length_le (by have := HN.out; omega)])
      obtain ⟨A1, c1, rfl, hc1, hm1, -, -⟩ := own_shape hown.row
      clear hlt hk HA
      obtain ⟨hf1, hf2, hf3⟩ := HFEW.out _ HE.out
      have hRA := own_rule_at hown
      have hT0 := total_few hf2
      have CF := Lib.hid (refRuleFault_any A1 done.length c1 done wo hRA (by unfold maxLen; omega) hf2.few (by have : done.length * 1073741826 ≤ 1073741825 * 1073741826 := Nat.mul_le_mul_right _ hf1; omega))
      have CT := Lib.hid fun (h : ruleF R = 0) (U : World) (hU : Below wo.heap.size wo U) => refRuleText_any A1 done.length c1 done U (hRA.later hU) (fun p hp x hx => by have := (hf2 p hp).2 x hx; omega) (by rw [HE.out]; exact (ruleF_zero.1 h).1) (by rw [HE.out]; exact (ruleF_zero.1 h).2)
      rw [HE.out] at CF CT
      have hbw := bel_call hb1 hb
      clear hRA hT0 hf1 hf2 hf3 HFEW CR CP HL
      by_cases hf : ruleF R = 0
      · have CT0 := Lib.hid (CT.out hf)
        have CF := Lib.hid (show Calls Tryz.prog 6 #[.slice A1 done.length c1] wo (Gives wo (.int .i64 0)) from (by have h := CF.out; rw [hf] at h; exact h))
        by_cases ht : ruleT R = s
        · have HI : Hid (IsRule s R) := Lib.hid (HIS.out.2 ⟨hf, ht⟩)
          rw [ht] at CT0
          clear CT hf ht HIS
          go_wp2_with (first
            | (go_at_call 6; (with_reducible refine (CF.out).mono ?_); rintro e w4 ⟨rfl, hb4⟩)
            | (go_at_call 7; (with_reducible refine (CT0.out _ hb4).mono ?_); rintro e w5 ⟨rfl, hb5⟩))
          exact bodyPost_ret (v := .tuple #[.slice A1 done.length c1, .bool true]) (by simp [results, Tryz.results10, go_sem]) rfl (.inl ⟨HI.out, done, A1, c1, HE.out, rfl, hc1, (hown.later (bel_call hb4 hb5)).base_ hb1.size, bel_call hbw (bel_call hb4 hb5)⟩)
        · have HI : Hid (¬ IsRule s R) := Lib.hid fun h => ht (HIS.out.1 h).2
          obtain ⟨t1, t2⟩ := toList_ne (a := str (ruleT R)) (b := str s) fun e => ht (by have := congrArg (fun b : ByteArray => b.data.toList) e; simpa [str_data] using this)
          clear CT hf ht HIS
          generalize str (ruleT R) = rt at *
          generalize str s = sb at *
          go_wp2_with (first
            | (go_at_call 6; (with_reducible refine (CF.out).mono ?_); rintro e w4 ⟨rfl, hb4⟩)
            | (go_at_call 7; (with_reducible refine (CT0.out _ hb4).mono ?_); rintro e w5 ⟨rfl, hb5⟩))
          exact bodyPost_ret (v := .tuple #[.slice none 0 0, .bool false]) (by simp [results, Tryz.results10, go_sem]) rfl (.inr ⟨HI.out, rfl, bel_call hbw (bel_call hb4 hb5)⟩)
      · have HI : Hid (¬ IsRule s R) := Lib.hid fun h => hf (HIS.out.1 h).1
        unfold GivesI at CF
        obtain ⟨z, hz⟩ : ∃ z : Int, ((ruleF R : Nat) : Int) = z := ⟨_, rfl⟩
        have hz0' : ¬ z = 0 := by omega
        rw [hz] at CF
        clear CT hf hz HIS
        go_wp2_with (go_at_call 6; (with_reducible refine (CF.out).mono ?_); rintro e w4 ⟨rfl, hb4⟩)
        exact bodyPost_ret (v := .tuple #[.slice none 0 0, .bool false]) (by simp [results, Tryz.results10, go_sem]) rfl (.inr ⟨HI.out, rfl, bel_call hbw hb4⟩)
end Ru
end Go.Proofs.YtabglcpllfcmbaaGreatDoor
