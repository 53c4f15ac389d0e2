/- The law RuleOwn returns true. -/
import Derived.Test.YtkhnjlkamleldaaDoorRuWipe
namespace Go.Proofs.YtkhnjlkamleldaaDoor
namespace Ru
open Go.RowKit Go.Maps D

theorem few_own {s : List UInt8} {r : List (List RelV)} {ps : List PartX} (h : IsRule s r) (hs : s.length ≤ 1048576) (hr : ruleV ps = r) : ps.length ≤ 1048578 ∧ (∀ p ∈ ps, p.xs.length ≤ 1048578 ∧ ∀ x ∈ p.xs, x.v.rs.length ≤ 1048578) := by
  obtain ⟨h1, h2⟩ := rule_read_few h.read
  subst hr
  refine ⟨by simp only [ruleV, List.length_map] at h1; omega, fun p hp => ?_⟩
  obtain ⟨h3, h4⟩ := h2 _ (List.mem_map.2 ⟨p, hp, rfl⟩)
  refine ⟨by simp only [relsV, List.length_map] at h3; omega, fun x hx => ?_⟩
  have := (h4 _ (List.mem_map.2 ⟨x, hx, rfl⟩)).1
  omega
theorem holds_read {s : List UInt8} {r : List (List RelV)} (h : IsRule s r) (hs : s.length ≤ 1048576) (A : Option Addr) (c : Nat) (ps : List PartX) (base : Nat) (w : World) (hr : ruleV ps = r) (ho : OwnRule w base (.slice A ps.length c) ps) (I V W F T : Int)
    (hI : I64 I) (hV : I64 V) (hW : I64 W) (hF : I64 F) (hT : I64 T) :
    Calls Tryd.prog 11 #[.slice A ps.length c, .agg #[.int .i64 I, .int .i64 V, .int .i64 W, .int .i64 F, .int .i64 T]] w (HoldsYes w (ruleH r I V W F T)) := by
  obtain ⟨h1, h2, h3⟩ := few_read h.read (by omega) hr
  have ht := (ruleF_zero.1 h.1).2
  have := holds_any A ps.length c ps I V W F T w (own_rule_at ho) (by unfold maxLen; omega) h2.few h3 (by rw [hr]; omega) hI hV hW hF hT
  rw [hr] at this
  exact holds_yes this h.1
theorem at_zero (g j : Nat) : (⟨g, 0, none⟩ : Addr).add j = ⟨g, j, none⟩ := by unfold Addr.add; split <;> simp_all
set_option maxHeartbeats 8000000 in
set_option maxRecDepth 100000 in
theorem own_any (s : ByteArray) (I V W F T x : Int) (w : World) (hs : s.size ≤ 1048576)
    (hI : I64 I) (hV : I64 V) (hW : I64 W) (hF : I64 F) (hT : I64 T) (hE : Env w) :
    Calls Tryd.prog 5 #[.string s, .agg #[.int .i64 I, .int .i64 V, .int .i64 W, .int .i64 F, .int .i64 T], .int .i64 x] w (TrueB w) := by
  have hsl : s.data.toList.length ≤ 1048576 := by rw [← ba_size]; exact hs
  have H0 : Hid (Bs w _ [_]) := Lib.hid (bs_one w [.int .i64 I, .int .i64 V, .int .i64 W, .int .i64 F, .int .i64 T] 33)
  have CF := Lib.hid fun (W : World) (hW : Below w.heap.size w W) => parseOne_any W (hE.later hW)
  have hb0 := H0.out.below
  by_cases hIs : ∃ r, IsRule s.data.toList r
  · obtain ⟨r, hr⟩ := hIs
    have CP := Lib.hid fun (W : World) (hW : Below w.heap.size w W) => parse_yes s r W (by omega) (hE.later hW) hr
    have CX := Lib.hid fun (A2 : Option Addr) (c2 : Nat) (qs : List PartX) (W : World) (base : Nat) (hW : Below w.heap.size w W) (hv : ruleV qs = r) (ho : OwnRule W base (.slice A2 qs.length c2) qs) =>
      text_yes (text_read hr.read (by omega) A2 c2 qs base W hv ho (hE.later hW)) hr.1
    have hts : str (ruleT r) = s := (str_eq hr.2.symm).symm
    rw [hts] at CX
    have CH := Lib.hid fun (A2 : Option Addr) (c2 : Nat) (qs : List PartX) (W' : World) (base : Nat) (hv : ruleV qs = r) (ho : OwnRule W' base (.slice A2 qs.length c2) qs) =>
      holds_read hr hsl A2 c2 qs base W' hv ho I V W F T hI hV hW hF hT
    have HFO := Lib.hid fun (ps : List PartX) hv => few_own (ps := ps) hr hsl hv
    generalize hhb : ruleH r I V W F T = hb at *
    clear hhb hts hE hsl hs hI hV hW hF hT hr
    go_enter Tryd.func5, Tryd.ntmps5
    go_upto_region 10 with (first
      | (go_at_call 8; (with_reducible refine (CF.out _ hb0).mono ?_); rintro e w1 ⟨A1, c1, rfl, hb1⟩; (have HB1 := Lib.hid (H0.out.call hb1)); (have hB1 := HB1.out.below); dsimp only)
      | (go_at_call 8; (with_reducible refine (CP.out _ hB1).mono ?_); rintro e w2 ⟨ps, A, c, hv, rfl, hc, ho2, hb2⟩; (have HB2 := Lib.hid (HB1.out.call hb2)); (have hB2 := HB2.out.below); dsimp only)
      | (go_at_call 9; (with_reducible refine (CX.out A c ps _ _ hB2 hv ho2).mono ?_); rintro e w3 ⟨rfl, hb3⟩; (have HB3 := Lib.hid (HB2.out.call hb3)); (have ho3 := ho2.later hb3); (obtain ⟨o0, o1, o2, o3, o4, -⟩ := HB3.out.cells); (have hB3 := HB3.out.below); dsimp only)
      | (go_at_call 11; (with_reducible refine (CH.out A c ps _ _ hv ho3).mono ?_); rintro e w4 ⟨rfl, hb4⟩; (have HB4 := Lib.hid (HB3.out.call hb4)); (have ho4 := ho3.later hb4); (have hB4 := HB4.out.below); dsimp only)
      | (go_at_call 9; (with_reducible refine (CX.out A c ps _ _ hB4 hv ho4).mono ?_); rintro e w5 ⟨rfl, hb5⟩; (have HB5 := Lib.hid (HB4.out.call hb5)); (have ho5 := ho4.later hb5); dsimp only))
    have hbw : Below w1.heap.size w1 w5 := bel_call (bel_call (bel_call hb2 hb3) hb4) hb5
    have HW := Lib.hid (Wipe.start ho5)
    have HAP := Lib.hid ho5.apart
    obtain ⟨hpl, hall⟩ := HFO.out ps hv
    have HAL := Lib.hid hall
    clear ho2 ho3 ho4 ho5 HB2 HB3 HB4 HB5 hB2 hB3 hB4 hb1 hb2 hb3 hb4 hb5 o0 o1 o2 o3 o4 CF hall HFO H0 hb0
    generalize hn : ps.length = n at *
    have HN := Lib.hid hn
    clear hn
    go_wp2_with fail
    go_loopw [17] (fun i wr => ∃ a : Nat, a ≤ n ∧ i = .int .i64 a ∧ Below w1.heap.size w1 wr ∧ Hid (Wipe wr w1.heap.size A ps a 0)) (fun i _ => n - (intOf i).toNat)
    case atStart => exact ⟨0, Nat.zero_le _, rfl, hbw, HW⟩
    case round =>
      obtain ⟨a, ha, rfl, hba, HWa⟩ := hrel
      by_cases hlt : a < n
      · have hap : a < ps.length := by have := HN.out; omega
        have hp : ps[a]? = some ps[a] := List.getElem?_eq_getElem hap
        have HP := Lib.hid hp
        have HPM := Lib.hid (List.getElem_mem hap)
        obtain ⟨gP, rfl, -, -⟩ := HWa.out.parts a _ hp
        have HPC : Hid (∀ (W' : World) (i k : Nat), Wipe W' w1.heap.size (some ⟨gP, 0, none⟩) ps i k → W'.cell? ⟨gP, a, none⟩ = some (.slice ps[a].A ps[a].xs.length ps[a].c)) := Lib.hid fun W' i k hw => by
          obtain ⟨g, e, hc, _⟩ := hw.parts a _ HP.out
          injection e with e
          injection e with e
          rw [e]
          exact hc
        have hpm := (HAL.out _ (List.getElem_mem hap)).1
        have hpr := Lib.hid (HAL.out _ (List.getElem_mem hap)).2
        clear hp
        generalize ps[a] = p at *
        obtain ⟨pA, pc, xs⟩ := p
        dsimp only at *
        generalize hm : xs.length = m at *
        have HM := Lib.hid hm
        clear hm
        have hai : (a : Int) < (n : Int) := by omega
        have hc0 := HPC.out _ _ _ HWa.out
        go_wp2_with fail
        clear hc0
        go_loopw [18] (fun j wi => ∃ b : Nat, b ≤ m ∧ j = .int .i64 b ∧ Below w1.heap.size w1 wi ∧ Hid (Wipe wi w1.heap.size (some ⟨gP, 0, none⟩) ps a b)) (fun j _ => m - (intOf j).toNat)
        case atStart => exact ⟨0, Nat.zero_le _, rfl, hba, HWa⟩
        case round =>
          obtain ⟨b, hbm, rfl, hbb, HWb⟩ := hrel
          by_cases hltb : b < m
          · have hbx : b < xs.length := by have := HM.out; omega
            have HX := Lib.hid (List.getElem?_eq_getElem hbx)
            have HXM := Lib.hid (List.getElem_mem hbx)
            obtain ⟨gR, rfl, hgR, hszR⟩ := HWb.out.rows _ HPM.out (by show 0 < xs.length; omega)
            have HRL := Lib.hid (hpr.out _ (List.getElem_mem hbx))
            have HRC : Hid (∀ (W' : World), Wipe W' w1.heap.size (some ⟨gP, 0, none⟩) ps a b → W'.cell? ⟨gR, b * 4 + 3, none⟩ = some (.slice xs[b].A xs[b].v.rs.length xs[b].c)) := Lib.hid fun W' hw => hw.cont a _ b _ gR HP.out HX.out rfl (.inr ⟨rfl, Nat.le_refl _⟩)
            have HSR : Hid (∀ (W' : World), Wipe W' w1.heap.size (some ⟨gP, 0, none⟩) ps a b → Sz W' gR 40 (m * 4)) := Lib.hid fun W' hw => by
              obtain ⟨g, e, _, h⟩ := hw.rows _ HPM.out (by show 0 < xs.length; omega)
              injection e with e
              injection e with e
              subst e
              rw [← HM.out]
              exact h
            generalize xs[b] = y at *
            obtain ⟨⟨op, mod, nt, rs⟩, xA, xc⟩ := y
            dsimp only at *
            have hrl := HRL.out
            generalize hr : rs.length = rl at *
            have HR := Lib.hid hr
            clear hr hszR
            have hbi : (b : Int) < (m : Int) := by omega
            have hc0 := HPC.out _ _ _ HWb.out
            go_wp2_with fail
            clear hc0
            go_loopw [19] (fun j wi => ∃ d : Nat, d ≤ rl ∧ j = .int .i64 d ∧ Below w1.heap.size w1 wi ∧ Hid (Wipe wi w1.heap.size (some ⟨gP, 0, none⟩) ps a b)) (fun j _ => rl - (intOf j).toNat)
            case atStart => exact ⟨0, Nat.zero_le _, rfl, hbb, HWb⟩
            case round =>
              obtain ⟨d, hd, rfl, hbd, HWd⟩ := hrel
              have hc0 := HPC.out _ _ _ HWd.out
              have hc3 := HRC.out _ HWd.out
              have ha0 : (⟨gR, 0, none⟩ : Addr).add (b * 4) = ⟨gR, b * 4, none⟩ := at_zero _ _
              by_cases hltd : d < rl
              · have hdi : (d : Int) < (rl : Int) := by omega
                have hdn : (0 : Int) ≤ (d : Int) := by omega
                obtain ⟨gG, rfl, hgG, hszG⟩ := HWd.out.rgs _ HPM.out _ HXM.out (by show 0 < rs.length; have := HR.out; omega)
                have hszG2 : Sz wr gG 41 (rl * 2) := by rw [← HR.out]; exact hszG
                obtain ⟨u0, hu0⟩ := hszG2.cell (i := d * 2) (by omega)
                obtain ⟨u1, hu1⟩ := hszG2.cell (i := d * 2 + 1) (by omega)
                have hf0 := hszG2.frozen (d * 2)
                have hf1 := hszG2.frozen (d * 2 + 1)
                have ha1 : (⟨gG, 0, none⟩ : Addr).add (d * 2) = ⟨gG, d * 2, none⟩ := at_zero _ _
                have HW2 := Lib.hid ((HWd.out.setRg hszG2 (d * 2) (.int .i64 x)).setRg (hszG2.set_ gG (d * 2) (.int .i64 x)) (d * 2 + 1) (.int .i64 x))
                have hbl : Below w1.heap.size w1 ((wr.setCell ⟨gG, d * 2, none⟩ (.int .i64 x)).setCell ⟨gG, d * 2 + 1, none⟩ (.int .i64 x)) := (hbd.setCell hgG _).setCell hgG _
                clear hszG hszG2
                go_wp2_with fail
                go_roundw
                case rel => exact ⟨d + 1, by omega, by go_num, hbl, HW2⟩
                case measure => simp [intOf]; omega
              · have hdi : ¬ ((d : Int) < (rl : Int)) := by omega
                have hszR := HSR.out _ HWd.out
                obtain ⟨u0, hu0⟩ := hszR.cell (i := b * 4) (by omega)
                obtain ⟨u1, hu1⟩ := hszR.cell (i := b * 4 + 1) (by omega)
                obtain ⟨u2, hu2⟩ := hszR.cell (i := b * 4 + 2) (by omega)
                obtain ⟨u3, hu3⟩ := hszR.cell (i := b * 4 + 3) (by omega)
                have hf0 := hszR.frozen (b * 4)
                have hf1 := hszR.frozen (b * 4 + 1)
                have hf2 := hszR.frozen (b * 4 + 2)
                have hf3 := hszR.frozen (b * 4 + 3)
                have hsm : m * 4 = xs.length * 4 := by rw [HM.out]
                rw [hsm] at hszR
                have HW2 := Lib.hid ((((HWd.out.next.setRel HAP.out HP.out rfl hszR (d := 0) (by omega) (.int .u8 0)).setRel HAP.out HP.out rfl (hszR.set_ _ _ _) (d := 1) (by omega) (.int .i64 0)).setRel HAP.out HP.out rfl ((hszR.set_ _ _ _).set_ _ _ _) (d := 2) (by omega) (.bool false)).setRel HAP.out HP.out rfl (((hszR.set_ _ _ _).set_ _ _ _).set_ _ _ _) (d := 3) (by omega) (.slice none 0 0))
                have hbl : Below w1.heap.size w1 ((((wr.setCell ⟨gR, b * 4 + 0, none⟩ (.int .u8 0)).setCell ⟨gR, b * 4 + 1, none⟩ (.int .i64 0)).setCell ⟨gR, b * 4 + 2, none⟩ (.bool false)).setCell ⟨gR, b * 4 + 3, none⟩ (.slice none 0 0)) := (((hbd.setCell hgR _).setCell hgR _).setCell hgR _).setCell hgR _
                clear hszR hsm
                go_wp2_with fail
                go_roundw
                case rel => exact ⟨b + 1, by omega, by go_num, hbl, HW2⟩
                case measure => simp [intOf]; omega
          · have hbi : ¬ ((b : Int) < (m : Int)) := by omega
            have hc0 := HPC.out _ _ _ HWb.out
            clear hltb hbm
            go_wp2_with fail
            go_roundw
            case rel => exact ⟨a + 1, by omega, by go_num, hbb, Lib.hid HWb.out.row⟩
            case measure => simp [intOf]; omega
      · have hki : ¬ ((a : Int) < (n : Int)) := by omega
        have HBr := Lib.hid (HB1.out.call hba)
        have hBr := HBr.out.below
        clear hlt ha HWa
        go_upto_region 24 with (first
          | (go_at_call 8; (with_reducible refine (CP.out _ hBr).mono ?_); rintro e w2 ⟨qs, A2, c2, hv2, rfl, hc2, ho2, hb2⟩; (have HB2 := Lib.hid (HBr.out.call hb2)); (obtain ⟨o0, o1, o2, o3, o4, -⟩ := HB2.out.cells); (have hB2 := HB2.out.below); dsimp only)
          | (go_at_call 11; (with_reducible refine (CH.out A2 c2 qs _ _ hv2 ho2).mono ?_); rintro e w3 ⟨rfl, hb3⟩; (have HB3 := Lib.hid (HB2.out.call hb3)); (have ho3 := ho2.later hb3); (have hB3 := HB3.out.below); dsimp only)
          | (go_at_call 9; (with_reducible refine (CX.out A2 c2 qs _ _ hB3 hv2 ho3).mono ?_); rintro e w4 ⟨rfl, hb4⟩; (have HB4 := Lib.hid (HB3.out.call hb4)); (have hB4 := HB4.out.below); dsimp only))
        go_wp2_with fail
        go_ret
        exact ⟨rfl, hB4⟩
  · have CP := Lib.hid fun (W : World) (hW : Below w.heap.size w W) => parse_no s W (by omega) (hE.later hW) (fun r hr => hIs ⟨r, hr⟩)
    clear hE hsl hs hI hV hW hF hT hIs
    go_enter Tryd.func5, Tryd.ntmps5
    go_wp2_with (first
      | (go_at_call 8; (with_reducible refine (CF.out _ hb0).mono ?_); rintro e w1 ⟨A1, c1, rfl, hb1⟩; (have HB1 := Lib.hid (H0.out.call hb1)); (have hB1 := HB1.out.below); dsimp only)
      | (go_at_call 8; (with_reducible refine (CP.out _ hB1).mono ?_); rintro e w2 ⟨rfl, hb2⟩; rw [errV_three]; dsimp only))
    go_ret
    exact ⟨rfl, bel_call hB1 hb2⟩
end Ru
end Go.Proofs.YtkhnjlkamleldaaDoor
