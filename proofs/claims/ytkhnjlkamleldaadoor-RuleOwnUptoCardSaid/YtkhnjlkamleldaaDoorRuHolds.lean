/- The program's allHold and Holds: whether a rule holds, and what is wrong with it; what lay in memory stays as it was. -/
import Derived.Test.YtkhnjlkamleldaaDoorRuAmong
import Derived.Test.YtkhnjlkamleldaaDoorRuCheckRule
namespace Go.Proofs.YtkhnjlkamleldaaDoor
namespace Ru
open Go.RowKit Go.Maps D

set_option maxHeartbeats 2000000 in
set_option maxRecDepth 100000 in
theorem allHold_any (A : Option Addr) (n c : Nat) (xs : List RelX) (I V W F T : Int) (mb : Nat) (w : World) (hr : RelsAt w w.heap.size A n xs) (hn : n ≤ maxLen) (hz : ∀ x ∈ xs, x.v.rs.length ≤ maxLen) (hok : ∀ x ∈ xs, relOk x.v) (hM : OpsAt w mb I V W F T) :
    Calls Tryd.prog 25 #[.slice A n c, .map (some mb)] w (GivesB w (partH (relsV xs) I V W F T)) := by
  have HR := Lib.hid hr
  have HL := Lib.hid hr.len
  have HZ := Lib.hid hz
  have HO := Lib.hid hok
  have HTK := Lib.hid fun k hk => part_take (relsV xs) I V W F T k hk
  have HFA : Hid (∀ x ∈ xs, relH x.v I V W F T = false → partH (relsV xs) I V W F T = false) := Lib.hid fun x hx h => List.all_eq_false.2 ⟨x.v, List.mem_map.2 ⟨x, hx, rfl⟩, by simp [h]⟩
  have HT0 : Hid (partH ((relsV xs).take n) I V W F T = partH (relsV xs) I V W F T) := Lib.hid (by rw [List.take_of_length_le (by simp [relsV, hr.len])])
  generalize hres : partH (relsV xs) I V W F T = res at *
  clear hres
  unfold maxLen at hn
  clear hr hz hok
  go_enter Tryd.func25, Tryd.ntmps25
  go_wp2_with fail
  go_loopw [9] (fun i wr => ∃ k : Nat, k ≤ n ∧ i = .int .i64 k ∧ Below w.heap.size w wr ∧ OpsAt wr mb I V W F T ∧ Hid (partH ((relsV xs).take k) I V W F T = true)) (fun i _ => n - (intOf i).toNat)
  case atStart => exact ⟨0, Nat.zero_le _, rfl, Below.refl _ _, hM, Lib.hid (by simp [partH])⟩
  case round =>
    obtain ⟨k, hk, rfl, hb, hMr, HA⟩ := hrel
    by_cases hlt : k < n
    · have hkx : k < xs.length := by have := HL.out; omega
      obtain ⟨ad, rfl, hadb, y0, y1, y2, y3, hrc, hrg⟩ := ((HR.out.below hb).more hb.size).at_ (List.getElem?_eq_getElem hkx)
      rw [← add_of_add, add_pos _ _ (by omega)] at y1 y2 y3
      have hki : (k : Int) < (n : Int) := by omega
      have HK := Lib.hid (HTK.out k (by simpa [relsV] using hkx))
      have HB0 : Hid (Bs wr _ [_]) := Lib.hid (bs_one wr [.int .u8 xs[k].v.op, .int .i64 xs[k].v.mod, .bool xs[k].v.nt, .slice xs[k].A xs[k].v.rs.length xs[k].c] 40)
      have hM1 : OpsAt _ mb I V W F T := map_later hMr HB0.out.below
      have CC := Lib.hid (relHolds_any xs[k].v.op xs[k].v.mod xs[k].v.nt xs[k].A xs[k].v.rs.length xs[k].c xs[k].v.rs I V W F T mb _ ((hrg.below HB0.out.below).more HB0.out.below.size) rfl (HZ.out _ (List.getElem_mem hkx)) (HO.out _ (List.getElem_mem hkx)) hM1)
      have HF2 := Lib.hid (HFA.out _ (List.getElem_mem hkx))
      have HX : Hid ((relsV xs)[k]'(by simpa [relsV] using hkx) = xs[k].v) := Lib.hid (by simp [relsV])
      rw [HX.out] at HK
      clear hrg hrc HX
      generalize xs[k] = x at *
      obtain ⟨⟨op, mod, nt, rs⟩, xA, xc⟩ := x
      dsimp only at *
      cases hh : relH ⟨op, mod, nt, rs⟩ I V W F T with
      | false =>
        have HE := Lib.hid (HF2.out hh)
        rw [hh] at CC
        clear hh HK
        go_wp2_with (go_at_call 38; (with_reducible refine CC.out.mono ?_); rintro e w2 ⟨rfl, hb2⟩)
        go_ret
        exact ⟨ret_b HE.out.symm, bel_call hb (bel_call HB0.out.below hb2)⟩
      | true =>
        rw [hh] at CC HK
        clear hh
        go_wp2_with (go_at_call 38; (with_reducible refine CC.out.mono ?_); rintro e w2 ⟨rfl, hb2⟩)
        go_roundw
        case rel => exact ⟨k + 1, by omega, by go_num, bel_call hb (bel_call HB0.out.below hb2), map_later hM1 hb2, Lib.hid (by rw [HK.out, HA.out]; rfl)⟩
        case measure => simp [intOf]; omega
    · have hki : ¬ ((k : Int) < (n : Int)) := by omega
      obtain rfl : k = n := by omega
      have HE : Hid (true = res) := Lib.hid (by rw [← HT0.out]; exact HA.out.symm)
      clear hlt hk
      go_wp2_with fail
      go_ret
      exact ⟨ret_b HE.out, hb⟩

abbrev holdF (g : Nat) : Value := .func (.func 24) #[] #[.pointer (some ⟨g, 0, none⟩)]
set_option maxHeartbeats 1000000 in
theorem holds1_any (A : Option Addr) (n c : Nat) (xs : List RelX) (I V W F T : Int) (mb g : Nat) (w : World) (hr : RelsAt w w.heap.size A n xs) (hn : n ≤ maxLen) (hz : ∀ x ∈ xs, x.v.rs.length ≤ maxLen) (hok : ∀ x ∈ xs, relOk x.v) (hM : OpsAt w mb I V W F T) (hg : BoxAt w g (.map (some mb))) :
    Calls Tryd.prog 24 #[.slice A n c, .pointer (some ⟨g, 0, none⟩)] w (GivesB w (partH (relsV xs) I V W F T)) := by
  have HC := Lib.hid (allHold_any A n c xs I V W F T mb w hr hn hz hok hM)
  have hg' : w.cell? ⟨g, 0, none⟩ = some (.map (some mb)) := hg
  clear hr hz hok hM hg
  go_enter Tryd.func24, Tryd.ntmps24
  go_wp2_with (go_at_call 25; (with_reducible refine HC.out.mono ?_); rintro e w2 ⟨rfl, hb2⟩)
  go_ret
  exact ⟨rfl, hb2⟩
set_option maxHeartbeats 2000000 in
set_option maxRecDepth 100000 in
theorem indexPart_any (A : Option Addr) (n c : Nat) (ps : List PartX) (I V W F T : Int) (mb g : Nat) (w : World) (h : RuleAt w w.heap.size A n ps) (hn : n ≤ maxLen) (hz : Few ps) (hok : ruleOk (ruleV ps)) (hM : OpsAt w mb I V W F T) (hg : BoxAt w g (.map (some mb))) :
    Calls Tryd.prog 37 #[.slice A n c, holdF g] w fun e w' => ∃ z : Int, e = .returned (.int .i64 z) ∧ decide (0 ≤ z) = ruleH (ruleV ps) I V W F T ∧ Below w.heap.size w w' := by
  have HR := Lib.hid h
  have HL := Lib.hid h.len
  have HZ := Lib.hid hz
  have HO := Lib.hid hok
  have HM := Lib.hid hM
  have HG := Lib.hid hg
  have HTK := Lib.hid fun k hk => rule_take (ruleV ps) I V W F T k hk
  unfold maxLen at hn
  clear h hz hok hM hg
  go_enter Tryd.func37, Tryd.ntmps37
  go_wp2_with fail
  go_loopw [8] (fun i wr => ∃ k : Nat, k ≤ n ∧ i = .int .i64 k ∧ Below w.heap.size w wr ∧ Hid (ruleH ((ruleV ps).take k) I V W F T = false)) (fun i _ => n - (intOf i).toNat)
  case atStart => exact ⟨0, Nat.zero_le _, rfl, Below.refl _ _, Lib.hid (by simp [ruleH])⟩
  case round =>
    obtain ⟨k, hk, rfl, hb, HA⟩ := hrel
    by_cases hlt : k < n
    · have hkp : k < ps.length := by have := HL.out; omega
      obtain ⟨ad, rfl, hadb, y0, hpc, hpr⟩ := ((HR.out.below hb).more hb.size).at_ (List.getElem?_eq_getElem hkp)
      have hki : (k : Int) < (n : Int) := by omega
      have HMM : Hid (relsV ps[k].xs ∈ ruleV ps) := Lib.hid (List.mem_map.2 ⟨_, List.getElem_mem hkp, rfl⟩)
      have HK := Lib.hid (HTK.out k (by simpa [ruleV] using hkp))
      have HX : Hid ((ruleV ps)[k]'(by simpa [ruleV] using hkp) = relsV ps[k].xs) := Lib.hid (by simp [ruleV])
      rw [HX.out] at HK
      have hzp := HZ.out _ (List.getElem_mem hkp)
      have CC := Lib.hid (holds1_any ps[k].A ps[k].xs.length ps[k].c ps[k].xs I V W F T mb g wr hpr hzp.1 hzp.2 (fun x hx => (HO.out.2 _ HMM.out).2 _ (List.mem_map.2 ⟨x, hx, rfl⟩)) (map_later HM.out hb) (HG.out.later hb))
      clear hpc hpr HX hzp
      generalize ps[k] = p at *
      obtain ⟨pA, pc, xs⟩ := p
      dsimp only at *
      cases hh : partH (relsV xs) I V W F T with
      | true =>
        have HE : Hid (decide (0 ≤ (k : Int)) = ruleH (ruleV ps) I V W F T) := Lib.hid (by rw [decide_eq_true (by omega)]; exact (rule_true HMM.out hh).symm)
        rw [hh] at CC
        clear hh HK
        go_wp2_with (go_at_call 24; (with_reducible refine CC.out.mono ?_); rintro e w2 ⟨rfl, hb2⟩)
        go_ret
        exact ⟨_, rfl, HE.out, bel_call hb hb2⟩
      | false =>
        rw [hh] at CC HK
        clear hh
        go_wp2_with (go_at_call 24; (with_reducible refine CC.out.mono ?_); rintro e w2 ⟨rfl, hb2⟩)
        go_roundw
        case rel => exact ⟨k + 1, by omega, by go_num, bel_call hb hb2, Lib.hid (by rw [HK.out, HA.out]; rfl)⟩
        case measure => simp [intOf]; omega
    · have hki : ¬ ((k : Int) < (n : Int)) := by omega
      have HE : Hid (decide (0 ≤ (-1 : Int)) = ruleH (ruleV ps) I V W F T) := Lib.hid (by
        have := HA.out
        rw [List.take_of_length_le (by have := HL.out; simp [ruleV]; omega)] at this
        rw [this]; rfl)
      clear hlt hk
      go_wp2_with fail
      go_ret
      exact ⟨_, rfl, HE.out, hb⟩
set_option maxHeartbeats 1000000 in
theorem containsPart_any (A : Option Addr) (n c : Nat) (ps : List PartX) (I V W F T : Int) (mb g : Nat) (w : World) (h : RuleAt w w.heap.size A n ps) (hn : n ≤ maxLen) (hz : Few ps) (hok : ruleOk (ruleV ps)) (hM : OpsAt w mb I V W F T) (hg : BoxAt w g (.map (some mb))) :
    Calls Tryd.prog 23 #[.slice A n c, holdF g] w (GivesB w (ruleH (ruleV ps) I V W F T)) := by
  have HI := Lib.hid (indexPart_any A n c ps I V W F T mb g w h hn hz hok hM hg)
  clear h hz hok hM hg
  generalize ruleH (ruleV ps) I V W F T = res at *
  go_enter Tryd.func23, Tryd.ntmps23
  go_wp2_with (go_at_call 37; (with_reducible refine HI.out.mono ?_); rintro e w2 ⟨z, rfl, hd, hb2⟩; (have HD := Lib.hid hd); clear hd)
  go_ret
  exact ⟨ret_b HD.out, hb2⟩

/-- what Holds tells -/
def holdsB (r : List (List RelV)) (I V W F T : Int) : Bool := if ruleF r = 0 then ruleH r I V W F T else false
def GivesH (w : World) (b : Bool) (k : Nat) (e : Ending) (w' : World) : Prop := e = .returned (.tuple #[.bool b, errV k]) ∧ Below w.heap.size w w'
theorem errV_ne {F : Nat} (h : F ≠ 0) : ∃ k : Nat, errV F = .iface 50 (.int .i64 k) := ⟨F, by unfold errV; rw [if_neg h]⟩
set_option maxHeartbeats 2000000 in
set_option maxRecDepth 100000 in
theorem holds_any (A : Option Addr) (n c : Nat) (ps : List PartX) (I V W F T : Int) (w : World) (h : RuleAt w w.heap.size A n ps) (hn : n ≤ maxLen) (hz : Few ps) (hy : Byt ps) (ht : total (ruleV ps) < 4611686018427387904)
    (hI : I64 I) (hV : I64 V) (hW : I64 W) (hF : I64 F) (hT : I64 T) :
    Calls Tryd.prog 11 #[.slice A n c, .agg #[.int .i64 I, .int .i64 V, .int .i64 W, .int .i64 F, .int .i64 T]] w (GivesH w (holdsB (ruleV ps) I V W F T) (ruleF (ruleV ps))) := by
  have H0 : Hid (Bs w _ [_]) := Lib.hid (bs_one w [.int .i64 I, .int .i64 V, .int .i64 W, .int .i64 F, .int .i64 T] 33)
  obtain ⟨d0, d1, d2, d3, d4, -⟩ := H0.out.cells
  have hRL : ∀ W', Below w.heap.size w W' → RuleAt W' W'.heap.size A n ps := fun W' hW => (h.below hW).more hW.size
  have CK := Lib.hid (check_any A n c ps _ (hRL _ H0.out.below) hn hz hy ht)
  have CO := Lib.hid fun W' => operands_any I V W F T W' hI hV hW hF hT
  have CC : Hid (ruleOk (ruleV ps) → ∀ (mb g : Nat) (W' : World), Below w.heap.size w W' → OpsAt W' mb I V W F T → BoxAt W' g (.map (some mb)) → Calls Tryd.prog 23 #[.slice A n c, .func (.func 24) #[] #[.pointer (some ⟨g, 0, none⟩)]] W' (GivesB W' (ruleH (ruleV ps) I V W F T))) :=
    Lib.hid fun hok mb g W' hW hM hg => containsPart_any A n c ps I V W F T mb g W' (hRL W' hW) hn hz hok hM hg
  have HOK : Hid (ruleF (ruleV ps) = 0 → ruleOk (ruleV ps)) := Lib.hid fun h => (ruleF_zero.1 h).1
  unfold holdsB
  generalize ruleF (ruleV ps) = E at *
  clear h hz hy ht hRL hI hV hW hF hT
  by_cases hE : E = 0
  · have CC2 := Lib.hid (CC.out (HOK.out hE))
    subst hE
    rw [if_pos rfl]
    generalize ruleH (ruleV ps) I V W F T = res at *
    clear CC HOK
    go_enter Tryd.func11, Tryd.ntmps11
    go_wp2_with (first
      | (go_at_call 16; (with_reducible refine CK.out.mono ?_); rintro e w2 ⟨rfl, hb2⟩; (have HB2 := Lib.hid (H0.out.call hb2)); (obtain ⟨z0, z1, z2, z3, z4, -⟩ := HB2.out.cells); rw [errV_zero])
      | (go_at_call 22; (with_reducible refine (CO.out _).mono ?_); rintro e w3 ⟨mb, rfl, hM3, hb3⟩; (have HB3 := Lib.hid (HB2.out.call hb3)); (have HB4 : Hid (Bs w (w3.alloc (.cells #[.map (some mb)] 57)) _) := Lib.hid (HB3.out.alloc [.map (some mb)] 57)); (have hM4 := map_later hM3 ((Below.refl w3.heap.size w3).alloc (Nat.le_refl _) (.cells #[.map (some mb)] 57))); (have hbox : BoxAt (w3.alloc (.cells #[.map (some mb)] 57)) w3.heap.size (.map (some mb)) := HB4.out.cells.1); (have hbel := HB4.out.below))
      | (go_at_call 23; (with_reducible refine (CC2.out mb _ _ hbel hM4 hbox).mono ?_); rintro e w5 ⟨rfl, hb5⟩))
    exact bodyPost_ret (v := .tuple #[.bool res, .nilIface]) (by simp [results, Tryd.results11, go_sem]) rfl ⟨rfl, bel_call HB4.out.below hb5⟩
  · rw [if_neg hE]
    obtain ⟨z, hz⟩ := errV_ne hE
    unfold GivesH
    clear hE CC HOK CO
    go_enter Tryd.func11, Tryd.ntmps11
    go_wp2_with (first
      | (go_at_call 16; (with_reducible refine CK.out.mono ?_); rintro e w2 ⟨rfl, hb2⟩; rw [hz]))
    exact bodyPost_ret (v := .tuple #[.bool false, .iface 50 (.int .i64 z)]) (by simp [results, Tryd.results11, go_sem]) rfl ⟨by rw [hz], bel_call H0.out.below hb2⟩
end Ru
end Go.Proofs.YtkhnjlkamleldaaDoor
