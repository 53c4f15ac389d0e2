/- What the reference says is wrong with a relation, with a rule; what lay in memory stays as it was. And what follows from it. -/
import Derived.Test.YtabglcpllfcmbaaGreatDoorRuGround
import Derived.Test.YtabglcpllfcmbaaGreatDoorDecRefNum
namespace Go.Proofs.YtabglcpllfcmbaaGreatDoor
namespace Ru
open Go.RowKit D


set_option maxHeartbeats 4000000 in
set_option maxRecDepth 100000 in
theorem refRelFault_any (op mod : Int) (nt : Bool) (A : Option Addr) (n c : Nat) (rs : List (Int × Int)) (w : World) (hr : RgsAt w w.heap.size A n rs) (hl : rs.length = n) (hc : n ≤ c) (hn : n ≤ maxLen) :
    Calls Tryz.prog 20 #[.agg #[.int .u8 op, .int .i64 mod, .bool nt, .slice A n c]] w (GivesB w (decide (¬ relOk ⟨op, mod, nt, rs⟩))) := by
  have H0 : Hid (Bs w _ [_]) := Lib.hid (bs_one w [.int .u8 op, .int .i64 mod, .bool nt, .slice A n c] 57)
  have HR := Lib.hid hr
  have HL := Lib.hid hl
  unfold maxLen at hn
  clear hr hl
  go_enter Tryz.func20, Tryz.ntmps20
  go_upto_region 1 with fail
  obtain ⟨v0, hv0⟩ : ∃ V, w.alloc (.cells #[.int .u8 op, .int .i64 mod, .bool nt, .slice A n c] 57) = V := ⟨_, rfl⟩
  rw [hv0] at H0 ⊢
  clear hv0
  obtain ⟨d0, d1, d2, d3, -⟩ := H0.out.cells
  go_cut [31] (fun s wx => s = .bool (decide (¬ opOk op)) ∧ v0 = wx)
  case first =>
    have HO : Hid (opOk op ↔ (op = 110 ∨ op = 105 ∨ op = 118 ∨ op = 119 ∨ op = 102 ∨ op = 116)) := Lib.hid Iff.rfl
    by_cases h1 : op = 110
    · go_wp2_with fail
      go_meet
      exact ⟨val_b (decide_eq_false (fun h => h (HO.out.2 (.inl h1)))).symm, rfl⟩
    · by_cases h2 : op = 105
      · go_wp2_with fail
        go_meet
        exact ⟨val_b (decide_eq_false (fun h => h (HO.out.2 (.inr (.inl h2))))).symm, rfl⟩
      · by_cases h3 : op = 118
        · go_wp2_with fail
          go_meet
          exact ⟨val_b (decide_eq_false (fun h => h (HO.out.2 (.inr (.inr (.inl h3)))))).symm, rfl⟩
        · by_cases h4 : op = 119
          · go_wp2_with fail
            go_meet
            exact ⟨val_b (decide_eq_false (fun h => h (HO.out.2 (.inr (.inr (.inr (.inl h4))))))).symm, rfl⟩
          · by_cases h5 : op = 102
            · go_wp2_with fail
              go_meet
              exact ⟨val_b (decide_eq_false (fun h => h (HO.out.2 (.inr (.inr (.inr (.inr (.inl h5)))))))).symm, rfl⟩
            · by_cases h6 : op = 116
              · go_wp2_with fail
                go_meet
                exact ⟨val_b (decide_eq_false (fun h => h (HO.out.2 (.inr (.inr (.inr (.inr (.inr h6)))))))).symm, rfl⟩
              · go_wp2_with fail
                go_meet
                exact ⟨val_b (by rw [decide_eq_true (show ¬ opOk op from fun h => by rcases HO.out.1 h with e | e | e | e | e | e <;> contradiction)]; simp [h1, h2, h3, h4, h5, h6]), rfl⟩
  case rest =>
    obtain ⟨rfl, rfl⟩ := hcut
    have HBX : Hid (decide (¬ relOk ⟨op, mod, nt, rs⟩) = true ↔ ¬ (opOk op ∧ (0 ≤ mod ∧ mod ≤ 1000000) ∧ rs ≠ [] ∧ ∀ r ∈ rs, rgOk r)) := Lib.hid (by rw [decide_eq_true_iff]; exact Iff.rfl)
    generalize decide (¬ relOk ⟨op, mod, nt, rs⟩) = bad at *
    by_cases ho : opOk op
    · rw [decide_eq_false (show ¬ ¬ opOk op from fun h => h ho)]
      have HO := Lib.hid ho
      clear ho
      by_cases hm0 : mod < 0
      · go_wp2_with fail
        go_ret
        exact ⟨ret_b (HBX.out.2 fun h => by omega).symm, H0.out.below⟩
      · by_cases hm1 : 1000000 < mod
        · go_wp2_with fail
          go_ret
          exact ⟨ret_b (HBX.out.2 fun h => by omega).symm, H0.out.below⟩
        · by_cases hn0 : n = 0
          · subst hn0
            go_wp2_with fail
            go_ret
            exact ⟨ret_b (HBX.out.2 fun h => h.2.2.1 (List.eq_nil_of_length_eq_zero HL.out)).symm, H0.out.below⟩
          · have hn0i : ((n : Int) == 0) = false := by rw [beq_eq_false_iff_ne]; omega
            have hn0j : ¬ (n : Int) = 0 := by omega
            go_wp2_with fail
            have HM := Lib.hid (show 0 ≤ mod ∧ mod ≤ 1000000 by omega)
            have HN := Lib.hid (show rs ≠ [] from fun e => by subst e; have := HL.out; simp at this; omega)
            clear hm0 hm1 hn0 hn0i hn0j
            go_loopw [3] (fun i wr => ∃ k : Nat, k ≤ n ∧ i = .int .i64 k ∧ Hid (Bs w wr [(w.heap.size, [.int .u8 op, .int .i64 mod, .bool nt, .slice A n c])]) ∧ Hid (∀ r ∈ rs.take k, rgOk r)) (fun i _ => n - (intOf i).toNat)
            case atStart => exact ⟨0, Nat.zero_le _, rfl, H0, Lib.hid (by simp)⟩
            case round =>
              clear d0 d1 d2 d3
              obtain ⟨k, hk, rfl, HW, HA⟩ := hrel
              obtain ⟨d0, d1, d2, d3, -⟩ := HW.out.cells
              by_cases hlt : k < n
              · have hkr : k < rs.length := by have := HL.out; omega
                obtain ⟨ad, rfl, hadb, x0, x1⟩ := rg_at (n := n) (HR.out.below HW.out.below) hkr
                have HS : Hid (rs.take (k + 1) = rs.take k ++ [rs[k]]) := Lib.hid (List.take_succ_eq_append_getElem hkr)
                have HRK : Hid (rs[k] ∈ rs) := Lib.hid (List.getElem_mem hkr)
                rw [← add_of_add, add_pos _ _ (by omega)] at x1
                generalize rs[k] = rk at *
                obtain ⟨a, b⟩ := rk
                dsimp only at x0 x1
                have hki : (k : Int) < (n : Int) := by omega
                by_cases ha : a < 0
                · have HB : Hid (¬ rgOk (a, b)) := Lib.hid fun h => by have h1 := h.1; have h2 := h.2.1; have h3 := h.2.2; dsimp only at h1 h2 h3; omega
                  have gA : decide (a < 0) = true := decide_eq_true ha
                  go_wp2_with fail
                  go_big_quiet (fail)
                  go_wp2_with fail
                  go_ret
                  exact ⟨ret_b (HBX.out.2 fun h => HB.out (h.2.2.2 _ HRK.out)).symm, (HW.out.drewN nq).below⟩
                · have gA : decide (a < 0) = false := decide_eq_false ha
                  by_cases hb : b < a
                  · have HB : Hid (¬ rgOk (a, b)) := Lib.hid fun h => by have h1 := h.1; have h2 := h.2.1; have h3 := h.2.2; dsimp only at h1 h2 h3; omega
                    have gB : decide (b < a) = true := decide_eq_true hb
                    go_wp2_with fail
                    go_big_quiet (fail)
                    go_wp2_with fail
                    go_ret
                    exact ⟨ret_b (HBX.out.2 fun h => HB.out (h.2.2.2 _ HRK.out)).symm, (HW.out.drewN nq).below⟩
                  · have gB : decide (b < a) = false := decide_eq_false hb
                    by_cases hm : 1000000 < b
                    · have HB : Hid (¬ rgOk (a, b)) := Lib.hid fun h => by have h1 := h.1; have h2 := h.2.1; have h3 := h.2.2; dsimp only at h1 h2 h3; omega
                      go_wp2_with fail
                      go_big_quiet (fail)
                      go_wp2_with fail
                      go_ret
                      exact ⟨ret_b (HBX.out.2 fun h => HB.out (h.2.2.2 _ HRK.out)).symm, (HW.out.drewN nq).below⟩
                    · have HB : Hid (rgOk (a, b)) := Lib.hid ⟨by show 0 ≤ a; omega, by show a ≤ b; omega, by show b ≤ 1000000; omega⟩
                      go_wp2_with fail
                      go_big_quiet (fail)
                      go_wp2_with fail
                      go_roundw
                      case rel => exact ⟨k + 1, by omega, by go_num, Lib.hid (HW.out.drewN nq), Lib.hid (by
                        rw [HS.out]
                        intro r hr
                        rcases List.mem_append.1 hr with hr | hr
                        · exact HA.out r hr
                        · obtain rfl := List.mem_singleton.1 hr; exact HB.out)⟩
                      case measure => simp [intOf]; omega
              · have hki : ¬ ((k : Int) < (n : Int)) := by omega
                have HF : Hid (rs.take k = rs) := Lib.hid (List.take_of_length_le (by have := HL.out; omega))
                clear hlt hk
                go_wp2_with fail
                go_ret
                exact ⟨ret_b (Bool.eq_false_iff.2 fun hb => HBX.out.1 hb ⟨HO.out, HM.out, HN.out, by have := HA.out; rwa [HF.out] at this⟩).symm, HW.out.below⟩
    · rw [decide_eq_true ho]
      have HO := Lib.hid ho
      clear ho
      go_wp2_with fail
      go_ret
      exact ⟨ret_b (HBX.out.2 fun h => HO.out h.1).symm, H0.out.below⟩
end Ru
end Go.Proofs.YtabglcpllfcmbaaGreatDoor

/- What the reference says is wrong with a rule; what lay in memory stays as it was. -/
namespace Go.Proofs.YtabglcpllfcmbaaGreatDoor
namespace Ru
open Go.RowKit D

set_option maxHeartbeats 4000000 in
set_option maxRecDepth 100000 in
theorem refRuleFault_any (A : Option Addr) (n c : Nat) (ps : List PartX) (w : World) (h : RuleAt w w.heap.size A n ps) (hn : n ≤ maxLen) (hz : Few ps) (ht : total (ruleV ps) < 4611686018427387904) :
    Calls Tryz.prog 6 #[.slice A n c] w (GivesI w (ruleF (ruleV ps))) := by
  have HT := Lib.hid fun i => Nat.lt_of_le_of_lt (total_le (ruleV ps) i) ht
  have HL := Lib.hid h.len
  have HR := Lib.hid h
  have HZ := Lib.hid hz
  have HF : Hid ((¬ ruleOk (ruleV ps) → ruleF (ruleV ps) = 3) ∧ (ruleOk (ruleV ps) → ruleF (ruleV ps) = if 20 < total (ruleV ps) then 4 else 0)) := Lib.hid ⟨fault_bad, fault_ok⟩
  generalize ruleF (ruleV ps) = F at *
  unfold maxLen at hn
  clear ht h hz
  by_cases h0 : n = 0
  · subst h0
    have HE : Hid (¬ ruleOk (ruleV ps)) := Lib.hid fun h => h.1 (by have := List.eq_nil_of_length_eq_zero HL.out; subst this; rfl)
    go_enter Tryz.func6, Tryz.ntmps6
    go_wp2_with fail
    go_ret
    exact ⟨ret_i (a := 3) (HF.out.1 HE.out).symm, Below.refl _ _⟩
  · have HNE : Hid (ruleV ps ≠ []) := Lib.hid fun e => h0 (by have := congrArg List.length e; simp [ruleV] at this; have := HL.out; simp_all)
    have h0i : ((n : Int) == 0) = false := by rw [beq_eq_false_iff_ne]; omega
    go_enter Tryz.func6, Tryz.ntmps6
    go_wp2_with fail
    clear h0 h0i
    go_loopw [3, 4] (fun s i wr => ∃ k : Nat, k ≤ n ∧ i = .int .i64 k ∧ s = .int .i64 (total ((ruleV ps).take k) : Nat) ∧ Below w.heap.size w wr ∧ Hid (∀ p ∈ (ruleV ps).take k, partOk p)) (fun _ i _ => n - (intOf i).toNat)
    case atStart => exact ⟨0, Nat.zero_le _, rfl, rfl, Below.refl _ _, Lib.hid (by simp)⟩
    case round =>
      obtain ⟨k, hk, rfl, rfl, hb, HA⟩ := hrel
      by_cases hlt : k < n
      · have hkp : k < ps.length := by have := HL.out; omega
        obtain ⟨ad, rfl, -, -, -, -⟩ := ((HR.out.below hb).more hb.size).at_ (List.getElem?_eq_getElem hkp)
        have HC : Hid (∀ W, Below w.heap.size w W → W.cell? (ad.add k) = some (.slice ps[k].A ps[k].xs.length ps[k].c) ∧ RelsAt W W.heap.size ps[k].A ps[k].xs.length ps[k].xs) := Lib.hid fun W hW => by
          obtain ⟨ad', e, _, y0, _, y1⟩ := ((HR.out.below hW).more hW.size).at_ (List.getElem?_eq_getElem hkp)
          injection e with e; subst e
          exact ⟨y0, y1⟩
        have HP := Lib.hid (HZ.out _ (List.getElem_mem hkp))
        have HK : Hid ((ruleV ps).take (k + 1) = (ruleV ps).take k ++ [relsV ps[k].xs]) := Lib.hid (by rw [List.take_succ_eq_append_getElem (by simpa [ruleV] using hkp)]; simp [ruleV])
        have HM : Hid (relsV ps[k].xs ∈ ruleV ps) := Lib.hid (List.mem_map.2 ⟨_, List.getElem_mem hkp, rfl⟩)
        have hT := HT.out (k + 1)
        rw [HK.out, total_snoc] at hT
        have HPL : Hid ((relsV ps[k].xs).length = ps[k].xs.length) := Lib.hid (by simp [relsV])
        rw [HPL.out] at hT
        generalize ps[k] = p at *
        obtain ⟨pA, pc, xs⟩ := p
        dsimp only at *
        have hki : (k : Int) < (n : Int) := by omega
        obtain ⟨x0, -⟩ := HC.out _ hb
        have hxl := HP.out.1
        unfold maxLen at hxl
        have HS : Hid (total ((ruleV ps).take k) + xs.length = total ((ruleV ps).take (k + 1))) := Lib.hid (by rw [HK.out, total_snoc, HPL.out])
        have HA2 : Hid (partOk (relsV xs) → ∀ p ∈ (ruleV ps).take (k + 1), partOk p) := Lib.hid fun h p hp => by
          rw [HK.out] at hp
          rcases List.mem_append.1 hp with hp | hp
          · exact HA.out p hp
          · obtain rfl := List.mem_singleton.1 hp; exact h
        have HB2 : Hid (¬ partOk (relsV xs) → F = 3) := Lib.hid fun h => HF.out.1 fun hr => h (hr.2 _ HM.out)
        clear HK
        generalize total ((ruleV ps).take k) = tk at *
        generalize hln : xs.length = m at *
        by_cases hm0 : m = 0
        · have HE : Hid (F = 3) := Lib.hid (HB2.out fun h => h.1 (by have := List.eq_nil_of_length_eq_zero (hln.trans hm0); subst this; rfl))
          subst hm0
          clear hln
          go_wp2_with fail
          go_ret
          exact ⟨ret_i (a := 3) HE.out.symm, hb⟩
        · have HXN : Hid (relsV xs ≠ []) := Lib.hid fun e => hm0 (by have := congrArg List.length e; simp [relsV] at this; subst this; simpa using hln.symm)
          have HXL := Lib.hid hln
          have hm0j : ¬ (m : Int) = 0 := by omega
          have hm0i : ((m : Int) == 0) = false := by rw [beq_eq_false_iff_ne]; omega
          clear hln hm0
          go_wp2_with fail
          clear hm0j hm0i x0
          go_loopw [2, 3, 5] (fun _ s j wi => ∃ q : Nat, q ≤ m ∧ j = .int .i64 q ∧ s = .int .i64 ((tk + q : Nat) : Int) ∧ Below w.heap.size w wi ∧ Hid (∀ x ∈ (relsV xs).take q, relOk x)) (fun _ _ j _ => m - (intOf j).toNat)
          case atStart => exact ⟨0, Nat.zero_le _, rfl, by simp, hb, Lib.hid (by simp)⟩
          case round =>
            obtain ⟨q, hq, rfl, rfl, hbi, HQ⟩ := hrel
            obtain ⟨x0, hrels⟩ := HC.out _ hbi
            by_cases hqm : q < m
            · have hqx : q < xs.length := by have := HXL.out; omega
              obtain ⟨a2, rfl, ha2b, y0, y1, y2, y3, hrc, hrg⟩ := hrels.at_ (List.getElem?_eq_getElem hqx)
              rw [← add_of_add, add_pos _ _ (by omega)] at y1 y2 y3
              have CX := Lib.hid fun (W : World) (hW : Below w.heap.size w W) => by
                obtain ⟨_, hr2⟩ := HC.out _ hW
                have hg := hr2.rgs _ (List.getElem_mem hqx)
                exact refRelFault_any xs[q].v.op xs[q].v.mod xs[q].v.nt xs[q].A xs[q].v.rs.length xs[q].c xs[q].v.rs W hg.2 rfl hg.1 (HP.out.2 _ (List.getElem_mem hqx))
              have HQ2 : Hid ((relsV xs).take (q + 1) = (relsV xs).take q ++ [xs[q].v]) := Lib.hid (by rw [List.take_succ_eq_append_getElem (by simpa [relsV] using hqx)]; simp [relsV])
              have HQM : Hid (xs[q].v ∈ relsV xs) := Lib.hid (List.mem_map.2 ⟨_, List.getElem_mem hqx, rfl⟩)
              clear hrels hrg hrc
              generalize xs[q] = x at *
              obtain ⟨⟨op, mod, nt, rs⟩, xA, xc⟩ := x
              dsimp only at *
              have hqi : (q : Int) < (m : Int) := by omega
              by_cases hok : relOk ⟨op, mod, nt, rs⟩
              · have HOK := Lib.hid hok
                simp only [hok, not_true_eq_false, decide_false] at CX
                clear hok
                go_wp2_with (go_at_call 20; (with_reducible refine (CX.out _ hbi).mono ?_); rintro e w2 ⟨rfl, hb2⟩)
                go_roundw
                case rel => exact ⟨q + 1, by omega, by go_num, by go_num, bel_call hbi hb2, Lib.hid (by
                  rw [HQ2.out]
                  intro z hz
                  rcases List.mem_append.1 hz with hz | hz
                  · exact HQ.out z hz
                  · obtain rfl := List.mem_singleton.1 hz; exact HOK.out)⟩
                case measure => simp [intOf]; omega
              · have HE : Hid (F = 3) := Lib.hid (HB2.out fun h => hok (h.2 _ HQM.out))
                simp only [hok, not_false_eq_true, decide_true] at CX
                clear hok
                go_wp2_with (go_at_call 20; (with_reducible refine (CX.out _ hbi).mono ?_); rintro e w2 ⟨rfl, hb2⟩)
                go_ret
                exact ⟨ret_i (a := 3) HE.out.symm, bel_call hbi hb2⟩
            · have hqi : ¬ ((q : Int) < (m : Int)) := by omega
              obtain rfl : q = m := by omega
              have HPO : Hid (partOk (relsV xs)) := Lib.hid ⟨HXN.out, fun x hx => HQ.out x (by rw [List.take_of_length_le (by have := HXL.out; simp [relsV]; omega)]; exact hx)⟩
              clear hqm hq
              go_wp2_with fail
              go_roundw
              case rel => exact ⟨k + 1, by omega, by go_num, by rw [HS.out], hbi, Lib.hid (HA2.out HPO.out)⟩
              case measure => simp [intOf]; omega
      · have hki : ¬ ((k : Int) < (n : Int)) := by omega
        have HALL : Hid ((ruleV ps).take k = ruleV ps) := Lib.hid (List.take_of_length_le (by have := HL.out; simp [ruleV]; omega))
        have HFF : Hid (F = if 20 < total (ruleV ps) then 4 else 0) := Lib.hid (HF.out.2 ⟨HNE.out, by have := HA.out; rwa [HALL.out] at this⟩)
        have hT := HT.out k
        rw [HALL.out] at hT ⊢
        generalize total (ruleV ps) = T at *
        clear hlt hk
        by_cases h20 : 20 < T
        · have h20i : (20 : Int) < (T : Int) := by omega
          have HE : Hid (F = 4) := Lib.hid (HFF.out.trans (if_pos h20))
          clear h20
          go_wp2_with fail
          go_ret
          exact ⟨ret_i (a := 4) HE.out.symm, hb⟩
        · have h20i : ¬ ((20 : Int) < (T : Int)) := by omega
          have HE : Hid (F = 0) := Lib.hid (HFF.out.trans (if_neg h20))
          clear h20
          go_wp2_with fail
          go_ret
          exact ⟨ret_i (a := 0) HE.out.symm, hb⟩
end Ru
end Go.Proofs.YtabglcpllfcmbaaGreatDoor

/- The reference's Cut of a text at another one, walked: it returns a list of its own that holds the pieces; what lay in memory stays as it was. -/
namespace Go.Proofs.YtabglcpllfcmbaaGreatDoor
namespace Ru
open Go.RowKit Go.Maps D

/-- texts as values, as bytes -/
def sv (l : List ByteArray) : List Value := l.map Value.string
def bs (l : List ByteArray) : List (List UInt8) := l.map fun b => b.data.toList
theorem sv_snoc (l : List ByteArray) (x : ByteArray) : sv (l ++ [x]) = sv l ++ [.string x] := by simp [sv]
theorem bs_snoc (l : List ByteArray) (x : ByteArray) : bs (l ++ [x]) = bs l ++ [x.data.toList] := by simp [bs]
theorem sv_one (l : List ByteArray) : ∀ u ∈ sv l, u.oneCell' = true := by
  intro u hu
  obtain ⟨v, _, rfl⟩ := List.mem_map.1 hu
  rfl
theorem cell_new (w : World) (t : TypeId) (x : Value) : ∀ j u, [x][j]? = some u → (w.alloc (.cells #[x] t)).cell? ((⟨w.heap.size, 0, none⟩ : Addr).add j) = some u := by
  intro j u h
  cases j with
  | zero => simp [Addr.add] at *; exact h
  | succ j => simp at h
theorem str_info : (Tryz.prog.info? 9).map (fun i => (i.zero, i.size, i.bytes)) = some (some (.string ⟨#[]⟩), 1, 16) := by kernel_rfl
theorem ba_size (b : ByteArray) : b.size = b.data.toList.length := by rw [Array.length_toList]; rfl
theorem extract_td (s : ByteArray) (a b : Nat) : (s.extract a b).data.toList = (s.data.toList.take b).drop a := by
  rw [List.drop_take, ByteArray.data_extract, Array.toList_extract, List.extract_eq_take_drop]
theorem prefix_take : ∀ (sep r : List UInt8), sep.isPrefixOf r = (r.take sep.length == sep)
  | [], r => by simp
  | a :: sep, [] => by simp
  | a :: sep, c :: r => by
    rw [List.isPrefixOf_cons_cons, prefix_take sep r, List.length_cons, List.take_succ_cons]
    show _ = ((c == a) && (r.take sep.length == sep))
    rw [Bool.beq_comm]
/-- what the loop holds: what is done, from where on, up to where -/
structure CutSt (s sep : List UInt8) (dn : List ByteArray) (f i : Nat) : Prop where
  fi : f ≤ i
  isz : i ≤ s.length
  len : dn.length ≤ f
  small : ∀ p ∈ dn, p.size ≤ s.length
  left : ∃ n, s.length - i < n ∧ cutL sep s = bs dn ++ cutF sep n ((s.take i).drop f) (s.drop i)
theorem CutSt.start (s sep : List UInt8) : CutSt s sep [] 0 0 := ⟨Nat.le_refl _, Nat.zero_le _, Nat.zero_le _, by simp, s.length + 1, by omega, by simp [cutL, bs]⟩
theorem CutSt.next {s sep : List UInt8} {dn : List ByteArray} {f i : Nat} (h : CutSt s sep dn f i) (hi : i < s.length) (hd : ((s.drop i).take sep.length == sep) = false) : CutSt s sep dn f (i + 1) := by
  obtain ⟨n, hn, hl⟩ := h.left
  obtain ⟨m, rfl⟩ : ∃ m, n = m + 1 := ⟨n - 1, by omega⟩
  refine ⟨by have := h.fi; omega, hi, h.len, h.small, m, by omega, ?_⟩
  rw [hl]
  congr 1
  conv => lhs; unfold cutF
  rw [prefix_take, hd, List.drop_eq_getElem_cons hi]
  simp only [Bool.false_eq_true, if_false]
  congr 1
  rw [List.take_succ_eq_append_getElem hi, List.drop_append_of_le_length (by rw [List.length_take]; have := h.fi; omega)]
theorem CutSt.cut {s sep : List UInt8} {dn : List ByteArray} {f i : Nat} (S : ByteArray) (hS : S.data.toList = s) (h : CutSt s sep dn f i) (h0 : 0 < sep.length) (hi : i + sep.length ≤ s.length) (hd : ((s.drop i).take sep.length == sep) = true) : CutSt s sep (dn ++ [S.extract f i]) (i + sep.length) (i + sep.length) := by
  obtain ⟨n, hn, hl⟩ := h.left
  obtain ⟨m, rfl⟩ : ∃ m, n = m + 1 := ⟨n - 1, by omega⟩
  refine ⟨Nat.le_refl _, hi, by rw [List.length_append]; have := h.len; have := h.fi; simp; omega, fun p hp => ?_, m, by omega, ?_⟩
  · rcases List.mem_append.1 hp with hp | hp
    · exact h.small p hp
    · simp only [List.mem_singleton] at hp; subst hp; rw [ByteArray.size_extract, ← hS, ← ba_size]; omega
  · rw [hl, bs_snoc, List.append_assoc]
    congr 1
    conv => lhs; unfold cutF
    rw [prefix_take, hd]
    simp only [if_true]
    rw [extract_td, hS, List.drop_drop, show (s.take (i + sep.length)).drop (i + sep.length) = [] from List.drop_eq_nil_of_le (by rw [List.length_take]; omega)]
    rfl
theorem CutSt.done_ {s sep : List UInt8} {dn : List ByteArray} {f i : Nat} (S : ByteArray) (hS : S.data.toList = s) (h : CutSt s sep dn f i) (hi : s.length < i + sep.length) : bs (dn ++ [S.extract f S.size]) = cutL sep s := by
  obtain ⟨n, hn, hl⟩ := h.left
  have h1 := h.isz
  rw [hl, bs_snoc, cutF_none sep n _ _ (by rw [List.length_drop]; omega) (by rw [List.length_drop]; omega)]
  congr 2
  rw [extract_td, hS, show S.size = s.length by rw [ba_size, hS], List.take_of_length_le (Nat.le_refl _)]
  have := List.take_append_drop i s
  conv => lhs; rw [← this]
  rw [List.drop_append_of_le_length (by rw [List.length_take]; have := h.fi; omega)]
def CutPost (w : World) (s sep : ByteArray) (e : Ending) (w' : World) : Prop :=
  ∃ (l : List ByteArray) (v : Value), e = .returned v ∧ w'.ownsRow w.heap.size 9 1 v l.length (sv l) ∧ Below w.heap.size w w' ∧ bs l = cutL sep.data.toList s.data.toList ∧ (∀ p ∈ l, p.size ≤ s.size) ∧ l.length ≤ s.size + 1

set_option maxHeartbeats 4000000 in
set_option maxRecDepth 100000 in
theorem refCut_any (s sep : ByteArray) (w : World) (hs : s.size ≤ 4000000000) (h0 : 0 < sep.size) (h9 : sep.size ≤ 100) :
    Calls Tryz.prog 29 #[.string s, .string sep] w (CutPost w s sep) := by
  obtain ⟨i0, hi0, hz0, hz1, hz2⟩ := info_parts str_info
  have HSL := Lib.hid (ba_size s)
  have HPL := Lib.hid (ba_size sep)
  go_enter Tryz.func29, Tryz.ntmps29
  go_wp2_with fail
  go_loopw [5, 6, 7] (fun v f i wr => ∃ (dn : List ByteArray) (f' i' : Nat), f = .int .i64 f' ∧ i = .int .i64 i' ∧ wr.ownsRow w.heap.size 9 1 v dn.length (sv dn) ∧ Below w.heap.size w wr ∧ Hid (CutSt s.data.toList sep.data.toList dn f' i')) (fun _ _ i _ => s.size - (intOf i).toNat)
  case atStart => exact ⟨[], 0, 0, rfl, rfl, World.ownsRow_nil _ _ _ _, Below.refl _ _, Lib.hid (CutSt.start _ _)⟩
  case round =>
    obtain ⟨dn, f, i, rfl, rfl, hown, hbw, hc⟩ := hrel
    have h1 := hc.out.isz
    have h2 := hc.out.fi
    have h3 := hc.out.len
    rw [← HSL.out] at h1
    by_cases hlt : i + sep.size ≤ s.size
    · have hi1 : ((i : Int) + (sep.size : Int) ≤ (s.size : Int)) := by omega
      have hx : ((s.extract i (i + sep.size)).toList == sep.toList) = ((s.data.toList.drop i).take sep.data.toList.length == sep.data.toList) := by
        rw [ByteArray.toList_eq, ByteArray.toList_eq, extract_td, List.drop_take, show i + sep.size - i = sep.data.toList.length by rw [← HPL.out]; omega]
      have hfi : (f : Int) ≤ (i : Int) := by omega
      have hisz : (i : Int) ≤ (s.size : Int) := by omega
      by_cases hd : ((s.data.toList.drop i).take sep.data.toList.length == sep.data.toList) = true
      · have hb : ((s.extract i (i + sep.size)).toList == sep.toList) = true := by rw [hx, hd]
        have HN := Lib.hid (hc.out.cut s rfl (by rw [← HPL.out]; exact h0) (by rw [← HPL.out, ← HSL.out]; exact hlt) hd)
        rw [← HPL.out] at HN
        clear hx hd
        go_wp2_with (at_builtin; refine wpList_append_own _ rfl (.tmp 24) (.tmp 29) _ rfl w.heap.size 9 i0 _ 1 16 Tryz.underlying58 hi0 hz0 hz1 hz2 rfl (by decide) _ _ _ rfl (hown.alloc _) ⟨wr.heap.size, 0, none⟩ 1 1 [.string (s.extract f i)] rfl rfl (cell_new _ _ _) (sv_one [s.extract f i]) (by unfold maxLen; omega) (by omega) (by have := hbw.size; simp; omega) ?_; intro v2 w2 hown2 hg2 hnil2)
        have hbw2 : Below w.heap.size w w2 := (hbw.alloc hbw.size _).grown hg2 (by have := hbw.size; simp; omega) (fun j hj => (hown.lt j hj).1)
        go_roundw
        case rel => exact ⟨dn ++ [s.extract f i], i + sep.size, i + sep.size, by go_num, by go_num, by rw [sv_snoc]; simpa using hown2, hbw2, HN⟩
        case measure => simp [intOf]; omega
      · have hd' := Bool.eq_false_iff.2 hd
        have hb : ((s.extract i (i + sep.size)).toList == sep.toList) = false := by rw [hx, hd']
        have HN := Lib.hid (hc.out.next (by rw [← HSL.out]; omega) hd')
        clear hx hd hd'
        go_wp2_with fail
        go_roundw
        case rel => exact ⟨dn, f, i + 1, rfl, by go_num, hown, hbw, HN⟩
        case measure => simp [intOf]; omega
    · have hi1 : ¬ ((i : Int) + (sep.size : Int) ≤ (s.size : Int)) := by omega
      have hfs : (f : Int) ≤ (s.size : Int) := by omega
      have HN := Lib.hid (hc.out.done_ s rfl (by rw [← HPL.out, ← HSL.out]; omega))
      have HSM := Lib.hid hc.out.small
      clear hlt
      go_wp2_with (at_builtin; refine wpList_append_own _ rfl (.tmp 38) (.tmp 42) _ rfl w.heap.size 9 i0 _ 1 16 Tryz.underlying58 hi0 hz0 hz1 hz2 rfl (by decide) _ _ _ rfl (hown.alloc _) ⟨wr.heap.size, 0, none⟩ 1 1 [.string (s.extract f s.size)] rfl rfl (cell_new _ _ _) (sv_one [s.extract f s.size]) (by unfold maxLen; omega) (by omega) (by have := hbw.size; simp; omega) ?_; intro v2 w2 hown2 hg2 hnil2)
      have hbw2 : Below w.heap.size w w2 := (hbw.alloc hbw.size _).grown hg2 (by have := hbw.size; simp; omega) (fun j hj => (hown.lt j hj).1)
      go_ret
      refine ⟨dn ++ [s.extract f s.size], v2, rfl, by rw [sv_snoc]; simpa using hown2, hbw2, HN.out, fun p hp => ?_, by rw [List.length_append]; simp; omega⟩
      rcases List.mem_append.1 hp with hp | hp
      · have := HSM.out p hp
        rw [HSL.out]; exact this
      · simp only [List.mem_singleton] at hp; subst hp; rw [ByteArray.size_extract]; omega
end Ru
end Go.Proofs.YtabglcpllfcmbaaGreatDoor

/- The reference's text of a right relation; what lay in memory stays as it was. -/
namespace Go.Proofs.YtabglcpllfcmbaaGreatDoor
namespace Ru
open Go.RowKit D

theorem digits_dg {a : Int} (h0 : 0 ≤ a) (h1 : a ≤ 1000000) (W : World) : Calls Tryz.prog 48 #[.int .i64 a, .int .i64 0] W (Gives W (.string (str (dg a)))) := by
  have := refDigits_any a.toNat 0 W (by omega) (by omega)
  rwa [pad_zero, show ((a.toNat : Nat) : Int) = a by omega, show ((0 : Nat) : Int) = 0 from rfl] at this
theorem op_conv (w : World) (op : Int) (h : 0 ≤ op ∧ op < 256) : (convert 97 9 (.slice (some ⟨w.heap.size, 0, none⟩) 1 1)).run Tryz.prog (w.alloc (.cells #[.int .u8 op] 5)) = .ok (.string (str [opT op])) (w.alloc (.cells #[.int .u8 op] 5)) :=
  run_convert_bytes_back _ 97 9 5 ⟨w.heap.size, 0, none⟩ 1 [opT op] Tryz.underlying97 Tryz.underlying5 Tryz.underlying9 fun j hj => by
    obtain rfl : j = 0 := by simpa using hj
    show World.cell? _ (Addr.add ⟨w.heap.size, 0, none⟩ 0) = some (.int .u8 ((opT op).toNat : Int))
    have : ((opT op).toNat : Int) = op := by unfold opT; simp; omega
    rw [this]
    simp [Addr.add]

set_option maxHeartbeats 4000000 in
set_option maxRecDepth 100000 in
theorem refRelText_any (op mod : Int) (nt : Bool) (A : Option Addr) (n c : Nat) (rs : List (Int × Int)) (w : World) (hr : RgsAt w w.heap.size A n rs) (hl : rs.length = n) (hn : n ≤ 1125899906842624) (hok : relOk ⟨op, mod, nt, rs⟩) :
    Calls Tryz.prog 21 #[.agg #[.int .u8 op, .int .i64 mod, .bool nt, .slice A n c]] w (Gives w (.string (str (relT ⟨op, mod, nt, rs⟩)))) := by
  have H0 : Hid (Bs w _ [_]) := Lib.hid (bs_one w [.int .u8 op, .int .i64 mod, .bool nt, .slice A n c] 57)
  have HR := Lib.hid hr
  have HL := Lib.hid hl
  have HOK := Lib.hid hok
  have hop : 0 ≤ op ∧ op < 256 := by rcases hok.1 with h | h | h | h | h | h <;> (have h : op = _ := h; omega)
  obtain ⟨hm0, hm1⟩ : 0 ≤ mod ∧ mod ≤ 1000000 := hok.2.1
  have CM : Hid (∀ W : World, Calls Tryz.prog 48 #[.int .i64 mod, .int .i64 0] W (Gives W (.string (str (dg mod))))) := Lib.hid (digits_dg hm0 hm1)
  have hms := dg_size hm1
  have HPRE : Hid (preT ⟨op, mod, nt, rs⟩ = [opT op] ++ (if 0 < mod then [32, 37, 32] ++ dg mod else []) ++ (if nt then [32, 33, 61] else [32, 61])) := Lib.hid rfl
  have HREL : Hid (relT ⟨op, mod, nt, rs⟩ = preT ⟨op, mod, nt, rs⟩ ++ tailT rs rs.length) := Lib.hid (by rw [relT_pre, tail_all rs hok.2.2.1])
  generalize relT ⟨op, mod, nt, rs⟩ = res at *
  generalize preT ⟨op, mod, nt, rs⟩ = pre at *
  clear hr hl hok
  go_enter Tryz.func21, Tryz.ntmps21
  go_upto_region 1 with fail
  obtain ⟨v0, hv0⟩ : ∃ V', w.alloc (.cells #[.int .u8 op, .int .i64 mod, .bool nt, .slice A n c] 57) = V' := ⟨_, rfl⟩
  rw [hv0] at H0 ⊢
  clear hv0
  obtain ⟨d0, d1, d2, d3, -⟩ := H0.out.cells
  have hconv := op_conv v0 op hop
  have hos : (str [opT op]).size = 1 := rfl
  go_upto_region 2 with fail
  clear hconv d0 d1 d2 d3
  have H1 := Lib.hid (H0.out.alloc [.int .u8 op] 5)
  obtain ⟨v1, hv1⟩ : ∃ V', v0.alloc (.cells #[.int .u8 op] 5) = V' := ⟨_, rfl⟩
  rw [hv1] at H1 ⊢
  clear hv1
  obtain ⟨-, d0, d1, d2, d3, -⟩ := H1.out.cells
  generalize hX : str [opT op] = X at *
  have HX := Lib.hid hX
  clear hX
  have hD : ¬ 9223372036854775807 < X.size + 3 := by omega
  go_upto_if 11 with fail
  go_cut [3] (fun s wx => ∃ Y : ByteArray, s = .string Y ∧ Y.size ≤ 40 ∧ Hid (Y = str ([opT op] ++ (if 0 < mod then [32, 37, 32] ++ dg mod else []))) ∧ Hid (Bs w wx [(w.heap.size, [.int .u8 op, .int .i64 mod, .bool nt, .slice A n c])]))
  case first =>
    by_cases hm : 0 < mod
    · have HC : Hid ((X ++ ⟨#[32, 37, 32]⟩) ++ str (dg mod) = str ([opT op] ++ (if 0 < mod then [32, 37, 32] ++ dg mod else []))) := Lib.hid (by
        rw [if_pos hm, ← HX.out]
        exact ba_ext (by simp [ByteArray.data_append]))
      generalize str (dg mod) = Dm at *
      have hs1 : (X ++ ⟨#[32, 37, 32]⟩ : ByteArray).size = 4 := by rw [ByteArray.size_append, hos]; rfl
      have HS1 := Lib.hid hs1
      have hE : ¬ 9223372036854775807 < (X ++ ⟨#[32, 37, 32]⟩ : ByteArray).size + Dm.size := by omega
      have hE2 : ¬ 9223372036854775807 < X.size + 3 + Dm.size := by omega
      go_wp2_with (go_at_call 48; (with_reducible refine (CM.out _).mono ?_); rintro e w2 ⟨rfl, hb2⟩)
      go_meet
      exact ⟨_, rfl, by rw [ByteArray.size_append, HS1.out]; omega, HC, Lib.hid ⟨(H1.out.call hb2).below, (H1.out.call hb2).mem.2.more (Nat.le_of_lt (H1.out.call hb2).mem.1.1)⟩⟩
    · have HC : Hid (X = str ([opT op] ++ (if 0 < mod then [32, 37, 32] ++ dg mod else []))) := Lib.hid (by rw [if_neg hm, ← HX.out]; rfl)
      go_wp2_with fail
      go_meet
      exact ⟨_, rfl, by omega, HC, Lib.hid ⟨H1.out.below, H1.out.mem.2.more (Nat.le_of_lt H1.out.mem.1.1)⟩⟩
  case rest =>
    obtain ⟨Y, rfl, hY, HY, H2⟩ := hcut
    clear d0 d1 d2 d3 hD hos hms HX CM
    obtain ⟨d0, d1, d2, d3, -⟩ := H2.out.cells
    go_upto_if 19 with fail
    go_cut [3] (fun s wx => ∃ Z : ByteArray, s = .string Z ∧ Z.size ≤ 60 ∧ Hid (Z = str (pre ++ tailT rs 0)) ∧ wc = wx)
    case first =>
      have hD3 : ¬ 9223372036854775807 < Y.size + 3 := by omega
      have hD2 : ¬ 9223372036854775807 < Y.size + 2 := by omega
      cases nt with
      | true =>
        have HZ : Hid (Y ++ ⟨#[32, 33, 61]⟩ = str (pre ++ tailT rs 0)) := Lib.hid (by rw [HPRE.out, HY.out]; exact ba_ext (by simp [ByteArray.data_append, tailT]))
        go_wp2_with fail
        go_meet
        exact ⟨_, rfl, by rw [ByteArray.size_append]; show Y.size + 3 ≤ 60; omega, HZ, rfl⟩
      | false =>
        have HZ : Hid (Y ++ ⟨#[32, 61]⟩ = str (pre ++ tailT rs 0)) := Lib.hid (by rw [HPRE.out, HY.out]; exact ba_ext (by simp [ByteArray.data_append, tailT]))
        go_wp2_with fail
        go_meet
        exact ⟨_, rfl, by rw [ByteArray.size_append]; show Y.size + 2 ≤ 60; omega, HZ, rfl⟩
    case rest =>
      obtain ⟨Z, rfl, hZ, HZ, rfl⟩ := hcut
      clear HPRE HY hY d0 d1 d2 d3
      go_wp2_with fail
      go_loopw [3, 4] (fun t i wr => ∃ (k : Nat) (Y : ByteArray), k ≤ n ∧ i = .int .i64 k ∧ t = .string Y ∧ Y.size ≤ 60 + 40 * k ∧ Hid (Y = str (pre ++ tailT rs k)) ∧ Hid (Bs w wr [(w.heap.size, [.int .u8 op, .int .i64 mod, .bool nt, .slice A n c])])) (fun _ i _ => n - (intOf i).toNat)
      case atStart => exact ⟨0, Z, Nat.zero_le _, rfl, rfl, by omega, HZ, H2⟩
      case round =>
        obtain ⟨k, Y, hk, rfl, rfl, hY, HY, HW⟩ := hrel
        obtain ⟨d0, d1, d2, d3, -⟩ := HW.out.cells
        by_cases hlt : k < n
        · have hkr : k < rs.length := by have := HL.out; omega
          have HAT : Hid (∀ W, Below w.heap.size w W → ∃ ad, A = some ad ∧ W.cell? (ad.add (k * 2)) = some (.int .i64 rs[k].1) ∧ W.cell? (ad.add (k * 2 + 1)) = some (.int .i64 rs[k].2)) := Lib.hid fun W hW => by
            obtain ⟨ad, e, -, x0, x1⟩ := rg_at (n := n) (HR.out.below hW) hkr
            exact ⟨ad, e, x0, x1⟩
          have hg := HOK.out.2.2.2 _ (List.getElem_mem hkr)
          obtain ⟨g0, g1, g2⟩ := hg
          have HN := Lib.hid (tail_next rs k hkr)
          have HRG : Hid (rgT rs[k] = if rs[k].1 < rs[k].2 then dg rs[k].1 ++ ([46, 46] ++ dg rs[k].2) else dg rs[k].1) := Lib.hid rfl
          generalize rs[k] = rk at *
          obtain ⟨a, b⟩ := rk
          dsimp only at *
          obtain ⟨ad, rfl, x0, x1⟩ := HAT.out _ HW.out.below
          rw [← add_of_add, add_pos _ _ (by omega)] at x1
          have CA : Hid (∀ W : World, Calls Tryz.prog 48 #[.int .i64 a, .int .i64 0] W (Gives W (.string (str (dg a))))) := Lib.hid (digits_dg g0 (by omega))
          have CB : Hid (∀ W : World, Calls Tryz.prog 48 #[.int .i64 b, .int .i64 0] W (Gives W (.string (str (dg b))))) := Lib.hid (digits_dg (by omega) g2)
          have sa := dg_size (a := a) (by omega)
          have sb := dg_size (a := b) g2
          have hki : (k : Int) < (n : Int) := by omega
          have hD1 : ¬ 9223372036854775807 < Y.size + 1 := by omega
          go_upto_if 32 with fail
          go_cut [3] (fun s wx => ∃ Z : ByteArray, s = .string Z ∧ Z.size = Y.size + 1 ∧ Hid (Z = Y ++ str (if k = 0 then [32] else [44])) ∧ wr = wx)
          case first =>
            by_cases h0 : k = 0
            · have HE : Hid (Y ++ ⟨#[32]⟩ = Y ++ str (if k = 0 then [32] else [44])) := Lib.hid (by rw [if_pos h0])
              have hb0 : ((k : Int) == 0) = true := by simp [h0]
              clear h0
              go_wp2_with fail
              go_meet
              exact ⟨_, rfl, by rw [ByteArray.size_append]; rfl, HE, rfl⟩
            · have HE : Hid (Y ++ ⟨#[44]⟩ = Y ++ str (if k = 0 then [32] else [44])) := Lib.hid (by rw [if_neg h0])
              have hb0 : ((k : Int) == 0) = false := by rw [beq_eq_false_iff_ne]; omega
              clear h0
              go_wp2_with fail
              go_meet
              exact ⟨_, rfl, by rw [ByteArray.size_append]; rfl, HE, rfl⟩
          case rest =>
            obtain ⟨Z, rfl, hZ1, HZ1, rfl⟩ := hcut
            clear hD1
            have HGA : Hid (str (dg a) = str (dg a)) := Lib.hid rfl
            have HGB : Hid (str (dg b) = str (dg b)) := Lib.hid rfl
            obtain ⟨Da, hDa⟩ : ∃ Da, str (dg a) = Da := ⟨_, rfl⟩
            obtain ⟨Db, hDb⟩ : ∃ Db, str (dg b) = Db := ⟨_, rfl⟩
            rw [hDa] at CA sa
            rw [hDb] at CB sb
            have HDA := Lib.hid hDa
            have HDB := Lib.hid hDb
            clear HGA HGB hDa hDb
            have hp1 : ¬ 9223372036854775807 < Z.size + Da.size := by omega
            go_upto_region 14 with (go_at_call 48; (with_reducible refine (CA.out _).mono ?_); rintro e w2 ⟨rfl, hb2⟩)
            have HW2 := Lib.hid (HW.out.call hb2)
            clear d0 d1 d2 d3 x0 x1
            obtain ⟨d0, d1, d2, d3, -⟩ := HW2.out.cells
            obtain ⟨ad', e, x0, x1⟩ := HAT.out _ HW2.out.below
            injection e with e; subst e
            rw [← add_of_add, add_pos _ _ (by omega)] at x1
            have hz2 : (Z ++ Da).size = Z.size + Da.size := ByteArray.size_append
            by_cases hab : a < b
            · have HE : Hid (Z ++ Da ++ ⟨#[46, 46]⟩ ++ Db = str (pre ++ tailT rs (k + 1))) := Lib.hid (by
                rw [HN.out, HRG.out, if_pos hab, HZ1.out, HY.out, ← HDA.out, ← HDB.out]
                exact ba_ext (by simp [ByteArray.data_append]))
              obtain ⟨ZD, hZD⟩ : ∃ ZD, Z ++ Da = ZD := ⟨_, rfl⟩
              rw [hZD] at hz2 HE
              have hp2 : ¬ 9223372036854775807 < ZD.size + 2 := by omega
              have hz3 : (ZD ++ ⟨#[46, 46]⟩ : ByteArray).size = ZD.size + 2 := by rw [ByteArray.size_append]; rfl
              have hp3 : ¬ 9223372036854775807 < (ZD ++ ⟨#[46, 46]⟩ : ByteArray).size + Db.size := by omega
              have hp4 : ¬ 9223372036854775807 < ZD.size + 2 + Db.size := by omega
              have HZ3 := Lib.hid hz3
              clear hz3
              go_big_quiet (fail)
              have HW3 := Lib.hid (HW2.out.drewN nq)
              clear d0 d1 d2 d3 x0 x1
              obtain ⟨w3, hw3⟩ : ∃ V, w2.drewN nq = V := ⟨_, rfl⟩
              rw [hw3] at HW3 ⊢
              clear hw3
              obtain ⟨d0, d1, d2, d3, -⟩ := HW3.out.cells
              obtain ⟨ad', e, x0, x1⟩ := HAT.out _ HW3.out.below
              injection e with e; subst e
              rw [← add_of_add, add_pos _ _ (by omega)] at x1
              rw [hZD]
              clear hZD
              go_wp2_with (go_at_call 48; (with_reducible refine (CB.out _).mono ?_); rintro e w4 ⟨rfl, hb4⟩)
              go_roundw
              case rel => exact ⟨k + 1, _, by omega, by go_num, rfl, by rw [ByteArray.size_append, HZ3.out]; omega, HE, Lib.hid (HW3.out.call hb4)⟩
              case measure => simp [intOf]; omega
            · have HE : Hid (Z ++ Da = str (pre ++ tailT rs (k + 1))) := Lib.hid (by
                rw [HN.out, HRG.out, if_neg hab, HZ1.out, HY.out, ← HDA.out]
                exact ba_ext (by simp [ByteArray.data_append]))
              go_big_quiet (fail)
              go_wp2_with fail
              go_roundw
              case rel => exact ⟨k + 1, _, by omega, by go_num, rfl, by rw [hz2]; omega, HE, Lib.hid (HW2.out.drewN nq)⟩
              case measure => simp [intOf]; omega
        · have hki : ¬ ((k : Int) < (n : Int)) := by omega
          have HE : Hid (Y = str res) := Lib.hid (by
            have e : k = rs.length := by have := HL.out; omega
            rw [HY.out, HREL.out, e])
          clear hlt hk
          go_wp2_with fail
          go_ret
          exact ⟨ret_str HE.out, HW.out.below⟩
end Ru
end Go.Proofs.YtabglcpllfcmbaaGreatDoor

/- The reference's Joined: texts of a row, joined; what lay in memory stays as it was. -/
namespace Go.Proofs.YtabglcpllfcmbaaGreatDoor
namespace Ru
open Go.RowKit

theorem join_step (sep : List UInt8) (l : List (List UInt8)) (k : Nat) (h : k < l.length) : joinL sep (l.take (k + 1)) = joinL sep (l.take k) ++ ((if k = 0 then [] else sep) ++ l[k]) := by
  rw [List.take_succ_eq_append_getElem h]
  by_cases h0 : k = 0
  · subst h0; simp [joinL]
  · rw [if_neg h0, join_snoc _ _ _ (by intro e; have := congrArg List.length e; rw [List.length_take] at this; simp only [List.length_nil] at this; omega)]
theorem join_le (sep : List UInt8) (l : List (List UInt8)) : ∀ (d k : Nat), k + d = l.length → (joinL sep (l.take k)).length ≤ (joinL sep l).length
  | 0, k, h => by rw [List.take_of_length_le (by omega)]; exact Nat.le_refl _
  | d + 1, k, h => by
    have := join_le sep l d (k + 1) (by omega)
    rw [join_step sep l k (by omega), List.length_append] at this
    omega
theorem sv_get {ps : List ByteArray} {k : Nat} {u : Value} (h : (sv ps)[k]? = some u) : ∃ hk : k < ps.length, u = .string ps[k] := by
  have hk : k < ps.length := by have := (List.getElem?_eq_some_iff.1 h).1; simpa [sv] using this
  refine ⟨hk, ?_⟩
  simp [sv, List.getElem?_eq_getElem hk] at h
  exact h.symm

set_option maxHeartbeats 2000000 in
theorem joined_any (A : Option Addr) (n c : Nat) (ps : List ByteArray) (sep : ByteArray) (w : World) (B : Nat) (h : Reads w B 1 A n (sv ps)) (hn : n ≤ maxLen) (hj : (joinL sep.data.toList (bs ps)).length ≤ 4611686018427387904) :
    Calls Tryz.prog 22 #[.slice A n c, .string sep] w fun e w' => e = .returned (.string (D.str (joinL sep.data.toList (bs ps)))) ∧ w = w' := by
  have hl : ps.length = n := by have := h.1; simpa [sv] using this
  have HL := Lib.hid hl
  have HR := Lib.hid h
  have HJ := Lib.hid hj
  unfold maxLen at hn
  clear hl h hj
  go_enter Tryz.func22, Tryz.ntmps22
  go_wp2_with fail
  go_loop [5, 6] (fun v i => ∃ (k : Nat) (Y : ByteArray), k ≤ n ∧ i = .int .i64 k ∧ v = .string Y ∧ Hid (Y = D.str (joinL sep.data.toList ((bs ps).take k)))) (fun _ i => n - (intOf i).toNat)
  case atStart => exact ⟨0, _, Nat.zero_le _, rfl, rfl, Lib.hid rfl⟩
  case round =>
    obtain ⟨k, Y, hk, rfl, rfl, HY⟩ := hrel
    by_cases hlt : k < n
    · obtain ⟨ad, u, rfl, -, hu, x0⟩ := HR.out.at_ hlt
      obtain ⟨hkp, rfl⟩ := sv_get hu
      have hkb : k < (bs ps).length := by simpa [bs] using hkp
      have HS : Hid (joinL sep.data.toList ((bs ps).take (k + 1)) = joinL sep.data.toList ((bs ps).take k) ++ ((if k = 0 then [] else sep.data.toList) ++ ps[k].data.toList)) := Lib.hid (by rw [join_step _ _ k hkb]; simp [bs])
      have hle := join_le sep.data.toList (bs ps) ((bs ps).length - (k + 1)) (k + 1) (by omega)
      rw [HS.out, List.length_append, List.length_append] at hle
      have hys : Y.size = (joinL sep.data.toList ((bs ps).take k)).length := by rw [HY.out, D.ba_size, D.str_data]
      have hps : ps[k].size = ps[k].data.toList.length := D.ba_size _
      have hss : sep.size = sep.data.toList.length := D.ba_size _
      have HJ' := HJ.out
      rw [← hys, ← hps] at hle
      generalize ps[k] = p at *
      have hki : (k : Int) < (n : Int) := by omega
      by_cases h0 : k = 0
      · have hb : ¬ (0 < (k : Int)) := by omega
        rw [if_pos h0] at hle HS
        have hD : ¬ 9223372036854775807 < Y.size + p.size := by simp at hle; omega
        have HE : Hid (Y ++ p = D.str (joinL sep.data.toList ((bs ps).take (k + 1)))) := Lib.hid (by rw [HS.out, HY.out]; exact D.ba_ext (by simp [ByteArray.data_append]))
        clear h0 hle hys hps hss HJ' hu
        go_wp2_with fail
        go_round
        case rel => exact ⟨k + 1, _, by omega, by go_num, rfl, HE⟩
        case measure => simp [intOf]; omega
      · have hb : 0 < (k : Int) := by omega
        rw [if_neg h0] at hle HS
        rw [← hss] at hle
        have hD : ¬ 9223372036854775807 < Y.size + sep.size := by omega
        have hz : (Y ++ sep).size = Y.size + sep.size := ByteArray.size_append
        have hD2 : ¬ 9223372036854775807 < (Y ++ sep).size + p.size := by omega
        have hD3 : ¬ 9223372036854775807 < Y.size + sep.size + p.size := by omega
        have HE : Hid (Y ++ sep ++ p = D.str (joinL sep.data.toList ((bs ps).take (k + 1)))) := Lib.hid (by rw [HS.out, HY.out]; exact D.ba_ext (by simp [ByteArray.data_append]))
        clear h0 hle hys hps hss HJ' hu hz
        go_wp2_with fail
        go_round
        case rel => exact ⟨k + 1, _, by omega, by go_num, rfl, HE⟩
        case measure => simp [intOf]; omega
    · have hki : ¬ ((k : Int) < (n : Int)) := by omega
      have HE : Hid (Y = D.str (joinL sep.data.toList (bs ps))) := Lib.hid (by
        have e : (bs ps).take k = bs ps := List.take_of_length_le (by have := HL.out; simp [bs]; omega)
        rw [HY.out, e])
      clear hlt hk
      go_wp2_with fail
      go_ret
      exact ⟨D.ret_str HE.out, rfl⟩
end Ru
end Go.Proofs.YtabglcpllfcmbaaGreatDoor

/- The reference's text of a right rule; what lay in memory stays as it was. -/
namespace Go.Proofs.YtabglcpllfcmbaaGreatDoor
namespace Ru
open Go.RowKit Go.Maps D

set_option maxHeartbeats 4000000 in
set_option maxRecDepth 100000 in
theorem refRuleText_any (A : Option Addr) (n c : Nat) (ps : List PartX) (w : World) (h : RuleAt w w.heap.size A n ps) (hz : FewT ps) (hok : ruleOk (ruleV ps)) (ht : total (ruleV ps) ≤ 20) :
    Calls Tryz.prog 7 #[.slice A n c] w (Gives w (.string (str (ruleT (ruleV ps))))) := by
  obtain ⟨i0, hi0, hz0, hz1, hz2⟩ := info_parts str_info
  have hn : n ≤ 20 := by
    have := total_len (fun p hp => (hok.2 p hp).1)
    have e : (ruleV ps).length = n := by simp [ruleV, h.len]
    omega
  have HL := Lib.hid h.len
  have HR := Lib.hid h
  have HZ := Lib.hid hz
  have HOK := Lib.hid hok
  have HT := Lib.hid ht
  have HRT : Hid (ruleT (ruleV ps) = joinL [32, 111, 114, 32] ((ruleV ps).map partT)) := Lib.hid rfl
  generalize ruleT (ruleV ps) = res at *
  clear h hz hok ht
  go_enter Tryz.func7, Tryz.ntmps7
  go_wp2_with fail
  go_loopw [3, 4, 5, 6] (fun v i _ _ wr => ∃ (k : Nat) (dn : List ByteArray), k ≤ n ∧ i = .int .i64 k ∧ wr.ownsRow w.heap.size 9 1 v dn.length (sv dn) ∧ Below w.heap.size w wr ∧ dn.length = k ∧ Hid (bs dn = ((ruleV ps).take k).map partT)) (fun _ i _ _ _ => n - (intOf i).toNat)
  case atStart => exact ⟨0, [], Nat.zero_le _, rfl, World.ownsRow_nil _ _ _ _, Below.refl _ _, rfl, Lib.hid (by simp [bs])⟩
  case round =>
    obtain ⟨k, dn, hk, rfl, hown, hb, hdn, HD⟩ := hrel
    by_cases hlt : k < n
    · have hkp : k < ps.length := by have := HL.out; omega
      obtain ⟨ad, rfl, -, -, -, -⟩ := ((HR.out.below hb).more hb.size).at_ (List.getElem?_eq_getElem hkp)
      have HC : Hid (∀ W', Below w.heap.size w W' → W'.cell? (ad.add k) = some (.slice ps[k].A ps[k].xs.length ps[k].c) ∧ RelsAt W' W'.heap.size ps[k].A ps[k].xs.length ps[k].xs) := Lib.hid fun W' hW => by
        obtain ⟨ad', e, _, y0, _, y1⟩ := ((HR.out.below hW).more hW.size).at_ (List.getElem?_eq_getElem hkp)
        injection e with e; subst e
        exact ⟨y0, y1⟩
      have HM : Hid (relsV ps[k].xs ∈ ruleV ps) := Lib.hid (List.mem_map.2 ⟨_, List.getElem_mem hkp, rfl⟩)
      have HK : Hid ((ruleV ps).take (k + 1) = (ruleV ps).take k ++ [relsV ps[k].xs]) := Lib.hid (by rw [List.take_succ_eq_append_getElem (by simpa [ruleV] using hkp)]; simp [ruleV])
      have HZK := Lib.hid (HZ.out _ (List.getElem_mem hkp))
      have hm20 : ps[k].xs.length ≤ 20 := by have := total_ge HM.out; have := HT.out; simp [relsV] at *; omega
      have HPO := Lib.hid (HOK.out.2 _ HM.out)
      generalize ps[k] = p at *
      obtain ⟨pA, pc, xs⟩ := p
      dsimp only at *
      have hki : (k : Int) < (n : Int) := by omega
      generalize hln : xs.length = m at *
      have HXL := Lib.hid hln
      clear hln
      go_wp2_with fail
      generalize wr = w1 at *
      go_loopw [5, 6] (fun v j wi => ∃ (q : Nat) (dm : List ByteArray), q ≤ m ∧ j = .int .i64 q ∧ wi.ownsRow w1.heap.size 9 1 v dm.length (sv dm) ∧ Below w1.heap.size w1 wi ∧ dm.length = q ∧ Hid (bs dm = ((relsV xs).take q).map relT)) (fun _ j _ => m - (intOf j).toNat)
      case atStart => exact ⟨0, [], Nat.zero_le _, rfl, World.ownsRow_nil _ _ _ _, Below.refl _ _, rfl, Lib.hid (by simp [bs])⟩
      case round =>
        obtain ⟨q, dm, hq, rfl, hown2, hbi, hdm, HQ⟩ := hrel
        have hbw := bel_call hb hbi
        obtain ⟨x0, hrels⟩ := HC.out _ hbw
        by_cases hqm : q < m
        · have hqx : q < xs.length := by have := HXL.out; omega
          have hqi : (q : Int) < (m : Int) := by omega
          obtain ⟨a2, rfl, -, y0, y1, y2, y3, -, hrg⟩ := hrels.at_ (List.getElem?_eq_getElem hqx)
          rw [← add_of_add, add_pos _ _ (by omega)] at y1 y2 y3
          have hxok : relOk xs[q].v := HPO.out.2 _ (List.mem_map.2 ⟨_, List.getElem_mem hqx, rfl⟩)
          have CX := Lib.hid (refRelText_any xs[q].v.op xs[q].v.mod xs[q].v.nt xs[q].A xs[q].v.rs.length xs[q].c xs[q].v.rs wr hrg rfl (by have := HZK.out _ (List.getElem_mem hqx); omega) hxok)
          have HQ2 : Hid (((relsV xs).take (q + 1)).map relT = ((relsV xs).take q).map relT ++ [relT xs[q].v]) := Lib.hid (by rw [List.take_succ_eq_append_getElem (by simpa [relsV] using hqx)]; simp [relsV])
          clear hrels hrg hxok
          generalize xs[q] = x at *
          obtain ⟨⟨op, mod, nt, rs⟩, xA, xc⟩ := x
          dsimp only at *
          generalize relT ⟨op, mod, nt, rs⟩ = tx at *
          have hqs : dm.length ≤ 20 := by omega
          go_wp2_with (first
            | (go_at_call 21; (with_reducible refine (CX.out).mono ?_); rintro e w2 ⟨rfl, hb2⟩; (have hown3 := own_later hown2 hb2); (have hb3 := bel_call hbi hb2))
            | (at_builtin; refine wpList_append_own _ rfl (.tmp 22) (.tmp 31) _ rfl w1.heap.size 9 i0 _ 1 16 Tryz.underlying58 hi0 hz0 hz1 hz2 rfl (by decide) _ _ _ rfl (hown3.alloc _) ⟨w2.heap.size, 0, none⟩ 1 1 [.string (str tx)] rfl rfl (cell_new _ _ _) (sv_one [str tx]) (by unfold maxLen; omega) (by omega) (by have := hb3.size; simp; omega) ?_; intro v2 w3 hown4 hg2 hnil2))
          have hb4 : Below w1.heap.size w1 w3 := (hb3.alloc hb3.size _).grown hg2 (by have := hb3.size; simp; omega) (fun j hj => (hown3.lt j hj).1)
          go_roundw
          case rel => exact ⟨q + 1, dm ++ [str tx], by omega, by go_num, by rw [sv_snoc]; simpa using hown4, hb4, by simp; omega, Lib.hid (by rw [bs_snoc, HQ.out, HQ2.out, str_data])⟩
          case measure => simp [intOf]; omega
        · have hqi : ¬ ((q : Int) < (m : Int)) := by omega
          have HALL : Hid (bs dm = (relsV xs).map relT) := Lib.hid (by rw [HQ.out, List.take_of_length_le (by have := HXL.out; simp [relsV]; omega)])
          have HJL : Hid ((joinL [32, 97, 110, 100, 32] (bs dm)).length ≤ 20 * 351843720888385) := Lib.hid (by
            refine join_bound' [32, 97, 110, 100, 32] 351843720888380 351843720888385 (by simp) (bs dm) (fun p hp => ?_) (by simp [bs]; omega)
            rw [HALL.out] at hp
            obtain ⟨x, hx, rfl⟩ := List.mem_map.1 hp
            obtain ⟨y, hy, rfl⟩ := List.mem_map.1 hx
            have h2 := rel_size (HPO.out.2 _ hx)
            have h3 := HZK.out y hy
            omega)
          have hq20 : dm.length ≤ 20 := by omega
          have hn20 : dn.length ≤ 20 := by omega
          have HDM := Lib.hid hdm
          have HDN := Lib.hid hdn
          clear hdm hdn
          obtain ⟨A5, c5, rfl, hrd⟩ := own_form hown2
          have CJ := joined_any A5 dm.length c5 dm ⟨#[32, 97, 110, 100, 32]⟩ wr _ hrd (by unfold maxLen; omega) (Nat.le_trans HJL.out (by decide))
          have HPT : Hid (joinL [32, 97, 110, 100, 32] (bs dm) = partT (relsV xs)) := Lib.hid (by rw [HALL.out]; rfl)
          rw [show (⟨#[32, 97, 110, 100, 32]⟩ : ByteArray).data.toList = [32, 97, 110, 100, 32] from rfl, HPT.out] at CJ
          have HCJ := Lib.hid CJ
          have hown5 := own_later hown hbi
          have HK2 : Hid (((ruleV ps).take (k + 1)).map partT = ((ruleV ps).take k).map partT ++ [partT (relsV xs)]) := Lib.hid (by rw [HK.out]; simp)
          clear CJ hrd hqm hq
          generalize partT (relsV xs) = tp at *
          go_wp2_with (first
            | (go_at_call 22; (with_reducible refine (HCJ.out).mono ?_); rintro e wj ⟨rfl, rfl⟩)
            | (at_builtin; refine wpList_append_own _ rfl (.tmp 33) (.tmp 36) _ rfl w.heap.size 9 i0 _ 1 16 Tryz.underlying58 hi0 hz0 hz1 hz2 rfl (by decide) _ _ _ rfl (hown5.alloc _) ⟨wr.heap.size, 0, none⟩ 1 1 [.string (str tp)] rfl rfl (cell_new _ _ _) (sv_one [str tp]) (by unfold maxLen; omega) (by omega) (by have := hbw.size; simp; omega) ?_; intro v2 w3 hown4 hg2 hnil2))
          have hb4 : Below w.heap.size w w3 := (hbw.alloc hbw.size _).grown hg2 (by have := hbw.size; simp; omega) (fun j hj => (hown5.lt j hj).1)
          go_roundw
          case rel => exact ⟨k + 1, dn ++ [str tp], by omega, by go_num, by rw [sv_snoc]; simpa using hown4, hb4, by simp [HDN.out], Lib.hid (by rw [bs_snoc, HD.out, HK2.out, str_data])⟩
          case measure => simp [intOf]; omega
    · have hki : ¬ ((k : Int) < (n : Int)) := by omega
      have HALL : Hid (bs dn = (ruleV ps).map partT) := Lib.hid (by rw [HD.out, List.take_of_length_le (by have := HL.out; simp [ruleV]; omega)])
      have HJL : Hid ((joinL [32, 111, 114, 32] (bs dn)).length ≤ 20 * 7036874417767704) := Lib.hid (by
        refine join_bound' [32, 111, 114, 32] 7036874417767700 7036874417767704 (by simp) (bs dn) (fun p hp => ?_) (by simp [bs]; omega)
        rw [HALL.out] at hp
        obtain ⟨x, hx, rfl⟩ := List.mem_map.1 hp
        obtain ⟨y, hy, rfl⟩ := List.mem_map.1 hx
        refine join_bound' [32, 97, 110, 100, 32] 351843720888380 351843720888385 (by simp) ((relsV y.xs).map relT) (fun t ht => ?_) (by have := total_ge hx; have := HT.out; simp [relsV] at *; omega)
        obtain ⟨u, hu, rfl⟩ := List.mem_map.1 ht
        obtain ⟨z, hz, rfl⟩ := List.mem_map.1 hu
        have h2 := rel_size ((HOK.out.2 _ hx).2 _ hu)
        have h3 := HZ.out y hy z hz
        omega)
      have hn20 : dn.length ≤ 20 := by omega
      clear hdn
      obtain ⟨A5, c5, rfl, hrd⟩ := own_form hown
      have CJ := joined_any A5 dn.length c5 dn ⟨#[32, 111, 114, 32]⟩ wr _ hrd (by unfold maxLen; omega) (Nat.le_trans HJL.out (by decide))
      have HPT : Hid (joinL [32, 111, 114, 32] (bs dn) = res) := Lib.hid (by rw [HALL.out, HRT.out])
      rw [show (⟨#[32, 111, 114, 32]⟩ : ByteArray).data.toList = [32, 111, 114, 32] from rfl, HPT.out] at CJ
      have HCJ := Lib.hid CJ
      clear CJ hrd hlt hk
      go_wp2_with (first
        | (go_at_call 22; (with_reducible refine (HCJ.out).mono ?_); rintro e wj ⟨rfl, rfl⟩))
      go_ret
      exact ⟨rfl, hb⟩
end Ru
end Go.Proofs.YtabglcpllfcmbaaGreatDoor

/- Whether a relation holds, as the reference has it; what lay in memory stays as it was. -/
namespace Go.Proofs.YtabglcpllfcmbaaGreatDoor
namespace Ru
open Go.RowKit D

set_option maxHeartbeats 4000000 in
set_option maxRecDepth 100000 in
theorem refRelHolds_any (op mod : Int) (nt : Bool) (A : Option Addr) (n c : Nat) (rs : List (Int × Int)) (I V W F T : Int) (w : World) (hr : RgsAt w w.heap.size A n rs) (hl : rs.length = n) (hn : n ≤ maxLen) :
    Calls Tryz.prog 40 #[.agg #[.int .u8 op, .int .i64 mod, .bool nt, .slice A n c], .agg #[.int .i64 I, .int .i64 V, .int .i64 W, .int .i64 F, .int .i64 T]] w (GivesB w (relH ⟨op, mod, nt, rs⟩ I V W F T)) := by
  have H0 : Hid (Bs w _ [_, _]) := Lib.hid (bs_two w [.int .u8 op, .int .i64 mod, .bool nt, .slice A n c] [.int .i64 I, .int .i64 V, .int .i64 W, .int .i64 F, .int .i64 T] 57 24)
  have HR := Lib.hid hr
  have HL := Lib.hid hl
  have HV := Lib.hid (opV_steps op I V W F T)
  have HH : Hid ((op = 110 ∧ T ≠ 0 → relH ⟨op, mod, nt, rs⟩ I V W F T = nt) ∧ (¬ (op = 110 ∧ T ≠ 0) → relH ⟨op, mod, nt, rs⟩ I V W F T = (rs.any (inRg (modV mod (opV op I V W F T))) != nt))) := Lib.hid ⟨fun h => if_pos h, fun h => if_neg h⟩
  generalize relH ⟨op, mod, nt, rs⟩ I V W F T = res at *
  generalize opV op I V W F T = y at *
  unfold maxLen at hn
  clear hr hl
  go_enter Tryz.func40, Tryz.ntmps40
  go_upto_region 1 with fail
  obtain ⟨v0, hv0⟩ : ∃ V', (w.alloc (.cells #[.int .u8 op, .int .i64 mod, .bool nt, .slice A n c] 57)).alloc (.cells #[.int .i64 I, .int .i64 V, .int .i64 W, .int .i64 F, .int .i64 T] 24) = V' := ⟨_, rfl⟩
  rw [hv0] at H0 ⊢
  clear hv0
  obtain ⟨o0, o1, o2, o3, o4, d0, d1, d2, d3, -⟩ := H0.out.cells
  go_upto_if 12 with fail
  obtain ⟨y1, hy1⟩ : ∃ x, (if op = 118 then V else I) = x := ⟨_, rfl⟩
  go_cut [5] (fun s wx => s = .int .i64 y1 ∧ v0 = wx)
  case first =>
    by_cases h : op = 118
    · rw [if_pos h] at hy1; subst hy1
      have hb : (op == 118) = true := by simpa using h
      clear h
      go_wp2_with fail
      go_meet
      exact ⟨rfl, rfl⟩
    · rw [if_neg h] at hy1; subst hy1
      have hb : (op == 118) = false := by simpa using h
      clear h
      go_wp2_with fail
      go_meet
      exact ⟨rfl, rfl⟩
  case rest =>
    obtain ⟨rfl, rfl⟩ := hcut
    rw [hy1] at HV
    clear hy1
    go_upto_if 17 with fail
    obtain ⟨y2, hy2⟩ : ∃ x, (if op = 119 then W else y1) = x := ⟨_, rfl⟩
    go_cut [5] (fun s wx => s = .int .i64 y2 ∧ v0 = wx)
    case first =>
      by_cases h : op = 119
      · rw [if_pos h] at hy2; subst hy2
        have hb : (op == 119) = true := by simpa using h
        clear h
        go_wp2_with fail
        go_meet
        exact ⟨rfl, rfl⟩
      · rw [if_neg h] at hy2; subst hy2
        have hb : (op == 119) = false := by simpa using h
        clear h
        go_wp2_with fail
        go_meet
        exact ⟨rfl, rfl⟩
    case rest =>
      obtain ⟨rfl, rfl⟩ := hcut
      rw [hy2] at HV
      clear hy2
      go_upto_if 22 with fail
      obtain ⟨y3, hy3⟩ : ∃ x, (if op = 102 then F else y2) = x := ⟨_, rfl⟩
      go_cut [5] (fun s wx => s = .int .i64 y3 ∧ v0 = wx)
      case first =>
        by_cases h : op = 102
        · rw [if_pos h] at hy3; subst hy3
          have hb : (op == 102) = true := by simpa using h
          clear h
          go_wp2_with fail
          go_meet
          exact ⟨rfl, rfl⟩
        · rw [if_neg h] at hy3; subst hy3
          have hb : (op == 102) = false := by simpa using h
          clear h
          go_wp2_with fail
          go_meet
          exact ⟨rfl, rfl⟩
      case rest =>
        obtain ⟨rfl, rfl⟩ := hcut
        rw [hy3] at HV
        clear hy3
        go_upto_if 27 with fail
        obtain ⟨y4, hy4⟩ : ∃ x, (if op = 116 then T else y3) = x := ⟨_, rfl⟩
        go_cut [5] (fun s wx => s = .int .i64 y4 ∧ v0 = wx)
        case first =>
          by_cases h : op = 116
          · rw [if_pos h] at hy4; subst hy4
            have hb : (op == 116) = true := by simpa using h
            clear h
            go_wp2_with fail
            go_meet
            exact ⟨rfl, rfl⟩
          · rw [if_neg h] at hy4; subst hy4
            have hb : (op == 116) = false := by simpa using h
            clear h
            go_wp2_with fail
            go_meet
            exact ⟨rfl, rfl⟩
        case rest =>
          obtain ⟨rfl, rfl⟩ := hcut
          rw [hy4] at HV
          clear hy4
          obtain rfl := HV.out
          clear HV
          go_upto_region 10 with fail
          go_cut [37] (fun s wx => s = .bool (decide (op = 110 ∧ T ≠ 0)) ∧ v0 = wx)
          case first =>
            by_cases h : op = 110
            · have hb : (op == 110) = true := by simpa using h
              by_cases hT : T = 0
              · have HD : Hid (decide (op = 110 ∧ T ≠ 0) = false) := Lib.hid (decide_eq_false (fun h' => h'.2 hT))
                have hb2 : (T != 0) = false := by simpa using hT
                clear h hT
                go_wp2_with fail
                go_meet
                exact ⟨val_b HD.out.symm, rfl⟩
              · have HD : Hid (decide (op = 110 ∧ T ≠ 0) = true) := Lib.hid (decide_eq_true ⟨h, hT⟩)
                have hb2 : (T != 0) = true := by simpa using hT
                clear h hT
                go_wp2_with fail
                go_meet
                exact ⟨val_b HD.out.symm, rfl⟩
            · have HD : Hid (decide (op = 110 ∧ T ≠ 0) = false) := Lib.hid (decide_eq_false (fun h' => h h'.1))
              have hb : (op == 110) = false := by simpa using h
              clear h
              go_wp2_with fail
              go_meet
              exact ⟨val_b HD.out.symm, rfl⟩
          case rest =>
            obtain ⟨rfl, rfl⟩ := hcut
            by_cases hd : op = 110 ∧ T ≠ 0
            · rw [decide_eq_true hd]
              have HE := Lib.hid (HH.out.1 hd)
              clear hd
              go_wp2_with fail
              go_ret
              exact ⟨ret_b HE.out.symm, H0.out.below⟩
            · rw [decide_eq_false hd]
              have HE := Lib.hid (HH.out.2 hd)
              clear hd HH
              generalize hmv : modV mod y4 = mv at *
              go_upto_if 42 with fail
              go_cut [5] (fun s wx => s = .int .i64 mv ∧ v0 = wx)
              case first =>
                unfold modV at hmv
                by_cases h : 0 < mod
                · rw [if_pos h] at hmv
                  have hz : (mod == 0) = false := by rw [beq_eq_false_iff_ne]; omega
                  have hz2 : ¬ mod = 0 := by omega
                  go_wp2_with fail
                  go_meet
                  exact ⟨by first | rfl | rw [hmv], rfl⟩
                · rw [if_neg h] at hmv
                  subst hmv
                  go_wp2_with fail
                  go_meet
                  exact ⟨rfl, rfl⟩
              case rest =>
                obtain ⟨rfl, rfl⟩ := hcut
                clear hmv
                go_wp2_with fail
                go_loopw [6, 7] (fun b i wr => ∃ k : Nat, k ≤ n ∧ i = .int .i64 k ∧ b = .bool ((rs.take k).any (inRg mv)) ∧ v0 = wr) (fun _ i _ => n - (intOf i).toNat)
                case atStart => exact ⟨0, Nat.zero_le _, rfl, rfl, rfl⟩
                case round =>
                  obtain ⟨k, hk, rfl, rfl, rfl⟩ := hrel
                  by_cases hlt : k < n
                  · have hkr : k < rs.length := by have := HL.out; omega
                    obtain ⟨ad, rfl, hadb, x0, x1⟩ := rg_at (n := n) (HR.out.below H0.out.below) hkr
                    have HS := Lib.hid (any_take rs mv k hkr)
                    rw [← add_of_add, add_pos _ _ (by omega)] at x1
                    generalize rs[k] = rk at *
                    obtain ⟨a, b⟩ := rk
                    dsimp only at x0 x1
                    have hki : (k : Int) < (n : Int) := by omega
                    generalize (rs.take k).any (inRg mv) = so at *
                    cases so with
                    | true =>
                      go_wp2_with fail
                      go_roundw
                      case rel => exact ⟨k + 1, by omega, by go_num, by rw [HS.out]; rfl, trivial⟩
                      case measure => simp [intOf]; omega
                    | false =>
                      by_cases ha : a ≤ mv
                      · by_cases hb : mv ≤ b
                        · have HI : Hid (inRg mv (a, b) = true) := Lib.hid (by simp [inRg, ha, hb])
                          go_wp2_with fail
                          go_roundw
                          case rel => exact ⟨k + 1, by omega, by go_num, by rw [HS.out, HI.out]; rfl, trivial⟩
                          case measure => simp [intOf]; omega
                        · have HI : Hid (inRg mv (a, b) = false) := Lib.hid (by simp [inRg, hb])
                          go_wp2_with fail
                          go_roundw
                          case rel => exact ⟨k + 1, by omega, by go_num, by rw [HS.out, HI.out]; rfl, trivial⟩
                          case measure => simp [intOf]; omega
                      · have HI : Hid (inRg mv (a, b) = false) := Lib.hid (by simp [inRg, ha])
                        go_wp2_with fail
                        go_roundw
                        case rel => exact ⟨k + 1, by omega, by go_num, by rw [HS.out, HI.out]; rfl, trivial⟩
                        case measure => simp [intOf]; omega
                  · have hki : ¬ ((k : Int) < (n : Int)) := by omega
                    have HF : Hid (rs.take k = rs) := Lib.hid (List.take_of_length_le (by have := HL.out; omega))
                    clear hlt hk
                    rw [HF.out]
                    generalize rs.any (inRg mv) = so at *
                    go_wp2_with fail
                    go_ret
                    exact ⟨ret_b HE.out.symm, H0.out.below⟩
end Ru
end Go.Proofs.YtabglcpllfcmbaaGreatDoor

/- Whether a rule holds, as the reference has it; what lay in memory stays as it was. -/
namespace Go.Proofs.YtabglcpllfcmbaaGreatDoor
namespace Ru
open Go.RowKit D

set_option maxHeartbeats 4000000 in
set_option maxRecDepth 100000 in
theorem refRuleHolds_any (A : Option Addr) (n c : Nat) (ps : List PartX) (I V W F T : Int) (w : World) (h : RuleAt w w.heap.size A n ps) (hn : n ≤ maxLen) (hz : Few ps) :
    Calls Tryz.prog 14 #[.slice A n c, .agg #[.int .i64 I, .int .i64 V, .int .i64 W, .int .i64 F, .int .i64 T]] w (GivesB w (ruleH (ruleV ps) I V W F T)) := by
  have H0 : Hid (Bs w _ [_]) := Lib.hid (bs_one w [.int .i64 I, .int .i64 V, .int .i64 W, .int .i64 F, .int .i64 T] 24)
  have HL := Lib.hid h.len
  have HR := Lib.hid h
  have HZ := Lib.hid hz
  have HTR : Hid (∀ p, p ∈ ruleV ps → partH p I V W F T = true → ruleH (ruleV ps) I V W F T = true) := Lib.hid fun p hm h => rule_true hm h
  have HTK := Lib.hid fun k hk => rule_take (ruleV ps) I V W F T k hk
  have HT0 : Hid (∀ k, (ruleV ps).length ≤ k → ruleH ((ruleV ps).take k) I V W F T = ruleH (ruleV ps) I V W F T) := Lib.hid fun k hk => by rw [List.take_of_length_le hk]
  generalize ruleH (ruleV ps) I V W F T = res at *
  unfold maxLen at hn
  clear h hz
  go_enter Tryz.func14, Tryz.ntmps14
  go_upto_region 1 with fail
  obtain ⟨v0, hv0⟩ : ∃ V', w.alloc (.cells #[.int .i64 I, .int .i64 V, .int .i64 W, .int .i64 F, .int .i64 T] 24) = V' := ⟨_, rfl⟩
  rw [hv0] at H0 ⊢
  clear hv0
  go_wp2_with fail
  go_loopw [4, 5, 6, 7] (fun _ i _ _ wr => ∃ k : Nat, k ≤ n ∧ i = .int .i64 k ∧ Hid (Bs w wr [(w.heap.size, [.int .i64 I, .int .i64 V, .int .i64 W, .int .i64 F, .int .i64 T])]) ∧ Hid (ruleH ((ruleV ps).take k) I V W F T = false)) (fun _ i _ _ _ => n - (intOf i).toNat)
  case atStart => exact ⟨0, Nat.zero_le _, rfl, H0, Lib.hid (by simp [ruleH])⟩
  case round =>
    obtain ⟨k, hk, rfl, HB, HA⟩ := hrel
    by_cases hlt : k < n
    · have hkp : k < ps.length := by have := HL.out; omega
      obtain ⟨ad, rfl, -, -, -, -⟩ := ((HR.out.below HB.out.below).more HB.out.below.size).at_ (List.getElem?_eq_getElem hkp)
      have HC : Hid (∀ W', Below w.heap.size w W' → W'.cell? (ad.add k) = some (.slice ps[k].A ps[k].xs.length ps[k].c) ∧ RelsAt W' W'.heap.size ps[k].A ps[k].xs.length ps[k].xs) := Lib.hid fun W' hW => by
        obtain ⟨ad', e, _, y0, _, y1⟩ := ((HR.out.below hW).more hW.size).at_ (List.getElem?_eq_getElem hkp)
        injection e with e; subst e
        exact ⟨y0, y1⟩
      have HP := Lib.hid (HZ.out _ (List.getElem_mem hkp))
      have HM : Hid (relsV ps[k].xs ∈ ruleV ps) := Lib.hid (List.mem_map.2 ⟨_, List.getElem_mem hkp, rfl⟩)
      have HK : Hid (ruleH ((ruleV ps).take (k + 1)) I V W F T = (false || partH (relsV ps[k].xs) I V W F T)) := Lib.hid (by
        rw [HTK.out k (by simpa [ruleV] using hkp), HA.out]; simp [ruleV])
      generalize ps[k] = p at *
      obtain ⟨pA, pc, xs⟩ := p
      dsimp only at *
      have hki : (k : Int) < (n : Int) := by omega
      have hxl := HP.out.1
      unfold maxLen at hxl
      generalize hln : xs.length = m at *
      have HXL := Lib.hid hln
      clear hln
      go_wp2_with fail
      go_loopw [6, 7] (fun b j wi => ∃ q : Nat, q ≤ m ∧ j = .int .i64 q ∧ b = .bool (partH ((relsV xs).take q) I V W F T) ∧ Hid (Bs w wi [(w.heap.size, [.int .i64 I, .int .i64 V, .int .i64 W, .int .i64 F, .int .i64 T])])) (fun _ j _ => m - (intOf j).toNat)
      case atStart => exact ⟨0, Nat.zero_le _, rfl, by simp [partH], HB⟩
      case round =>
        obtain ⟨q, hq, rfl, rfl, HI⟩ := hrel
        obtain ⟨x0, hrels⟩ := HC.out _ HI.out.below
        by_cases hqm : q < m
        · have hqx : q < xs.length := by have := HXL.out; omega
          have hqi : (q : Int) < (m : Int) := by omega
          have HQ2 : Hid (partH ((relsV xs).take (q + 1)) I V W F T = (partH ((relsV xs).take q) I V W F T && relH xs[q].v I V W F T)) := Lib.hid (by rw [part_take _ _ _ _ _ _ q (by simpa [relsV] using hqx)]; simp [relsV])
          generalize partH ((relsV xs).take q) I V W F T = al at *
          cases al with
          | false =>
            go_wp2_with fail
            go_big_quiet (fail)
            go_wp2_with fail
            go_roundw
            case rel => exact ⟨q + 1, by omega, by go_num, by rw [HQ2.out]; rfl, Lib.hid (HI.out.drewN nq)⟩
            case measure => simp [intOf]; omega
          | true =>
            obtain ⟨a2, rfl, ha2b, y0, y1, y2, y3, hrc, hrg⟩ := hrels.at_ (List.getElem?_eq_getElem hqx)
            have HS : Hid (∀ wx, Below wr.heap.size wr wx → Below wr.heap.size wr wx ∧ wx.cell? (ad.add k) = some (.slice (some a2) m pc) ∧ wx.cell? (a2.add (q * 4)) = some (.int .u8 xs[q].v.op) ∧ wx.cell? ⟨(a2.add (q * 4)).block, (a2.add (q * 4)).off + 1, none⟩ = some (.int .i64 xs[q].v.mod) ∧ wx.cell? ⟨(a2.add (q * 4)).block, (a2.add (q * 4)).off + 2, none⟩ = some (.bool xs[q].v.nt) ∧ wx.cell? ⟨(a2.add (q * 4)).block, (a2.add (q * 4)).off + 3, none⟩ = some (.slice xs[q].A xs[q].v.rs.length xs[q].c) ∧
                wx.cell? ⟨w.heap.size, 0, none⟩ = some (.int .i64 I) ∧ wx.cell? ⟨w.heap.size, 1, none⟩ = some (.int .i64 V) ∧ wx.cell? ⟨w.heap.size, 2, none⟩ = some (.int .i64 W) ∧ wx.cell? ⟨w.heap.size, 3, none⟩ = some (.int .i64 F) ∧ wx.cell? ⟨w.heap.size, 4, none⟩ = some (.int .i64 T)) := Lib.hid fun wx hb => by
              obtain ⟨z0, hr2⟩ := HC.out _ (bel_call HI.out.below hb)
              obtain ⟨a3, e, _, y0, y1, y2, y3, _, _⟩ := hr2.at_ (List.getElem?_eq_getElem hqx)
              injection e with e; subst e
              rw [← add_of_add, add_pos _ _ (by omega)] at y1 y2 y3
              obtain ⟨o0, o1, o2, o3, o4, -⟩ := (HI.out.call hb).cells
              exact ⟨hb, z0, y0, y1, y2, y3, o0, o1, o2, o3, o4⟩
            have CX := Lib.hid fun (W' : World) (hW : Below wr.heap.size wr W') => by
              obtain ⟨_, hr2⟩ := HC.out _ (bel_call HI.out.below hW)
              have hg := hr2.rgs _ (List.getElem_mem hqx)
              exact refRelHolds_any xs[q].v.op xs[q].v.mod xs[q].v.nt xs[q].A xs[q].v.rs.length xs[q].c xs[q].v.rs I V W F T W' hg.2 rfl (HP.out.2 _ (List.getElem_mem hqx))
            clear hrg hrc x0 y0 y1 y2 y3 hrels ha2b
            generalize xs[q] = x at *
            obtain ⟨⟨op, mod, nt, rs⟩, xA, xc⟩ := x
            dsimp only at *
            generalize relH ⟨op, mod, nt, rs⟩ I V W F T = rh at *
            generalize rs.length = rl at *
            obtain ⟨x0, y0, y1, y2, y3, o0, o1, o2, o3, o4⟩ := (HS.out _ (Below.refl _ _)).2
            go_wp2_with fail
            have hS0 := HS.out _ (Below.refl _ _)
            have hB0 := hS0.1
            go_region_held3 (fun wx => Below wr.heap.size wr wx ∧ wx.cell? (ad.add k) = some (.slice (some a2) m pc) ∧ wx.cell? (a2.add (q * 4)) = some (.int .u8 op) ∧ wx.cell? ⟨(a2.add (q * 4)).block, (a2.add (q * 4)).off + 1, none⟩ = some (.int .i64 mod) ∧ wx.cell? ⟨(a2.add (q * 4)).block, (a2.add (q * 4)).off + 2, none⟩ = some (.bool nt) ∧ wx.cell? ⟨(a2.add (q * 4)).block, (a2.add (q * 4)).off + 3, none⟩ = some (.slice xA rl xc) ∧
                wx.cell? ⟨w.heap.size, 0, none⟩ = some (.int .i64 I) ∧ wx.cell? ⟨w.heap.size, 1, none⟩ = some (.int .i64 V) ∧ wx.cell? ⟨w.heap.size, 2, none⟩ = some (.int .i64 W) ∧ wx.cell? ⟨w.heap.size, 3, none⟩ = some (.int .i64 F) ∧ wx.cell? ⟨w.heap.size, 4, none⟩ = some (.int .i64 T))
              (first | exact HS.out _ (by assumption) | exact HS.out _ (Below.drew (by assumption)))
              (first
                | (go_at_call 40; (with_reducible refine (CX.out _ ?_).mono ?_); (first | assumption | exact Below.drew (by assumption)); rintro e wy ⟨rfl, hby⟩; (have hTy : Below wr.heap.size wr wy := by first | exact bel_call (by assumption) hby | exact bel_call (Below.drew (by assumption)) hby)))
            go_wp2_with fail
            go_roundw
            case rel => exact ⟨q + 1, by omega, by go_num, by rw [HQ2.out]; rfl, Lib.hid (HI.out.call hTy)⟩
            case measure => simp [intOf]; omega
        · have hqi : ¬ ((q : Int) < (m : Int)) := by omega
          have HALL : Hid ((relsV xs).take q = relsV xs) := Lib.hid (List.take_of_length_le (by have := HXL.out; simp [relsV]; omega))
          have HTR2 := Lib.hid (HTR.out _ HM.out)
          rw [HALL.out]
          generalize partH (relsV xs) I V W F T = al at *
          clear hqm hq
          cases al with
          | true =>
            have HE : Hid (res = true) := Lib.hid (HTR2.out rfl)
            go_wp2_with fail
            go_ret
            exact ⟨ret_b HE.out.symm, HI.out.below⟩
          | false =>
            go_wp2_with fail
            go_roundw
            case rel => exact ⟨k + 1, by omega, by go_num, HI, Lib.hid (by rw [HK.out]; rfl)⟩
            case measure => simp [intOf]; omega
    · have hki : ¬ ((k : Int) < (n : Int)) := by omega
      have HE : Hid (false = res) := Lib.hid (by rw [← HT0.out k (by have := HL.out; simp [ruleV]; omega)]; exact HA.out.symm)
      clear hlt hk
      go_wp2_with fail
      go_ret
      exact ⟨ret_b HE.out, HB.out.below⟩
end Ru
end Go.Proofs.YtabglcpllfcmbaaGreatDoor
