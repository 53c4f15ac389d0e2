/- The program's check: what is wrong with a rule; what lay in memory stays as it was. -/
import Derived.Test.YtkhnjlkamleldaaDoorRuCheck
namespace Go.Proofs.YtkhnjlkamleldaaDoor
namespace Ru
open Go.RowKit Go.Maps D

/-- operands are bytes -/
def Byt (ps : List PartX) : Prop := ∀ p ∈ ps, ∀ x ∈ p.xs, 0 ≤ x.v.op ∧ x.v.op < 256
def GivesE (w : World) (k : Nat) (e : Ending) (w' : World) : Prop := e = .returned (errV k) ∧ Below w.heap.size w w'
theorem ret_e {F k : Nat} (h : F = k) : Ending.returned (errV k) = .returned (errV F) := by rw [h]
theorem ret_e3 {F : Nat} (h : F = 3) : Ending.returned (.iface 50 (.int .i64 3)) = .returned (errV F) := by rw [h]; rfl
theorem ret_e4 {F : Nat} (h : F = 4) : Ending.returned (.iface 50 (.int .i64 4)) = .returned (errV F) := by rw [h]; rfl
theorem ret_e0 {F : Nat} (h : F = 0) : Ending.returned .nilIface = .returned (errV F) := by rw [h]; rfl
theorem rel_asks (op mod : Int) (nt : Bool) (rs : List (Int × Int)) : relOk ⟨op, mod, nt, rs⟩ ↔ (asks op 0 = true ∧ inB mod = true ∧ rgsB rs = true) := by
  unfold asks inB rgsB relOk
  rw [decide_eq_true_iff, decide_eq_true_iff, decide_eq_true_iff]
  constructor
  · rintro ⟨h1, h2, h3⟩; exact ⟨⟨h1, fun h => h.2 rfl⟩, h2, h3⟩
  · rintro ⟨h1, h2, h3⟩; exact ⟨h1.1, h2, h3⟩

set_option maxHeartbeats 4000000 in
set_option maxRecDepth 100000 in
theorem check_any (A : Option Addr) (n c : Nat) (ps : List PartX) (w : World) (h : RuleAt w w.heap.size A n ps) (hn : n ≤ maxLen) (hz : Few ps) (hy : Byt ps) (ht : total (ruleV ps) < 4611686018427387904) :
    Calls Tryd.prog 16 #[.slice A n c] w (GivesE w (ruleF (ruleV ps))) := by
  have HT := Lib.hid fun i => Nat.lt_of_le_of_lt (total_le (ruleV ps) i) ht
  have HL := Lib.hid h.len
  have HR := Lib.hid h
  have HZ := Lib.hid hz
  have HY := Lib.hid hy
  have HF : Hid ((¬ ruleOk (ruleV ps) → ruleF (ruleV ps) = 3) ∧ (ruleOk (ruleV ps) → ruleF (ruleV ps) = if 20 < total (ruleV ps) then 4 else 0)) := Lib.hid ⟨fault_bad, fault_ok⟩
  generalize ruleF (ruleV ps) = F at *
  have CO := Lib.hid (operands_any 0 0 0 0 0 w (by unfold I64; omega) (by unfold I64; omega) (by unfold I64; omega) (by unfold I64; omega) (by unfold I64; omega))
  unfold maxLen at hn
  clear ht h hz hy
  by_cases h0 : n = 0
  · subst h0
    have HE : Hid (¬ ruleOk (ruleV ps)) := Lib.hid fun h => h.1 (by have := List.eq_nil_of_length_eq_zero HL.out; subst this; rfl)
    go_enter Tryd.func16, Tryd.ntmps16
    go_wp2_with fail
    go_ret
    exact ⟨ret_e3 (HF.out.1 HE.out), Below.refl _ _⟩
  · have HNE : Hid (ruleV ps ≠ []) := Lib.hid fun e => h0 (by have := congrArg List.length e; simp [ruleV] at this; have := HL.out; simp_all)
    have h0i : ((n : Int) == 0) = false := by rw [beq_eq_false_iff_ne]; omega
    go_enter Tryd.func16, Tryd.ntmps16
    go_wp2_with (go_at_call 22; (with_reducible refine CO.out.mono ?_); rintro e w1 ⟨mb, rfl, hM1, hb1⟩)
    clear h0 h0i CO
    go_loopw [4, 19] (fun s i wr => ∃ k : Nat, k ≤ n ∧ i = .int .i64 k ∧ s = .int .i64 (total ((ruleV ps).take k) : Nat) ∧ Below w.heap.size w wr ∧ OpsAt wr mb 0 0 0 0 0 ∧ Hid (∀ p ∈ (ruleV ps).take k, partOk p)) (fun _ i _ => n - (intOf i).toNat)
    case atStart => exact ⟨0, Nat.zero_le _, rfl, rfl, hb1, hM1, Lib.hid (by simp)⟩
    case round =>
      obtain ⟨k, hk, rfl, rfl, hb, hM, HA⟩ := hrel
      by_cases hlt : k < n
      · have hkp : k < ps.length := by have := HL.out; omega
        obtain ⟨ad, rfl, -, -, -, -⟩ := ((HR.out.below hb).more hb.size).at_ (List.getElem?_eq_getElem hkp)
        have HC : Hid (∀ W, Below w.heap.size w W → W.cell? (ad.add k) = some (.slice ps[k].A ps[k].xs.length ps[k].c) ∧ RelsAt W W.heap.size ps[k].A ps[k].xs.length ps[k].xs) := Lib.hid fun W hW => by
          obtain ⟨ad', e, _, y0, _, y1⟩ := ((HR.out.below hW).more hW.size).at_ (List.getElem?_eq_getElem hkp)
          injection e with e; subst e
          exact ⟨y0, y1⟩
        have HP := Lib.hid (HZ.out _ (List.getElem_mem hkp))
        have HYP := Lib.hid (HY.out _ (List.getElem_mem hkp))
        have HK : Hid ((ruleV ps).take (k + 1) = (ruleV ps).take k ++ [relsV ps[k].xs]) := Lib.hid (by rw [List.take_succ_eq_append_getElem (by simpa [ruleV] using hkp)]; simp [ruleV])
        have HM : Hid (relsV ps[k].xs ∈ ruleV ps) := Lib.hid (List.mem_map.2 ⟨_, List.getElem_mem hkp, rfl⟩)
        have hT := HT.out (k + 1)
        rw [HK.out, total_snoc] at hT
        have HPL : Hid ((relsV ps[k].xs).length = ps[k].xs.length) := Lib.hid (by simp [relsV])
        rw [HPL.out] at hT
        generalize ps[k] = p at *
        obtain ⟨pA, pc, xs⟩ := p
        dsimp only at *
        have hki : (k : Int) < (n : Int) := by omega
        obtain ⟨x0, -⟩ := HC.out _ hb
        have hxl := HP.out.1
        unfold maxLen at hxl
        have HS : Hid (total ((ruleV ps).take k) + xs.length = total ((ruleV ps).take (k + 1))) := Lib.hid (by rw [HK.out, total_snoc, HPL.out])
        have HA2 : Hid (partOk (relsV xs) → ∀ p ∈ (ruleV ps).take (k + 1), partOk p) := Lib.hid fun h p hp => by
          rw [HK.out] at hp
          rcases List.mem_append.1 hp with hp | hp
          · exact HA.out p hp
          · obtain rfl := List.mem_singleton.1 hp; exact h
        have HB2 : Hid (¬ partOk (relsV xs) → F = 3) := Lib.hid fun h => HF.out.1 fun hr => h (hr.2 _ HM.out)
        clear HK
        generalize total ((ruleV ps).take k) = tk at *
        generalize hln : xs.length = m at *
        by_cases hm0 : m = 0
        · have HE : Hid (F = 3) := Lib.hid (HB2.out fun h => h.1 (by have := List.eq_nil_of_length_eq_zero (hln.trans hm0); subst this; rfl))
          subst hm0
          clear hln
          go_wp2_with fail
          go_ret
          exact ⟨ret_e3 HE.out, hb⟩
        · have HXN : Hid (relsV xs ≠ []) := Lib.hid fun e => hm0 (by have := congrArg List.length e; simp [relsV] at this; subst this; simpa using hln.symm)
          have HXL := Lib.hid hln
          have hm0j : ¬ (m : Int) = 0 := by omega
          have hm0i : ((m : Int) == 0) = false := by rw [beq_eq_false_iff_ne]; omega
          clear hln hm0
          go_wp2_with fail
          clear hm0j hm0i x0
          go_loopw [29] (fun j wi => ∃ q : Nat, q ≤ m ∧ j = .int .i64 q ∧ Below w.heap.size w wi ∧ OpsAt wi mb 0 0 0 0 0 ∧ Hid (∀ x ∈ (relsV xs).take q, relOk x)) (fun j _ => m - (intOf j).toNat)
          case atStart => exact ⟨0, Nat.zero_le _, rfl, hb, hM, Lib.hid (by simp)⟩
          case round =>
            obtain ⟨q, hq, rfl, hbi, hMi, HQ⟩ := hrel
            obtain ⟨x0, hrels⟩ := HC.out _ hbi
            by_cases hqm : q < m
            · have hqx : q < xs.length := by have := HXL.out; omega
              obtain ⟨a2, rfl, ha2b, y0, y1, y2, y3, hrc, hrg⟩ := hrels.at_ (List.getElem?_eq_getElem hqx)
              rw [← add_of_add, add_pos _ _ (by omega)] at y1 y2 y3
              have CX := Lib.hid fun (W : World) (hW : Below w.heap.size w W) => by
                obtain ⟨_, hr2⟩ := HC.out _ hW
                have hg := hr2.rgs _ (List.getElem_mem hqx)
                exact areRanges_any xs[q].A xs[q].v.rs.length xs[q].c xs[q].v.rs W hg.2 rfl (HP.out.2 _ (List.getElem_mem hqx))
              have HQ2 : Hid ((relsV xs).take (q + 1) = (relsV xs).take q ++ [xs[q].v]) := Lib.hid (by rw [List.take_succ_eq_append_getElem (by simpa [relsV] using hqx)]; simp [relsV])
              have HQM : Hid (xs[q].v ∈ relsV xs) := Lib.hid (List.mem_map.2 ⟨_, List.getElem_mem hqx, rfl⟩)
              have HBY := Lib.hid (HYP.out _ (List.getElem_mem hqx))
              clear hrels hrg hrc
              generalize xs[q] = x at *
              obtain ⟨⟨op, mod, nt, rs⟩, xA, xc⟩ := x
              dsimp only at *
              have hqi : (q : Int) < (m : Int) := by omega
              have HRO := Lib.hid (rel_asks op mod nt rs)
              have HBAD : Hid (¬ (asks op 0 = true ∧ inB mod = true ∧ rgsB rs = true) → F = 3) := Lib.hid fun hno => HB2.out fun h => hno (HRO.out.1 (h.2 _ HQM.out))
              have HB0 : Hid (Bs wr _ [_]) := Lib.hid (bs_one wr [.int .u8 op, .int .i64 mod, .bool nt, .slice xA rs.length xc] 40)
              have hMb : OpsAt _ mb 0 0 0 0 0 := map_later hMi HB0.out.below
              have CM := Lib.hid fun W => inBounds_any mod W
              cases ha : asks op 0 with
              | false =>
                have HE : Hid (F = 3) := Lib.hid (HBAD.out (by rw [ha]; simp))
                have HAS : Hid (has (opsD 0 0 0 0 0) (keyB op) = false) := Lib.hid (by rw [ops_has, ha])
                go_wp2_with (first
                  | (at_lookup; refine wpList_lookup_own_ok_int _ rfl _ _ 57 rfl 5 3 .i64 keyed8 Tryd.underlying57 Tryd.underlying3 (zeroI _) mb 6 _ rfl hMb _ _ rfl (key_byte HBY.out) ?_; intro cc hcc _; rw [HAS.out]; clear hcc))
                go_ret
                exact ⟨ret_e3 HE.out, up_call hbi HB0.out.below⟩
              | true =>
                have HAS : Hid (has (opsD 0 0 0 0 0) (keyB op) = true) := Lib.hid (by rw [ops_has, ha])
                rw [ha] at HRO HBAD
                obtain ⟨d0, d1, d2, d3, -⟩ := HB0.out.cells
                clear ha
                cases hi : inB mod with
                | false =>
                  have HE : Hid (F = 3) := Lib.hid (HBAD.out (by rw [hi]; simp))
                  rw [hi] at CM
                  clear hi HRO HBAD
                  go_wp2_with (first
                    | (at_lookup; refine wpList_lookup_own_ok_int _ rfl _ _ 57 rfl 5 3 .i64 keyed8 Tryd.underlying57 Tryd.underlying3 (zeroI _) mb 6 _ rfl hMb _ _ rfl (key_byte HBY.out) ?_; intro cc hcc _; rw [HAS.out]; clear hcc)
                    | (go_at_call 31; (with_reducible refine (CM.out _).mono ?_); rintro e w2 ⟨rfl, hb2⟩; (have HB2' := Lib.hid (HB0.out.call hb2)); (have hM2 := map_later hMb hb2); (obtain ⟨z0, z1, z2, z3, -⟩ := HB2'.out.cells)))
                  go_ret
                  exact ⟨ret_e3 HE.out, up_call hbi HB2'.out.below⟩
                | true =>
                  rw [hi] at CM HRO HBAD
                  clear hi
                  cases hr : rgsB rs with
                  | false =>
                    have HE : Hid (F = 3) := Lib.hid (HBAD.out (by rw [hr]; simp))
                    rw [hr] at CX
                    clear hr HRO HBAD
                    go_wp2_with (first
                      | (at_lookup; refine wpList_lookup_own_ok_int _ rfl _ _ 57 rfl 5 3 .i64 keyed8 Tryd.underlying57 Tryd.underlying3 (zeroI _) mb 6 _ rfl hMb _ _ rfl (key_byte HBY.out) ?_; intro cc hcc _; rw [HAS.out]; clear hcc)
                      | (go_at_call 31; (with_reducible refine (CM.out _).mono ?_); rintro e w2 ⟨rfl, hb2⟩; (have HB2' := Lib.hid (HB0.out.call hb2)); (have hM2 := map_later hMb hb2); (obtain ⟨z0, z1, z2, z3, -⟩ := HB2'.out.cells))
                      | (go_at_call 32; (with_reducible refine (CX.out _ (up_call hbi HB2'.out.below)).mono ?_); rintro e w3 ⟨rfl, hb3⟩; (have HB3 := Lib.hid (HB2'.out.call hb3)); (have hM3 := map_later hM2 hb3)))
                    go_ret
                    exact ⟨ret_e3 HE.out, up_call hbi HB3.out.below⟩
                  | true =>
                    have HOK : Hid (relOk ⟨op, mod, nt, rs⟩) := Lib.hid (HRO.out.2 ⟨rfl, rfl, hr⟩)
                    rw [hr] at CX
                    clear hr HRO HBAD
                    go_wp2_with (first
                      | (at_lookup; refine wpList_lookup_own_ok_int _ rfl _ _ 57 rfl 5 3 .i64 keyed8 Tryd.underlying57 Tryd.underlying3 (zeroI _) mb 6 _ rfl hMb _ _ rfl (key_byte HBY.out) ?_; intro cc hcc _; rw [HAS.out]; clear hcc)
                      | (go_at_call 31; (with_reducible refine (CM.out _).mono ?_); rintro e w2 ⟨rfl, hb2⟩; (have HB2' := Lib.hid (HB0.out.call hb2)); (have hM2 := map_later hMb hb2); (obtain ⟨z0, z1, z2, z3, -⟩ := HB2'.out.cells))
                      | (go_at_call 32; (with_reducible refine (CX.out _ (up_call hbi HB2'.out.below)).mono ?_); rintro e w3 ⟨rfl, hb3⟩; (have HB3 := Lib.hid (HB2'.out.call hb3)); (have hM3 := map_later hM2 hb3)))
                    go_roundw
                    case rel => exact ⟨q + 1, by omega, by go_num, up_call hbi HB3.out.below, hM3, Lib.hid (by
                      rw [HQ2.out]
                      intro z hz
                      rcases List.mem_append.1 hz with hz | hz
                      · exact HQ.out z hz
                      · obtain rfl := List.mem_singleton.1 hz; exact HOK.out)⟩
                    case measure => simp [intOf]; omega
            · have hqi : ¬ ((q : Int) < (m : Int)) := by omega
              obtain rfl : q = m := by omega
              have HPO : Hid (partOk (relsV xs)) := Lib.hid ⟨HXN.out, fun x hx => HQ.out x (by rw [List.take_of_length_le (by have := HXL.out; simp [relsV]; omega)]; exact hx)⟩
              clear hqm hq
              go_wp2_with fail
              go_roundw
              case rel => exact ⟨k + 1, by omega, by go_num, by rw [← HS.out]; go_num, hbi, hMi, Lib.hid (HA2.out HPO.out)⟩
              case measure => simp [intOf]; omega
      · have hki : ¬ ((k : Int) < (n : Int)) := by omega
        have HALL : Hid ((ruleV ps).take k = ruleV ps) := Lib.hid (List.take_of_length_le (by have := HL.out; simp [ruleV]; omega))
        have HFF : Hid (F = if 20 < total (ruleV ps) then 4 else 0) := Lib.hid (HF.out.2 ⟨HNE.out, by have := HA.out; rwa [HALL.out] at this⟩)
        have hT := HT.out k
        rw [HALL.out] at hT ⊢
        generalize total (ruleV ps) = T at *
        clear hlt hk
        by_cases h20 : 20 < T
        · have h20i : (20 : Int) < (T : Int) := by omega
          have HE : Hid (F = 4) := Lib.hid (HFF.out.trans (if_pos h20))
          clear h20
          go_wp2_with fail
          go_ret
          exact ⟨ret_e4 HE.out, hb⟩
        · have h20i : ¬ ((20 : Int) < (T : Int)) := by omega
          have HE : Hid (F = 0) := Lib.hid (HFF.out.trans (if_neg h20))
          clear h20
          go_wp2_with fail
          go_ret
          exact ⟨ret_e0 HE.out, hb⟩
end Ru
end Go.Proofs.YtkhnjlkamleldaaDoor
