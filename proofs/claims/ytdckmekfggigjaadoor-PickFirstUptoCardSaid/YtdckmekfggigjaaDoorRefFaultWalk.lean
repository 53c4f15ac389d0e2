/- The reference's TagFault, walked: it returns the number that the plain check finds; what lay in memory stays as it was. -/
import Derived.Test.YtdckmekfggigjaaDoorRefFault
namespace Go.Proofs.YtdckmekfggigjaaDoor
open Go.RowKit
attribute [local go_sem ↓] Go.wp_at_zero Go.wp_at_succ

theorem fault_parts {L S R : ByteArray} {vs : List ByteArray} : P.fault (tagT L S R vs) = if P.langB L.data.toList && scriptOk S && regionOk R then P.vars (bs vs) else 3 := by
  have eS : S.toList.isEmpty = decide (S.data.toList = []) := by rw [toList_data]; cases S.data.toList <;> simp
  have eR : R.toList.isEmpty = decide (R.data.toList = []) := by rw [toList_data]; cases R.data.toList <;> simp
  unfold scriptOk regionOk
  rw [eS, eR]
  cases hl : P.langB L.data.toList
  · rw [fault_lang (t := tagT L S R vs) hl]; simp
  · by_cases h1 : S.data.toList ≠ [] ∧ P.scriptB S.data.toList = false
    · rw [fault_script (t := tagT L S R vs) hl h1.1 h1.2]; simp [h1.1, h1.2]
    · have h1' : S.data.toList = [] ∨ P.scriptB S.data.toList = true := by
        by_cases ha : S.data.toList = []
        · exact .inl ha
        · right; cases hb : P.scriptB S.data.toList
          · exact absurd ⟨ha, hb⟩ h1
          · rfl
      by_cases h2 : R.data.toList ≠ [] ∧ P.regionB R.data.toList = false
      · rw [fault_region (t := tagT L S R vs) hl h1' h2.1 h2.2]; simp [h2.1, h2.2]
      · have h2' : R.data.toList = [] ∨ P.regionB R.data.toList = true := by
          by_cases ha : R.data.toList = []
          · exact .inl ha
          · right; cases hb : P.regionB R.data.toList
            · exact absurd ⟨ha, hb⟩ h2
            · rfl
        rw [fault_vars (t := tagT L S R vs) hl h1' h2']
        rcases h1' with e1 | e1 <;> rcases h2' with e2 | e2 <;> simp [e1, e2] <;> rfl

theorem in_quiet {A : Option Addr} {k c : Nat} {xs : List ByteArray} {s : ByteArray} {b : Bool} (hb : inB xs s = b) {w : World} {B p m : Nat} (h : Reads (w.drewN (p + m)) B 1 A k (sv xs)) (hk : k < maxLen) :
    Calls Tryd.prog 32 #[.slice A k c, .string s] (w.drewN (p + m)) fun e w' => e = .returned (.bool b) ∧ ∃ j, w' = w.drewN (p + j) :=
  (in_any A k c xs s (w.drewN (p + m)) B h hk).mono fun e w' ⟨he, d, hd⟩ => ⟨by rw [he, hb], m + d, by rw [← hd, World.drewN_drewN, Nat.add_assoc]⟩

set_option maxHeartbeats 4000000 in
set_option maxRecDepth 100000 in
theorem refFault_any (L S R : ByteArray) (A : Option Addr) (n c : Nat) (vs : List ByteArray) (w : World) (h : Reads w w.heap.size 1 A n (sv vs)) (hsz : ∀ v ∈ vs, v.size ≤ maxLen) (hn : n < maxLen) (hnc : n ≤ c)
    (hL : L.size ≤ maxLen) (hR : R.size ≤ maxLen) :
    Calls Tryd.prog 14 #[.agg #[.string L, .string S, .string R, .slice A n c]] w fun e w' => e = .returned (.int .i64 (P.fault (tagT L S R vs) : Nat)) ∧ Below w.heap.size w w' := by
  have hT := TagAt.new (L := L) (S := S) (R := R) (c := c) w h
  have hb := up_alloc (Below.refl w.heap.size w) (.cells (tagCs L S R A n c) 29)
  have hrd := hT.reads
  obtain ⟨t0, t1, t2, t3⟩ := hT.cells
  have hf := fault_parts (L := L) (S := S) (R := R) (vs := vs)
  have HF := Lib.hid hf; clear hf hT h
  have HC := Lib.hid hnc; clear hnc
  have hn63 : n < 9223372036854775807 := by have := hn; unfold maxLen at this; omega
  have hlen := hrd.len
  have HLEN := Lib.hid hlen; clear hlen
  go_enter Tryd.func14, Tryd.ntmps14
  go_upto_region 1 with fail
  generalize hW0 : w.alloc (.cells (tagCs L S R A n c) 29) = W0 at *
  go_cut [3] (fun s3 wx => s3 = .bool (scriptOk S) ∧ ∃ d, W0.drewN d = wx)
  case first =>
    by_cases hS0 : S.toList = []
    · have HO : Hid (scriptOk S = true) := Lib.hid (by unfold scriptOk; rw [hS0]; rfl)
      go_wp2_with fail
      go_meet
      exact ⟨by rw [HO.out], 0, rfl⟩
    · by_cases h4 : S.size = 4
      · have hS1 : S.toList.isEmpty = false := by simpa using hS0
        have HO := Lib.hid (script_four h4)
        have h4b : ((S.size : Int) == 4) = true := by simp [h4]
        have h4i : (1 : Int) ≤ (S.size : Int) := by omega
        have c1 := Lib.hid (fun W => only_upp (S.extract 0 1) 1 1 (a := 1) (b := 1) rfl rfl W (by rw [ByteArray.size_extract]; unfold maxLen; omega))
        have c2 := Lib.hid (fun W => only_low (S.extract 1 S.size) 3 3 (a := 3) (b := 3) rfl rfl W (by rw [ByteArray.size_extract]; unfold maxLen; omega))
        have HO' := HO.out
        clear HO
        generalize P.fillsB P.upp (S.extract 0 1).data.toList 1 1 = b1 at *
        generalize P.fillsB P.low (S.extract 1 S.size).data.toList 3 3 = b2 at *
        have HO := Lib.hid HO'; clear HO' h4
        cases b1 <;> cases b2
        all_goals
          go_wp2_with (first
            | (go_at_call 31; (with_reducible refine (c1.out _).mono ?_); rintro e w' ⟨rfl, d1, rfl⟩)
            | (go_at_call 31; (with_reducible refine (c2.out _).mono ?_); rintro e w' ⟨rfl, d2, rfl⟩))
          go_meet
          exact ⟨by rw [HO.out]; rfl, _, rfl⟩
      · have hS1 : S.toList.isEmpty = false := by simpa using hS0
        have h4b : ((S.size : Int) == 4) = false := by simp; omega
        have HO := Lib.hid (script_not hS0 h4)
        clear h4
        go_wp2_with fail
        go_meet
        exact ⟨by rw [HO.out], 0, rfl⟩
  case rest =>
    obtain ⟨rfl, d0, rfl⟩ := hcut
    go_upto_region 2 with fail
    go_cut [4] (fun s4 wx => s4 = .bool (regionOk R) ∧ ∃ d, W0.drewN d = wx)
    case first =>
      by_cases hR0 : R.toList = []
      · have HO : Hid (regionOk R = true) := Lib.hid (by unfold regionOk; rw [hR0]; rfl)
        go_wp2_with fail
        go_meet
        exact ⟨by rw [HO.out], d0, rfl⟩
      · have hR1 : R.toList.isEmpty = false := by simpa using hR0
        have HO0 : regionOk R = (P.fillsB P.upp R.data.toList 2 2 || P.fillsB P.dig R.data.toList 3 3) := by unfold regionOk; rw [hR1]; rfl
        have c1 := Lib.hid (fun W => only_upp R 2 2 (a := 2) (b := 2) rfl rfl W hR)
        have c2 := Lib.hid (fun W => only_dig R 3 3 (a := 3) (b := 3) rfl rfl W hR)
        generalize P.fillsB P.upp R.data.toList 2 2 = b1 at *
        generalize P.fillsB P.dig R.data.toList 3 3 = b2 at *
        have HO := Lib.hid HO0; clear HO0
        cases b1 <;> cases b2
        all_goals
          go_wp2_with (first
            | (go_at_call 31; (with_reducible refine (c1.out _).mono ?_); rintro e w' ⟨rfl, d1, rfl⟩)
            | (go_at_call 31; (with_reducible refine (c2.out _).mono ?_); rintro e w' ⟨rfl, d2, rfl⟩))
          go_meet
          exact ⟨by rw [HO.out]; rfl, _, rfl⟩
    case rest =>
      obtain ⟨rfl, d1, rfl⟩ := hcut
      go_upto_region 3 with fail
      have cl := Lib.hid (fun W => only_low L 2 3 (a := 2) (b := 3) rfl rfl W hL)
      cases hl : P.langB L.data.toList <;> cases hs : scriptOk S <;> cases hr : regionOk R
      all_goals
        have HFX := HF.out
        rw [hl, hs, hr] at HFX
        have HV := Lib.hid HFX
        have hl' : P.fillsB P.low L.data.toList 2 3 = _ := hl
        have HL := Lib.hid hl'
        clear HFX HF hl hs hr hl'
        go_upto_region 5 with (first
          | (go_at_call 31; (with_reducible refine (cl.out _).mono ?_); rintro e w' ⟨rfl, d2, rfl⟩; rw [HL.out])
          | fail)
        try
          go_ret
          exact ⟨by rw [HV.out]; rfl, below_drewN hb _⟩
      have HV' : Hid (P.fault (tagT L S R vs) = P.vars (bs vs)) := Lib.hid (by rw [HV.out]; rfl)
      clear HV HL cl
      generalize d1 + d2 = d3 at *
      go_wp2_with fail
      go_loopw [5] (fun i wr => ∃ k d : Nat, k ≤ n ∧ i = .int .i64 k ∧ W0.drewN d = wr ∧ Hid (P.vfault [] (bs vs) = P.vfault (bs (vs.take k)) (bs (vs.drop k)))) (fun i _ => n - (intOf i).toNat)
      case atStart => exact ⟨0, _, Nat.zero_le _, rfl, rfl, Lib.hid rfl⟩
      case round =>
        obtain ⟨k, d, hk, rfl, rfl, hv⟩ := hrel
        by_cases hlt : k < n
        · have hkx : k < vs.length := by have := HLEN.out; omega
          obtain ⟨ad, rfl, hadb, hcell⟩ := hrd.str hlt hkx
          have hsk := hsz _ (List.getElem_mem hkx)
          have e1 := bs_drop vs k hkx
          have e2 := bs_take vs k hkx
          have hrk : Reads W0 W0.heap.size 1 (some ad) k (sv (vs.take k)) := ⟨by simp [sv]; omega, fun _ => ⟨ad, rfl, hadb, fun j u hj => by
            obtain ⟨ad', hA, _, hc'⟩ := hrd.2 (by omega)
            injection hA with hA
            subst hA
            refine hc' j u ?_
            have hjl : j < k := by have := (List.getElem?_eq_some_iff.1 hj).1; simp [sv] at this; omega
            simpa [sv, List.getElem?_take, hjl] using hj⟩⟩
          have E1 := Lib.hid e1; clear e1
          have E2 := Lib.hid e2; clear e2
          have HRK := Lib.hid hrk; clear hrk
          have hin : inB (vs.take k) vs[k] = (bs (vs.take k)).contains vs[k].data.toList := rfl
          generalize vs[k] = x at *
          have co := Lib.hid (fun W => only_lowdig x 5 8 (a := 5) (b := 8) rfl rfl W hsk)
          cases hvb : P.variantB x.data.toList
          · have hvb' : P.fillsB P.lowdig x.data.toList 5 8 = false := hvb
            have HV := Lib.hid hvb; have HV2 := Lib.hid hvb'; clear hvb hvb'
            go_wp2_with (go_at_call 31; (with_reducible refine (co.out _).mono ?_); rintro e w' ⟨rfl, d4, rfl⟩; rw [HV2.out])
            go_ret
            exact ⟨by rw [HV'.out, vars_some _ 3 (by rw [hv.out, E1.out]; exact vfault_bad _ _ _ HV.out)]; rfl, below_drewN hb _⟩
          · have hvb' : P.fillsB P.lowdig x.data.toList 5 8 = true := hvb
            have HV := Lib.hid hvb; have HV2 := Lib.hid hvb'; clear hvb hvb'
            have hkc : (k : Int) ≤ (c : Int) := by have := HC.out; omega
            have hkn : (k : Int) < (n : Int) := by omega
            cases hcn : (bs (vs.take k)).contains x.data.toList
            all_goals
              rw [hcn] at hin
              have HI := Lib.hid hin
              have HCN := Lib.hid hcn; clear hcn hin
              go_upto_region 10 with (go_at_call 31; (with_reducible refine (co.out _).mono ?_); rintro e w' ⟨rfl, d4, rfl⟩; rw [HV2.out])
              have hkm : k < maxLen := by omega
              clear hsk
              go_quiet (first | (go_at_call 32; exact in_quiet HI.out (HRK.out.drewN _) hkm))
              go_wp2_with fail
            · go_roundw
              case rel => exact ⟨k + 1, _, by omega, by go_num, rfl, Lib.hid (by rw [hv.out, E1.out, vfault_next _ _ _ HV.out HCN.out, E2.out])⟩
              case measure => simp [intOf]; omega
            · go_ret
              exact ⟨by rw [HV'.out, vars_some _ 5 (by rw [hv.out, E1.out]; exact vfault_twice _ _ _ HV.out HCN.out)]; rfl, below_drewN (below_drewN hb _) _⟩
        · have hnone : P.vfault [] (bs vs) = none := by rw [hv.out, vfault_end _ _ (by have := HLEN.out; omega)]
          have HNO := Lib.hid hnone; clear hnone
          have hbl := bs_length vs
          have HB := Lib.hid hbl; clear hbl
          by_cases h3 : n ≤ 3
          · go_wp2_with fail
            go_ret
            exact ⟨by rw [HV'.out, vars_few _ HNO.out (by rw [HB.out, HLEN.out]; exact h3)]; rfl, below_drewN hb _⟩
          · go_wp2_with fail
            go_ret
            exact ⟨by rw [HV'.out, vars_many _ HNO.out (by rw [HB.out, HLEN.out]; omega)]; rfl, below_drewN hb _⟩
end Go.Proofs.YtdckmekfggigjaaDoor
