/- The program's split of parts; what lay in memory stays as it was. -/
import Derived.Test.YtkhnjlkamleldaaDoorRuPartOwn
namespace Go.Proofs.YtkhnjlkamleldaaDoor
namespace Ru
open Go.RowKit Go.Maps D

set_option maxHeartbeats 4000000 in
set_option maxRecDepth 100000 in
theorem splitPart_any (s : ByteArray) (w : World) (hs : s.size < 4294967280) (hE : Env w) :
    Calls Tryd.prog 12 #[.string s, .string ⟨#[32, 111, 114, 32]⟩, .func (.func 13) #[] #[]] w (SplitPartP w (ruleP s.data.toList)) := by
  obtain ⟨i0, hi0, hz0, hz1, hz2⟩ := info_parts part_info
  have CS := Lib.hid (split_any [32, 111, 114, 32] s w (by omega) (by simp) hE)
  have hss : s.data.toList.length < 4294967280 := by rw [← ba_size]; exact hs
  have CR := Lib.hid fun (p : List UInt8) (hp : p ∈ splitL [32, 111, 114, 32] s.data.toList) (W : World) (hW : Below w.heap.size w W) => parse1_any (str p) W (by rw [ba_size, str_data]; have := split_le _ _ _ hp; omega) (hE.later hW)
  have hmany := split_many [32, 111, 114, 32] s.data.toList
  have HW : Hid (ruleP s.data.toList = (splitL [32, 111, 114, 32] s.data.toList).mapM partP) := Lib.hid rfl
  generalize ruleP s.data.toList = res at *
  generalize splitL [32, 111, 114, 32] s.data.toList = pcs at *
  have hN : pcs.length ≤ 4294967282 := by omega
  clear hs hss hE hmany
  generalize hg0 : pcs.length = N at *
  have HN := Lib.hid hg0
  clear hg0
  go_enter Tryd.func12, Tryd.ntmps12
  go_wp2_with (go_at_call 26; (with_reducible refine (CS.out).mono ?_); rintro e w1 ⟨rfl, hrd1, hb1⟩)
  rw [HN.out] at hrd1 ⊢
  have HRD := Lib.hid hrd1
  clear hrd1 CS
  generalize hgad : (⟨w.heap.size, 0, none⟩ : Addr) = gad at *
  clear hgad
  go_loopw [8, 17] (fun v i wr => ∃ (k : Nat) (done : List PartX), k ≤ N ∧ done.length = k ∧ i = .int .i64 k ∧ Below w1.heap.size w1 wr ∧ OwnRule wr w1.heap.size v done ∧ Hid ((pcs.take k).mapM partP = some (ruleV done))) (fun _ i _ => N - (intOf i).toNat)
  case atStart => exact ⟨0, [], Nat.zero_le _, rfl, rfl, Below.refl _ _, OwnRule.nil _ _, Lib.hid (by simp [ruleV])⟩
  case round =>
    obtain ⟨k, done, hk, hdl, rfl, hb, hown, HA⟩ := hrel
    by_cases hlt : k < N
    · have hkr : k < pcs.length := by have := HN.out; omega
      have hki : (k : Int) < (N : Int) := by omega
      have hki0 : (0 : Int) ≤ (k : Int) := by omega
      obtain ⟨ad, u, ead, hadb, hu, x0⟩ := ((HRD.out.below hb).more hb.size).at_ (k := k) hlt
      obtain rfl : gad = ad := by injection ead
      have hu2 : u = .string (str pcs[k]) := by
        rw [strC_get, List.getElem?_eq_getElem hkr] at hu
        injection hu with hu
        exact hu.symm
      rw [hu2] at x0
      have hmem : pcs[k] ∈ pcs := List.getElem_mem hkr
      have hbw : Below w.heap.size w wr := bel_call hb1 hb
      have CC := CR.out _ hmem wr hbw
      have HTK : Hid (pcs.take (k + 1) = pcs.take k ++ [pcs[k]]) := Lib.hid (List.take_succ_eq_append_getElem hkr)
      have HM := Lib.hid hmem
      clear hu hu2 hmem ead
      generalize pcs[k] = pc at *
      cases hx : partP pc with
      | none =>
        have CN := Lib.hid (part_none (hx ▸ CC))
        have HE : Hid (res = none) := Lib.hid (by rw [HW.out]; exact mapM_stop HM.out hx)
        clear hx CC CR HTK HA hown HW
        go_wp2_with (go_at_call 13; (with_reducible refine (CN.out).mono ?_); rintro e w2 ⟨rfl, hb2⟩; dsimp only)
        exact bodyPost_ret (v := .tuple #[.slice none 0 0, .bool false]) (by simp [results, Tryd.results12, go_sem]) rfl ⟨.inl ⟨HE.out, rfl⟩, bel_call hbw hb2⟩
      | some x =>
        have CG := Lib.hid (part_some (hx ▸ CC))
        have HA2 : ∀ y : PartX, relsV y.xs = x → Hid ((pcs.take (k + 1)).mapM partP = some (ruleV (done ++ [y]))) := fun y hy => Lib.hid (by
          rw [HTK.out, show ruleV (done ++ [y]) = ruleV done ++ [relsV y.xs] from by simp [ruleV]]
          exact mapM_snoc HA.out (by rw [hy]; exact hx))
        obtain ⟨A1, c1, rfl, hc1, hm1, -, -⟩ := own_shape hown.row
        clear hx CC CR HTK HA HW
        go_wp2_with (first
          | (go_at_call 13; (with_reducible refine (CG.out).mono ?_); rintro e w2 ⟨ys, Ax, cx, hyx, rfl, hcx, hox, hb2⟩; (have hbx := bel_call hb hb2); (have hb5 := bel_alloc hbx (.cells #[.slice Ax ys.length cx] 36)); (have hO5 := hown.later (bel_alloc hb2 (.cells #[.slice Ax ys.length cx] 36))); (have hown5 := hO5.row); (have hox5 := (hox.later ((Below.refl w2.heap.size w2).alloc (Nat.le_refl _) (.cells #[.slice Ax ys.length cx] 36))).base_ hb.size); (have hap := hown.apart_new (p := ⟨Ax, cx, ys⟩) hox.row); (have hrd5 := Reads.of_own (own_lit w2 [.slice Ax ys.length cx] 36 (base := 0) (k := 1) (Nat.zero_le _) rfl)); dsimp only)
          | (at_builtin; refine wpList_append_any _ rfl (.tmp 29) (.tmp 31) _ rfl w1.heap.size 36 i0 _ 1 24 Tryd.underlying22 hi0 hz0 hz1 hz2 rfl (by omega) (.slice A1 done.length c1) done.length _ rfl hown5 _ _ 1 1 [.slice Ax ys.length cx] rfl hrd5 (by intro u hu; simp at hu; subst hu; rfl) (by unfold maxLen; omega) (by omega) hb5.size ?_; intro v6 w6 hown6 hg6 hat6))
        have hB6 : Below w1.heap.size w1 w6 := hb5.grown hg6 hb5.size (fun j hj => (hown5.lt j hj).1)
        go_roundw
        case rel => exact ⟨k + 1, done ++ [(⟨Ax, cx, ys⟩ : PartX)], by omega, by simp; omega, by go_num, hB6, OwnRule.snoc (p := ⟨Ax, cx, ys⟩) hO5 hcx hox5 hap (by simpa using hown6) hg6, HA2 _ hyx⟩
        case measure => simp [intOf]; omega
    · have hki : ¬ ((k : Int) < (N : Int)) := by omega
      have HE : Hid (res = some (ruleV done)) := Lib.hid (by rw [HW.out, ← HA.out, List.take_of_length_le (by have := HN.out; omega)])
      obtain ⟨A1, c1, rfl, hc1, hm1, -, -⟩ := own_shape hown.row
      clear hlt hk HA
      go_wp2_with fail
      exact bodyPost_ret (v := .tuple #[.slice A1 done.length c1, .bool true]) (by simp [results, Tryd.results12, go_sem, hdl]) rfl ⟨.inr ⟨done, A1, c1, HE.out, rfl, hc1, hown.base_ hb1.size⟩, bel_call hb1 hb⟩
end Ru
end Go.Proofs.YtkhnjlkamleldaaDoor
