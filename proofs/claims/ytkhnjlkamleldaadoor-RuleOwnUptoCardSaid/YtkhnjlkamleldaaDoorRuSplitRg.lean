/- The program's split of ranges; what lay in memory stays as it was. -/
import Derived.Test.YtkhnjlkamleldaaDoorRuReadRgOwn
namespace Go.Proofs.YtkhnjlkamleldaaDoor
namespace Ru
open Go.RowKit Go.Maps D

set_option maxHeartbeats 4000000 in
set_option maxRecDepth 100000 in
theorem splitRg_any (s : ByteArray) (w : World) (hs : s.size < 4294967280) (hE : Env w) :
    Calls Tryd.prog 29 #[.string s, .string ⟨#[44]⟩, .func (.func 30) #[] #[]] w (SplitRgP w (rgsP s.data.toList)) := by
  obtain ⟨i0, hi0, hz0, hz1, hz2⟩ := info_parts rg_info
  have CS := Lib.hid (split_any [44] s w (by omega) (by simp) hE)
  have hss : s.data.toList.length < 4294967280 := by rw [← ba_size]; exact hs
  have CR := Lib.hid fun (p : List UInt8) (hp : p ∈ splitL [44] s.data.toList) (W : World) (hW : Below w.heap.size w W) => readRange_any (str p) W (by rw [ba_size, str_data]; have := split_le _ _ _ hp; omega) (hE.later hW)
  have hmany := split_many [44] s.data.toList
  have HW : Hid (rgsP s.data.toList = (splitL [44] s.data.toList).mapM rgP) := Lib.hid rfl
  generalize rgsP s.data.toList = res at *
  generalize splitL [44] s.data.toList = pcs at *
  have hN : pcs.length ≤ 4294967282 := by omega
  clear hs hss hE hmany
  generalize hg0 : pcs.length = N at *
  have HN := Lib.hid hg0
  clear hg0
  go_enter Tryd.func29, Tryd.ntmps29
  go_wp2_with (go_at_call 26; (with_reducible refine (CS.out).mono ?_); rintro e w1 ⟨rfl, hrd1, hb1⟩)
  rw [HN.out] at hrd1 ⊢
  have HRD := Lib.hid hrd1
  clear hrd1 CS
  generalize hgad : (⟨w.heap.size, 0, none⟩ : Addr) = gad at *
  clear hgad
  go_loopw [8, 17] (fun v i wr => ∃ (k : Nat) (done : List (Int × Int)), k ≤ N ∧ done.length = k ∧ i = .int .i64 k ∧ Below w1.heap.size w1 wr ∧ wr.ownsRow w1.heap.size 41 2 v done.length (rgC done) ∧ Hid ((pcs.take k).mapM rgP = some done)) (fun _ i _ => N - (intOf i).toNat)
  case atStart => exact ⟨0, [], Nat.zero_le _, rfl, rfl, Below.refl _ _, World.ownsRow_nil _ _ _ _, Lib.hid (by simp)⟩
  case round =>
    obtain ⟨k, done, hk, hdl, rfl, hb, hown, HA⟩ := hrel
    by_cases hlt : k < N
    · have hkr : k < pcs.length := by have := HN.out; omega
      have hki : (k : Int) < (N : Int) := by omega
      have hki0 : (0 : Int) ≤ (k : Int) := by omega
      obtain ⟨ad, u, ead, hadb, hu, x0⟩ := ((HRD.out.below hb).more hb.size).at_ (k := k) hlt
      obtain rfl : gad = ad := by injection ead
      have hu2 : u = .string (str pcs[k]) := by
        rw [strC_get, List.getElem?_eq_getElem hkr] at hu
        injection hu with hu
        exact hu.symm
      rw [hu2] at x0
      have hmem : pcs[k] ∈ pcs := List.getElem_mem hkr
      have hbw : Below w.heap.size w wr := bel_call hb1 hb
      have CC := CR.out _ hmem wr hbw
      have HTK : Hid (pcs.take (k + 1) = pcs.take k ++ [pcs[k]]) := Lib.hid (List.take_succ_eq_append_getElem hkr)
      have HM := Lib.hid hmem
      clear hu hu2 hmem ead
      generalize pcs[k] = pc at *
      cases hx : rgP pc with
      | none =>
        have CN := Lib.hid (rg_none (hx ▸ CC))
        have HE : Hid (res = none) := Lib.hid (by rw [HW.out]; exact mapM_stop HM.out hx)
        clear hx CC CR HTK HA hown HW
        go_wp2_with (go_at_call 30; (with_reducible refine (CN.out).mono ?_); rintro e w2 ⟨va, vb, rfl, hb2⟩; dsimp only)
        exact bodyPost_ret (v := .tuple #[.slice none 0 0, .bool false]) (by simp [results, Tryd.results29, go_sem]) rfl ⟨.inl ⟨HE.out, rfl⟩, bel_alloc (bel_call hbw hb2) _⟩
      | some x =>
        have CG := Lib.hid (rg_some (hx ▸ CC))
        have HA2 : ∀ y : Int × Int, y = x → Hid ((pcs.take (k + 1)).mapM rgP = some (done ++ [y])) := fun y hy => Lib.hid (by
          rw [HTK.out]
          exact mapM_snoc HA.out (by rw [hy]; exact hx))
        obtain ⟨A1, c1, rfl, hc1, hm1, -, -⟩ := own_shape hown
        clear hx CC CR HTK HA HW
        go_wp2_with (first
          | (go_at_call 30; (with_reducible refine (CG.out).mono ?_); rintro e w2 ⟨rfl, hb2⟩; (have hbx := bel_call hb hb2); (have hb4 := bel_alloc hbx (.cells #[.int .i64 x.1, .int .i64 x.2] 41)); (have hb5 := bel_alloc hb4 (.cells #[.int .i64 x.1, .int .i64 x.2] 41)); (have hown5 := own_later hown (bel_alloc (bel_alloc hb2 (.cells #[.int .i64 x.1, .int .i64 x.2] 41)) (.cells #[.int .i64 x.1, .int .i64 x.2] 41))); (have hrd5 := Reads.of_own (own_lit (w2.alloc (.cells #[.int .i64 x.1, .int .i64 x.2] 41)) (rgCell x) 41 (base := 0) (k := 2) (Nat.zero_le _) rfl)); (rw [show (w2.alloc (.cells #[.int .i64 x.1, .int .i64 x.2] 41)).heap.size = w2.heap.size + 1 from by simp] at hrd5); dsimp only)
          | (at_builtin; refine wpList_append_any _ rfl (.tmp 29) (.tmp 31) _ rfl w1.heap.size 41 i0 _ 2 16 Tryd.underlying38 hi0 hz0 hz1 hz2 rfl (by omega) (.slice A1 done.length c1) done.length _ rfl hown5 _ _ 1 1 (rgCell x) rfl hrd5 (by intro u hu; simp [rgCell] at hu; rcases hu with rfl | rfl <;> rfl) (by unfold maxLen; omega) (by omega) hb5.size ?_; intro v6 w6 hown6 hg6 hat6))
        have hB6 : Below w1.heap.size w1 w6 := hb5.grown hg6 hb5.size (fun j hj => (hown5.lt j hj).1)
        go_roundw
        case rel => exact ⟨k + 1, done ++ [x], by omega, by simp; omega, by go_num, hB6, by rw [rgC_snoc]; simpa using hown6, HA2 _ rfl⟩
        case measure => simp [intOf]; omega
    · have hki : ¬ ((k : Int) < (N : Int)) := by omega
      have HE : Hid (res = some done) := Lib.hid (by rw [HW.out, ← HA.out, List.take_of_length_le (by have := HN.out; omega)])
      obtain ⟨A1, c1, rfl, hc1, hm1, -, -⟩ := own_shape hown
      clear hlt hk HA
      go_wp2_with fail
      exact bodyPost_ret (v := .tuple #[.slice A1 done.length c1, .bool true]) (by simp [results, Tryd.results29, go_sem, hdl]) rfl ⟨.inr ⟨done, A1, c1, HE.out, rfl, hc1, own_base hown hb1.size⟩, bel_call hb1 hb⟩
end Ru
end Go.Proofs.YtkhnjlkamleldaaDoor
