/- The law RuleParts returns true. -/
import Derived.Test.YtkhnjlkamleldaaDoorRuLawKit
import Derived.Test.YtkhnjlkamleldaaDoorRuRuled
namespace Go.Proofs.YtkhnjlkamleldaaDoor
namespace Ru
open Go.RowKit Go.Maps D

theorem one_ok {r : List (List RelV)} {p : List RelV} (h : ruleF r = 0) (hp : p ∈ r) : ruleF [p] = 0 := by
  obtain ⟨hok, h20⟩ := ruleF_zero.1 h
  refine ruleF_zero.2 ⟨⟨by simp, fun q hq => ?_⟩, ?_⟩
  · obtain rfl := List.mem_singleton.1 hq; exact hok.2 _ hp
  · have := total_ge hp
    simp [total] at *
    omega
theorem rel_ok {r : List (List RelV)} {p : List RelV} {x : RelV} (h : ruleF r = 0) (hp : p ∈ r) (hx : x ∈ p) : ruleF [[x]] = 0 := by
  obtain ⟨hok, h20⟩ := ruleF_zero.1 h
  refine ruleF_zero.2 ⟨⟨by simp, fun q hq => ?_⟩, by simp [total]⟩
  obtain rfl := List.mem_singleton.1 hq
  exact ⟨by simp, fun y hy => by obtain rfl := List.mem_singleton.1 hy; exact (hok.2 _ hp).2 _ hx⟩
theorem one_h (p : List RelV) (I V W F T : Int) : ruleH [p] I V W F T = partH p I V W F T := by simp [ruleH]
theorem rel_h (x : RelV) (I V W F T : Int) : ruleH [[x]] I V W F T = relH x I V W F T := by simp [ruleH, partH]
theorem tmap {α β : Type} (f : α → β) (l : List α) (k : Nat) (h : k < l.length) : ((l.drop k).take 1).map f = [f l[k]] := by
  rw [List.drop_eq_getElem_cons h]
  rfl
set_option maxHeartbeats 8000000 in
set_option maxRecDepth 100000 in
theorem parts_any (A : Option Addr) (n c : Nat) (ps : List PartX) (I V W F T : Int) (w : World) (hR : RuleAt w w.heap.size A n ps) (hB : Bulk ps) (hc : n ≤ c)
    (hI : I64 I) (hV : I64 V) (hW : I64 W) (hF : I64 F) (hT : I64 T) (hE : Env w) :
    Calls Tryd.prog 4 #[.slice A n c, .agg #[.int .i64 I, .int .i64 V, .int .i64 W, .int .i64 F, .int .i64 T]] w (TrueB w) := by
  have hlen := hR.len
  have hn : n ≤ 1048576 := by have := hB.few; omega
  have htot : total (ruleV ps) ≤ 1048576 * 1048576 := by
    have h2 : total (ruleV ps) ≤ ps.length * 1048576 := by
      unfold total
      rw [show (ruleV ps).map List.length = ps.map fun p => p.xs.length from by simp [ruleV, relsV]]
      exact sum_le (fun p => p.xs.length) 1048576 ps fun p hp => (hB.all p hp).1
    exact Nat.le_trans h2 (Nat.mul_le_mul_right _ hB.few)
  have H0 : Hid (Bs w _ [_]) := Lib.hid (bs_one w [.int .i64 I, .int .i64 V, .int .i64 W, .int .i64 F, .int .i64 T] 33)
  have RX := Lib.hid fun (W : World) (hW : Below w.heap.size w W) => (hR.below hW).more hW.size
  have CF := Lib.hid fun (W : World) (hW : Below w.heap.size w W) => ruled_any W (hE.later hW)
  have HR := Lib.hid fun (W' : World) (hW' : Below w.heap.size w W') => holds_any A n c ps I V W F T W' (RX.out W' hW') (by unfold maxLen; omega) hB.fewS.few hB.byt (by omega) hI hV hW hF hT
  have HS := Lib.hid fun (A3 : Option Addr) (c3 : Nat) (qs : List PartX) (W' : World) (h3 : RuleAt W' W'.heap.size A3 1 qs) (hz : Few qs) (hy : Byt qs) (ht : total (ruleV qs) < 4611686018427387904) => holds_any A3 1 c3 qs I V W F T W' h3 (by unfold maxLen; omega) hz hy ht hI hV hW hF hT
  have HB := Lib.hid hB
  have HL := Lib.hid hlen
  have hb0 := H0.out.below
  clear hR hE hI hV hW hF hT htot hB hlen
  by_cases h0 : ruleF (ruleV ps) = 0
  · have C1 := Lib.hid fun (W' : World) (hW' : Below w.heap.size w W') => holds_yes (HR.out W' hW') h0
    have H1 := Lib.hid h0
    have HTK := Lib.hid fun k hk => rule_take (ruleV ps) I V W F T k hk
    have HT0 : Hid (ruleH ((ruleV ps).take n) I V W F T = ruleH (ruleV ps) I V W F T) := Lib.hid (by rw [List.take_of_length_le (by have := HL.out; simp [ruleV]; omega)])
    generalize hres : ruleH (ruleV ps) I V W F T = res at *
    clear hres HR h0
    go_enter Tryd.func4, Tryd.ntmps4
    go_wp2_with (first
      | (go_at_call 7; (with_reducible refine (CF.out _ hb0).mono ?_); rintro e w1 ⟨rfl, hb1⟩; (have HB1 := Lib.hid (H0.out.call hb1)); (obtain ⟨o0, o1, o2, o3, o4, -⟩ := HB1.out.cells); (have hB1 := HB1.out.below))
      | (go_at_call 11; (with_reducible refine (C1.out _ hB1).mono ?_); rintro e w2 ⟨rfl, hb2⟩; (have HB2 := Lib.hid (HB1.out.call hb2)); dsimp only))
    clear o0 o1 o2 o3 o4 CF C1 hB1
    go_loopw [8, 9] (fun s i wr => ∃ k : Nat, k ≤ n ∧ i = .int .i64 k ∧ s = .bool (ruleH ((ruleV ps).take k) I V W F T) ∧ Hid (Bs w wr [(w.heap.size, [.int .i64 I, .int .i64 V, .int .i64 W, .int .i64 F, .int .i64 T])])) (fun _ i _ => n - (intOf i).toNat)
    case atStart => exact ⟨0, Nat.zero_le _, rfl, by simp [ruleH], HB2⟩
    case round =>
      obtain ⟨k, hk, rfl, rfl, HBr⟩ := hrel
      by_cases hlt : k < n
      · have hkp : k < ps.length := by have := HL.out; omega
        obtain ⟨ad, rfl, hadb, -, -, -⟩ := (RX.out _ HBr.out.below).at_ (List.getElem?_eq_getElem hkp)
        have HC : Hid (∀ W', Below w.heap.size w W' → W'.cell? (ad.add k) = some (.slice ps[k].A ps[k].xs.length ps[k].c) ∧ ps[k].xs.length ≤ ps[k].c ∧ RelsAt W' W'.heap.size ps[k].A ps[k].xs.length ps[k].xs) := Lib.hid fun W' hW => by
          obtain ⟨ad', e, _, y0, y1, y2⟩ := (RX.out _ hW).at_ (List.getElem?_eq_getElem hkp)
          injection e with e; subst e
          exact ⟨y0, y1, y2⟩
        have HM : Hid (relsV ps[k].xs ∈ ruleV ps) := Lib.hid (List.mem_map.2 ⟨_, List.getElem_mem hkp, rfl⟩)
        have hall := HB.out.all _ (List.getElem_mem hkp)
        have hbyt := HB.out.byt _ (List.getElem_mem hkp)
        have hck : ¬ c = k := by omega
        have CP : Hid (∀ W', Below w.heap.size w W' → Calls Tryd.prog 11 #[.slice (some (ad.add k)) 1 (c - k), .agg #[.int .i64 I, .int .i64 V, .int .i64 W, .int .i64 F, .int .i64 T]] W' (HoldsYes W' (partH (relsV ps[k].xs) I V W F T))) := Lib.hid fun W' hW' => by
          have h1 := (RX.out W' hW').piece (i := k) (k := 1) (cap := c) (by omega) hc
          rw [if_neg hck, Option.map_some, Nat.mul_one] at h1
          have e1 : (ps.drop k).take 1 = [ps[k]] := by have := tmap id ps k hkp; simpa using this
          rw [e1] at h1
          have h2 := HS.out (some (ad.add k)) (c - k) [ps[k]] W' h1 (fun p hp => by obtain rfl := List.mem_singleton.1 hp; exact ⟨by have := hall.1; unfold maxLen; omega, fun x hx => by have := hall.2 x hx; unfold maxLen; omega⟩) (fun p hp => by obtain rfl := List.mem_singleton.1 hp; exact hbyt) (by simp [ruleV, relsV, total]; have := hall.1; omega)
          have h3 := holds_yes h2 (one_ok H1.out HM.out)
          rwa [show ruleV [ps[k]] = [relsV ps[k].xs] from rfl, one_h] at h3
        have HK := Lib.hid (HTK.out k (by simpa [ruleV] using hkp))
        have HX : Hid ((ruleV ps)[k]'(by simpa [ruleV] using hkp) = relsV ps[k].xs) := Lib.hid (by simp [ruleV])
        rw [HX.out] at HK
        have HAL := Lib.hid hall
        have HBY := Lib.hid hbyt
        clear HX hall hbyt
        generalize ps[k] = p at *
        obtain ⟨pA, pc, xs⟩ := p
        dsimp only at *
        have hki : (k : Int) < (n : Int) := by omega
        have hwk : IntKind.i64.wrap ((k : Int) + 1) = (k : Int) + 1 := by rw [IntKind.wrap_i64]; omega
        have hk1 : (k : Int) + 1 ≤ (n : Int) := by omega
        have hk1c : (k : Int) + 1 ≤ (c : Int) := by omega
        have hknn : (0 : Int) ≤ (k : Int) := by omega
        have hk0 : (k : Int) ≤ (k : Int) + 1 := by omega
        go_upto_region 11 with fail
        have HSX : Hid (∀ wx, Below wr.heap.size wr wx → Below wr.heap.size wr wx ∧ wx.cell? ⟨w.heap.size, 0, none⟩ = some (.int .i64 I) ∧ wx.cell? ⟨w.heap.size, 1, none⟩ = some (.int .i64 V) ∧ wx.cell? ⟨w.heap.size, 2, none⟩ = some (.int .i64 W) ∧ wx.cell? ⟨w.heap.size, 3, none⟩ = some (.int .i64 F) ∧ wx.cell? ⟨w.heap.size, 4, none⟩ = some (.int .i64 T)) := Lib.hid fun wx hb => by
          obtain ⟨o0, o1, o2, o3, o4, -⟩ := (HBr.out.call hb).cells
          exact ⟨hb, o0, o1, o2, o3, o4⟩
        have hr0 := Below.refl wr.heap.size wr
        obtain ⟨-, o0, o1, o2, o3, o4⟩ := HSX.out _ hr0
        have CP2 : Hid (∀ W', Below wr.heap.size wr W' → Calls Tryd.prog 11 #[.slice (some (ad.add k)) 1 (c - k), .agg #[.int .i64 I, .int .i64 V, .int .i64 W, .int .i64 F, .int .i64 T]] W' (HoldsYes W' (partH (relsV xs) I V W F T))) := Lib.hid fun W' hW' => CP.out W' (bel_call HBr.out.below hW')
        go_region_held3 (fun wx => Below wr.heap.size wr wx ∧ wx.cell? ⟨w.heap.size, 0, none⟩ = some (.int .i64 I) ∧ wx.cell? ⟨w.heap.size, 1, none⟩ = some (.int .i64 V) ∧ wx.cell? ⟨w.heap.size, 2, none⟩ = some (.int .i64 W) ∧ wx.cell? ⟨w.heap.size, 3, none⟩ = some (.int .i64 F) ∧ wx.cell? ⟨w.heap.size, 4, none⟩ = some (.int .i64 T))
          (first | exact HSX.out _ (by assumption) | exact HSX.out _ (Below.drew (by assumption)))
          (first
            | (go_at_call 11; (with_reducible refine (CP2.out _ ?_).mono ?_); (first | assumption | exact Below.drew (by assumption)); rintro e wy ⟨rfl, hby⟩; (have hTy : Below wr.heap.size wr wy := by first | exact bel_call (by assumption) hby | exact bel_call (Below.drew (by assumption)) hby); dsimp only))
        have hTB := Lib.hid (HBr.out.call hTy)
        have hbelT := hTB.out.below
        clear o0 o1 o2 o3 o4 HSX hr0 CP2 CP
        generalize hsm : ruleH ((ruleV ps).take k) I V W F T = sm at *
        clear hsm
        generalize hpt : partH (relsV xs) I V W F T = pt at *
        have HPT := Lib.hid hpt
        clear hpt
        go_upto_region 14 with fail
        go_cut [8] (fun s wx => s = .bool (sm || pt) ∧ wy = wx)
        case first =>
          cases sm
          all_goals
            go_wp2_with fail
            go_meet
            exact ⟨rfl, rfl⟩
        case rest =>
          obtain ⟨rfl, rfl⟩ := hcut
          rw [← HK.out]
          have HTK2 := Lib.hid fun q hq => part_take (relsV xs) I V W F T q hq
          have hxl := HAL.out.1
          generalize hln : xs.length = m at *
          have HXL := Lib.hid hln
          clear hln hTy
          obtain ⟨hcell0, hpcm, -⟩ := HC.out _ hbelT
          go_wp2_with fail
          go_loopw [12, 13] (fun al j wi => ∃ q : Nat, q ≤ m ∧ j = .int .i64 q ∧ al = .bool (partH ((relsV xs).take q) I V W F T) ∧ Hid (Bs w wi [(w.heap.size, [.int .i64 I, .int .i64 V, .int .i64 W, .int .i64 F, .int .i64 T])])) (fun _ j _ => m - (intOf j).toNat)
          case atStart => exact ⟨0, Nat.zero_le _, rfl, by simp [partH], hTB⟩
          case round =>
            obtain ⟨q, hq, rfl, rfl, HI⟩ := hrel
            clear hcell0
            obtain ⟨hcell, -, hrels⟩ := HC.out _ HI.out.below
            by_cases hqm : q < m
            · have hqx : q < xs.length := by have := HXL.out; omega
              have hqi : (q : Int) < (m : Int) := by omega
              have hwq : IntKind.i64.wrap ((q : Int) + 1) = (q : Int) + 1 := by rw [IntKind.wrap_i64]; omega
              have hq1 : (q : Int) + 1 ≤ (m : Int) := by omega
              have hq1c : (q : Int) + 1 ≤ (pc : Int) := by omega
              have hqnn : (0 : Int) ≤ (q : Int) := by omega
              have hq0 : (q : Int) ≤ (q : Int) + 1 := by omega
              have hcq : ¬ pc = q := by omega
              obtain ⟨a2, rfl, -, -, -, -, -, -, -⟩ := hrels.at_ (List.getElem?_eq_getElem hqx)
              have HXM : Hid (xs[q].v ∈ relsV xs) := Lib.hid (List.mem_map.2 ⟨_, List.getElem_mem hqx, rfl⟩)
              have hrl := HAL.out.2 _ (List.getElem_mem hqx)
              have hrb := HBY.out _ (List.getElem_mem hqx)
              have CH : Hid (∀ W', Below wr.heap.size wr W' → W'.cell? ⟨wr.heap.size, 0, none⟩ = some (.slice (some (a2.add (q * 4))) 1 (pc - q)) → Calls Tryd.prog 11 #[.slice (some ⟨wr.heap.size, 0, none⟩) 1 1, .agg #[.int .i64 I, .int .i64 V, .int .i64 W, .int .i64 F, .int .i64 T]] W' (HoldsYes W' (relH xs[q].v I V W F T))) := Lib.hid fun W' hW' hcl => by
                have h1 := (HC.out W' (bel_call HI.out.below hW')).2.2.piece (i := q) (k := 1) (cap := pc) (by omega) hpcm
                rw [if_neg hcq, Option.map_some] at h1
                have e1 : (xs.drop q).take 1 = [xs[q]] := by have := tmap id xs q hqx; simpa using this
                rw [e1] at h1
                have hra : RuleAt W' W'.heap.size (some ⟨wr.heap.size, 0, none⟩) 1 [⟨some (a2.add (q * 4)), pc - q, [xs[q]]⟩] := ⟨rfl, ⟨rfl, fun _ => ⟨_, rfl, World.block_lt_of_cell? _ _ hcl, fun j u hu => by
                  match j with
                  | 0 =>
                    have e0 : (⟨wr.heap.size, 0, none⟩ : Addr).add 0 = ⟨wr.heap.size, 0, none⟩ := by unfold Addr.add; simp
                    have hu2 : some ((⟨some (a2.add (q * 4)), pc - q, [xs[q]]⟩ : PartX).val) = some u := by simpa [partC] using hu
                    rw [e0, hcl]
                    exact hu2
                  | j + 1 => simp [partC] at hu⟩⟩, fun p hp => by
                    obtain rfl := List.mem_singleton.1 hp
                    exact ⟨by show 1 ≤ pc - q; omega, h1⟩⟩
                have h2 := HS.out _ 1 _ W' hra (fun p hp => by obtain rfl := List.mem_singleton.1 hp; exact ⟨by unfold maxLen; show 1 ≤ _; omega, fun x hx => by obtain rfl := List.mem_singleton.1 hx; unfold maxLen; omega⟩) (fun p hp => by obtain rfl := List.mem_singleton.1 hp; exact fun x hx => by obtain rfl := List.mem_singleton.1 hx; exact hrb) (by simp [ruleV, relsV, total])
                have h3 := holds_yes h2 (rel_ok H1.out HM.out HXM.out)
                rwa [show ruleV [(⟨some (a2.add (q * 4)), pc - q, [xs[q]]⟩ : PartX)] = [[xs[q].v]] from rfl, rel_h] at h3
              have HQK := Lib.hid (HTK2.out q (by simpa [relsV] using hqx))
              have HQX : Hid ((relsV xs)[q]'(by simpa [relsV] using hqx) = xs[q].v) := Lib.hid (by simp [relsV])
              rw [HQX.out] at HQK
              clear HQX hrl hrb HXM
              generalize relH xs[q].v I V W F T = rh at *
              go_upto_region 19 with fail
              have HSY : Hid (∀ wx, Below wr.heap.size wr wx → Below wr.heap.size wr wx ∧ wx.cell? (ad.add k) = some (.slice (some a2) m pc) ∧ wx.cell? ⟨w.heap.size, 0, none⟩ = some (.int .i64 I) ∧ wx.cell? ⟨w.heap.size, 1, none⟩ = some (.int .i64 V) ∧ wx.cell? ⟨w.heap.size, 2, none⟩ = some (.int .i64 W) ∧ wx.cell? ⟨w.heap.size, 3, none⟩ = some (.int .i64 F) ∧ wx.cell? ⟨w.heap.size, 4, none⟩ = some (.int .i64 T)) := Lib.hid fun wx hb => by
                obtain ⟨o0, o1, o2, o3, o4, -⟩ := (HI.out.call hb).cells
                exact ⟨hb, (HC.out _ (bel_call HI.out.below hb)).1, o0, o1, o2, o3, o4⟩
              have hr0 := Below.refl wr.heap.size wr
              obtain ⟨-, -, o0, o1, o2, o3, o4⟩ := HSY.out _ hr0
              have hnew : (wr.alloc (.cells #[.slice (some (a2.add (q * 4))) 1 (pc - q)] 36)).cell? ⟨wr.heap.size, 0, none⟩ = some (.slice (some (a2.add (q * 4))) 1 (pc - q)) := by simp
              have hbn : Below wr.heap.size wr (wr.alloc (.cells #[.slice (some (a2.add (q * 4))) 1 (pc - q)] 36)) := hr0.alloc (Nat.le_refl _) _
              go_region_held3 (fun wx => Below wr.heap.size wr wx ∧ wx.cell? (ad.add k) = some (.slice (some a2) m pc) ∧ wx.cell? ⟨w.heap.size, 0, none⟩ = some (.int .i64 I) ∧ wx.cell? ⟨w.heap.size, 1, none⟩ = some (.int .i64 V) ∧ wx.cell? ⟨w.heap.size, 2, none⟩ = some (.int .i64 W) ∧ wx.cell? ⟨w.heap.size, 3, none⟩ = some (.int .i64 F) ∧ wx.cell? ⟨w.heap.size, 4, none⟩ = some (.int .i64 T))
                (first | exact HSY.out _ (by assumption) | exact HSY.out _ (Below.drew (by assumption)))
                (first
                  | (go_at_call 11; (with_reducible refine (CH.out _ ?_ ?_).mono ?_); (first | assumption | exact Below.drew (by assumption)); (first | assumption | (simp only [World.cell?_drew]; assumption)); rintro e wy ⟨rfl, hby⟩; (have hTy : Below wr.heap.size wr wy := by first | exact bel_call (by assumption) hby | exact bel_call (Below.drew (by assumption)) hby); dsimp only))
              have hTB2 := Lib.hid (HI.out.call hTy)
              clear o0 o1 o2 o3 o4 HSY hr0 CH hnew hbn hcell
              generalize partH ((relsV xs).take q) I V W F T = al at *
              cases al
              all_goals
                go_wp2_with fail
                go_roundw
                case rel => exact ⟨q + 1, by omega, by go_num, by rw [HQK.out]; rfl, hTB2⟩
                case measure => simp [intOf]; omega
            · have hqi : ¬ ((q : Int) < (m : Int)) := by omega
              have HALL : Hid ((relsV xs).take q = relsV xs) := Lib.hid (List.take_of_length_le (by have := HXL.out; simp [relsV]; omega))
              rw [HALL.out, HPT.out]
              clear hqm hq
              cases pt
              all_goals
                go_wp2_with fail
                go_roundw
                case rel => exact ⟨k + 1, by omega, by go_num, rfl, HI⟩
                case measure => simp [intOf]; omega
      · have hki : ¬ ((k : Int) < (n : Int)) := by omega
        obtain rfl : k = n := by omega
        have HE : Hid (ruleH ((ruleV ps).take k) I V W F T = res) := HT0
        rw [HE.out]
        clear hlt hk
        cases res
        all_goals
          go_wp2_with fail
          go_ret
          exact ⟨rfl, HBr.out.below⟩
  · have C1 := Lib.hid fun (W' : World) (hW' : Below w.heap.size w W') => holds_no (HR.out W' hW') h0
    clear HR h0
    go_enter Tryd.func4, Tryd.ntmps4
    go_wp2_with (first
      | (go_at_call 7; (with_reducible refine (CF.out _ hb0).mono ?_); rintro e w1 ⟨rfl, hb1⟩; (have HB1 := Lib.hid (H0.out.call hb1)); (obtain ⟨o0, o1, o2, o3, o4, -⟩ := HB1.out.cells); (have hB1 := HB1.out.below))
      | (go_at_call 11; (with_reducible refine (C1.out _ hB1).mono ?_); rintro e w2 ⟨z, rfl, hb2⟩; dsimp only))
    go_ret
    exact ⟨rfl, bel_call hB1 hb2⟩
end Ru
end Go.Proofs.YtkhnjlkamleldaaDoor
