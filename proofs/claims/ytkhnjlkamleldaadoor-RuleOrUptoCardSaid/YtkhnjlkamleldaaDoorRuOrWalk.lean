/- The law RuleOr returns true. -/
import Derived.Test.YtkhnjlkamleldaaDoorRuLawKit
namespace Go.Proofs.YtkhnjlkamleldaaDoor
namespace Ru
open Go.RowKit Go.Maps D

theorem own_none (w : World) (t : TypeId) {base : Nat} (hb : base ≤ w.heap.size) : (w.alloc (.cells #[] t)).ownsRow base t 1 (.slice (some ⟨w.heap.size, 0, none⟩) 0 0) 0 [] :=
  ⟨rfl, .inr ⟨w.heap.size, 0, #[], rfl, hb, heap_alloc_new w _, Nat.le_refl _, by unfold maxLen; omega, by simp, by simp⟩⟩
theorem partC_one (ps : List PartX) : ∀ u ∈ partC ps, u.oneCell' = true := by
  intro u hu
  obtain ⟨x, _, rfl⟩ := List.mem_map.1 hu
  rfl
theorem rule_join {w : World} {A A2 A3 : Option Addr} {n l B : Nat} {ps qs : List PartX} (hx : RuleAt w B A n ps) (hz : RuleAt w B A2 l qs) (hr : Reads w B 1 A3 (n + l) (partC ps ++ partC qs)) : RuleAt w B A3 (n + l) (ps ++ qs) :=
  ⟨by rw [List.length_append, hx.len, hz.len], by rw [show partC (ps ++ qs) = partC ps ++ partC qs from by simp [partC]]; exact hr, fun x hm => by
    rcases List.mem_append.1 hm with hm | hm
    · exact hx.parts x hm
    · exact hz.parts x hm⟩
theorem joinL_app (sep : List UInt8) : ∀ {l m : List (List UInt8)}, l ≠ [] → m ≠ [] → joinL sep (l ++ m) = joinL sep l ++ (sep ++ joinL sep m)
  | [], _, h, _ => absurd rfl h
  | [p], [], _, h => absurd rfl h
  | [p], q :: m, _, _ => rfl
  | p :: q :: l, m, _, hm => by
    have := joinL_app sep (l := q :: l) (m := m) (by simp) hm
    simp only [List.cons_append, joinL] at *
    rw [this]
    simp
theorem rule_or {r q : List (List RelV)} (hr : r ≠ []) (hq : q ≠ []) : str (ruleT (r ++ q)) = str (ruleT r) ++ ⟨#[32, 111, 114, 32]⟩ ++ str (ruleT q) := by
  rw [show (⟨#[32, 111, 114, 32]⟩ : ByteArray) = str [32, 111, 114, 32] from rfl, ba_add, ba_add]
  unfold ruleT
  rw [List.map_append, joinL_app _ (by simpa using hr) (by simpa using hq), List.append_assoc]
def tot (ps : List PartX) : Prop := total (ruleV ps) < 1152921504606846976
theorem Bulk.tot {ps : List PartX} (h : Bulk ps) : tot ps := by
  unfold Ru.tot
  have h1 := h.few
  have h2 : total (ruleV ps) ≤ ps.length * 1048576 := by
    unfold total
    rw [show (ruleV ps).map List.length = ps.map fun p => p.xs.length from by simp [ruleV, relsV]]
    exact sum_le (fun p => p.xs.length) 1048576 ps fun p hp => (h.all p hp).1
  have h3 : ps.length * 1048576 ≤ 1048576 * 1048576 := Nat.mul_le_mul_right _ h1
  omega
set_option maxHeartbeats 8000000 in
set_option maxRecDepth 100000 in
theorem or_any (A : Option Addr) (n c : Nat) (ps : List PartX) (A2 : Option Addr) (m c2 : Nat) (qs : List PartX) (I V W F T : Int) (w : World) (hR : RuleAt w w.heap.size A n ps) (hQ : RuleAt w w.heap.size A2 m qs) (hB : Bulk ps) (hC : Bulk qs)
    (hI : I64 I) (hV : I64 V) (hW : I64 W) (hF : I64 F) (hT : I64 T) (hE : Env w) :
    Calls Tryd.prog 6 #[.slice A n c, .slice A2 m c2, .agg #[.int .i64 I, .int .i64 V, .int .i64 W, .int .i64 F, .int .i64 T]] w (TrueB w) := by
  obtain ⟨i0, hi0, hz0, hz1, hz2⟩ := info_parts part_info
  have hlen := hR.len
  have hlen2 := hQ.len
  have hn : n ≤ 1048576 := by have := hB.few; omega
  have hm : m ≤ 1048576 := by have := hC.few; omega
  have tB := hB.tot
  have tC := hC.tot
  unfold tot at tB tC
  have hfw : Few (ps ++ qs) := fun p hp => by
    rcases List.mem_append.1 hp with hp | hp
    · exact hB.fewS.few p hp
    · exact hC.fewS.few p hp
  have hfs : FewS (ps ++ qs) := fun p hp => by
    rcases List.mem_append.1 hp with hp | hp
    · exact hB.fewS p hp
    · exact hC.fewS p hp
  have hby : Byt (ps ++ qs) := fun p hp => by
    rcases List.mem_append.1 hp with hp | hp
    · exact hB.byt p hp
    · exact hC.byt p hp
  have hva : ruleV (ps ++ qs) = ruleV ps ++ ruleV qs := by simp [ruleV]
  have hta : total (ruleV (ps ++ qs)) = total (ruleV ps) + total (ruleV qs) := by rw [hva]; simp [total]
  have H0 : Hid (Bs w _ [_]) := Lib.hid (bs_one w [.int .i64 I, .int .i64 V, .int .i64 W, .int .i64 F, .int .i64 T] 33)
  have RX := Lib.hid fun (W : World) (hW : Below w.heap.size w W) => (hR.below hW).more hW.size
  have RZ := Lib.hid fun (W : World) (hW : Below w.heap.size w W) => (hQ.below hW).more hW.size
  have CF := Lib.hid fun (W : World) (hW : Below w.heap.size w W) => parseOne_any W (hE.later hW)
  have HR := Lib.hid fun (W' : World) (hW' : Below w.heap.size w W') => holds_any A n c ps I V W F T W' (RX.out W' hW') (by unfold maxLen; omega) hB.fewS.few hB.byt (by omega) hI hV hW hF hT
  have HQ := Lib.hid fun (W' : World) (hW' : Below w.heap.size w W') => holds_any A2 m c2 qs I V W F T W' (RZ.out W' hW') (by unfold maxLen; omega) hC.fewS.few hC.byt (by omega) hI hV hW hF hT
  have HX := Lib.hid fun (A3 : Option Addr) (c3 : Nat) (W' : World) (h3 : RuleAt W' W'.heap.size A3 (n + m) (ps ++ qs)) => holds_any A3 (n + m) c3 (ps ++ qs) I V W F T W' h3 (by unfold maxLen; omega) hfw hby (by omega) hI hV hW hF hT
  have TR := Lib.hid fun (W' : World) (hW' : Below w.heap.size w W') => text_any A n c ps W' (RX.out W' hW') (by omega) hB.fewS hB.byt (hE.later hW')
  have TQ := Lib.hid fun (W' : World) (hW' : Below w.heap.size w W') => text_any A2 m c2 qs W' (RZ.out W' hW') (by omega) hC.fewS hC.byt (hE.later hW')
  have TX := Lib.hid fun (A3 : Option Addr) (c3 : Nat) (W' : World) (hW' : Below w.heap.size w W') (h3 : RuleAt W' W'.heap.size A3 (n + m) (ps ++ qs)) => text_any A3 (n + m) c3 (ps ++ qs) W' h3 (by omega) hfs hby (hE.later hW')
  have HH : Hid (ruleH (ruleV (ps ++ qs)) I V W F T = (ruleH (ruleV ps) I V W F T || ruleH (ruleV qs) I V W F T)) := Lib.hid (by rw [hva]; exact List.any_append)
  have HT : Hid (ruleF (ruleV ps) = 0 → ruleF (ruleV qs) = 0 → str (ruleT (ruleV (ps ++ qs))) = str (ruleT (ruleV ps)) ++ ⟨#[32, 111, 114, 32]⟩ ++ str (ruleT (ruleV qs)) ∧ (str (ruleT (ruleV ps))).size ≤ 1073741824 ∧ (str (ruleT (ruleV qs))).size ≤ 1073741824) := Lib.hid fun h1 h2 =>
    ⟨by rw [hva]; exact rule_or (ruleF_zero.1 h1).1.1 (ruleF_zero.1 h2).1.1, back_size hB.all h1, back_size hC.all h2⟩
  have HPP := Lib.hid (partC_one ps)
  have HPQ := Lib.hid (partC_one qs)
  clear hR hQ hB hC hE hI hV hW hF hT hfw hfs hby hva hta tB tC hlen hlen2
  have hb0 := H0.out.below
  by_cases h1 : ruleF (ruleV ps) = 0
  · by_cases h2 : ruleF (ruleV qs) = 0
    · by_cases h3 : ruleF (ruleV (ps ++ qs)) = 0
      · skip
        have C1 := Lib.hid fun (W : World) (hW : Below w.heap.size w W) => holds_yes (HR.out W hW) h1
        have C2 := Lib.hid fun (W : World) (hW : Below w.heap.size w W) => holds_yes (HQ.out W hW) h2
        have C3 := Lib.hid fun (A3 : Option Addr) (c3 : Nat) (W : World) (g3 : RuleAt W W.heap.size A3 (n + m) (ps ++ qs)) => holds_yes (HX.out A3 c3 W g3) h3
        have D1 := Lib.hid fun (W : World) (hW : Below w.heap.size w W) => text_yes (TR.out W hW) h1
        have D2 := Lib.hid fun (W : World) (hW : Below w.heap.size w W) => text_yes (TQ.out W hW) h2
        have D3 := Lib.hid fun (A3 : Option Addr) (c3 : Nat) (W : World) (hW : Below w.heap.size w W) (g3 : RuleAt W W.heap.size A3 (n + m) (ps ++ qs)) => text_yes (TX.out A3 c3 W hW g3) h3
        obtain ⟨ht, hs1, hs2⟩ := HT.out h1 h2
        have HTX := Lib.hid ht
        rw [HH.out] at C3
        clear HT HH HR HQ HX TR TQ TX ht h1 h2 h3
        generalize ruleH (ruleV ps) I V W F T = a at *
        generalize ruleH (ruleV qs) I V W F T = b at *
        generalize str (ruleT (ruleV ps)) = tp at *
        generalize str (ruleT (ruleV qs)) = tq at *
        have s1 : ¬ 9223372036854775807 < tp.size + 4 := by omega
        have s2 : ¬ 9223372036854775807 < tp.size + 4 + tq.size := by omega
        clear hs1 hs2
        go_enter Tryd.func6, Tryd.ntmps6
        go_upto_region 2 with (first
          | (go_at_call 8; (with_reducible refine (CF.out _ hb0).mono ?_); rintro e w1 ⟨A1, c1, rfl, hb1⟩; (have HB1 := Lib.hid (H0.out.call hb1)); dsimp only))
        have hB1 := HB1.out.below
        have own0 := own_none w1 36 (Nat.le_refl w1.heap.size)
        have hbw0 : Below w1.heap.size w1 (w1.alloc (.cells #[] 36)) := (Below.refl _ _).alloc (Nat.le_refl _) _
        have hb10 := bel_alloc hB1 (.cells #[] 36)
        have rdx := (RX.out _ hb10).row
        go_upto_region 3 with (first
          | (at_builtin; refine wpList_append_any _ rfl (.tmp 26) (.tmp 27) _ rfl w1.heap.size 36 i0 _ 1 24 Tryd.underlying22 hi0 hz0 hz1 hz2 rfl (by omega) (.slice (some ⟨w1.heap.size, 0, none⟩) 0 0) 0 [] rfl own0 _ A n c (partC ps) rfl rdx HPP.out (by unfold maxLen; omega) (by omega) hbw0.size ?_; intro v2 w2 hown2 hg2 hat2; rw [Nat.zero_add, List.nil_append] at hown2; (have hbw2 : Below w1.heap.size w1 w2 := hbw0.grown hg2 hbw0.size (fun j hj => (own0.lt j hj).1)); (have hB2 := bel_call hB1 hbw2); (have rdz := (RZ.out _ hB2).row))
          | (at_builtin; refine wpList_append_any _ rfl (.tmp 28) (.tmp 29) _ rfl w1.heap.size 36 i0 _ 1 24 Tryd.underlying22 hi0 hz0 hz1 hz2 rfl (by omega) v2 n (partC ps) rfl hown2 _ A2 m c2 (partC qs) rfl rdz HPQ.out (by unfold maxLen; omega) (by omega) hbw2.size ?_; intro v3 w3 hown3 hg3 hat3; obtain ⟨A3, c3, rfl, hc3, hm3, hr3, _⟩ := own_shape hown3; (have hbw3 : Below w1.heap.size w1 w3 := hbw2.grown hg3 hbw2.size (fun j hj => (hown2.lt j hj).1)); (have hB3 := bel_call hB1 hbw3); (have hX3 := Lib.hid (rule_join (RX.out _ hB3) (RZ.out _ hB3) hr3))))
        have HB3 := Lib.hid (HB1.out.call hbw3)
        obtain ⟨o0, o1, o2, o3, o4, -⟩ := HB3.out.cells
        clear own0 hbw0 hb10 rdx rdz hown2 hown3 hg2 hg3 hat2 hat3 hbw2 hr3
        go_upto_region 6 with (first
          | (go_at_call 11; (with_reducible refine (C1.out _ hB3).mono ?_); rintro e w4 ⟨rfl, hb4⟩; (have HB4 := Lib.hid (HB3.out.call hb4)); (have hX4 := Lib.hid (hX3.out.later hb4)); (obtain ⟨p0, p1, p2, p3, p4, -⟩ := HB4.out.cells); (have hB4 := HB4.out.below); dsimp only)
          | (go_at_call 11; (with_reducible refine (C2.out _ hB4).mono ?_); rintro e w5 ⟨rfl, hb5⟩; (have HB5 := Lib.hid (HB4.out.call hb5)); (have hX5 := Lib.hid (hX4.out.later hb5)); (obtain ⟨q0, q1, q2, q3, q4, -⟩ := HB5.out.cells); (have hB5 := HB5.out.below); dsimp only)
          | (go_at_call 11; (with_reducible refine (C3.out A3 c3 _ hX5.out).mono ?_); rintro e w6 ⟨rfl, hb6⟩; (have HB6 := Lib.hid (HB5.out.call hb6)); (have hX6 := Lib.hid (hX5.out.later hb6)); (have hB6 := HB6.out.below); dsimp only))
        go_upto_region 13 with (first
          | (go_at_call 9; (with_reducible refine (D1.out _ hB6).mono ?_); rintro e w7 ⟨rfl, hb7⟩; (have hB7 := bel_call hB6 hb7); (have hX7 := Lib.hid (hX6.out.later hb7)); dsimp only)
          | (go_at_call 9; (with_reducible refine (D2.out _ hB7).mono ?_); rintro e w8 ⟨rfl, hb8⟩; (have hB8 := bel_call hB7 hb8); (have hX8 := Lib.hid (hX7.out.later hb8)); dsimp only)
          | (go_at_call 9; (with_reducible refine (D3.out A3 c3 _ hB8 hX8.out).mono ?_); rintro e w9 ⟨rfl, hb9⟩; (have hB9 := bel_call hB8 hb9); rw [HTX.out]; dsimp only))
        clear CF RX RZ C1 C2 C3 D1 D2 D3
        cases a <;> cases b
        all_goals
          go_wp2_with fail
          go_ret
          exact ⟨by simp, hB9⟩
      · skip
        have C1 := Lib.hid fun (W : World) (hW : Below w.heap.size w W) => holds_yes (HR.out W hW) h1
        have C2 := Lib.hid fun (W : World) (hW : Below w.heap.size w W) => holds_yes (HQ.out W hW) h2
        have C3 := Lib.hid fun (A3 : Option Addr) (c3 : Nat) (W : World) (g3 : RuleAt W W.heap.size A3 (n + m) (ps ++ qs)) => holds_no (HX.out A3 c3 W g3) h3
        clear HT HH HR HQ HX TR TQ TX h1 h2 h3
        go_enter Tryd.func6, Tryd.ntmps6
        go_upto_region 2 with (first
          | (go_at_call 8; (with_reducible refine (CF.out _ hb0).mono ?_); rintro e w1 ⟨A1, c1, rfl, hb1⟩; (have HB1 := Lib.hid (H0.out.call hb1)); dsimp only))
        have hB1 := HB1.out.below
        have own0 := own_none w1 36 (Nat.le_refl w1.heap.size)
        have hbw0 : Below w1.heap.size w1 (w1.alloc (.cells #[] 36)) := (Below.refl _ _).alloc (Nat.le_refl _) _
        have hb10 := bel_alloc hB1 (.cells #[] 36)
        have rdx := (RX.out _ hb10).row
        go_upto_region 3 with (first
          | (at_builtin; refine wpList_append_any _ rfl (.tmp 26) (.tmp 27) _ rfl w1.heap.size 36 i0 _ 1 24 Tryd.underlying22 hi0 hz0 hz1 hz2 rfl (by omega) (.slice (some ⟨w1.heap.size, 0, none⟩) 0 0) 0 [] rfl own0 _ A n c (partC ps) rfl rdx HPP.out (by unfold maxLen; omega) (by omega) hbw0.size ?_; intro v2 w2 hown2 hg2 hat2; rw [Nat.zero_add, List.nil_append] at hown2; (have hbw2 : Below w1.heap.size w1 w2 := hbw0.grown hg2 hbw0.size (fun j hj => (own0.lt j hj).1)); (have hB2 := bel_call hB1 hbw2); (have rdz := (RZ.out _ hB2).row))
          | (at_builtin; refine wpList_append_any _ rfl (.tmp 28) (.tmp 29) _ rfl w1.heap.size 36 i0 _ 1 24 Tryd.underlying22 hi0 hz0 hz1 hz2 rfl (by omega) v2 n (partC ps) rfl hown2 _ A2 m c2 (partC qs) rfl rdz HPQ.out (by unfold maxLen; omega) (by omega) hbw2.size ?_; intro v3 w3 hown3 hg3 hat3; obtain ⟨A3, c3, rfl, hc3, hm3, hr3, _⟩ := own_shape hown3; (have hbw3 : Below w1.heap.size w1 w3 := hbw2.grown hg3 hbw2.size (fun j hj => (hown2.lt j hj).1)); (have hB3 := bel_call hB1 hbw3); (have hX3 := Lib.hid (rule_join (RX.out _ hB3) (RZ.out _ hB3) hr3))))
        have HB3 := Lib.hid (HB1.out.call hbw3)
        obtain ⟨o0, o1, o2, o3, o4, -⟩ := HB3.out.cells
        clear own0 hbw0 hb10 rdx rdz hown2 hown3 hg2 hg3 hat2 hat3 hbw2 hr3
        go_upto_region 6 with (first
          | (go_at_call 11; (with_reducible refine (C1.out _ hB3).mono ?_); rintro e w4 ⟨rfl, hb4⟩; (have HB4 := Lib.hid (HB3.out.call hb4)); (have hX4 := Lib.hid (hX3.out.later hb4)); (obtain ⟨p0, p1, p2, p3, p4, -⟩ := HB4.out.cells); (have hB4 := HB4.out.below); dsimp only)
          | (go_at_call 11; (with_reducible refine (C2.out _ hB4).mono ?_); rintro e w5 ⟨rfl, hb5⟩; (have HB5 := Lib.hid (HB4.out.call hb5)); (have hX5 := Lib.hid (hX4.out.later hb5)); (obtain ⟨q0, q1, q2, q3, q4, -⟩ := HB5.out.cells); (have hB5 := HB5.out.below); dsimp only)
          | (go_at_call 11; (with_reducible refine (C3.out A3 c3 _ hX5.out).mono ?_); rintro e w6 ⟨z6, rfl, hb6⟩; (have HB6 := Lib.hid (HB5.out.call hb6)); (have hX6 := Lib.hid (hX5.out.later hb6)); (have hB6 := HB6.out.below); dsimp only))
        go_wp2_with fail
        go_ret
        exact ⟨rfl, hB6⟩
    · by_cases h3 : ruleF (ruleV (ps ++ qs)) = 0
      · skip
        have C1 := Lib.hid fun (W : World) (hW : Below w.heap.size w W) => holds_yes (HR.out W hW) h1
        have C2 := Lib.hid fun (W : World) (hW : Below w.heap.size w W) => holds_no (HQ.out W hW) h2
        have C3 := Lib.hid fun (A3 : Option Addr) (c3 : Nat) (W : World) (g3 : RuleAt W W.heap.size A3 (n + m) (ps ++ qs)) => holds_yes (HX.out A3 c3 W g3) h3
        clear HT HH HR HQ HX TR TQ TX h1 h2 h3
        generalize ruleH (ruleV (ps ++ qs)) I V W F T = cc at *
        go_enter Tryd.func6, Tryd.ntmps6
        go_upto_region 2 with (first
          | (go_at_call 8; (with_reducible refine (CF.out _ hb0).mono ?_); rintro e w1 ⟨A1, c1, rfl, hb1⟩; (have HB1 := Lib.hid (H0.out.call hb1)); dsimp only))
        have hB1 := HB1.out.below
        have own0 := own_none w1 36 (Nat.le_refl w1.heap.size)
        have hbw0 : Below w1.heap.size w1 (w1.alloc (.cells #[] 36)) := (Below.refl _ _).alloc (Nat.le_refl _) _
        have hb10 := bel_alloc hB1 (.cells #[] 36)
        have rdx := (RX.out _ hb10).row
        go_upto_region 3 with (first
          | (at_builtin; refine wpList_append_any _ rfl (.tmp 26) (.tmp 27) _ rfl w1.heap.size 36 i0 _ 1 24 Tryd.underlying22 hi0 hz0 hz1 hz2 rfl (by omega) (.slice (some ⟨w1.heap.size, 0, none⟩) 0 0) 0 [] rfl own0 _ A n c (partC ps) rfl rdx HPP.out (by unfold maxLen; omega) (by omega) hbw0.size ?_; intro v2 w2 hown2 hg2 hat2; rw [Nat.zero_add, List.nil_append] at hown2; (have hbw2 : Below w1.heap.size w1 w2 := hbw0.grown hg2 hbw0.size (fun j hj => (own0.lt j hj).1)); (have hB2 := bel_call hB1 hbw2); (have rdz := (RZ.out _ hB2).row))
          | (at_builtin; refine wpList_append_any _ rfl (.tmp 28) (.tmp 29) _ rfl w1.heap.size 36 i0 _ 1 24 Tryd.underlying22 hi0 hz0 hz1 hz2 rfl (by omega) v2 n (partC ps) rfl hown2 _ A2 m c2 (partC qs) rfl rdz HPQ.out (by unfold maxLen; omega) (by omega) hbw2.size ?_; intro v3 w3 hown3 hg3 hat3; obtain ⟨A3, c3, rfl, hc3, hm3, hr3, _⟩ := own_shape hown3; (have hbw3 : Below w1.heap.size w1 w3 := hbw2.grown hg3 hbw2.size (fun j hj => (hown2.lt j hj).1)); (have hB3 := bel_call hB1 hbw3); (have hX3 := Lib.hid (rule_join (RX.out _ hB3) (RZ.out _ hB3) hr3))))
        have HB3 := Lib.hid (HB1.out.call hbw3)
        obtain ⟨o0, o1, o2, o3, o4, -⟩ := HB3.out.cells
        clear own0 hbw0 hb10 rdx rdz hown2 hown3 hg2 hg3 hat2 hat3 hbw2 hr3
        go_upto_region 6 with (first
          | (go_at_call 11; (with_reducible refine (C1.out _ hB3).mono ?_); rintro e w4 ⟨rfl, hb4⟩; (have HB4 := Lib.hid (HB3.out.call hb4)); (have hX4 := Lib.hid (hX3.out.later hb4)); (obtain ⟨p0, p1, p2, p3, p4, -⟩ := HB4.out.cells); (have hB4 := HB4.out.below); dsimp only)
          | (go_at_call 11; (with_reducible refine (C2.out _ hB4).mono ?_); rintro e w5 ⟨z5, rfl, hb5⟩; (have HB5 := Lib.hid (HB4.out.call hb5)); (have hX5 := Lib.hid (hX4.out.later hb5)); (obtain ⟨q0, q1, q2, q3, q4, -⟩ := HB5.out.cells); (have hB5 := HB5.out.below); dsimp only)
          | (go_at_call 11; (with_reducible refine (C3.out A3 c3 _ hX5.out).mono ?_); rintro e w6 ⟨rfl, hb6⟩; (have HB6 := Lib.hid (HB5.out.call hb6)); (have hX6 := Lib.hid (hX5.out.later hb6)); (have hB6 := HB6.out.below); dsimp only))
        cases cc
        all_goals
          go_wp2_with fail
          go_ret
          exact ⟨rfl, hB6⟩
      · skip
        have C1 := Lib.hid fun (W : World) (hW : Below w.heap.size w W) => holds_yes (HR.out W hW) h1
        have C2 := Lib.hid fun (W : World) (hW : Below w.heap.size w W) => holds_no (HQ.out W hW) h2
        have C3 := Lib.hid fun (A3 : Option Addr) (c3 : Nat) (W : World) (g3 : RuleAt W W.heap.size A3 (n + m) (ps ++ qs)) => holds_no (HX.out A3 c3 W g3) h3
        clear HT HH HR HQ HX TR TQ TX h1 h2 h3
        go_enter Tryd.func6, Tryd.ntmps6
        go_upto_region 2 with (first
          | (go_at_call 8; (with_reducible refine (CF.out _ hb0).mono ?_); rintro e w1 ⟨A1, c1, rfl, hb1⟩; (have HB1 := Lib.hid (H0.out.call hb1)); dsimp only))
        have hB1 := HB1.out.below
        have own0 := own_none w1 36 (Nat.le_refl w1.heap.size)
        have hbw0 : Below w1.heap.size w1 (w1.alloc (.cells #[] 36)) := (Below.refl _ _).alloc (Nat.le_refl _) _
        have hb10 := bel_alloc hB1 (.cells #[] 36)
        have rdx := (RX.out _ hb10).row
        go_upto_region 3 with (first
          | (at_builtin; refine wpList_append_any _ rfl (.tmp 26) (.tmp 27) _ rfl w1.heap.size 36 i0 _ 1 24 Tryd.underlying22 hi0 hz0 hz1 hz2 rfl (by omega) (.slice (some ⟨w1.heap.size, 0, none⟩) 0 0) 0 [] rfl own0 _ A n c (partC ps) rfl rdx HPP.out (by unfold maxLen; omega) (by omega) hbw0.size ?_; intro v2 w2 hown2 hg2 hat2; rw [Nat.zero_add, List.nil_append] at hown2; (have hbw2 : Below w1.heap.size w1 w2 := hbw0.grown hg2 hbw0.size (fun j hj => (own0.lt j hj).1)); (have hB2 := bel_call hB1 hbw2); (have rdz := (RZ.out _ hB2).row))
          | (at_builtin; refine wpList_append_any _ rfl (.tmp 28) (.tmp 29) _ rfl w1.heap.size 36 i0 _ 1 24 Tryd.underlying22 hi0 hz0 hz1 hz2 rfl (by omega) v2 n (partC ps) rfl hown2 _ A2 m c2 (partC qs) rfl rdz HPQ.out (by unfold maxLen; omega) (by omega) hbw2.size ?_; intro v3 w3 hown3 hg3 hat3; obtain ⟨A3, c3, rfl, hc3, hm3, hr3, _⟩ := own_shape hown3; (have hbw3 : Below w1.heap.size w1 w3 := hbw2.grown hg3 hbw2.size (fun j hj => (hown2.lt j hj).1)); (have hB3 := bel_call hB1 hbw3); (have hX3 := Lib.hid (rule_join (RX.out _ hB3) (RZ.out _ hB3) hr3))))
        have HB3 := Lib.hid (HB1.out.call hbw3)
        obtain ⟨o0, o1, o2, o3, o4, -⟩ := HB3.out.cells
        clear own0 hbw0 hb10 rdx rdz hown2 hown3 hg2 hg3 hat2 hat3 hbw2 hr3
        go_upto_region 6 with (first
          | (go_at_call 11; (with_reducible refine (C1.out _ hB3).mono ?_); rintro e w4 ⟨rfl, hb4⟩; (have HB4 := Lib.hid (HB3.out.call hb4)); (have hX4 := Lib.hid (hX3.out.later hb4)); (obtain ⟨p0, p1, p2, p3, p4, -⟩ := HB4.out.cells); (have hB4 := HB4.out.below); dsimp only)
          | (go_at_call 11; (with_reducible refine (C2.out _ hB4).mono ?_); rintro e w5 ⟨z5, rfl, hb5⟩; (have HB5 := Lib.hid (HB4.out.call hb5)); (have hX5 := Lib.hid (hX4.out.later hb5)); (obtain ⟨q0, q1, q2, q3, q4, -⟩ := HB5.out.cells); (have hB5 := HB5.out.below); dsimp only)
          | (go_at_call 11; (with_reducible refine (C3.out A3 c3 _ hX5.out).mono ?_); rintro e w6 ⟨z6, rfl, hb6⟩; (have HB6 := Lib.hid (HB5.out.call hb6)); (have hX6 := Lib.hid (hX5.out.later hb6)); (have hB6 := HB6.out.below); dsimp only))
        go_wp2_with fail
        go_ret
        exact ⟨rfl, hB6⟩
  · by_cases h2 : ruleF (ruleV qs) = 0
    · by_cases h3 : ruleF (ruleV (ps ++ qs)) = 0
      · skip
        have C1 := Lib.hid fun (W : World) (hW : Below w.heap.size w W) => holds_no (HR.out W hW) h1
        have C2 := Lib.hid fun (W : World) (hW : Below w.heap.size w W) => holds_yes (HQ.out W hW) h2
        have C3 := Lib.hid fun (A3 : Option Addr) (c3 : Nat) (W : World) (g3 : RuleAt W W.heap.size A3 (n + m) (ps ++ qs)) => holds_yes (HX.out A3 c3 W g3) h3
        clear HT HH HR HQ HX TR TQ TX h1 h2 h3
        generalize ruleH (ruleV (ps ++ qs)) I V W F T = cc at *
        go_enter Tryd.func6, Tryd.ntmps6
        go_upto_region 2 with (first
          | (go_at_call 8; (with_reducible refine (CF.out _ hb0).mono ?_); rintro e w1 ⟨A1, c1, rfl, hb1⟩; (have HB1 := Lib.hid (H0.out.call hb1)); dsimp only))
        have hB1 := HB1.out.below
        have own0 := own_none w1 36 (Nat.le_refl w1.heap.size)
        have hbw0 : Below w1.heap.size w1 (w1.alloc (.cells #[] 36)) := (Below.refl _ _).alloc (Nat.le_refl _) _
        have hb10 := bel_alloc hB1 (.cells #[] 36)
        have rdx := (RX.out _ hb10).row
        go_upto_region 3 with (first
          | (at_builtin; refine wpList_append_any _ rfl (.tmp 26) (.tmp 27) _ rfl w1.heap.size 36 i0 _ 1 24 Tryd.underlying22 hi0 hz0 hz1 hz2 rfl (by omega) (.slice (some ⟨w1.heap.size, 0, none⟩) 0 0) 0 [] rfl own0 _ A n c (partC ps) rfl rdx HPP.out (by unfold maxLen; omega) (by omega) hbw0.size ?_; intro v2 w2 hown2 hg2 hat2; rw [Nat.zero_add, List.nil_append] at hown2; (have hbw2 : Below w1.heap.size w1 w2 := hbw0.grown hg2 hbw0.size (fun j hj => (own0.lt j hj).1)); (have hB2 := bel_call hB1 hbw2); (have rdz := (RZ.out _ hB2).row))
          | (at_builtin; refine wpList_append_any _ rfl (.tmp 28) (.tmp 29) _ rfl w1.heap.size 36 i0 _ 1 24 Tryd.underlying22 hi0 hz0 hz1 hz2 rfl (by omega) v2 n (partC ps) rfl hown2 _ A2 m c2 (partC qs) rfl rdz HPQ.out (by unfold maxLen; omega) (by omega) hbw2.size ?_; intro v3 w3 hown3 hg3 hat3; obtain ⟨A3, c3, rfl, hc3, hm3, hr3, _⟩ := own_shape hown3; (have hbw3 : Below w1.heap.size w1 w3 := hbw2.grown hg3 hbw2.size (fun j hj => (hown2.lt j hj).1)); (have hB3 := bel_call hB1 hbw3); (have hX3 := Lib.hid (rule_join (RX.out _ hB3) (RZ.out _ hB3) hr3))))
        have HB3 := Lib.hid (HB1.out.call hbw3)
        obtain ⟨o0, o1, o2, o3, o4, -⟩ := HB3.out.cells
        clear own0 hbw0 hb10 rdx rdz hown2 hown3 hg2 hg3 hat2 hat3 hbw2 hr3
        go_upto_region 6 with (first
          | (go_at_call 11; (with_reducible refine (C1.out _ hB3).mono ?_); rintro e w4 ⟨z4, rfl, hb4⟩; (have HB4 := Lib.hid (HB3.out.call hb4)); (have hX4 := Lib.hid (hX3.out.later hb4)); (obtain ⟨p0, p1, p2, p3, p4, -⟩ := HB4.out.cells); (have hB4 := HB4.out.below); dsimp only)
          | (go_at_call 11; (with_reducible refine (C2.out _ hB4).mono ?_); rintro e w5 ⟨rfl, hb5⟩; (have HB5 := Lib.hid (HB4.out.call hb5)); (have hX5 := Lib.hid (hX4.out.later hb5)); (obtain ⟨q0, q1, q2, q3, q4, -⟩ := HB5.out.cells); (have hB5 := HB5.out.below); dsimp only)
          | (go_at_call 11; (with_reducible refine (C3.out A3 c3 _ hX5.out).mono ?_); rintro e w6 ⟨rfl, hb6⟩; (have HB6 := Lib.hid (HB5.out.call hb6)); (have hX6 := Lib.hid (hX5.out.later hb6)); (have hB6 := HB6.out.below); dsimp only))
        cases cc
        all_goals
          go_wp2_with fail
          go_ret
          exact ⟨rfl, hB6⟩
      · skip
        have C1 := Lib.hid fun (W : World) (hW : Below w.heap.size w W) => holds_no (HR.out W hW) h1
        have C2 := Lib.hid fun (W : World) (hW : Below w.heap.size w W) => holds_yes (HQ.out W hW) h2
        have C3 := Lib.hid fun (A3 : Option Addr) (c3 : Nat) (W : World) (g3 : RuleAt W W.heap.size A3 (n + m) (ps ++ qs)) => holds_no (HX.out A3 c3 W g3) h3
        clear HT HH HR HQ HX TR TQ TX h1 h2 h3
        go_enter Tryd.func6, Tryd.ntmps6
        go_upto_region 2 with (first
          | (go_at_call 8; (with_reducible refine (CF.out _ hb0).mono ?_); rintro e w1 ⟨A1, c1, rfl, hb1⟩; (have HB1 := Lib.hid (H0.out.call hb1)); dsimp only))
        have hB1 := HB1.out.below
        have own0 := own_none w1 36 (Nat.le_refl w1.heap.size)
        have hbw0 : Below w1.heap.size w1 (w1.alloc (.cells #[] 36)) := (Below.refl _ _).alloc (Nat.le_refl _) _
        have hb10 := bel_alloc hB1 (.cells #[] 36)
        have rdx := (RX.out _ hb10).row
        go_upto_region 3 with (first
          | (at_builtin; refine wpList_append_any _ rfl (.tmp 26) (.tmp 27) _ rfl w1.heap.size 36 i0 _ 1 24 Tryd.underlying22 hi0 hz0 hz1 hz2 rfl (by omega) (.slice (some ⟨w1.heap.size, 0, none⟩) 0 0) 0 [] rfl own0 _ A n c (partC ps) rfl rdx HPP.out (by unfold maxLen; omega) (by omega) hbw0.size ?_; intro v2 w2 hown2 hg2 hat2; rw [Nat.zero_add, List.nil_append] at hown2; (have hbw2 : Below w1.heap.size w1 w2 := hbw0.grown hg2 hbw0.size (fun j hj => (own0.lt j hj).1)); (have hB2 := bel_call hB1 hbw2); (have rdz := (RZ.out _ hB2).row))
          | (at_builtin; refine wpList_append_any _ rfl (.tmp 28) (.tmp 29) _ rfl w1.heap.size 36 i0 _ 1 24 Tryd.underlying22 hi0 hz0 hz1 hz2 rfl (by omega) v2 n (partC ps) rfl hown2 _ A2 m c2 (partC qs) rfl rdz HPQ.out (by unfold maxLen; omega) (by omega) hbw2.size ?_; intro v3 w3 hown3 hg3 hat3; obtain ⟨A3, c3, rfl, hc3, hm3, hr3, _⟩ := own_shape hown3; (have hbw3 : Below w1.heap.size w1 w3 := hbw2.grown hg3 hbw2.size (fun j hj => (hown2.lt j hj).1)); (have hB3 := bel_call hB1 hbw3); (have hX3 := Lib.hid (rule_join (RX.out _ hB3) (RZ.out _ hB3) hr3))))
        have HB3 := Lib.hid (HB1.out.call hbw3)
        obtain ⟨o0, o1, o2, o3, o4, -⟩ := HB3.out.cells
        clear own0 hbw0 hb10 rdx rdz hown2 hown3 hg2 hg3 hat2 hat3 hbw2 hr3
        go_upto_region 6 with (first
          | (go_at_call 11; (with_reducible refine (C1.out _ hB3).mono ?_); rintro e w4 ⟨z4, rfl, hb4⟩; (have HB4 := Lib.hid (HB3.out.call hb4)); (have hX4 := Lib.hid (hX3.out.later hb4)); (obtain ⟨p0, p1, p2, p3, p4, -⟩ := HB4.out.cells); (have hB4 := HB4.out.below); dsimp only)
          | (go_at_call 11; (with_reducible refine (C2.out _ hB4).mono ?_); rintro e w5 ⟨rfl, hb5⟩; (have HB5 := Lib.hid (HB4.out.call hb5)); (have hX5 := Lib.hid (hX4.out.later hb5)); (obtain ⟨q0, q1, q2, q3, q4, -⟩ := HB5.out.cells); (have hB5 := HB5.out.below); dsimp only)
          | (go_at_call 11; (with_reducible refine (C3.out A3 c3 _ hX5.out).mono ?_); rintro e w6 ⟨z6, rfl, hb6⟩; (have HB6 := Lib.hid (HB5.out.call hb6)); (have hX6 := Lib.hid (hX5.out.later hb6)); (have hB6 := HB6.out.below); dsimp only))
        go_wp2_with fail
        go_ret
        exact ⟨rfl, hB6⟩
    · by_cases h3 : ruleF (ruleV (ps ++ qs)) = 0
      · skip
        have C1 := Lib.hid fun (W : World) (hW : Below w.heap.size w W) => holds_no (HR.out W hW) h1
        have C2 := Lib.hid fun (W : World) (hW : Below w.heap.size w W) => holds_no (HQ.out W hW) h2
        have C3 := Lib.hid fun (A3 : Option Addr) (c3 : Nat) (W : World) (g3 : RuleAt W W.heap.size A3 (n + m) (ps ++ qs)) => holds_yes (HX.out A3 c3 W g3) h3
        clear HT HH HR HQ HX TR TQ TX h1 h2 h3
        generalize ruleH (ruleV (ps ++ qs)) I V W F T = cc at *
        go_enter Tryd.func6, Tryd.ntmps6
        go_upto_region 2 with (first
          | (go_at_call 8; (with_reducible refine (CF.out _ hb0).mono ?_); rintro e w1 ⟨A1, c1, rfl, hb1⟩; (have HB1 := Lib.hid (H0.out.call hb1)); dsimp only))
        have hB1 := HB1.out.below
        have own0 := own_none w1 36 (Nat.le_refl w1.heap.size)
        have hbw0 : Below w1.heap.size w1 (w1.alloc (.cells #[] 36)) := (Below.refl _ _).alloc (Nat.le_refl _) _
        have hb10 := bel_alloc hB1 (.cells #[] 36)
        have rdx := (RX.out _ hb10).row
        go_upto_region 3 with (first
          | (at_builtin; refine wpList_append_any _ rfl (.tmp 26) (.tmp 27) _ rfl w1.heap.size 36 i0 _ 1 24 Tryd.underlying22 hi0 hz0 hz1 hz2 rfl (by omega) (.slice (some ⟨w1.heap.size, 0, none⟩) 0 0) 0 [] rfl own0 _ A n c (partC ps) rfl rdx HPP.out (by unfold maxLen; omega) (by omega) hbw0.size ?_; intro v2 w2 hown2 hg2 hat2; rw [Nat.zero_add, List.nil_append] at hown2; (have hbw2 : Below w1.heap.size w1 w2 := hbw0.grown hg2 hbw0.size (fun j hj => (own0.lt j hj).1)); (have hB2 := bel_call hB1 hbw2); (have rdz := (RZ.out _ hB2).row))
          | (at_builtin; refine wpList_append_any _ rfl (.tmp 28) (.tmp 29) _ rfl w1.heap.size 36 i0 _ 1 24 Tryd.underlying22 hi0 hz0 hz1 hz2 rfl (by omega) v2 n (partC ps) rfl hown2 _ A2 m c2 (partC qs) rfl rdz HPQ.out (by unfold maxLen; omega) (by omega) hbw2.size ?_; intro v3 w3 hown3 hg3 hat3; obtain ⟨A3, c3, rfl, hc3, hm3, hr3, _⟩ := own_shape hown3; (have hbw3 : Below w1.heap.size w1 w3 := hbw2.grown hg3 hbw2.size (fun j hj => (hown2.lt j hj).1)); (have hB3 := bel_call hB1 hbw3); (have hX3 := Lib.hid (rule_join (RX.out _ hB3) (RZ.out _ hB3) hr3))))
        have HB3 := Lib.hid (HB1.out.call hbw3)
        obtain ⟨o0, o1, o2, o3, o4, -⟩ := HB3.out.cells
        clear own0 hbw0 hb10 rdx rdz hown2 hown3 hg2 hg3 hat2 hat3 hbw2 hr3
        go_upto_region 6 with (first
          | (go_at_call 11; (with_reducible refine (C1.out _ hB3).mono ?_); rintro e w4 ⟨z4, rfl, hb4⟩; (have HB4 := Lib.hid (HB3.out.call hb4)); (have hX4 := Lib.hid (hX3.out.later hb4)); (obtain ⟨p0, p1, p2, p3, p4, -⟩ := HB4.out.cells); (have hB4 := HB4.out.below); dsimp only)
          | (go_at_call 11; (with_reducible refine (C2.out _ hB4).mono ?_); rintro e w5 ⟨z5, rfl, hb5⟩; (have HB5 := Lib.hid (HB4.out.call hb5)); (have hX5 := Lib.hid (hX4.out.later hb5)); (obtain ⟨q0, q1, q2, q3, q4, -⟩ := HB5.out.cells); (have hB5 := HB5.out.below); dsimp only)
          | (go_at_call 11; (with_reducible refine (C3.out A3 c3 _ hX5.out).mono ?_); rintro e w6 ⟨rfl, hb6⟩; (have HB6 := Lib.hid (HB5.out.call hb6)); (have hX6 := Lib.hid (hX5.out.later hb6)); (have hB6 := HB6.out.below); dsimp only))
        cases cc
        all_goals
          go_wp2_with fail
          go_ret
          exact ⟨rfl, hB6⟩
      · skip
        have C1 := Lib.hid fun (W : World) (hW : Below w.heap.size w W) => holds_no (HR.out W hW) h1
        have C2 := Lib.hid fun (W : World) (hW : Below w.heap.size w W) => holds_no (HQ.out W hW) h2
        have C3 := Lib.hid fun (A3 : Option Addr) (c3 : Nat) (W : World) (g3 : RuleAt W W.heap.size A3 (n + m) (ps ++ qs)) => holds_no (HX.out A3 c3 W g3) h3
        clear HT HH HR HQ HX TR TQ TX h1 h2 h3
        go_enter Tryd.func6, Tryd.ntmps6
        go_upto_region 2 with (first
          | (go_at_call 8; (with_reducible refine (CF.out _ hb0).mono ?_); rintro e w1 ⟨A1, c1, rfl, hb1⟩; (have HB1 := Lib.hid (H0.out.call hb1)); dsimp only))
        have hB1 := HB1.out.below
        have own0 := own_none w1 36 (Nat.le_refl w1.heap.size)
        have hbw0 : Below w1.heap.size w1 (w1.alloc (.cells #[] 36)) := (Below.refl _ _).alloc (Nat.le_refl _) _
        have hb10 := bel_alloc hB1 (.cells #[] 36)
        have rdx := (RX.out _ hb10).row
        go_upto_region 3 with (first
          | (at_builtin; refine wpList_append_any _ rfl (.tmp 26) (.tmp 27) _ rfl w1.heap.size 36 i0 _ 1 24 Tryd.underlying22 hi0 hz0 hz1 hz2 rfl (by omega) (.slice (some ⟨w1.heap.size, 0, none⟩) 0 0) 0 [] rfl own0 _ A n c (partC ps) rfl rdx HPP.out (by unfold maxLen; omega) (by omega) hbw0.size ?_; intro v2 w2 hown2 hg2 hat2; rw [Nat.zero_add, List.nil_append] at hown2; (have hbw2 : Below w1.heap.size w1 w2 := hbw0.grown hg2 hbw0.size (fun j hj => (own0.lt j hj).1)); (have hB2 := bel_call hB1 hbw2); (have rdz := (RZ.out _ hB2).row))
          | (at_builtin; refine wpList_append_any _ rfl (.tmp 28) (.tmp 29) _ rfl w1.heap.size 36 i0 _ 1 24 Tryd.underlying22 hi0 hz0 hz1 hz2 rfl (by omega) v2 n (partC ps) rfl hown2 _ A2 m c2 (partC qs) rfl rdz HPQ.out (by unfold maxLen; omega) (by omega) hbw2.size ?_; intro v3 w3 hown3 hg3 hat3; obtain ⟨A3, c3, rfl, hc3, hm3, hr3, _⟩ := own_shape hown3; (have hbw3 : Below w1.heap.size w1 w3 := hbw2.grown hg3 hbw2.size (fun j hj => (hown2.lt j hj).1)); (have hB3 := bel_call hB1 hbw3); (have hX3 := Lib.hid (rule_join (RX.out _ hB3) (RZ.out _ hB3) hr3))))
        have HB3 := Lib.hid (HB1.out.call hbw3)
        obtain ⟨o0, o1, o2, o3, o4, -⟩ := HB3.out.cells
        clear own0 hbw0 hb10 rdx rdz hown2 hown3 hg2 hg3 hat2 hat3 hbw2 hr3
        go_upto_region 6 with (first
          | (go_at_call 11; (with_reducible refine (C1.out _ hB3).mono ?_); rintro e w4 ⟨z4, rfl, hb4⟩; (have HB4 := Lib.hid (HB3.out.call hb4)); (have hX4 := Lib.hid (hX3.out.later hb4)); (obtain ⟨p0, p1, p2, p3, p4, -⟩ := HB4.out.cells); (have hB4 := HB4.out.below); dsimp only)
          | (go_at_call 11; (with_reducible refine (C2.out _ hB4).mono ?_); rintro e w5 ⟨z5, rfl, hb5⟩; (have HB5 := Lib.hid (HB4.out.call hb5)); (have hX5 := Lib.hid (hX4.out.later hb5)); (obtain ⟨q0, q1, q2, q3, q4, -⟩ := HB5.out.cells); (have hB5 := HB5.out.below); dsimp only)
          | (go_at_call 11; (with_reducible refine (C3.out A3 c3 _ hX5.out).mono ?_); rintro e w6 ⟨z6, rfl, hb6⟩; (have HB6 := Lib.hid (HB5.out.call hb6)); (have hX6 := Lib.hid (hX5.out.later hb6)); (have hB6 := HB6.out.below); dsimp only))
        go_wp2_with fail
        go_ret
        exact ⟨rfl, hB6⟩
end Ru
end Go.Proofs.YtkhnjlkamleldaaDoor
