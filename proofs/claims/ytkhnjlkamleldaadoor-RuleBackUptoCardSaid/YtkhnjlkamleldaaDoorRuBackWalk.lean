/- The law RuleBack returns true. -/
import Derived.Test.YtkhnjlkamleldaaDoorRuLawKit
import Derived.Test.YtkhnjlkamleldaaDoorRuRuled
import Derived.Test.YtkhnjlkamleldaaDoorRuSame
namespace Go.Proofs.YtkhnjlkamleldaaDoor
namespace Ru
open Go.RowKit Go.Maps D

set_option maxHeartbeats 4000000 in
set_option maxRecDepth 100000 in
theorem back_any (A : Option Addr) (n c : Nat) (ps : List PartX) (s : ByteArray) (w : World) (hR : RuleAt w w.heap.size A n ps) (hB : Bulk ps) (hs : s.size ≤ 1048576) (hE : Env w) :
    Calls Tryd.prog 3 #[.slice A n c, .string s] w (TrueB w) := by
  have hlen := hR.len
  have hn : n ≤ 1048576 := by have := hB.few; omega
  have CF := Lib.hid (ruled_any w hE)
  have hat : ∀ W, Below w.heap.size w W → RuleAt W W.heap.size A n ps := fun W hW => (hR.below hW).more hW.size
  have CT := Lib.hid fun (W : World) (hW : Below w.heap.size w W) => text_any A n c ps W (hat W hW) (by omega) hB.fewS hB.byt (hE.later hW)
  have CS := Lib.hid fun (A2 : Option Addr) (c2 : Nat) (qs : List PartX) (W : World) (base : Nat) (hW : Below w.heap.size w W) (hv : ruleV qs = ruleV ps) (ho : OwnRule W base (.slice A2 qs.length c2) qs) =>
    (show Calls Tryd.prog 10 #[.slice A2 qs.length c2, .slice A n c] W (TrueB W) from by
      have hql : qs.length = n := by have := congrArg List.length hv; simp [ruleV] at this; omega
      have hq := own_rule_at ho
      rw [hql] at hq ⊢
      exact ruleSame_any A2 A n c2 c qs ps W hq (hat W hW) hv (by unfold maxLen; omega) (fun p hp => by
        have hx : relsV p.xs ∈ ruleV ps := by rw [← hv]; exact List.mem_map.2 ⟨p, hp, rfl⟩
        obtain ⟨q, hq, e⟩ := List.mem_map.1 hx
        have hl := congrArg List.length e
        simp only [relsV, List.length_map] at hl
        refine ⟨by have := (hB.all q hq).1; unfold maxLen; omega, fun y hy => ?_⟩
        have hy2 : y.v ∈ relsV q.xs := by rw [e]; exact List.mem_map.2 ⟨y, hy, rfl⟩
        obtain ⟨z, hz, ez⟩ := List.mem_map.1 hy2
        have := (hB.all q hq).2 z hz
        rw [ez] at this
        unfold maxLen; omega))
  have CP : Hid (∀ W, Below w.heap.size w W → (∀ r, IsRule s.data.toList r → Calls Tryd.prog 8 #[.string s] W (ParseYes W r)) ∧ ((∀ r, ¬ IsRule s.data.toList r) → Calls Tryd.prog 8 #[.string s] W (ParseNo W))) :=
    Lib.hid fun W hW => ⟨fun r h => parse_yes s r W (by omega) (hE.later hW) h, fun h => parse_no s W (by omega) (hE.later hW) h⟩
  have CQ := Lib.hid fun (W : World) (hW : Below w.heap.size w W) (h0 : ruleF (ruleV ps) = 0) => parse_yes (str (ruleT (ruleV ps))) (ruleV ps) W (back_size hB.all h0) (hE.later hW) (by rw [str_data]; exact ⟨h0, rfl⟩)
  have CX := Lib.hid fun (A2 : Option Addr) (c2 : Nat) (qs : List PartX) (W : World) (base : Nat) (hW : Below w.heap.size w W) (r : List (List RelV)) (hr : IsRule s.data.toList r) (hv : ruleV qs = r) (ho : OwnRule W base (.slice A2 qs.length c2) qs) =>
    text_yes (text_read hr.read (by rw [← ba_size]; omega) A2 c2 qs base W hv ho (hE.later hW)) hr.1
  clear hR hB hs hE hat hlen
  by_cases hI : ∃ r, IsRule s.data.toList r
  · obtain ⟨r, hr⟩ := hI
    have CP1 := Lib.hid fun (W : World) (hW : Below w.heap.size w W) => (CP.out W hW).1 r hr
    have CX1 := Lib.hid fun (A2 : Option Addr) (c2 : Nat) (qs : List PartX) (W : World) (base : Nat) (hW : Below w.heap.size w W) (hv : ruleV qs = r) (ho : OwnRule W base (.slice A2 qs.length c2) qs) => CX.out A2 c2 qs W base hW r hr hv ho
    have hts : str (ruleT r) = s := (str_eq hr.2.symm).symm
    rw [hts] at CX1
    clear CX CP hr hts
    by_cases h0 : ruleF (ruleV ps) = 0
    · have CT1 := Lib.hid fun (W : World) (hW : Below w.heap.size w W) => text_yes (CT.out W hW) h0
      have CQ1 := Lib.hid fun (W : World) (hW : Below w.heap.size w W) => CQ.out W hW h0
      generalize str (ruleT (ruleV ps)) = tr at *
      clear CT CQ h0
      go_enter Tryd.func3, Tryd.ntmps3
      go_wp2_with (first
        | (go_at_call 7; (with_reducible refine (CF.out).mono ?_); rintro e w1 ⟨rfl, hb1⟩)
        | (go_at_call 8; (with_reducible refine (CP1.out _ hb1).mono ?_); rintro e w2 ⟨qs1, A1, c1, hv1, rfl, hc1, ho1, hb2⟩; (have hB2 := bel_call hb1 hb2); dsimp only)
        | (go_at_call 9; (with_reducible refine (CX1.out A1 c1 qs1 _ _ hB2 hv1 ho1).mono ?_); rintro e w3 ⟨rfl, hb3⟩; (have hB3 := bel_call hB2 hb3); dsimp only)
        | (go_at_call 9; (with_reducible refine (CT1.out _ hB3).mono ?_); rintro e w4 ⟨rfl, hb4⟩; (have hB4 := bel_call hB3 hb4); dsimp only)
        | (go_at_call 8; (with_reducible refine (CQ1.out _ hB4).mono ?_); rintro e w5 ⟨qs2, A2, c2, hv2, rfl, hc2, ho2, hb5⟩; (have hB5 := bel_call hB4 hb5); dsimp only)
        | (go_at_call 10; (with_reducible refine (CS.out A2 c2 qs2 _ _ hB5 hv2 ho2).mono ?_); rintro e w6 ⟨rfl, hb6⟩))
      go_ret
      exact ⟨rfl, bel_call hB5 hb6⟩
    · have CT1 := Lib.hid fun (W : World) (hW : Below w.heap.size w W) => text_no (CT.out W hW) h0
      clear CT CQ CS h0
      go_enter Tryd.func3, Tryd.ntmps3
      go_wp2_with (first
        | (go_at_call 7; (with_reducible refine (CF.out).mono ?_); rintro e w1 ⟨rfl, hb1⟩)
        | (go_at_call 8; (with_reducible refine (CP1.out _ hb1).mono ?_); rintro e w2 ⟨qs1, A1, c1, hv1, rfl, hc1, ho1, hb2⟩; (have hB2 := bel_call hb1 hb2); dsimp only)
        | (go_at_call 9; (with_reducible refine (CX1.out A1 c1 qs1 _ _ hB2 hv1 ho1).mono ?_); rintro e w3 ⟨rfl, hb3⟩; (have hB3 := bel_call hB2 hb3); dsimp only)
        | (go_at_call 9; (with_reducible refine (CT1.out _ hB3).mono ?_); rintro e w4 ⟨z, rfl, hb4⟩; (have hB4 := bel_call hB3 hb4); dsimp only))
      go_ret
      exact ⟨rfl, hB4⟩
  · have CP1 := Lib.hid fun (W : World) (hW : Below w.heap.size w W) => (CP.out W hW).2 (fun r hr => hI ⟨r, hr⟩)
    clear CX CP hI
    by_cases h0 : ruleF (ruleV ps) = 0
    · have CT1 := Lib.hid fun (W : World) (hW : Below w.heap.size w W) => text_yes (CT.out W hW) h0
      have CQ1 := Lib.hid fun (W : World) (hW : Below w.heap.size w W) => CQ.out W hW h0
      generalize str (ruleT (ruleV ps)) = tr at *
      clear CT CQ h0
      go_enter Tryd.func3, Tryd.ntmps3
      go_wp2_with (first
        | (go_at_call 7; (with_reducible refine (CF.out).mono ?_); rintro e w1 ⟨rfl, hb1⟩)
        | (go_at_call 8; (with_reducible refine (CP1.out _ hb1).mono ?_); rintro e w2 ⟨rfl, hb2⟩; (have hB2 := bel_call hb1 hb2); rw [errV_three]; dsimp only)
        | (go_at_call 9; (with_reducible refine (CT1.out _ hB2).mono ?_); rintro e w4 ⟨rfl, hb4⟩; (have hB4 := bel_call hB2 hb4); dsimp only)
        | (go_at_call 8; (with_reducible refine (CQ1.out _ hB4).mono ?_); rintro e w5 ⟨qs2, A2, c2, hv2, rfl, hc2, ho2, hb5⟩; (have hB5 := bel_call hB4 hb5); dsimp only)
        | (go_at_call 10; (with_reducible refine (CS.out A2 c2 qs2 _ _ hB5 hv2 ho2).mono ?_); rintro e w6 ⟨rfl, hb6⟩))
      go_ret
      exact ⟨rfl, bel_call hB5 hb6⟩
    · have CT1 := Lib.hid fun (W : World) (hW : Below w.heap.size w W) => text_no (CT.out W hW) h0
      clear CT CQ CS h0
      go_enter Tryd.func3, Tryd.ntmps3
      go_wp2_with (first
        | (go_at_call 7; (with_reducible refine (CF.out).mono ?_); rintro e w1 ⟨rfl, hb1⟩)
        | (go_at_call 8; (with_reducible refine (CP1.out _ hb1).mono ?_); rintro e w2 ⟨rfl, hb2⟩; (have hB2 := bel_call hb1 hb2); rw [errV_three]; dsimp only)
        | (go_at_call 9; (with_reducible refine (CT1.out _ hB2).mono ?_); rintro e w4 ⟨z, rfl, hb4⟩; (have hB4 := bel_call hB2 hb4); dsimp only))
      go_ret
      exact ⟨rfl, hB4⟩
end Ru
end Go.Proofs.YtkhnjlkamleldaaDoor
