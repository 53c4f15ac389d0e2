/- The law RuleTells returns true. -/
import Derived.Test.YtabglcpllfcmbaaGreatDoorRuRuleOf
import Derived.Test.YtabglcpllfcmbaaGreatDoorRuRuled
import Derived.Test.YtabglcpllfcmbaaGreatDoorRuSame
import Derived.Test.YtabglcpllfcmbaaGreatDoorRuRefRule
import Derived.Test.YtabglcpllfcmbaaGreatDoorErrorSame
namespace Go.Proofs.YtabglcpllfcmbaaGreatDoor
namespace Ru
open Go.RowKit Go.Maps D

theorem rule_nil (W : World) (B : Nat) : RuleAt W B none 0 [] := ⟨rfl, ⟨rfl, fun h => absurd h (Nat.lt_irrefl 0)⟩, fun p hp => (by cases hp)⟩
theorem errs_any (k : Nat) {z : Int} (hz : (k : Int) = z) (W : World) (hg : ErrType W) : Calls Tryz.prog 9 #[errV k, .int .i64 z] W (TrueB W) := by subst hz; exact errorSame_any k W hg
theorem signs (I V W F T : Int) : I < 0 ∨ (¬ I < 0 ∧ V < 0) ∨ (¬ I < 0 ∧ ¬ V < 0 ∧ W < 0) ∨ (¬ I < 0 ∧ ¬ V < 0 ∧ ¬ W < 0 ∧ F < 0) ∨ (¬ I < 0 ∧ ¬ V < 0 ∧ ¬ W < 0 ∧ ¬ F < 0 ∧ T < 0) ∨ (¬ I < 0 ∧ ¬ V < 0 ∧ ¬ W < 0 ∧ ¬ F < 0 ∧ ¬ T < 0) := by omega
set_option maxHeartbeats 8000000 in
set_option maxRecDepth 100000 in
theorem tells_any (A : Option Addr) (n c : Nat) (ps : List PartX) (s : ByteArray) (I V W' F T : Int) (w : World) (hR : RuleAt w w.heap.size A n ps) (hB : Bulk ps) (hs : s.size ≤ 1048576)
    (hI : I64 I) (hV : I64 V) (hWW : I64 W') (hF : I64 F) (hT : I64 T) (hE : Env w) (hg : ErrType w) :
    Calls Tryz.prog 3 #[.slice A n c, .string s, .agg #[.int .i64 I, .int .i64 V, .int .i64 W', .int .i64 F, .int .i64 T]] w (TrueB w) := by
  obtain ⟨l, rfl⟩ : ∃ l, s = str l := ⟨s.data.toList, str_eq rfl⟩
  have hl : l.length ≤ 1048576 := by rw [ba_size, str_data] at hs; exact hs
  have H0 : Hid (Bs w _ [_]) := Lib.hid (bs_one w [.int .i64 I, .int .i64 V, .int .i64 W', .int .i64 F, .int .i64 T] 24)
  have hlen := hR.len
  have hn : n ≤ 1048576 := by have := hB.few; omega
  have hnm : n ≤ maxLen := by unfold maxLen; omega
  have htot : total (ruleV ps) < 4611686018427387904 := by
    have h1 := total_few hB.fewS
    have h2 := hB.few
    have : ps.length * 1073741826 ≤ 1048576 * 1073741826 := Nat.mul_le_mul_right _ h2
    omega
  have hat : ∀ W, Below w.heap.size w W → RuleAt W W.heap.size A n ps := fun W hW => (hR.below hW).more hW.size
  have CF := Lib.hid fun (W : World) (hW : Below w.heap.size w W) => ruled_any W (hE.later hW)
  have C1 := Lib.hid fun (W : World) (hW : Below w.heap.size w W) => refRuleFault_any A n c ps W (hat W hW) hnm hB.fewS.few htot
  have C2 := Lib.hid fun (h0 : ruleF (ruleV ps) = 0) (W : World) (hW : Below w.heap.size w W) => refRuleText_any A n c ps W (hat W hW) (fun p hp x hx => by have := (hB.all p hp).2 x hx; omega) (ruleF_zero.1 h0).1 (ruleF_zero.1 h0).2
  have C3 := Lib.hid fun (W : World) (hW : Below w.heap.size w W) => text_any A n c ps W (hat W hW) (by omega) hB.fewS hB.byt (hE.later hW)
  have C4 := Lib.hid fun (W : World) => refRuleOf_any l W (by omega)
  have C5 := Lib.hid fun (h : IsRule l (ruleOfL l)) (W : World) (hW : Below w.heap.size w W) => parse_yes (str l) (ruleOfL l) W (by omega) (hE.later hW) (by rw [str_data]; exact h)
  have C6 := Lib.hid fun (h : ¬ IsRule l (ruleOfL l)) (W : World) (hW : Below w.heap.size w W) => parse_nil (str l) W (by omega) (hE.later hW) (by rw [str_data]; exact is_none h)
  have C7 := Lib.hid fun (A1 A2 : Option Addr) (c1 c2 b1 b2 : Nat) (p1 p2 : List PartX) (W : World) (h1 : ruleV p1 = ruleOfL l) (h2 : ruleV p2 = ruleOfL l) (o1 : OwnRule W b1 (.slice A1 p1.length c1) p1) (o2 : OwnRule W b2 (.slice A2 p2.length c2) p2) =>
    (show Calls Tryz.prog 12 #[.slice A1 p1.length c1, .slice A2 p2.length c2] W (TrueB W) from by
      have hq : p1.length = p2.length := by have := congrArg List.length (h1.trans h2.symm); simpa [ruleV] using this
      have hr := own_rule_at o1
      rw [hq] at hr ⊢
      obtain ⟨f1, f2, f3⟩ := few_of (by omega) h1
      exact ruleSame_any A1 A2 p2.length c1 c2 p1 p2 W hr (own_rule_at o2) (h1.trans h2.symm) (by unfold maxLen; omega) f2.few)
  have C8 := Lib.hid fun (W : World) => ruleSame_any none none 0 0 0 [] [] W (rule_nil W _) (rule_nil W _) rfl (Nat.zero_le _) (fun p hp => (by cases hp))
  have C9 := Lib.hid fun (W : World) (hW : Below w.heap.size w W) => holds_any A n c ps I V W' F T W (hat W hW) hnm hB.fewS.few hB.byt htot hI hV hWW hF hT
  have C10 := Lib.hid fun (W : World) (hW : Below w.heap.size w W) => refRuleHolds_any A n c ps I V W' F T W (hat W hW) hnm hB.fewS.few
  have CE := Lib.hid fun (k : Nat) (z : Int) (hz : (k : Int) = z) (W : World) (hW : Below w.heap.size w W) => errs_any k hz W (errType_later hg hW)
  clear hR hat hlen hs hE hg hn hnm htot hB hl
  have hb0 := H0.out.below
  have CE0 := Lib.hid fun (W : World) (hW : Below w.heap.size w W) => (show Calls Tryz.prog 9 #[.nilIface, .int .i64 0] W (TrueB W) from CE.out 0 0 rfl W hW)
  have CE3 := Lib.hid fun (W : World) (hW : Below w.heap.size w W) => (show Calls Tryz.prog 9 #[.iface 26 (.int .i64 3), .int .i64 3] W (TrueB W) from CE.out 3 3 rfl W hW)
  by_cases h0 : ruleF (ruleV ps) = 0
  · have C2X := Lib.hid (C2.out h0)
    have C3X := Lib.hid fun (W : World) (hW : Below w.heap.size w W) => (show Calls Tryz.prog 8 #[.slice A n c] W (Gives W (.tuple #[.string (str (ruleT (ruleV ps))), .nilIface])) from (C3.out W hW).mono fun e w' ⟨he, hb⟩ => ⟨by rw [he, h0]; unfold textS; rw [if_pos h0]; rfl, hb⟩)
    have C9X := Lib.hid fun (W : World) (hW : Below w.heap.size w W) => (show Calls Tryz.prog 13 #[.slice A n c, .agg #[.int .i64 I, .int .i64 V, .int .i64 W', .int .i64 F, .int .i64 T]] W (Gives W (.tuple #[.bool (ruleH (ruleV ps) I V W' F T), .nilIface])) from (C9.out W hW).mono fun e w' ⟨he, hb⟩ => ⟨by rw [he, h0]; unfold holdsB; rw [if_pos h0]; rfl, hb⟩)
    have C1X := Lib.hid fun (W : World) (hW : Below w.heap.size w W) => (show Calls Tryz.prog 6 #[.slice A n c] W (Gives W (.int .i64 0)) from (C1.out W hW).mono fun e w' ⟨he, hb⟩ => ⟨by rw [he, h0]; rfl, hb⟩)
    have C10X := Lib.hid fun (W : World) (hW : Below w.heap.size w W) => C10.out W hW
    have CEX := CE0
    generalize ruleH (ruleV ps) I V W' F T = bh at *
    generalize str (ruleT (ruleV ps)) = rt at *
    clear C1 C2 C3 C9 C10 CE h0
    by_cases hr : IsRule l (ruleOfL l)
    · have C4X := Lib.hid fun (W : World) => (show Calls Tryz.prog 10 #[.string (str l)] W (OfYes W (ruleOfL l)) from (C4.out W).mono fun _ _ h => h.elim (fun h => h.2) (fun h => absurd hr h.1))
      have C5X := Lib.hid (C5.out hr)
      clear C4 C5 C6 hr
      go_enter Tryz.func3, Tryz.ntmps3
      go_upto_region 17 with (first
        | (go_at_call 5; (with_reducible refine (CF.out _ hb0).mono ?_); rintro e w1 ⟨rfl, hb1⟩; (have hB1 := bel_call hb0 hb1); (have HB1 := Lib.hid (H0.out.call hb1)))
        | (go_at_call 6; (with_reducible refine (C1X.out _ hB1).mono ?_); rintro e w2 ⟨rfl, hb2⟩; (have hB2 := bel_call hB1 hb2); (have HB2 := Lib.hid (HB1.out.call hb2)))
        | (go_at_call 7; (with_reducible refine (C2X.out _ hB2).mono ?_); rintro e w3 ⟨rfl, hb3⟩; (have hB3 := bel_call hB2 hb3); (have HB3 := Lib.hid (HB2.out.call hb3)))
        | (go_at_call 8; (with_reducible refine (C3X.out _ hB3).mono ?_); rintro e w4 ⟨rfl, hb4⟩; (have hB4 := bel_call hB3 hb4); (have HB4 := Lib.hid (HB3.out.call hb4)); dsimp only)
        | (go_at_call 9; (with_reducible refine (CEX.out _ hB4).mono ?_); rintro e w5 ⟨rfl, hb5⟩; (have hB5 := bel_call hB4 hb5); (have HB5 := Lib.hid (HB4.out.call hb5)))
        | (go_at_call 10; (with_reducible refine (C4X.out _).mono ?_); rintro e w6 ⟨p6, A6, c6, hv6, rfl, hc6, ho6, hb6⟩; (have hB6 := bel_call hB5 hb6); (have HB6 := Lib.hid (HB5.out.call hb6)); dsimp only)
        | (go_at_call 11; (with_reducible refine (C5X.out _ hB6).mono ?_); rintro e w7 ⟨p7, A7, c7, hv7, rfl, hc7, ho7, hb7⟩; (have hB7 := bel_call hB6 hb7); (have HB7 := Lib.hid (HB6.out.call hb7)); (have ho67 := ho6.later hb7); dsimp only)
        | (go_at_call 9; (with_reducible refine (CE0.out _ hB7).mono ?_); rintro e w8 ⟨rfl, hb8⟩; (have hB8 := bel_call hB7 hb8); (have HB8 := Lib.hid (HB7.out.call hb8)); (have ho68 := ho67.later hb8); (have ho78 := ho7.later hb8))
        | (go_at_call 12; (with_reducible refine (C7.out A7 A6 c7 c6 _ _ p7 p6 _ hv7 hv6 ho78 ho68).mono ?_); rintro e w9 ⟨rfl, hb9⟩; (have hB9 := bel_call hB8 hb9); (have HB9 := Lib.hid (HB8.out.call hb9))))
      clear ho6 ho7 ho67 ho68 ho78 C7 C5X
      clear C1X C3X C4X CE0 CE3 CF C8 C2X
      obtain ⟨y0, y1, y2, y3, y4, -⟩ := HB9.out.cells
      rcases signs I V W' F T with h | ⟨h, h'⟩ | ⟨h, h', h''⟩ | ⟨h, h', h'', h3⟩ | ⟨h, h', h'', h3, h4⟩ | ⟨h, h', h'', h3, h4⟩
      · go_wp2_with fail
        go_ret
        exact ⟨rfl, hB9⟩
      · go_wp2_with fail
        go_ret
        exact ⟨rfl, hB9⟩
      · go_wp2_with fail
        go_ret
        exact ⟨rfl, hB9⟩
      · go_wp2_with fail
        go_ret
        exact ⟨rfl, hB9⟩
      · go_wp2_with fail
        go_ret
        exact ⟨rfl, hB9⟩
      · go_wp2_with (first
          | (go_at_call 13; (with_reducible refine (C9X.out _ hB9).mono ?_); rintro e w10 ⟨rfl, hb10⟩; (have hB10 := bel_call hB9 hb10); (have HB10 := Lib.hid (HB9.out.call hb10)); (obtain ⟨z0, z1, z2, z3, z4, -⟩ := HB10.out.cells); dsimp only)
          | (go_at_call 9; (with_reducible refine (CEX.out _ hB10).mono ?_); rintro e w11 ⟨rfl, hb11⟩; (have hB11 := bel_call hB10 hb11); (have HB11 := Lib.hid (HB10.out.call hb11)); (obtain ⟨t0, t1, t2, t3, t4, -⟩ := HB11.out.cells))
          | (go_at_call 14; (with_reducible refine (C10X.out _ hB11).mono ?_); rintro e w12 ⟨rfl, hb12⟩; (have hB12 := bel_call hB11 hb12)))
        go_ret
        exact ⟨rfl, hB12⟩
    · have C4X := Lib.hid fun (W : World) => (show Calls Tryz.prog 10 #[.string (str l)] W (OfNo W) from (C4.out W).mono fun _ _ h => h.elim (fun h => absurd h.1 hr) (fun h => h.2))
      have C6X := Lib.hid (C6.out hr)
      clear C4 C5 C6 hr C7
      go_enter Tryz.func3, Tryz.ntmps3
      go_upto_region 17 with (first
        | (go_at_call 5; (with_reducible refine (CF.out _ hb0).mono ?_); rintro e w1 ⟨rfl, hb1⟩; (have hB1 := bel_call hb0 hb1); (have HB1 := Lib.hid (H0.out.call hb1)))
        | (go_at_call 6; (with_reducible refine (C1X.out _ hB1).mono ?_); rintro e w2 ⟨rfl, hb2⟩; (have hB2 := bel_call hB1 hb2); (have HB2 := Lib.hid (HB1.out.call hb2)))
        | (go_at_call 7; (with_reducible refine (C2X.out _ hB2).mono ?_); rintro e w3 ⟨rfl, hb3⟩; (have hB3 := bel_call hB2 hb3); (have HB3 := Lib.hid (HB2.out.call hb3)))
        | (go_at_call 8; (with_reducible refine (C3X.out _ hB3).mono ?_); rintro e w4 ⟨rfl, hb4⟩; (have hB4 := bel_call hB3 hb4); (have HB4 := Lib.hid (HB3.out.call hb4)); dsimp only)
        | (go_at_call 9; (with_reducible refine (CEX.out _ hB4).mono ?_); rintro e w5 ⟨rfl, hb5⟩; (have hB5 := bel_call hB4 hb5); (have HB5 := Lib.hid (HB4.out.call hb5)))
        | (go_at_call 10; (with_reducible refine (C4X.out _).mono ?_); rintro e w6 ⟨rfl, hb6⟩; (have hB6 := bel_call hB5 hb6); (have HB6 := Lib.hid (HB5.out.call hb6)); dsimp only)
        | (go_at_call 11; (with_reducible refine (C6X.out _ hB6).mono ?_); rintro e w7 ⟨rfl, hb7⟩; (have hB7 := bel_call hB6 hb7); (have HB7 := Lib.hid (HB6.out.call hb7)); dsimp only)
        | (go_at_call 9; (with_reducible refine (CE3.out _ hB7).mono ?_); rintro e w8 ⟨rfl, hb8⟩; (have hB8 := bel_call hB7 hb8); (have HB8 := Lib.hid (HB7.out.call hb8)))
        | (go_at_call 12; (with_reducible refine (C8.out _).mono ?_); rintro e w9 ⟨rfl, hb9⟩; (have hB9 := bel_call hB8 hb9); (have HB9 := Lib.hid (HB8.out.call hb9))))
      clear C1X C3X C4X CE0 CE3 CF C8 C2X
      obtain ⟨y0, y1, y2, y3, y4, -⟩ := HB9.out.cells
      rcases signs I V W' F T with h | ⟨h, h'⟩ | ⟨h, h', h''⟩ | ⟨h, h', h'', h3⟩ | ⟨h, h', h'', h3, h4⟩ | ⟨h, h', h'', h3, h4⟩
      · go_wp2_with fail
        go_ret
        exact ⟨rfl, hB9⟩
      · go_wp2_with fail
        go_ret
        exact ⟨rfl, hB9⟩
      · go_wp2_with fail
        go_ret
        exact ⟨rfl, hB9⟩
      · go_wp2_with fail
        go_ret
        exact ⟨rfl, hB9⟩
      · go_wp2_with fail
        go_ret
        exact ⟨rfl, hB9⟩
      · go_wp2_with (first
          | (go_at_call 13; (with_reducible refine (C9X.out _ hB9).mono ?_); rintro e w10 ⟨rfl, hb10⟩; (have hB10 := bel_call hB9 hb10); (have HB10 := Lib.hid (HB9.out.call hb10)); (obtain ⟨z0, z1, z2, z3, z4, -⟩ := HB10.out.cells); dsimp only)
          | (go_at_call 9; (with_reducible refine (CEX.out _ hB10).mono ?_); rintro e w11 ⟨rfl, hb11⟩; (have hB11 := bel_call hB10 hb11); (have HB11 := Lib.hid (HB10.out.call hb11)); (obtain ⟨t0, t1, t2, t3, t4, -⟩ := HB11.out.cells))
          | (go_at_call 14; (with_reducible refine (C10X.out _ hB11).mono ?_); rintro e w12 ⟨rfl, hb12⟩; (have hB12 := bel_call hB11 hb12)))
        go_ret
        exact ⟨rfl, hB12⟩
  · obtain ⟨ev, hev⟩ : ∃ v, errV (ruleF (ruleV ps)) = v := ⟨_, rfl⟩
    obtain ⟨z, hz⟩ : ∃ z : Int, ((ruleF (ruleV ps) : Nat) : Int) = z := ⟨_, rfl⟩
    have hz0 : ¬ z = 0 := by omega
    have C3X := Lib.hid fun (W : World) (hW : Below w.heap.size w W) => (show Calls Tryz.prog 8 #[.slice A n c] W (Gives W (.tuple #[.string ⟨#[]⟩, ev])) from (C3.out W hW).mono fun e w' ⟨he, hb⟩ => ⟨by rw [he, hev]; unfold textS; rw [if_neg h0], hb⟩)
    have C9X := Lib.hid fun (W : World) (hW : Below w.heap.size w W) => (show Calls Tryz.prog 13 #[.slice A n c, .agg #[.int .i64 I, .int .i64 V, .int .i64 W', .int .i64 F, .int .i64 T]] W (Gives W (.tuple #[.bool false, ev])) from (C9.out W hW).mono fun e w' ⟨he, hb⟩ => ⟨by rw [he, hev]; unfold holdsB; rw [if_neg h0], hb⟩)
    have C1X := Lib.hid fun (W : World) (hW : Below w.heap.size w W) => (show Calls Tryz.prog 6 #[.slice A n c] W (Gives W (.int .i64 z)) from (C1.out W hW).mono fun e w' ⟨he, hb⟩ => ⟨by rw [he, hz], hb⟩)
    have CEX := Lib.hid fun (W : World) (hW : Below w.heap.size w W) => (show Calls Tryz.prog 9 #[ev, .int .i64 z] W (TrueB W) from (by rw [← hev]; exact CE.out _ _ hz W hW))
    clear C1 C2 C3 C9 C10 CE h0 hev hz
    by_cases hr : IsRule l (ruleOfL l)
    · have C4X := Lib.hid fun (W : World) => (show Calls Tryz.prog 10 #[.string (str l)] W (OfYes W (ruleOfL l)) from (C4.out W).mono fun _ _ h => h.elim (fun h => h.2) (fun h => absurd hr h.1))
      have C5X := Lib.hid (C5.out hr)
      clear C4 C5 C6 hr
      go_enter Tryz.func3, Tryz.ntmps3
      go_upto_region 17 with (first
        | (go_at_call 5; (with_reducible refine (CF.out _ hb0).mono ?_); rintro e w1 ⟨rfl, hb1⟩; (have hB1 := bel_call hb0 hb1); (have HB1 := Lib.hid (H0.out.call hb1)))
        | (go_at_call 6; (with_reducible refine (C1X.out _ hB1).mono ?_); rintro e w2 ⟨rfl, hb2⟩; (have hB2 := bel_call hB1 hb2); (have HB2 := Lib.hid (HB1.out.call hb2)))
        | (go_at_call 8; (with_reducible refine (C3X.out _ hB2).mono ?_); rintro e w4 ⟨rfl, hb4⟩; (have hB4 := bel_call hB2 hb4); (have HB4 := Lib.hid (HB2.out.call hb4)); dsimp only)
        | (go_at_call 9; (with_reducible refine (CEX.out _ hB4).mono ?_); rintro e w5 ⟨rfl, hb5⟩; (have hB5 := bel_call hB4 hb5); (have HB5 := Lib.hid (HB4.out.call hb5)))
        | (go_at_call 10; (with_reducible refine (C4X.out _).mono ?_); rintro e w6 ⟨p6, A6, c6, hv6, rfl, hc6, ho6, hb6⟩; (have hB6 := bel_call hB5 hb6); (have HB6 := Lib.hid (HB5.out.call hb6)); dsimp only)
        | (go_at_call 11; (with_reducible refine (C5X.out _ hB6).mono ?_); rintro e w7 ⟨p7, A7, c7, hv7, rfl, hc7, ho7, hb7⟩; (have hB7 := bel_call hB6 hb7); (have HB7 := Lib.hid (HB6.out.call hb7)); (have ho67 := ho6.later hb7); dsimp only)
        | (go_at_call 9; (with_reducible refine (CE0.out _ hB7).mono ?_); rintro e w8 ⟨rfl, hb8⟩; (have hB8 := bel_call hB7 hb8); (have HB8 := Lib.hid (HB7.out.call hb8)); (have ho68 := ho67.later hb8); (have ho78 := ho7.later hb8))
        | (go_at_call 12; (with_reducible refine (C7.out A7 A6 c7 c6 _ _ p7 p6 _ hv7 hv6 ho78 ho68).mono ?_); rintro e w9 ⟨rfl, hb9⟩; (have hB9 := bel_call hB8 hb9); (have HB9 := Lib.hid (HB8.out.call hb9))))
      clear ho6 ho7 ho67 ho68 ho78 C7 C5X
      clear C1X C3X C4X CE0 CE3 CF C8
      obtain ⟨y0, y1, y2, y3, y4, -⟩ := HB9.out.cells
      rcases signs I V W' F T with h | ⟨h, h'⟩ | ⟨h, h', h''⟩ | ⟨h, h', h'', h3⟩ | ⟨h, h', h'', h3, h4⟩ | ⟨h, h', h'', h3, h4⟩
      · go_wp2_with fail
        go_ret
        exact ⟨rfl, hB9⟩
      · go_wp2_with fail
        go_ret
        exact ⟨rfl, hB9⟩
      · go_wp2_with fail
        go_ret
        exact ⟨rfl, hB9⟩
      · go_wp2_with fail
        go_ret
        exact ⟨rfl, hB9⟩
      · go_wp2_with fail
        go_ret
        exact ⟨rfl, hB9⟩
      · go_wp2_with (first
          | (go_at_call 13; (with_reducible refine (C9X.out _ hB9).mono ?_); rintro e w10 ⟨rfl, hb10⟩; (have hB10 := bel_call hB9 hb10); (have HB10 := Lib.hid (HB9.out.call hb10)); (obtain ⟨z0, z1, z2, z3, z4, -⟩ := HB10.out.cells); dsimp only)
          | (go_at_call 9; (with_reducible refine (CEX.out _ hB10).mono ?_); rintro e w11 ⟨rfl, hb11⟩; (have hB11 := bel_call hB10 hb11); (have HB11 := Lib.hid (HB10.out.call hb11)); (obtain ⟨t0, t1, t2, t3, t4, -⟩ := HB11.out.cells)))
        go_ret
        exact ⟨rfl, hB11⟩
    · have C4X := Lib.hid fun (W : World) => (show Calls Tryz.prog 10 #[.string (str l)] W (OfNo W) from (C4.out W).mono fun _ _ h => h.elim (fun h => absurd h.1 hr) (fun h => h.2))
      have C6X := Lib.hid (C6.out hr)
      clear C4 C5 C6 hr C7
      go_enter Tryz.func3, Tryz.ntmps3
      go_upto_region 17 with (first
        | (go_at_call 5; (with_reducible refine (CF.out _ hb0).mono ?_); rintro e w1 ⟨rfl, hb1⟩; (have hB1 := bel_call hb0 hb1); (have HB1 := Lib.hid (H0.out.call hb1)))
        | (go_at_call 6; (with_reducible refine (C1X.out _ hB1).mono ?_); rintro e w2 ⟨rfl, hb2⟩; (have hB2 := bel_call hB1 hb2); (have HB2 := Lib.hid (HB1.out.call hb2)))
        | (go_at_call 8; (with_reducible refine (C3X.out _ hB2).mono ?_); rintro e w4 ⟨rfl, hb4⟩; (have hB4 := bel_call hB2 hb4); (have HB4 := Lib.hid (HB2.out.call hb4)); dsimp only)
        | (go_at_call 9; (with_reducible refine (CEX.out _ hB4).mono ?_); rintro e w5 ⟨rfl, hb5⟩; (have hB5 := bel_call hB4 hb5); (have HB5 := Lib.hid (HB4.out.call hb5)))
        | (go_at_call 10; (with_reducible refine (C4X.out _).mono ?_); rintro e w6 ⟨rfl, hb6⟩; (have hB6 := bel_call hB5 hb6); (have HB6 := Lib.hid (HB5.out.call hb6)); dsimp only)
        | (go_at_call 11; (with_reducible refine (C6X.out _ hB6).mono ?_); rintro e w7 ⟨rfl, hb7⟩; (have hB7 := bel_call hB6 hb7); (have HB7 := Lib.hid (HB6.out.call hb7)); dsimp only)
        | (go_at_call 9; (with_reducible refine (CE3.out _ hB7).mono ?_); rintro e w8 ⟨rfl, hb8⟩; (have hB8 := bel_call hB7 hb8); (have HB8 := Lib.hid (HB7.out.call hb8)))
        | (go_at_call 12; (with_reducible refine (C8.out _).mono ?_); rintro e w9 ⟨rfl, hb9⟩; (have hB9 := bel_call hB8 hb9); (have HB9 := Lib.hid (HB8.out.call hb9))))
      clear C1X C3X C4X CE0 CE3 CF C8
      obtain ⟨y0, y1, y2, y3, y4, -⟩ := HB9.out.cells
      rcases signs I V W' F T with h | ⟨h, h'⟩ | ⟨h, h', h''⟩ | ⟨h, h', h'', h3⟩ | ⟨h, h', h'', h3, h4⟩ | ⟨h, h', h'', h3, h4⟩
      · go_wp2_with fail
        go_ret
        exact ⟨rfl, hB9⟩
      · go_wp2_with fail
        go_ret
        exact ⟨rfl, hB9⟩
      · go_wp2_with fail
        go_ret
        exact ⟨rfl, hB9⟩
      · go_wp2_with fail
        go_ret
        exact ⟨rfl, hB9⟩
      · go_wp2_with fail
        go_ret
        exact ⟨rfl, hB9⟩
      · go_wp2_with (first
          | (go_at_call 13; (with_reducible refine (C9X.out _ hB9).mono ?_); rintro e w10 ⟨rfl, hb10⟩; (have hB10 := bel_call hB9 hb10); (have HB10 := Lib.hid (HB9.out.call hb10)); (obtain ⟨z0, z1, z2, z3, z4, -⟩ := HB10.out.cells); dsimp only)
          | (go_at_call 9; (with_reducible refine (CEX.out _ hB10).mono ?_); rintro e w11 ⟨rfl, hb11⟩; (have hB11 := bel_call hB10 hb11); (have HB11 := Lib.hid (HB10.out.call hb11)); (obtain ⟨t0, t1, t2, t3, t4, -⟩ := HB11.out.cells)))
        go_ret
        exact ⟨rfl, hB11⟩
end Ru
end Go.Proofs.YtabglcpllfcmbaaGreatDoor
