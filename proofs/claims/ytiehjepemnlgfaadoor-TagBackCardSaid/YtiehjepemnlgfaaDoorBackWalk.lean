/- The law TagBack, walked: it returns true for every tag and every text that is not too long; what lay in memory stays as it was. -/
import Derived.Test.YtiehjepemnlgfaaDoorHeld
import Derived.Test.YtiehjepemnlgfaaDoorRefLower
import Derived.Deep.DeepCutAuto
namespace Go.Proofs.YtiehjepemnlgfaaDoor
open Go.RowKit
attribute [local go_sem ↓] Go.wp_at_zero Go.wp_at_succ

set_option maxHeartbeats 4000000 in
set_option maxRecDepth 100000 in
theorem back_any (L S R : ByteArray) (A : Option Addr) (n c : Nat) (vs : List ByteArray) (s : ByteArray) (w : World)
    (h : Reads w w.heap.size 1 A n (sv vs)) (hn : n < maxLen)
    (hL : L.size ≤ maxLen) (hS : S.size ≤ maxLen) (hR : R.size ≤ maxLen) (hvs : ∀ v ∈ vs, v.size ≤ maxLen) (hs : s.size ≤ 140737488355328) :
    Calls Tryd.prog 3 #[.agg #[.string L, .string S, .string R, .slice A n c], .string s] w (TrueBelow w) := by
  have ra : ∀ W, Below w.heap.size w W → Reads W W.heap.size 1 A n (sv vs) := fun W hb => (h.below hb).more hb.size
  have hT0 : TagAt (w.alloc (.cells (tagCs L S R A n c) 24)) w.heap.size L S R A n c vs := TagAt.new w h
  have hB0 : Below w.heap.size w (w.alloc (.cells (tagCs L S R A n c) 24)) := up_alloc (Below.refl _ _) _
  have CF := Lib.hid (fun (W : World) (_ : Below w.heap.size w W) => tagged_any W)
  have CC := Lib.hid (fun (W : World) (hb : Below w.heap.size w W) => check_any L S R A n c vs W (ra W hb) hvs hn hL hS hR)
  have hvl := (ra w (Below.refl _ _)).len
  have HFA : Hid (P.fault (tagT L S R vs) = 0 ∨ ∃ k, P.fault (tagT L S R vs) = k + 1) := Lib.hid (by cases hf : P.fault (tagT L S R vs) with | zero => exact .inl rfl | succ k => exact .inr ⟨k, rfl⟩)
  have KT := Lib.hid (fun (hf : P.fault (tagT L S R vs) = 0) => known hf hvl)
  have HRA := Lib.hid ra
  clear ra hvl h
  cases hp : parseB s with
  | none =>
    have CP := Lib.hid (fun (W : World) (_ : Below w.heap.size w W) => parse_none hp W hs)
    clear hp
    go_enter Tryd.func3, Tryd.ntmps3
    go_upto_region 5 with (first
      | (go_at_call 5; (with_reducible refine (CP.out _ hB1).mono ?_); rintro e w2 ⟨rfl, hb2⟩; (have hT2 := (hT1.later hb2).alloc (.cells #[.string ⟨#[]⟩, .string ⟨#[]⟩, .string ⟨#[]⟩, .slice none 0 0] 24)); (have hB2 := up_alloc (up_call hB1 hb2) (.cells #[.string ⟨#[]⟩, .string ⟨#[]⟩, .string ⟨#[]⟩, .slice none 0 0] 24)); unfold zeroTag)
      | (go_at_call 4; (with_reducible refine (CF.out _ hB0).mono ?_); rintro e w1 ⟨rfl, hb1⟩; (have hT1 := hT0.later hb1); (have hB1 := up_call hB0 hb1)))
    clear hT1 hB1 hb1 hb2 CP CF hT0 hB0
    obtain ⟨t0, t1, t2, t3⟩ := hT2.cells
    rcases HFA.out with hf | ⟨k, hf⟩
    · have hk := KT.out hf
      have hst : (textOf L S R vs).size ≤ 2000 := by have := hk.size; have := hk.len; have := hk.lens; omega
      have CT : Hid (∀ W : World, Below w.heap.size w W → TextCall L S R A n c (textOf L S R vs) W) := Lib.hid (fun W hb => text_any L S R A n c vs W (HRA.out W hb) hk.few hk.short)
      have CPT : Hid (∀ W : World, Below w.heap.size w W → Calls Tryd.prog 5 #[.string (textOf L S R vs)] W (ParsedTo W ⟨L, S, R, vs⟩)) := Lib.hid (fun W _ => parse_some (parse_text hf rfl) W (by omega))
      have CPL : Hid (∀ W : World, Below w.heap.size w W → Calls Tryd.prog 5 #[.string (lowB (textOf L S R vs))] W (ParsedTo W ⟨L, S, R, vs⟩)) := Lib.hid (fun W _ => parse_some (parse_text hf (by rw [lowB_data, P.lo_lo])) W (by rw [lowB_size]; omega))
      have CPU : Hid (∀ W : World, Below w.heap.size w W → Calls Tryd.prog 5 #[.string (uppB (textOf L S R vs))] W (ParsedTo W ⟨L, S, R, vs⟩)) := Lib.hid (fun W _ => parse_some (parse_text hf (by rw [uppB_data, P.lo_up])) W (by rw [uppB_size]; omega))
      have CLT : Hid (∀ W : World, Calls Tryd.prog 6 #[.string (textOf L S R vs)] W fun e w' => e = .returned (.string (lowB (textOf L S R vs))) ∧ Below W.heap.size W w') := Lib.hid (fun W => refLower_any _ W (by unfold maxLen; omega))
      have CUT : Hid (∀ W : World, Calls Tryd.prog 9 #[.string (textOf L S R vs)] W fun e w' => e = .returned (.string (uppB (textOf L S R vs))) ∧ Below W.heap.size W w') := Lib.hid (fun W => refUpper_any _ W (by unfold maxLen; omega))
      have CS : Hid (∀ (W : World) (A1 : Option Addr) (n1 c1 : Nat), Reads W W.heap.size 1 A1 n1 (sv vs) → Below w.heap.size w W → Calls Tryd.prog 10 #[.agg #[.string L, .string S, .string R, .slice A1 n1 c1], .agg #[.string L, .string S, .string R, .slice A n c]] W fun e w' => e = .returned (.bool true) ∧ Below W.heap.size W w') :=
        Lib.hid (fun W A1 n1 c1 hr hb => by have := sameTag_any L S R A1 n1 c1 vs L S R A n c vs W hr (HRA.out W hb) (by have := hr.len; have := (HRA.out W hb).len; omega) hn; rw [same_self] at this; exact this)
      have HF := Lib.hid hf
      clear hf hk hst KT HFA hvs hL hS hR hs HRA
      generalize lowB (textOf L S R vs) = LT at *
      generalize uppB (textOf L S R vs) = UT at *
      generalize textOf L S R vs = T at *
      go_upto_region 7 with (go_at_call 8; (with_reducible refine (CC.out _ hB2).mono ?_); rintro e v3 ⟨rfl, hd3⟩; (rw [HF.out, errV_zero]); (have hT3 := hT2.later hd3); (have hB3 := up_call hB2 hd3))
      obtain ⟨t0', t1', t2', t3'⟩ := hT3.cells
      clear t0 t1 t2 t3 hT2 hB2 hd3 CC HF
      go_upto_region 8 with (first
        | (go_at_call 5; (with_reducible refine (CPT.out _ hB4).mono ?_); rintro e v5 ⟨A5, n5, c5, rfl, hrd5, hd5⟩; (have hA5 := TagAt.new (L := L) (S := S) (R := R) (c := c5) v5 hrd5); (have hT5 := (hT4.later hd5).alloc (.cells (tagCs L S R A5 n5 c5) 24)); (have hB5 := up_alloc (up_call hB4 hd5) (.cells (tagCs L S R A5 n5 c5) 24)))
        | (go_at_call 7; (with_reducible refine (CT.out _ hB3).mono ?_); rintro e v4 ⟨rfl, hd4⟩; (have hT4 := hT3.later hd4); (have hB4 := up_call hB3 hd4)))
      obtain ⟨t0, t1, t2, t3⟩ := hT5.cells
      clear t0' t1' t2' t3' hT3 hB3 hT4 hB4 hd4 hd5 CPT hrd5
      go_upto_region 9 with (first
        | (go_at_call 5; (with_reducible refine (CPL.out _ hB7).mono ?_); rintro e v8 ⟨A8, n8, c8, rfl, hrd8, hd8⟩; (have hA8 := ((hA5.later hd6).later hd7).later hd8 |>.alloc (.cells (tagCs L S R A8 n8 c8) 24)); (have hC8 := TagAt.new (L := L) (S := S) (R := R) (c := c8) v8 hrd8); (have hT8 := (hT7.later hd8).alloc (.cells (tagCs L S R A8 n8 c8) 24)); (have hB8 := up_alloc (up_call hB7 hd8) (.cells (tagCs L S R A8 n8 c8) 24)))
        | (go_at_call 6; (with_reducible refine (CLT.out _).mono ?_); rintro e v7 ⟨rfl, hd7⟩; (have hT7 := hT6.later hd7); (have hB7 := up_call hB6 hd7))
        | (go_at_call 7; (with_reducible refine (CT.out _ hB5).mono ?_); rintro e v6 ⟨rfl, hd6⟩; (have hT6 := hT5.later hd6); (have hB6 := up_call hB5 hd6)))
      obtain ⟨t0', t1', t2', t3'⟩ := hT8.cells
      clear t0 t1 t2 t3 hT5 hB5 hT6 hB6 hT7 hB7 hd6 hd7 hd8 CPL CLT hrd8 hA5
      go_upto_region 10 with (first
        | (go_at_call 5; (with_reducible refine (CPU.out _ hB10).mono ?_); rintro e v11 ⟨A11, n11, c11, rfl, hrd11, hd11⟩; (have hA11 := ((hA8.later hd9).later hd10).later hd11 |>.alloc (.cells (tagCs L S R A11 n11 c11) 24)); (have hC11 := ((hC8.later hd9).later hd10).later hd11 |>.alloc (.cells (tagCs L S R A11 n11 c11) 24)); (have hE11 := TagAt.new (L := L) (S := S) (R := R) (c := c11) v11 hrd11); (have hT11 := (hT10.later hd11).alloc (.cells (tagCs L S R A11 n11 c11) 24)); (have hB11 := up_alloc (up_call hB10 hd11) (.cells (tagCs L S R A11 n11 c11) 24)))
        | (go_at_call 9; (with_reducible refine (CUT.out _).mono ?_); rintro e v10 ⟨rfl, hd10⟩; (have hT10 := hT9.later hd10); (have hB10 := up_call hB9 hd10))
        | (go_at_call 7; (with_reducible refine (CT.out _ hB8).mono ?_); rintro e v9 ⟨rfl, hd9⟩; (have hT9 := hT8.later hd9); (have hB9 := up_call hB8 hd9)))
      obtain ⟨t0, t1, t2, t3⟩ := hT11.cells
      obtain ⟨a0, a1, a2, a3⟩ := hA11.cells
      clear t0' t1' t2' t3' hT8 hB8 hT9 hB9 hT10 hB10 CPU CUT CT hrd11 hA8 hC8
      go_upto_region 11 with (go_at_call 10; (with_reducible refine (CS.out _ _ _ _ hA11.reads hB11).mono ?_); rintro e v12 ⟨rfl, hd12⟩)
      have hT12 := hT11.later hd12
      have hB12 := up_call hB11 hd12
      have hC12 := hC11.later hd12
      have hE12 := hE11.later hd12
      obtain ⟨t0', t1', t2', t3'⟩ := hT12.cells
      obtain ⟨b0, b1, b2, b3⟩ := hC12.cells
      clear t0 t1 t2 t3 a0 a1 a2 a3
      go_upto_region 12 with (go_at_call 10; (with_reducible refine (CS.out _ _ _ _ hC12.reads hB12).mono ?_); rintro e v13 ⟨rfl, hd13⟩)
      have hT13 := hT12.later hd13
      have hB13 := up_call hB12 hd13
      have hE13 := hE12.later hd13
      obtain ⟨t0, t1, t2, t3⟩ := hT13.cells
      obtain ⟨e0, e1, e2, e3⟩ := hE13.cells
      clear t0' t1' t2' t3' b0 b1 b2 b3
      go_wp2_with (go_at_call 10; (with_reducible refine (CS.out _ _ _ _ hE13.reads hB13).mono ?_); rintro e v14 ⟨rfl, hd14⟩)
      go_ret
      exact ⟨rfl, up_call hB13 hd14⟩
    · have HF := Lib.hid hf; clear hf
      go_wp2_with (go_at_call 8; (with_reducible refine (CC.out _ hB2).mono ?_); rintro e v3 ⟨rfl, hd3⟩; (rw [HF.out, errV_succ]))
      go_ret
      exact ⟨rfl, up_call hB2 hd3⟩
  | some x =>
    obtain ⟨hx, hlow⟩ := text_parse hp
    obtain ⟨xL, xS, xR, xV⟩ := x
    dsimp only at hx hlow
    have hxk := known (n := xV.length) hx rfl
    have hsx : (textOf xL xS xR xV).size ≤ maxLen := by have := hxk.size; have := hxk.len; have := hxk.lens; unfold maxLen; omega
    have CP := Lib.hid (fun (W : World) (_ : Below w.heap.size w W) => parse_some hp W hs)
    have CTX : Hid (∀ (W : World) (A1 : Option Addr) (n1 c1 : Nat), Reads W W.heap.size 1 A1 n1 (sv xV) → TextCall xL xS xR A1 n1 c1 (textOf xL xS xR xV) W) := Lib.hid (fun W A1 n1 c1 hr => text_any xL xS xR A1 n1 c1 xV W hr (by have := hr.len; have := hxk.few; unfold Few at *; omega) hxk.short)
    have CLX : Hid (∀ W : World, Calls Tryd.prog 6 #[.string (textOf xL xS xR xV)] W fun e w' => e = .returned (.string (lowB s)) ∧ Below W.heap.size W w') := Lib.hid (fun W => by rw [← hlow]; exact refLower_any _ W hsx)
    have CLS : Hid (∀ W : World, Calls Tryd.prog 6 #[.string s] W fun e w' => e = .returned (.string (lowB s)) ∧ Below W.heap.size W w') := Lib.hid (fun W => refLower_any _ W (by unfold maxLen; omega))
    clear hp hx hlow hxk hsx
    generalize textOf xL xS xR xV = TX at *
    generalize lowB s = LS at *
    go_enter Tryd.func3, Tryd.ntmps3
    go_upto_region 5 with (first
      | (go_at_call 6; (with_reducible refine (CLS.out _).mono ?_); rintro e w5 ⟨rfl, hb5⟩; (have hT2 := hT4.later hb5); (have hB2 := up_call hB4 hb5))
      | (go_at_call 6; (with_reducible refine (CLX.out _).mono ?_); rintro e w4 ⟨rfl, hb4⟩; (have hT4 := hT3.later hb4); (have hB4 := up_call hB3 hb4))
      | (go_at_call 7; (with_reducible refine (CTX.out _ _ _ _ hX2.reads).mono ?_); rintro e w3 ⟨rfl, hb3⟩; (have hT3 := hT12.later hb3); (have hB3 := up_call hB12 hb3))
      | (go_at_call 5; (with_reducible refine (CP.out _ hB1).mono ?_); rintro e w2 ⟨A1, n1, c1, rfl, hrd1, hb2⟩; (have hX2 := TagAt.new (L := xL) (S := xS) (R := xR) (c := c1) w2 hrd1); (have hT12 := (hT1.later hb2).alloc (.cells (tagCs xL xS xR A1 n1 c1) 24)); (have hB12 := up_alloc (up_call hB1 hb2) (.cells (tagCs xL xS xR A1 n1 c1) 24)); obtain ⟨x0, x1, x2, x3⟩ := hX2.cells)
      | (go_at_call 4; (with_reducible refine (CF.out _ hB0).mono ?_); rintro e w1 ⟨rfl, hb1⟩; (have hT1 := hT0.later hb1); (have hB1 := up_call hB0 hb1)))
    clear hT1 hB1 hb1 hb2 CP CF hT0 hB0 hb3 hb4 hb5 hT3 hB3 hT4 hB4 hX2 hT12 hB12 x0 x1 x2 x3 CTX CLX CLS hrd1
    obtain ⟨t0, t1, t2, t3⟩ := hT2.cells
    rcases HFA.out with hf | ⟨k, hf⟩
    · have hk := KT.out hf
      have hst : (textOf L S R vs).size ≤ 2000 := by have := hk.size; have := hk.len; have := hk.lens; omega
      have CT : Hid (∀ W : World, Below w.heap.size w W → TextCall L S R A n c (textOf L S R vs) W) := Lib.hid (fun W hb => text_any L S R A n c vs W (HRA.out W hb) hk.few hk.short)
      have CPT : Hid (∀ W : World, Below w.heap.size w W → Calls Tryd.prog 5 #[.string (textOf L S R vs)] W (ParsedTo W ⟨L, S, R, vs⟩)) := Lib.hid (fun W _ => parse_some (parse_text hf rfl) W (by omega))
      have CPL : Hid (∀ W : World, Below w.heap.size w W → Calls Tryd.prog 5 #[.string (lowB (textOf L S R vs))] W (ParsedTo W ⟨L, S, R, vs⟩)) := Lib.hid (fun W _ => parse_some (parse_text hf (by rw [lowB_data, P.lo_lo])) W (by rw [lowB_size]; omega))
      have CPU : Hid (∀ W : World, Below w.heap.size w W → Calls Tryd.prog 5 #[.string (uppB (textOf L S R vs))] W (ParsedTo W ⟨L, S, R, vs⟩)) := Lib.hid (fun W _ => parse_some (parse_text hf (by rw [uppB_data, P.lo_up])) W (by rw [uppB_size]; omega))
      have CLT : Hid (∀ W : World, Calls Tryd.prog 6 #[.string (textOf L S R vs)] W fun e w' => e = .returned (.string (lowB (textOf L S R vs))) ∧ Below W.heap.size W w') := Lib.hid (fun W => refLower_any _ W (by unfold maxLen; omega))
      have CUT : Hid (∀ W : World, Calls Tryd.prog 9 #[.string (textOf L S R vs)] W fun e w' => e = .returned (.string (uppB (textOf L S R vs))) ∧ Below W.heap.size W w') := Lib.hid (fun W => refUpper_any _ W (by unfold maxLen; omega))
      have CS : Hid (∀ (W : World) (A1 : Option Addr) (n1 c1 : Nat), Reads W W.heap.size 1 A1 n1 (sv vs) → Below w.heap.size w W → Calls Tryd.prog 10 #[.agg #[.string L, .string S, .string R, .slice A1 n1 c1], .agg #[.string L, .string S, .string R, .slice A n c]] W fun e w' => e = .returned (.bool true) ∧ Below W.heap.size W w') :=
        Lib.hid (fun W A1 n1 c1 hr hb => by have := sameTag_any L S R A1 n1 c1 vs L S R A n c vs W hr (HRA.out W hb) (by have := hr.len; have := (HRA.out W hb).len; omega) hn; rw [same_self] at this; exact this)
      have HF := Lib.hid hf
      clear hf hk hst KT HFA hvs hL hS hR hs HRA
      generalize lowB (textOf L S R vs) = LT at *
      generalize uppB (textOf L S R vs) = UT at *
      generalize textOf L S R vs = T at *
      go_upto_region 7 with (go_at_call 8; (with_reducible refine (CC.out _ hB2).mono ?_); rintro e v3 ⟨rfl, hd3⟩; (rw [HF.out, errV_zero]); (have hT3 := hT2.later hd3); (have hB3 := up_call hB2 hd3))
      obtain ⟨t0', t1', t2', t3'⟩ := hT3.cells
      clear t0 t1 t2 t3 hT2 hB2 hd3 CC HF
      go_upto_region 8 with (first
        | (go_at_call 5; (with_reducible refine (CPT.out _ hB4).mono ?_); rintro e v5 ⟨A5, n5, c5, rfl, hrd5, hd5⟩; (have hA5 := TagAt.new (L := L) (S := S) (R := R) (c := c5) v5 hrd5); (have hT5 := (hT4.later hd5).alloc (.cells (tagCs L S R A5 n5 c5) 24)); (have hB5 := up_alloc (up_call hB4 hd5) (.cells (tagCs L S R A5 n5 c5) 24)))
        | (go_at_call 7; (with_reducible refine (CT.out _ hB3).mono ?_); rintro e v4 ⟨rfl, hd4⟩; (have hT4 := hT3.later hd4); (have hB4 := up_call hB3 hd4)))
      obtain ⟨t0, t1, t2, t3⟩ := hT5.cells
      clear t0' t1' t2' t3' hT3 hB3 hT4 hB4 hd4 hd5 CPT hrd5
      go_upto_region 9 with (first
        | (go_at_call 5; (with_reducible refine (CPL.out _ hB7).mono ?_); rintro e v8 ⟨A8, n8, c8, rfl, hrd8, hd8⟩; (have hA8 := ((hA5.later hd6).later hd7).later hd8 |>.alloc (.cells (tagCs L S R A8 n8 c8) 24)); (have hC8 := TagAt.new (L := L) (S := S) (R := R) (c := c8) v8 hrd8); (have hT8 := (hT7.later hd8).alloc (.cells (tagCs L S R A8 n8 c8) 24)); (have hB8 := up_alloc (up_call hB7 hd8) (.cells (tagCs L S R A8 n8 c8) 24)))
        | (go_at_call 6; (with_reducible refine (CLT.out _).mono ?_); rintro e v7 ⟨rfl, hd7⟩; (have hT7 := hT6.later hd7); (have hB7 := up_call hB6 hd7))
        | (go_at_call 7; (with_reducible refine (CT.out _ hB5).mono ?_); rintro e v6 ⟨rfl, hd6⟩; (have hT6 := hT5.later hd6); (have hB6 := up_call hB5 hd6)))
      obtain ⟨t0', t1', t2', t3'⟩ := hT8.cells
      clear t0 t1 t2 t3 hT5 hB5 hT6 hB6 hT7 hB7 hd6 hd7 hd8 CPL CLT hrd8 hA5
      go_upto_region 10 with (first
        | (go_at_call 5; (with_reducible refine (CPU.out _ hB10).mono ?_); rintro e v11 ⟨A11, n11, c11, rfl, hrd11, hd11⟩; (have hA11 := ((hA8.later hd9).later hd10).later hd11 |>.alloc (.cells (tagCs L S R A11 n11 c11) 24)); (have hC11 := ((hC8.later hd9).later hd10).later hd11 |>.alloc (.cells (tagCs L S R A11 n11 c11) 24)); (have hE11 := TagAt.new (L := L) (S := S) (R := R) (c := c11) v11 hrd11); (have hT11 := (hT10.later hd11).alloc (.cells (tagCs L S R A11 n11 c11) 24)); (have hB11 := up_alloc (up_call hB10 hd11) (.cells (tagCs L S R A11 n11 c11) 24)))
        | (go_at_call 9; (with_reducible refine (CUT.out _).mono ?_); rintro e v10 ⟨rfl, hd10⟩; (have hT10 := hT9.later hd10); (have hB10 := up_call hB9 hd10))
        | (go_at_call 7; (with_reducible refine (CT.out _ hB8).mono ?_); rintro e v9 ⟨rfl, hd9⟩; (have hT9 := hT8.later hd9); (have hB9 := up_call hB8 hd9)))
      obtain ⟨t0, t1, t2, t3⟩ := hT11.cells
      obtain ⟨a0, a1, a2, a3⟩ := hA11.cells
      clear t0' t1' t2' t3' hT8 hB8 hT9 hB9 hT10 hB10 CPU CUT CT hrd11 hA8 hC8
      go_upto_region 11 with (go_at_call 10; (with_reducible refine (CS.out _ _ _ _ hA11.reads hB11).mono ?_); rintro e v12 ⟨rfl, hd12⟩)
      have hT12 := hT11.later hd12
      have hB12 := up_call hB11 hd12
      have hC12 := hC11.later hd12
      have hE12 := hE11.later hd12
      obtain ⟨t0', t1', t2', t3'⟩ := hT12.cells
      obtain ⟨b0, b1, b2, b3⟩ := hC12.cells
      clear t0 t1 t2 t3 a0 a1 a2 a3
      go_upto_region 12 with (go_at_call 10; (with_reducible refine (CS.out _ _ _ _ hC12.reads hB12).mono ?_); rintro e v13 ⟨rfl, hd13⟩)
      have hT13 := hT12.later hd13
      have hB13 := up_call hB12 hd13
      have hE13 := hE12.later hd13
      obtain ⟨t0, t1, t2, t3⟩ := hT13.cells
      obtain ⟨e0, e1, e2, e3⟩ := hE13.cells
      clear t0' t1' t2' t3' b0 b1 b2 b3
      go_wp2_with (go_at_call 10; (with_reducible refine (CS.out _ _ _ _ hE13.reads hB13).mono ?_); rintro e v14 ⟨rfl, hd14⟩)
      go_ret
      exact ⟨rfl, up_call hB13 hd14⟩
    · have HF := Lib.hid hf; clear hf
      go_wp2_with (go_at_call 8; (with_reducible refine (CC.out _ hB2).mono ?_); rintro e v3 ⟨rfl, hd3⟩; (rw [HF.out, errV_succ]))
      go_ret
      exact ⟨rfl, up_call hB2 hd3⟩
end Go.Proofs.YtiehjepemnlgfaaDoor
