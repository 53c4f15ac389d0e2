/- The law DecBack, walked: it returns true for every number and every text; what lay in memory stays as it was. -/
import Derived.Test.YteekhfiphbhbjaaDoorDecParse
import Derived.Test.YteekhfiphbhbjaaDoorDecKit
namespace Go.Proofs.YteekhfiphbhbjaaDoor
namespace D
open Go.RowKit

theorem text_few {c k : Int} (h : Right c k) : (str (text c k.toNat)).size ≤ 140737488355328 := by
  obtain ⟨k0, k9, c0, c1⟩ := h
  obtain ⟨d0, d1⟩ := digits_size c0 c1
  rw [ba_size, str_data] at d1 ⊢
  unfold text
  have e : (Lib.decDigits (c.natAbs / 10 ^ k.toNat)).length ≤ 16 := by
    rw [Lib.decDigits_length]
    exact nDigits_le (by decide) (Nat.lt_of_le_of_lt (Nat.div_le_self _ _) (by omega))
  have e1 : (if c < 0 then [45] else ([] : List UInt8)).length ≤ 1 := by split <;> simp
  have e2 : (if k.toNat = 0 then [] else 46 :: low k.toNat c.natAbs).length ≤ 10 := by
    split
    · simp
    · rw [List.length_cons, low_length]; omega
  rw [List.length_append, List.length_append]
  omega
set_option maxHeartbeats 16000000 in
set_option maxRecDepth 100000 in
theorem back_any (c s : Int) (t : ByteArray) (w : World) (ht : t.size ≤ 140737488355328) (hS : Strc w) : Calls Tryd.prog 3 #[.agg #[.int .i64 c, .int .i64 s], .string t] w (TrueBelow w) := by
  have H0 := Lib.hid (at_one w c s)
  have CH := Lib.hid fun W => half_any W
  have CK := Lib.hid fun W => check_any c s W
  by_cases hx : ∃ x k, IsText t x k
  · obtain ⟨x, k, hx⟩ := hx
    have CP := Lib.hid fun (W : World) (hW : Below w.heap.size w W) => parse_yes hx W ht (hS.later hW)
    have CT := Lib.hid fun (W : World) (hW : Below w.heap.size w W) => text_any x k W hx.1 (hS.later hW)
    simp only [← str_eq hx.2] at CT
    by_cases hr : Right c s
    · simp only [fault_ok hr, errV_zero] at CK
      have CD := Lib.hid fun (W : World) (hW : Below w.heap.size w W) => text_any c s W hr (hS.later hW)
      have CQ := Lib.hid fun (W : World) (hW : Below w.heap.size w W) => parse_yes (text_is hr) W (text_few hr) (hS.later hW)
      clear hS hx hr
      generalize str (text c s.toNat) = D at *
      go_enter Tryd.func3, Tryd.ntmps3
      go_upto_region 2 with (go_at_call 5; (with_reducible refine (CH.out _).mono ?_); rintro e w1 ⟨rfl, hb1⟩)
      have H1 := Lib.hid (H0.out.call hb1)
      clear hb1
      go_upto_region 3 with (go_at_call 6; (with_reducible refine (CP.out _ H1.out.below).mono ?_); rintro e w2 ⟨rfl, hb2⟩; dsimp only)
      have H2 := Lib.hid ((H1.out.call hb2).alloc x k)
      clear hb2
      obtain ⟨v2, hv2⟩ : ∃ V, w2.alloc (box x k) = V := ⟨_, rfl⟩
      rw [hv2] at H2 ⊢
      clear hv2
      obtain ⟨x0, x1, d0, d1, -⟩ := H2.out.mem.cells
      go_upto_region 5 with (go_at_call 7; (with_reducible refine (CT.out _ H2.out.below).mono ?_); rintro e w3 ⟨rfl, hb3⟩)
      have H3 := Lib.hid (H2.out.call hb3)
      clear hb3 x0 x1 d0 d1
      obtain ⟨x0, x1, d0, d1, -⟩ := H3.out.mem.cells
      go_upto_region 7 with (go_at_call 8; (with_reducible refine (CK.out _).mono ?_); rintro e w4 ⟨rfl, hb4⟩)
      have H4 := Lib.hid (H3.out.call hb4)
      clear hb4 x0 x1 d0 d1
      obtain ⟨x0, x1, d0, d1, -⟩ := H4.out.mem.cells
      go_upto_region 8 with (first | (go_at_call 7; (with_reducible refine (CD.out _ H4.out.below).mono ?_); rintro e w5 ⟨rfl, hb5⟩; have H5 := Lib.hid (H4.out.call hb5)) | (go_at_call 6; (with_reducible refine (CQ.out _ H5.out.below).mono ?_); rintro e w6 ⟨rfl, hb6⟩; dsimp only))
      have H6 := Lib.hid ((H5.out.call hb6).alloc c s)
      clear hb5 hb6 x0 x1 d0 d1
      obtain ⟨v6, hv6⟩ : ∃ V, w6.alloc (box c s) = V := ⟨_, rfl⟩
      rw [hv6] at H6 ⊢
      clear hv6
      obtain ⟨y0, y1, x0, x1, d0, d1, -⟩ := H6.out.mem.cells
      go_wp2_with fail
      go_ret
      exact ⟨rfl, H6.out.below⟩
    · simp only [fault_no hr, errV_one] at CK
      clear hS hx hr
      go_enter Tryd.func3, Tryd.ntmps3
      go_upto_region 2 with (go_at_call 5; (with_reducible refine (CH.out _).mono ?_); rintro e w1 ⟨rfl, hb1⟩)
      have H1 := Lib.hid (H0.out.call hb1)
      clear hb1
      go_upto_region 3 with (go_at_call 6; (with_reducible refine (CP.out _ H1.out.below).mono ?_); rintro e w2 ⟨rfl, hb2⟩; dsimp only)
      have H2 := Lib.hid ((H1.out.call hb2).alloc x k)
      clear hb2
      obtain ⟨v2, hv2⟩ : ∃ V, w2.alloc (box x k) = V := ⟨_, rfl⟩
      rw [hv2] at H2 ⊢
      clear hv2
      obtain ⟨x0, x1, d0, d1, -⟩ := H2.out.mem.cells
      go_upto_region 5 with (go_at_call 7; (with_reducible refine (CT.out _ H2.out.below).mono ?_); rintro e w3 ⟨rfl, hb3⟩)
      have H3 := Lib.hid (H2.out.call hb3)
      clear hb3 x0 x1 d0 d1
      obtain ⟨x0, x1, d0, d1, -⟩ := H3.out.mem.cells
      go_wp2_with (go_at_call 8; (with_reducible refine (CK.out _).mono ?_); rintro e w4 ⟨rfl, hb4⟩)
      go_ret
      exact ⟨rfl, up_call H3.out.below hb4⟩
  · have hn : NoText t := fun x k h => hx ⟨x, k, h⟩
    have CP := Lib.hid fun (W : World) (hW : Below w.heap.size w W) => parse_no hn W ht (hS.later hW)
    by_cases hr : Right c s
    · simp only [fault_ok hr, errV_zero] at CK
      have CD := Lib.hid fun (W : World) (hW : Below w.heap.size w W) => text_any c s W hr (hS.later hW)
      have CQ := Lib.hid fun (W : World) (hW : Below w.heap.size w W) => parse_yes (text_is hr) W (text_few hr) (hS.later hW)
      clear hS hx hn hr
      generalize str (text c s.toNat) = D at *
      go_enter Tryd.func3, Tryd.ntmps3
      go_upto_region 2 with (go_at_call 5; (with_reducible refine (CH.out _).mono ?_); rintro e w1 ⟨rfl, hb1⟩)
      have H1 := Lib.hid (H0.out.call hb1)
      clear hb1
      go_upto_region 3 with (go_at_call 6; (with_reducible refine (CP.out _ H1.out.below).mono ?_); rintro e w2 ⟨rfl, hb2⟩; dsimp only)
      have H2 := Lib.hid ((H1.out.call hb2).alloc 0 0)
      clear hb2
      obtain ⟨v2, hv2⟩ : ∃ V, w2.alloc (box 0 0) = V := ⟨_, rfl⟩
      rw [hv2] at H2 ⊢
      clear hv2
      obtain ⟨x0, x1, d0, d1, -⟩ := H2.out.mem.cells
      go_upto_region 7 with (go_at_call 8; (with_reducible refine (CK.out _).mono ?_); rintro e w4 ⟨rfl, hb4⟩)
      have H4 := Lib.hid (H2.out.call hb4)
      clear hb4 x0 x1 d0 d1
      obtain ⟨x0, x1, d0, d1, -⟩ := H4.out.mem.cells
      go_upto_region 8 with (first | (go_at_call 7; (with_reducible refine (CD.out _ H4.out.below).mono ?_); rintro e w5 ⟨rfl, hb5⟩; have H5 := Lib.hid (H4.out.call hb5)) | (go_at_call 6; (with_reducible refine (CQ.out _ H5.out.below).mono ?_); rintro e w6 ⟨rfl, hb6⟩; dsimp only))
      have H6 := Lib.hid ((H5.out.call hb6).alloc c s)
      clear hb5 hb6 x0 x1 d0 d1
      obtain ⟨v6, hv6⟩ : ∃ V, w6.alloc (box c s) = V := ⟨_, rfl⟩
      rw [hv6] at H6 ⊢
      clear hv6
      obtain ⟨y0, y1, x0, x1, d0, d1, -⟩ := H6.out.mem.cells
      go_wp2_with fail
      go_ret
      exact ⟨rfl, H6.out.below⟩
    · simp only [fault_no hr, errV_one] at CK
      clear hS hx hn hr
      go_enter Tryd.func3, Tryd.ntmps3
      go_upto_region 2 with (go_at_call 5; (with_reducible refine (CH.out _).mono ?_); rintro e w1 ⟨rfl, hb1⟩)
      have H1 := Lib.hid (H0.out.call hb1)
      clear hb1
      go_upto_region 3 with (go_at_call 6; (with_reducible refine (CP.out _ H1.out.below).mono ?_); rintro e w2 ⟨rfl, hb2⟩; dsimp only)
      have H2 := Lib.hid ((H1.out.call hb2).alloc 0 0)
      clear hb2
      obtain ⟨v2, hv2⟩ : ∃ V, w2.alloc (box 0 0) = V := ⟨_, rfl⟩
      rw [hv2] at H2 ⊢
      clear hv2
      obtain ⟨x0, x1, d0, d1, -⟩ := H2.out.mem.cells
      go_wp2_with (go_at_call 8; (with_reducible refine (CK.out _).mono ?_); rintro e w4 ⟨rfl, hb4⟩)
      go_ret
      exact ⟨rfl, up_call H2.out.below hb4⟩
end D
end Go.Proofs.YteekhfiphbhbjaaDoor
