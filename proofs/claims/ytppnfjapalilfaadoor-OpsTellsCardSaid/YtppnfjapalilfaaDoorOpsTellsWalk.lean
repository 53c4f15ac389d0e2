/- The law OpsTells, walked: it returns true for every number; what lay in memory stays as it was. -/
import Derived.Test.YtppnfjapalilfaaDoorOpsWalk
import Derived.Test.YtppnfjapalilfaaDoorOpsRef
import Derived.Test.YtppnfjapalilfaaDoorDecRefFault
import Derived.Test.YtppnfjapalilfaaDoorErrorSame
namespace Go.Proofs.YtppnfjapalilfaaDoor
namespace D
open Go.RowKit

set_option maxHeartbeats 8000000 in
set_option maxRecDepth 100000 in
theorem tells_no {c s : Int} (h : ¬ Right c s) (w : World) (hg : ErrType w) : Calls Tryd.prog 3 #[.agg #[.int .i64 c, .int .i64 s]] w (TrueB w) := by
  have H0 : Hid (Bs w _ [_]) := Lib.hid (bs_one w [.int .i64 c, .int .i64 s] 23)
  have C1 := Lib.hid one_and_half
  have C2 := Lib.hid (of_no h)
  have CF := Lib.hid fun W => refFault_any c s W
  simp only [h, not_false_eq_true, decide_true] at CF
  have HE : Hid (∀ W, Below w.heap.size w W → Calls Tryd.prog 7 #[.iface 30 (.int .i64 1), .int .i64 1] W (TrueB W)) := Lib.hid fun W hW => errorSame_any 1 W (errType_later hg hW)
  clear h hg
  go_enter Tryd.func3, Tryd.ntmps3
  go_upto_region 2 with (first | (go_at_call 4; (with_reducible refine (C1.out _).mono ?_); rintro e w1 ⟨rfl, hb1⟩; dsimp only))
  have H1 := Lib.hid ((H0.out.call hb1).alloc (opsL 1 2 1 50 5) 25)
  clear hb1
  obtain ⟨v1, hv1⟩ : ∃ V, w1.alloc (.cells ((opsL 1 2 1 50 5)).toArray 25) = V := ⟨_, rfl⟩
  rw [hv1] at H1 ⊢
  clear hv1
  obtain ⟨x0, x1, x2, x3, x4, d0, d1, -⟩ := H1.out.cells
  go_upto_region 4 with fail
  clear x0 x1 x2 x3 x4 d0 d1
  have H2 := Lib.hid (H1.out.alloc (opsL 0 0 0 0 0) 25)
  obtain ⟨v2, hv2⟩ : ∃ V, v1.alloc (.cells (opsL 0 0 0 0 0).toArray 25) = V := ⟨_, rfl⟩
  rw [hv2] at H2 ⊢
  clear hv2
  obtain ⟨y0, y1, y2, y3, y4, x0, x1, x2, x3, x4, d0, d1, -⟩ := H2.out.cells
  go_upto_region 7 with (first | (go_at_call 5; (with_reducible refine (CF.out _).mono ?_); rintro e w3 ⟨rfl, hb3⟩))
  clear y0 y1 y2 y3 y4 x0 x1 x2 x3 x4 d0 d1
  have H3 := Lib.hid (H2.out.call hb3)
  clear hb3
  obtain ⟨y0, y1, y2, y3, y4, x0, x1, x2, x3, x4, d0, d1, -⟩ := H3.out.cells
  go_upto_region 8 with (first | (go_at_call 4; (with_reducible refine (C2.out _).mono ?_); rintro e w4 ⟨rfl, hb4⟩; dsimp only))
  clear y0 y1 y2 y3 y4 x0 x1 x2 x3 x4 d0 d1
  have H4 := Lib.hid ((H3.out.call hb4).alloc (opsL 0 0 0 0 0) 25)
  clear hb4
  obtain ⟨v4, hv4⟩ : ∃ V, w4.alloc (.cells ((opsL 0 0 0 0 0)).toArray 25) = V := ⟨_, rfl⟩
  rw [hv4] at H4 ⊢
  clear hv4
  obtain ⟨o0, o1, o2, o3, o4, y0, y1, y2, y3, y4, x0, x1, x2, x3, x4, d0, d1, -⟩ := H4.out.cells
  have CE := Lib.hid (HE.out _ H4.out.below)
  go_upto_region 9 with (first | (go_at_call 7; (with_reducible refine CE.out.mono ?_); rintro e w5 ⟨rfl, hb5⟩))
  clear o0 o1 o2 o3 o4 y0 y1 y2 y3 y4 x0 x1 x2 x3 x4 d0 d1
  have H5 := Lib.hid (H4.out.call hb5)
  clear hb5
  obtain ⟨o0, o1, o2, o3, o4, y0, y1, y2, y3, y4, x0, x1, x2, x3, x4, d0, d1, -⟩ := H5.out.cells
  go_wp2_with fail
  go_ret
  exact ⟨rfl, H5.out.below⟩

set_option maxHeartbeats 8000000 in
set_option maxRecDepth 100000 in
theorem tells_yes {c s : Int} (h : Right c s) (w : World) (hg : ErrType w) : Calls Tryd.prog 3 #[.agg #[.int .i64 c, .int .i64 s]] w (TrueB w) := by
  have H0 : Hid (Bs w _ [_]) := Lib.hid (bs_one w [.int .i64 c, .int .i64 s] 23)
  have C1 := Lib.hid one_and_half
  have C2 := Lib.hid (of_ok h)
  have CO := Lib.hid (refOps_any h)
  have CF := Lib.hid fun W => refFault_any c s W
  simp only [h, not_true_eq_false, decide_false] at CF
  have HE : Hid (∀ W, Below w.heap.size w W → Calls Tryd.prog 7 #[.nilIface, .int .i64 0] W (TrueB W)) := Lib.hid fun W hW => errorSame_any 0 W (errType_later hg hW)
  clear h hg
  generalize opsI c s = I at *
  generalize opsW c s = K at *
  generalize opsF c s = F at *
  generalize opsT c s = T at *
  go_enter Tryd.func3, Tryd.ntmps3
  go_upto_region 2 with (first | (go_at_call 4; (with_reducible refine (C1.out _).mono ?_); rintro e w1 ⟨rfl, hb1⟩; dsimp only))
  have H1 := Lib.hid ((H0.out.call hb1).alloc (opsL 1 2 1 50 5) 25)
  clear hb1
  obtain ⟨v1, hv1⟩ : ∃ V, w1.alloc (.cells ((opsL 1 2 1 50 5)).toArray 25) = V := ⟨_, rfl⟩
  rw [hv1] at H1 ⊢
  clear hv1
  obtain ⟨x0, x1, x2, x3, x4, d0, d1, -⟩ := H1.out.cells
  go_upto_region 4 with fail
  clear x0 x1 x2 x3 x4 d0 d1
  have H2 := Lib.hid (H1.out.alloc (opsL 0 0 0 0 0) 25)
  obtain ⟨v2, hv2⟩ : ∃ V, v1.alloc (.cells (opsL 0 0 0 0 0).toArray 25) = V := ⟨_, rfl⟩
  rw [hv2] at H2 ⊢
  clear hv2
  obtain ⟨y0, y1, y2, y3, y4, x0, x1, x2, x3, x4, d0, d1, -⟩ := H2.out.cells
  go_upto_region 6 with (first | (go_at_call 5; (with_reducible refine (CF.out _).mono ?_); rintro e w3 ⟨rfl, hb3⟩))
  clear y0 y1 y2 y3 y4 x0 x1 x2 x3 x4 d0 d1
  have H3 := Lib.hid (H2.out.call hb3)
  clear hb3
  obtain ⟨y0, y1, y2, y3, y4, x0, x1, x2, x3, x4, d0, d1, -⟩ := H3.out.cells
  have f0 := H3.out.free (j := 0) (i := 0) rfl rfl
  have f1 := H3.out.free (j := 0) (i := 1) rfl rfl
  have f2 := H3.out.free (j := 0) (i := 2) rfl rfl
  have f3 := H3.out.free (j := 0) (i := 3) rfl rfl
  have f4 := H3.out.free (j := 0) (i := 4) rfl rfl
  have HS := Lib.hid fun (W' : World) (hb : Below w3.heap.size w3 W') => H3.out.call hb
  go_upto_region 7 with (first | (go_at_call 6; (with_reducible refine (CO.out _).mono ?_); rintro e w4 ⟨rfl, hb4⟩; have y0 := ((HS.out _ hb4).cell (j := 0) (i := 0) rfl rfl); have y1 := ((HS.out _ hb4).cell (j := 0) (i := 1) rfl rfl); have y2 := ((HS.out _ hb4).cell (j := 0) (i := 2) rfl rfl); have y3 := ((HS.out _ hb4).cell (j := 0) (i := 3) rfl rfl); have y4 := ((HS.out _ hb4).cell (j := 0) (i := 4) rfl rfl); have f0 := ((HS.out _ hb4).free (j := 0) (i := 0) rfl rfl); have f1 := ((HS.out _ hb4).free (j := 0) (i := 1) rfl rfl); have f2 := ((HS.out _ hb4).free (j := 0) (i := 2) rfl rfl); have f3 := ((HS.out _ hb4).free (j := 0) (i := 3) rfl rfl); have f4 := ((HS.out _ hb4).free (j := 0) (i := 4) rfl rfl)))
  have H4 := Lib.hid ((HS.out _ hb4).put5 (.int .i64 I) (.int .i64 s) (.int .i64 K) (.int .i64 F) (.int .i64 T))
  clear f0 f1 f2 f3 f4 y0 y1 y2 y3 y4 x0 x1 x2 x3 x4 d0 d1 HS hb4
  obtain ⟨v4, hv4⟩ : ∃ V, (((((w4.setCell ⟨v1.heap.size, 0, none⟩ (.int .i64 I)).setCell ⟨v1.heap.size, 1, none⟩ (.int .i64 s)).setCell ⟨v1.heap.size, 2, none⟩ (.int .i64 K)).setCell ⟨v1.heap.size, 3, none⟩ (.int .i64 F)).setCell ⟨v1.heap.size, 4, none⟩ (.int .i64 T)) = V := ⟨_, rfl⟩
  simp only [D.put5] at H4
  rw [hv4] at H4 ⊢
  have H5 := H4
  clear hv4 H4
  obtain ⟨y0, y1, y2, y3, y4, x0, x1, x2, x3, x4, d0, d1, -⟩ := H5.out.cells
  go_upto_region 8 with (first | (go_at_call 4; (with_reducible refine (C2.out _).mono ?_); rintro e w6 ⟨rfl, hb6⟩; dsimp only))
  clear y0 y1 y2 y3 y4 x0 x1 x2 x3 x4 d0 d1
  have H6 := Lib.hid ((H5.out.call hb6).alloc (opsL I s K F T) 25)
  clear hb6
  obtain ⟨v6, hv6⟩ : ∃ V, w6.alloc (.cells ((opsL I s K F T)).toArray 25) = V := ⟨_, rfl⟩
  rw [hv6] at H6 ⊢
  clear hv6
  obtain ⟨o0, o1, o2, o3, o4, y0, y1, y2, y3, y4, x0, x1, x2, x3, x4, d0, d1, -⟩ := H6.out.cells
  have CE := Lib.hid (HE.out _ H6.out.below)
  go_upto_region 9 with (first | (go_at_call 7; (with_reducible refine CE.out.mono ?_); rintro e w7 ⟨rfl, hb7⟩))
  clear o0 o1 o2 o3 o4 y0 y1 y2 y3 y4 x0 x1 x2 x3 x4 d0 d1
  have H7 := Lib.hid (H6.out.call hb7)
  clear hb7
  obtain ⟨o0, o1, o2, o3, o4, y0, y1, y2, y3, y4, x0, x1, x2, x3, x4, d0, d1, -⟩ := H7.out.cells
  go_wp2_with fail
  go_ret
  exact ⟨rfl, H7.out.below⟩
end D
end Go.Proofs.YtppnfjapalilfaaDoor
