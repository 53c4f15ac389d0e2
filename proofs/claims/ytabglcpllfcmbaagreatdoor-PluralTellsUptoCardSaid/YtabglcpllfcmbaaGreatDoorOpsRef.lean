/- The reference's operands of a right number: the same. -/
import Derived.Test.YtabglcpllfcmbaaGreatDoorOpsWalk
import Derived.Test.YtabglcpllfcmbaaGreatDoorDecRef
namespace Go.Proofs.YtabglcpllfcmbaaGreatDoor
namespace D
open Go.RowKit

theorem kept5 {wx : World} {g o : Nat} {x : Value} (h : wx.cell? ⟨g, o, none⟩ = some x) (a b c d e : Value) : (put5 wx (g + 1) a b c d e).cell? ⟨g, o, none⟩ = some x := by
  rw [World.cell?_setCell_far _ _ _ _ (by simp), World.cell?_setCell_far _ _ _ _ (by simp), World.cell?_setCell_far _ _ _ _ (by simp), World.cell?_setCell_far _ _ _ _ (by simp), World.cell?_setCell_far _ _ _ _ (by simp)]; exact h
set_option maxHeartbeats 1000000 in
theorem refOps_any {c s : Int} (h : Right c s) (w : World) : Calls Tryz.prog 46 #[.agg #[.int .i64 c, .int .i64 s]] w
    (Gives w (.agg #[.int .i64 (opsI c s), .int .i64 s, .int .i64 (opsW c s), .int .i64 (opsF c s), .int .i64 (opsT c s)])) := by
  have H0 : Hid (Bs w _ [(w.heap.size + 1, opsL 0 0 0 0 0), _]) := Lib.hid (bs_two w [.int .i64 c, .int .i64 s] (opsL 0 0 0 0 0) 46 24)
  have CZ := Lib.hid fun W => refSize_any c W (by have := h.2.2.1; omega) (by have := h.2.2.2; omega)
  have CT := Lib.hid fun W => refTen_any s W h.1 h.2.1
  have HT : Hid (∀ (x : Int) (W : World), 0 ≤ x → x ≤ 9 → Calls Tryz.prog 67 #[.int .i64 x] W fun e w' => e = .returned (.int .i64 (ten x)) ∧ W = w') := Lib.hid fun x W h0 h9 => refTen_any x W h0 h9
  obtain ⟨ed, er⟩ := ops_div (m := (c.natAbs : Int)) (s := s) (by omega)
  have eI : opsI (c.natAbs : Int) s = opsI c s := rfl
  have eF : opsF (c.natAbs : Int) s = opsF c s := rfl
  rw [eI] at ed; rw [eF] at er
  obtain ⟨hw0, hw1⟩ := ops_w c s h.1
  have hL := fun w' => ops_left (c := c) (s := s) (w := w')
  have hS := ops_stop (c := c) (s := s)
  have eT := ops_quo c s h.1
  obtain ⟨⟨b1, b2⟩, ⟨b3, b4⟩, ⟨b5, b6⟩⟩ := ops_bounds h
  obtain ⟨h0, h9, hc0, hc1⟩ := h
  have b8 : (c.natAbs : Int) ≤ 1000000000000000 := by omega
  have b9 : 0 ≤ (c.natAbs : Int) := by omega
  have u0 := ten_pos s
  have u1 := ten_le_nine h0 h9
  have hu0 : (ten s == 0) = false := by simp; omega
  generalize (c.natAbs : Int) = n at *
  go_enter Tryz.func46, Tryz.ntmps46
  go_upto_region 1 with fail
  obtain ⟨v0, hv0⟩ : ∃ V, (w.alloc (.cells #[.int .i64 c, .int .i64 s] 46)).alloc (.cells (opsL 0 0 0 0 0).toArray 24) = V := ⟨_, rfl⟩
  rw [hv0] at H0 ⊢
  clear hv0
  obtain ⟨r0, r1, r2, r3, r4, d0, d1, -⟩ := H0.out.cells
  have f0 := H0.out.free (j := 0) (i := 0) rfl rfl
  have f1 := H0.out.free (j := 0) (i := 1) rfl rfl
  have f2 := H0.out.free (j := 0) (i := 2) rfl rfl
  have f3 := H0.out.free (j := 0) (i := 3) rfl rfl
  have f4 := H0.out.free (j := 0) (i := 4) rfl rfl
  go_wp2_with (first
    | (go_at_call 66; (with_reducible refine (CZ.out _).mono ?_); rintro e wp ⟨rfl, rfl⟩)
    | (go_at_call 67; (with_reducible refine (CT.out _).mono ?_); rintro e wp ⟨rfl, rfl⟩))
  simp only [er]
  go_loopw [5] (fun x wr => ∃ z : Int, x = .int .i64 z ∧ opsW c s ≤ z ∧ z ≤ s ∧ v0 = wr) (fun x _ => (intOf x).toNat)
  case atStart => exact ⟨s, rfl, hw1, Int.le_refl _, rfl⟩
  case round =>
    obtain ⟨z, rfl, hz0, hz1, rfl⟩ := hrel
    by_cases hz : opsW c s < z
    · have hl := hL z hz hz1
      have CX := Lib.hid fun W => HT.out (s - z + 1) W (by omega) (by omega)
      have x0 := ten_pos (s - z + 1)
      have x1 := ten_le_nine (a := s - z + 1) (by omega) (by omega)
      have hx0 : (ten (s - z + 1) == 0) = false := by simp; omega
      generalize opsF c s = F at *
      generalize ten (s - z + 1) = u at *
      have hl' : F.tmod u = 0 := by rw [Int.tmod_eq_emod_of_nonneg b3]; exact hl
      go_wp2_with (first
        | (go_at_call 67; (with_reducible refine (CX.out _).mono ?_); rintro e wp ⟨rfl, rfl⟩))
      go_roundw
      case rel => exact ⟨z - 1, by go_num, by omega, by omega, trivial⟩
      case measure => simp [intOf]; omega
    · obtain rfl : z = opsW c s := by omega
      have CX := Lib.hid fun W => HT.out (s - opsW c s) W (by omega) (by omega)
      have y0 := ten_pos (s - opsW c s)
      have y1 := ten_le_nine (a := s - opsW c s) (by omega) (by omega)
      have hy0 : (ten (s - opsW c s) == 0) = false := by simp; omega
      have hws : IntKind.i64.wrap (s - opsW c s) = s - opsW c s := by rw [IntKind.wrap_i64]; omega
      by_cases hp : 0 < opsW c s
      · have hl := hS hp h0
        have CY := Lib.hid fun W => HT.out (s - opsW c s + 1) W (by omega) (by omega)
        have x0 := ten_pos (s - opsW c s + 1)
        have x1 := ten_le_nine (a := s - opsW c s + 1) (by omega) (by omega)
        have hx0 : (ten (s - opsW c s + 1) == 0) = false := by simp; omega
        have hl' : ¬ (opsF c s).tmod (ten (s - opsW c s + 1)) = 0 := by rw [Int.tmod_eq_emod_of_nonneg b3]; exact hl
        go_wp2_with (first
          | (go_at_call 67; (with_reducible refine (CY.out _).mono ?_); rintro e wp ⟨rfl, rfl⟩))
        have q1 : n.tdiv (ten s) = opsI c s := by rw [Int.tdiv_eq_ediv_of_nonneg b9]; exact ed
        have q2 : (opsF c s).tdiv (ten (s - opsW c s)) = opsT c s := by rw [Int.tdiv_eq_ediv_of_nonneg b3]; exact eT
        have w1 : IntKind.i64.wrap (opsI c s) = opsI c s := by rw [IntKind.wrap_i64]; omega
        have w2 : IntKind.i64.wrap (opsT c s) = opsT c s := by rw [IntKind.wrap_i64]; omega
        have z1 : ¬ ten s = 0 := by omega
        have z2 : ¬ ten (s - opsW c s) = 0 := by omega
        clear x0 x1 hx0 hl' hl hS hL CY
        go_region_held3 (fun wx => wx.cell? ⟨w.heap.size, 0, none⟩ = some (.int .i64 c) ∧ wx.cell? ⟨w.heap.size, 1, none⟩ = some (.int .i64 s))
          (first | (with_reducible exact ⟨d0, d1⟩) | (refine ⟨?_, ?_⟩ <;> (simp only [World.cell?_drew]; first | (with_reducible assumption) | (with_reducible refine kept5 ?_ _ _ _ _ _; with_reducible assumption))))
          (first
            | (go_at_call 67; (with_reducible refine (CT.out _).mono ?_); rintro e wy ⟨rfl, rfl⟩)
            | (go_at_call 67; (with_reducible refine (CX.out _).mono ?_); rintro e wz ⟨rfl, rfl⟩))
        go_wp2_with fail
        have H3 := (H0.out.put5 (.int .i64 (opsI c s)) (.int .i64 s) (.int .i64 (opsW c s)) (.int .i64 (opsF c s)) (.int .i64 (opsT c s))).drew
        obtain ⟨z0, z1, z2, z3, z4, -⟩ := H3.cells
        refine bodyPost_ret (v := .agg #[.int .i64 (opsI c s), .int .i64 s, .int .i64 (opsW c s), .int .i64 (opsF c s), .int .i64 (opsT c s)]) ?_ rfl ⟨rfl, H3.below⟩
        simp [results, Tryz.results46, go_sem, z0, z1, z2, z3, z4]
      · go_wp2_with fail
        have q1 : n.tdiv (ten s) = opsI c s := by rw [Int.tdiv_eq_ediv_of_nonneg b9]; exact ed
        have q2 : (opsF c s).tdiv (ten (s - opsW c s)) = opsT c s := by rw [Int.tdiv_eq_ediv_of_nonneg b3]; exact eT
        have w1 : IntKind.i64.wrap (opsI c s) = opsI c s := by rw [IntKind.wrap_i64]; omega
        have w2 : IntKind.i64.wrap (opsT c s) = opsT c s := by rw [IntKind.wrap_i64]; omega
        have z1 : ¬ ten s = 0 := by omega
        have z2 : ¬ ten (s - opsW c s) = 0 := by omega
        clear hS hL
        go_region_held3 (fun wx => wx.cell? ⟨w.heap.size, 0, none⟩ = some (.int .i64 c) ∧ wx.cell? ⟨w.heap.size, 1, none⟩ = some (.int .i64 s))
          (first | (with_reducible exact ⟨d0, d1⟩) | (refine ⟨?_, ?_⟩ <;> (simp only [World.cell?_drew]; first | (with_reducible assumption) | (with_reducible refine kept5 ?_ _ _ _ _ _; with_reducible assumption))))
          (first
            | (go_at_call 67; (with_reducible refine (CT.out _).mono ?_); rintro e wy ⟨rfl, rfl⟩)
            | (go_at_call 67; (with_reducible refine (CX.out _).mono ?_); rintro e wz ⟨rfl, rfl⟩))
        go_wp2_with fail
        have H3 := (H0.out.put5 (.int .i64 (opsI c s)) (.int .i64 s) (.int .i64 (opsW c s)) (.int .i64 (opsF c s)) (.int .i64 (opsT c s))).drew
        obtain ⟨z0, z1, z2, z3, z4, -⟩ := H3.cells
        refine bodyPost_ret (v := .agg #[.int .i64 (opsI c s), .int .i64 s, .int .i64 (opsW c s), .int .i64 (opsF c s), .int .i64 (opsT c s)]) ?_ rfl ⟨rfl, H3.below⟩
        simp [results, Tryz.results46, go_sem, z0, z1, z2, z3, z4]
end D
end Go.Proofs.YtabglcpllfcmbaaGreatDoor
