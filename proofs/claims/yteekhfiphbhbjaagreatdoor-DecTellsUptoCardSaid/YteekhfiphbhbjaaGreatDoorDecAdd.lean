/- The program's Add of two numbers: their sum, or what is wrong; what lay in memory stays as it was. -/
import Derived.Test.YteekhfiphbhbjaaGreatDoorDecRound
namespace Go.Proofs.YteekhfiphbhbjaaGreatDoor
namespace D
open Go.RowKit

/-- the answer of Add -/
def addV (c s d t : Int) : Value := .tuple #[if addF c s d t = 0 then decV (sumC c s d t) (sumS s t) else decV 0 0, errV (addF c s d t)]
theorem addV_ok {c s d t : Int} (h : addF c s d t = 0) : addV c s d t = .tuple #[.agg #[.int .i64 (sumC c s d t), .int .i64 (sumS s t)], .nilIface] := by unfold addV; rw [h]; rfl
theorem addV_one {c s d t : Int} (h : addF c s d t = 1) : addV c s d t = .tuple #[.agg #[.int .i64 0, .int .i64 0], .iface 25 (.int .i64 1)] := by unfold addV; rw [h]; rfl

theorem three_halves : addV 5 1 1 0 = .tuple #[.agg #[.int .i64 15, .int .i64 1], .nilIface] := by
  have h : addF 5 1 1 0 = 0 := by decide +kernel
  rw [addV_ok h]
  have e1 : sumC 5 1 1 0 = 15 := by decide +kernel
  have e2 : sumS 1 0 = 1 := by decide +kernel
  rw [e1, e2]
theorem addF_one {c s d t : Int} (h : addF c s d t ≠ 0) : addF c s d t = 1 := by
  unfold addF at *
  (repeat' split at h) <;> simp_all
/-- the three boxes of Add -/
structure Boxes3 (w wx : World) (c s d t : Int) : Prop where
  below : Below w.heap.size w wx
  size : w.heap.size + 2 < wx.heap.size
  c0 : wx.cell? ⟨w.heap.size, 0, none⟩ = some (.int .i64 c)
  c1 : wx.cell? ⟨w.heap.size, 1, none⟩ = some (.int .i64 s)
  d0 : wx.cell? ⟨w.heap.size + 1, 0, none⟩ = some (.int .i64 d)
  d1 : wx.cell? ⟨w.heap.size + 1, 1, none⟩ = some (.int .i64 t)
  r0 : wx.cell? ⟨w.heap.size + 2, 0, none⟩ = some (.int .i64 0)
  r1 : wx.cell? ⟨w.heap.size + 2, 1, none⟩ = some (.int .i64 0)
  f0 : wx.frozen? ⟨w.heap.size + 2, 0, none⟩ = false
  f1 : wx.frozen? ⟨w.heap.size + 2, 1, none⟩ = false
theorem Boxes3.new (w : World) (c s d t : Int) : Boxes3 w (((w.alloc (box c s)).alloc (box d t)).alloc (box 0 0)) c s d t := by
  obtain ⟨hb, c0, c1, d0, d1, _, _⟩ := Boxes.new w c s d t
  have e : w.heap.size + 2 = ((w.alloc (box c s)).alloc (box d t)).heap.size := by simp
  have h0 : w.heap.size < ((w.alloc (box c s)).alloc (box d t)).heap.size := by rw [← e]; omega
  have h1 : w.heap.size + 1 < ((w.alloc (box c s)).alloc (box d t)).heap.size := by rw [← e]; omega
  generalize (w.alloc (box c s)).alloc (box d t) = W at *
  have hW := (Below.refl W.heap.size W).alloc (Nat.le_refl _) (box 0 0)
  refine ⟨up_alloc hb _, by rw [e]; simp, (hW.cell h0).trans c0, (hW.cell h0).trans c1, (hW.cell h1).trans d0, (hW.cell h1).trans d1, ?_, ?_, ?_, ?_⟩ <;> rw [e] <;> simp
theorem Boxes3.call {w wx wy : World} {c s d t : Int} (h : Boxes3 w wx c s d t) (hb : Below wx.heap.size wx wy) : Boxes3 w wy c s d t :=
  have hx := h.size
  ⟨up_call h.below hb, Nat.lt_of_lt_of_le hx hb.size, (hb.cell (by show w.heap.size < _; omega)).trans h.c0, (hb.cell (by show w.heap.size < _; omega)).trans h.c1, (hb.cell (by show w.heap.size + 1 < _; omega)).trans h.d0, (hb.cell (by show w.heap.size + 1 < _; omega)).trans h.d1,
    (hb.cell hx).trans h.r0, (hb.cell hx).trans h.r1, (hb.frozen hx).trans h.f0, (hb.frozen hx).trans h.f1⟩
theorem le_two (n : Nat) : n ≤ n + 2 := by omega

/-- one of two has the sum's scale, so neither is much greater than it may be -/
theorem sum_parts {c s d t : Int} (h : Right c s) (h' : Right d t) (hs : -1000000000000000 ≤ sumC c s d t ∧ sumC c s d t ≤ 1000000000000000) :
    (-2000000000000000 ≤ c * ten (sumS s t - s) ∧ c * ten (sumS s t - s) ≤ 2000000000000000) ∧ (-2000000000000000 ≤ d * ten (sumS s t - t) ∧ d * ten (sumS s t - t) ≤ 2000000000000000) := by
  obtain ⟨_, _, hc0, hc1⟩ := h
  obtain ⟨_, _, hd0, hd1⟩ := h'
  unfold sumC at hs
  have hz : ten 0 = 1 := rfl
  by_cases hst : s < t
  · have e : sumS s t = t := if_pos hst
    rw [e, Int.sub_self, hz] at hs ⊢
    omega
  · have e : sumS s t = s := if_neg hst
    rw [e, Int.sub_self, hz] at hs ⊢
    omega
theorem sum_zero (t : Int) : t - t = 0 := by omega

set_option maxHeartbeats 16000000 in
theorem add_any (c s d t : Int) (w : World) : Calls Tryz.prog 18 #[.agg #[.int .i64 c, .int .i64 s], .agg #[.int .i64 d, .int .i64 t]] w (Gives w (addV c s d t)) := by
  have HB := Lib.hid fun (wx : World) (hb : Below (((w.alloc (box c s)).alloc (box d t)).alloc (box 0 0)).heap.size (((w.alloc (box c s)).alloc (box d t)).alloc (box 0 0)) wx) => (Boxes3.new w c s d t).call hb
  have HB2 := Lib.hid fun (wx wy : World) (h : Boxes3 w wx c s d t) (hb : Below wx.heap.size wx wy) => h.call hb
  have CK := Lib.hid fun W => check_any c s W
  have CL := Lib.hid fun W => check_any d t W
  by_cases h1 : Right c s
  · by_cases h2 : Right d t
    · simp only [fault_ok h1, errV_zero] at CK
      simp only [fault_ok h2, errV_zero] at CL
      have CE : Hid (∀ W : World, Calls Tryz.prog 40 #[.int .i64 c, .int .i64 (sumS s t - s), .int .i64 2000000000000000] W (Drawn W _)) := Lib.hid fun W => extend_any c (sumS s t - s) 2000000000000000 W (by have := (sum_scale (right_scale h1) (right_scale h2)).2.1; omega) (by have := (sum_scale (right_scale h1) (right_scale h2)).1.2; have := h1.1; omega) h1.2.2.1 h1.2.2.2 (by decide) (by decide)
      have CG : Hid (∀ W : World, Calls Tryz.prog 40 #[.int .i64 d, .int .i64 (sumS s t - t), .int .i64 2000000000000000] W (Drawn W _)) := Lib.hid fun W => extend_any d (sumS s t - t) 2000000000000000 W (by have := (sum_scale (right_scale h1) (right_scale h2)).2.2; omega) (by have := (sum_scale (right_scale h1) (right_scale h2)).1.2; have := h2.1; omega) h2.2.2.1 h2.2.2.2 (by decide) (by decide)
      have hsp := sum_parts h1 h2
      have hV : (-1000000000000000 ≤ sumC c s d t ∧ sumC c s d t ≤ 1000000000000000 → addV c s d t = .tuple #[.agg #[.int .i64 (sumC c s d t), .int .i64 (sumS s t)], .nilIface]) ∧ (¬ (-1000000000000000 ≤ sumC c s d t ∧ sumC c s d t ≤ 1000000000000000) → addV c s d t = .tuple #[.agg #[.int .i64 0, .int .i64 0], .iface 25 (.int .i64 1)]) :=
        ⟨fun h => addV_ok (addF_zero.2 ⟨h1, h2, h⟩), fun h => addV_one (by unfold addF; rw [if_neg (by simpa using h1), if_neg (by simpa using h2), if_pos h])⟩
      have hC : sumC c s d t = c * ten (sumS s t - s) + d * ten (sumS s t - t) := rfl
      obtain ⟨h10, h11, h12, h13⟩ := h1
      obtain ⟨h20, h21, h22, h23⟩ := h2
      rw [hC] at hV hsp
      clear hC
      generalize c * ten (sumS s t - s) = x at *
      generalize d * ten (sumS s t - t) = y at *
      have hS : (s < t → sumS s t = t) ∧ (¬ s < t → sumS s t = s) := ⟨fun h => if_pos h, fun h => if_neg h⟩
      have CF := Lib.hid fun W => coefFits_any (x + y) W
      by_cases hs : -1000000000000000 ≤ x + y ∧ x + y ≤ 1000000000000000 <;> by_cases fx : -2000000000000000 ≤ x ∧ x ≤ 2000000000000000 <;> by_cases fy : -2000000000000000 ≤ y ∧ y ≤ 2000000000000000 <;> by_cases hst : s < t
      all_goals (try exact absurd (hsp hs).1 fx)
      all_goals (try exact absurd (hsp hs).2 fy)
      all_goals
        first
          | (rw [hV.1 hs]; simp only [hs, and_self, decide_true] at CF)
          | (rw [hV.2 hs]; simp only [hs, decide_false] at CF)
        first
          | simp only [fx, and_self, if_true, decide_true] at CE
          | simp only [fx, if_false, decide_false] at CE
        first
          | simp only [fy, and_self, if_true, decide_true] at CG
          | simp only [fy, if_false, decide_false] at CG
        first
          | (have e := hS.1 hst; simp only [e] at CE CG ⊢)
          | (have e := hS.2 hst; simp only [e] at CE CG ⊢)
        clear e
        have CE0 := CE
        have CG0 := CG
        try simp only [sum_zero] at CE0
        try simp only [sum_zero] at CG0
        clear hsp hV hS
        have HS := Lib.hid hs
        try (obtain ⟨hs0, hs1⟩ := hs)
        try clear hs
        try (obtain ⟨fx0, fx1⟩ := fx)
        try (obtain ⟨fy0, fy1⟩ := fy)
        try clear fx
        try clear fy
        go_enter Tryz.func18, Tryz.ntmps18
        go_upto_region 2 with (first
          | (go_at_call 7; (with_reducible refine (CK.out _).mono ?_); rintro e w1 ⟨rfl, hb1⟩))
        have HX := Lib.hid (HB.out _ hb1)
        have d0 := HX.out.d0
        have d1 := HX.out.d1
        clear hb1
        go_upto_region 5 with (first
          | (go_at_call 7; (with_reducible refine (CL.out _).mono ?_); rintro e w2 ⟨rfl, hb2⟩))
        have HY := Lib.hid (HB2.out _ _ HX.out hb2)
        clear hb2 d0 d1
        have c0 := HY.out.c0
        have c1 := HY.out.c1
        have d0 := HY.out.d0
        have d1 := HY.out.d1
        have r0 := HY.out.r0
        have r1 := HY.out.r1
        have f0 := HY.out.f0
        have f1 := HY.out.f1
        go_wp2_with (first
          | (go_at_call 40; (with_reducible refine (CE.out _).mono ?_); rintro e wa ⟨rfl, da, rfl⟩; dsimp only)
          | (go_at_call 40; (with_reducible refine (CE0.out _).mono ?_); rintro e wa ⟨rfl, da, rfl⟩; dsimp only)
          | (go_at_call 40; (with_reducible refine (CG.out _).mono ?_); rintro e wb ⟨rfl, db, rfl⟩; dsimp only)
          | (go_at_call 40; (with_reducible refine (CG0.out _).mono ?_); rintro e wb ⟨rfl, db, rfl⟩; dsimp only)
          | (go_at_call 21; (with_reducible refine (CF.out _).mono ?_); rintro e wc ⟨rfl, rfl⟩))
        have zz := fun (n : Nat) (a b : Value) => stored (wx := w2.drewN n) (by simpa using HY.out.r0) (by simpa using HY.out.r1) a b
        have z0 := fun n a b => (zz n a b).1
        have z1 := fun n a b => (zz n a b).2
        first
          | (refine bodyPost_ret (v := .tuple #[.agg #[.int .i64 (x + y), .int .i64 s], .nilIface]) ?_ rfl ⟨rfl, ?_⟩
             · simp [results, Tryz.results18, go_sem, z0, z1]
             · exact up_set (up_set (up_drewN HY.out.below _) (le_two _) _) (le_two _) _)
          | (refine bodyPost_ret (v := .tuple #[.agg #[.int .i64 (x + y), .int .i64 t], .nilIface]) ?_ rfl ⟨rfl, ?_⟩
             · simp [results, Tryz.results18, go_sem, z0, z1]
             · exact up_set (up_set (up_drewN HY.out.below _) (le_two _) _) (le_two _) _)
          | (refine bodyPost_ret (v := .tuple #[.agg #[.int .i64 0, .int .i64 0], .iface 25 (.int .i64 1)]) ?_ rfl ⟨rfl, ?_⟩
             · simp [results, Tryz.results18, go_sem, z0, z1]
             · exact up_set (up_set (up_drewN HY.out.below _) (le_two _) _) (le_two _) _)
    · have hF : addF c s d t = 1 := by
        unfold addF
        simp only [h1, h2, not_true, not_false_iff, if_true, if_false]
      rw [addV_one hF]
      simp only [fault_ok h1, errV_zero] at CK
      simp only [fault_no h2, errV_one] at CL
      clear hF h1 h2
      go_enter Tryz.func18, Tryz.ntmps18
      go_upto_region 2 with (first
        | (go_at_call 7; (with_reducible refine (CK.out _).mono ?_); rintro e w1 ⟨rfl, hb1⟩))
      have HX := Lib.hid (HB.out _ hb1)
      have d0 := HX.out.d0
      have d1 := HX.out.d1
      clear hb1
      go_upto_region 5 with (first
        | (go_at_call 7; (with_reducible refine (CL.out _).mono ?_); rintro e w2 ⟨rfl, hb2⟩))
      have HY := Lib.hid (HB2.out _ _ HX.out hb2)
      have r0 := HY.out.r0
      have r1 := HY.out.r1
      have f0 := HY.out.f0
      have f1 := HY.out.f1
      clear hb2 d0 d1
      go_wp2_with fail
      obtain ⟨z0, z1⟩ := stored (wx := w2) HY.out.r0 HY.out.r1 (.int .i64 0) (.int .i64 0)
      refine bodyPost_ret (v := .tuple #[.agg #[.int .i64 0, .int .i64 0], .iface 25 (.int .i64 1)]) ?_ rfl ⟨rfl, ?_⟩
      · simp [results, Tryz.results18, go_sem, z0, z1]
      · exact up_set (up_set HY.out.below (le_two _) _) (le_two _) _
  · have hF : addF c s d t = 1 := by
      unfold addF
      simp only [h1, not_false_iff, if_true]
    rw [addV_one hF]
    simp only [fault_no h1, errV_one] at CK
    clear hF h1 CL
    go_enter Tryz.func18, Tryz.ntmps18
    go_upto_region 2 with (first
      | (go_at_call 7; (with_reducible refine (CK.out _).mono ?_); rintro e w1 ⟨rfl, hb1⟩))
    have HX := Lib.hid (HB.out _ hb1)
    have r0 := HX.out.r0
    have r1 := HX.out.r1
    have f0 := HX.out.f0
    have f1 := HX.out.f1
    clear hb1
    go_wp2_with fail
    obtain ⟨z0, z1⟩ := stored (wx := w1) HX.out.r0 HX.out.r1 (.int .i64 0) (.int .i64 0)
    refine bodyPost_ret (v := .tuple #[.agg #[.int .i64 0, .int .i64 0], .iface 25 (.int .i64 1)]) ?_ rfl ⟨rfl, ?_⟩
    · simp [results, Tryz.results18, go_sem, z0, z1]
    · exact up_set (up_set HX.out.below (le_two _) _) (le_two _) _
end D
end Go.Proofs.YteekhfiphbhbjaaGreatDoor
