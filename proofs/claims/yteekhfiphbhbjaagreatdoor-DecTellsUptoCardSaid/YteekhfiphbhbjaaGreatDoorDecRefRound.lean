/- The reference's rounding of a right number; what lay in memory stays as it was. -/
import Derived.Test.YteekhfiphbhbjaaGreatDoorDecRefOps
namespace Go.Proofs.YteekhfiphbhbjaaGreatDoor
namespace D
open Go.RowKit

set_option maxHeartbeats 32000000 in
set_option maxRecDepth 100000 in
theorem refRound_few (c s t way : Int) (w : World) (h : Right c s) (h2 : 0 ≤ t) (hts : t < s) (h3 : 1 ≤ way) (h5 : way ≤ 5) :
    Calls Tryz.prog 15 #[.agg #[.int .i64 c, .int .i64 s], .int .i64 t, .int .i64 way] w (Gives w (.tuple #[.agg #[.int .i64 (rnd way c (ten (s - t))), .int .i64 t], .bool true])) := by
  have HB := Lib.hid fun (wx : World) (hb : Below ((w.alloc (box c s)).alloc (box 0 0)).heap.size ((w.alloc (box c s)).alloc (box 0 0)) wx) => (Boxes.new w c s 0 0).call (lt_two w _ _) hb
  have CF := Lib.hid fun W => refFloor_any c (s - t) W ⟨by omega, by have := h.2.1; omega, h.2.2.1, h.2.2.2⟩
  have CT := Lib.hid fun W => refTen_any (s - t) W (by omega) (by have := h.2.1; omega)
  obtain ⟨h0, h9, hc0, hc1⟩ := h
  have b0 := ten_pos (s - t)
  have b6 := ten_le_nine (a := s - t) (by omega) (by omega)
  have e1 := rest_eq (u := ten (s - t)) c
  have fr := floor_room b0 c hc0 hc1
  have hq0 := quot_neg b0 c
  have b1 := Int.emod_nonneg c (show ten (s - t) ≠ 0 by omega)
  have b3 := Int.emod_lt_of_pos c b0
  have hz : c = 0 → c % ten (s - t) = 0 := fun h => by rw [h]; simp
  have m0 : -2000000000000000 ≤ c / ten (s - t) * ten (s - t) ∧ c / ten (s - t) * ten (s - t) ≤ 2000000000000000 := by omega
  unfold rnd
  generalize hR : c % ten (s - t) = r at *
  generalize hQ : c / ten (s - t) = q at *
  clear hR hQ
  generalize ten (s - t) = u at *
  have CS := Lib.hid fun W => refSize_any q W (by omega) (by omega)
  have ea : ((q.natAbs : Int) % 2 = 1 ↔ q % 2 = 1) ∧ 0 ≤ (q.natAbs : Int) ∧ (q.natAbs : Int) ≤ 1000000000000000 := by omega
  generalize (q.natAbs : Int) = a at *
  rcases (show way = 1 ∨ way = 2 ∨ way = 3 ∨ way = 4 ∨ way = 5 by omega) with rfl | rfl | rfl | rfl | rfl
  · rcases (show c < 0 ∨ 0 ≤ c by omega) with hc | hc <;>
    rcases (show r = 0 ∨ (0 < r ∧ 2 * r < u) ∨ (0 < r ∧ 2 * r = u) ∨ (0 < r ∧ u < 2 * r) by omega) with hr | ⟨hr, hh⟩ | ⟨hr, hh⟩ | ⟨hr, hh⟩
    all_goals (try (exfalso; omega))
    all_goals
      first
        | have hX : rq 1 q r u = q := by unfold rq; (try simp); (try ((repeat' split) <;> omega))
        | have hX : rq 1 q r u = q + 1 := by unfold rq; (try simp); (try ((repeat' split) <;> omega))
      rw [hX]
      have HX := Lib.hid hX
      clear hX hq0 hz
      go_enter Tryz.func15, Tryz.ntmps15
      go_upto_region 7 with (go_at_call 31; (with_reducible refine (CF.out _).mono ?_); rintro e w1 ⟨rfl, hb1⟩)
      have hBX := HB.out _ hb1
      have HBX := Lib.hid hBX
      obtain ⟨hb, x0, x1, r0, r1, f0, f1⟩ := hBX
      clear hb hb1
      go_wp2_with (first
        | (go_at_call 26; (with_reducible refine (CT.out _).mono ?_); rintro e w2 ⟨rfl, rfl⟩)
        | (go_at_call 36; (with_reducible refine (CS.out _).mono ?_); rintro e w2 ⟨rfl, rfl⟩))
      all_goals
        first
          | (obtain ⟨z0, z1⟩ := stored (wx := w1) HBX.out.r0 HBX.out.r1 (.int .i64 q) (.int .i64 t)
             refine bodyPost_ret (v := .tuple #[.agg #[.int .i64 q, .int .i64 t], .bool true]) ?_ rfl ⟨rfl, ?_⟩
             · simp [results, Tryz.results15, go_sem, z0, z1]
             · exact up_set (up_set HBX.out.below (Nat.le_succ _) _) (Nat.le_succ _) _)
          | (obtain ⟨z0, z1⟩ := stored (wx := w1) HBX.out.r0 HBX.out.r1 (.int .i64 (q + 1)) (.int .i64 t)
             refine bodyPost_ret (v := .tuple #[.agg #[.int .i64 (q + 1), .int .i64 t], .bool true]) ?_ rfl ⟨rfl, ?_⟩
             · simp [results, Tryz.results15, go_sem, z0, z1]
             · exact up_set (up_set HBX.out.below (Nat.le_succ _) _) (Nat.le_succ _) _)
  · rcases (show r = 0 ∨ (0 < r ∧ 2 * r < u) ∨ (0 < r ∧ 2 * r = u) ∨ (0 < r ∧ u < 2 * r) by omega) with hr | ⟨hr, hh⟩ | ⟨hr, hh⟩ | ⟨hr, hh⟩
    all_goals
      first
        | have hX : rq 2 q r u = q := by unfold rq; (try simp); (try ((repeat' split) <;> omega))
        | have hX : rq 2 q r u = q + 1 := by unfold rq; (try simp); (try ((repeat' split) <;> omega))
      rw [hX]
      have HX := Lib.hid hX
      clear hX hq0 hz
      go_enter Tryz.func15, Tryz.ntmps15
      go_upto_region 7 with (go_at_call 31; (with_reducible refine (CF.out _).mono ?_); rintro e w1 ⟨rfl, hb1⟩)
      have hBX := HB.out _ hb1
      have HBX := Lib.hid hBX
      obtain ⟨hb, x0, x1, r0, r1, f0, f1⟩ := hBX
      clear hb hb1
      go_wp2_with (first
        | (go_at_call 26; (with_reducible refine (CT.out _).mono ?_); rintro e w2 ⟨rfl, rfl⟩)
        | (go_at_call 36; (with_reducible refine (CS.out _).mono ?_); rintro e w2 ⟨rfl, rfl⟩))
      all_goals
        first
          | (obtain ⟨z0, z1⟩ := stored (wx := w1) HBX.out.r0 HBX.out.r1 (.int .i64 q) (.int .i64 t)
             refine bodyPost_ret (v := .tuple #[.agg #[.int .i64 q, .int .i64 t], .bool true]) ?_ rfl ⟨rfl, ?_⟩
             · simp [results, Tryz.results15, go_sem, z0, z1]
             · exact up_set (up_set HBX.out.below (Nat.le_succ _) _) (Nat.le_succ _) _)
          | (obtain ⟨z0, z1⟩ := stored (wx := w1) HBX.out.r0 HBX.out.r1 (.int .i64 (q + 1)) (.int .i64 t)
             refine bodyPost_ret (v := .tuple #[.agg #[.int .i64 (q + 1), .int .i64 t], .bool true]) ?_ rfl ⟨rfl, ?_⟩
             · simp [results, Tryz.results15, go_sem, z0, z1]
             · exact up_set (up_set HBX.out.below (Nat.le_succ _) _) (Nat.le_succ _) _)
  · rcases (show r = 0 ∨ (0 < r ∧ 2 * r < u) ∨ (0 < r ∧ 2 * r = u) ∨ (0 < r ∧ u < 2 * r) by omega) with hr | ⟨hr, hh⟩ | ⟨hr, hh⟩ | ⟨hr, hh⟩
    all_goals
      first
        | have hX : rq 3 q r u = q := by unfold rq; (try simp); (try ((repeat' split) <;> omega))
        | have hX : rq 3 q r u = q + 1 := by unfold rq; (try simp); (try ((repeat' split) <;> omega))
      rw [hX]
      have HX := Lib.hid hX
      clear hX hq0 hz
      go_enter Tryz.func15, Tryz.ntmps15
      go_upto_region 7 with (go_at_call 31; (with_reducible refine (CF.out _).mono ?_); rintro e w1 ⟨rfl, hb1⟩)
      have hBX := HB.out _ hb1
      have HBX := Lib.hid hBX
      obtain ⟨hb, x0, x1, r0, r1, f0, f1⟩ := hBX
      clear hb hb1
      go_wp2_with (first
        | (go_at_call 26; (with_reducible refine (CT.out _).mono ?_); rintro e w2 ⟨rfl, rfl⟩)
        | (go_at_call 36; (with_reducible refine (CS.out _).mono ?_); rintro e w2 ⟨rfl, rfl⟩))
      all_goals
        first
          | (obtain ⟨z0, z1⟩ := stored (wx := w1) HBX.out.r0 HBX.out.r1 (.int .i64 q) (.int .i64 t)
             refine bodyPost_ret (v := .tuple #[.agg #[.int .i64 q, .int .i64 t], .bool true]) ?_ rfl ⟨rfl, ?_⟩
             · simp [results, Tryz.results15, go_sem, z0, z1]
             · exact up_set (up_set HBX.out.below (Nat.le_succ _) _) (Nat.le_succ _) _)
          | (obtain ⟨z0, z1⟩ := stored (wx := w1) HBX.out.r0 HBX.out.r1 (.int .i64 (q + 1)) (.int .i64 t)
             refine bodyPost_ret (v := .tuple #[.agg #[.int .i64 (q + 1), .int .i64 t], .bool true]) ?_ rfl ⟨rfl, ?_⟩
             · simp [results, Tryz.results15, go_sem, z0, z1]
             · exact up_set (up_set HBX.out.below (Nat.le_succ _) _) (Nat.le_succ _) _)
  · rcases (show c ≤ 0 ∨ 0 < c by omega) with hc | hc <;>
    rcases (show r = 0 ∨ (0 < r ∧ 2 * r < u) ∨ (0 < r ∧ 2 * r = u) ∨ (0 < r ∧ u < 2 * r) by omega) with hr | ⟨hr, hh⟩ | ⟨hr, hh⟩ | ⟨hr, hh⟩
    all_goals (try (exfalso; omega))
    all_goals
      first
        | have hX : rq 4 q r u = q := by unfold rq; (try simp); (try ((repeat' split) <;> omega))
        | have hX : rq 4 q r u = q + 1 := by unfold rq; (try simp); (try ((repeat' split) <;> omega))
      rw [hX]
      have HX := Lib.hid hX
      clear hX hq0 hz
      go_enter Tryz.func15, Tryz.ntmps15
      go_upto_region 7 with (go_at_call 31; (with_reducible refine (CF.out _).mono ?_); rintro e w1 ⟨rfl, hb1⟩)
      have hBX := HB.out _ hb1
      have HBX := Lib.hid hBX
      obtain ⟨hb, x0, x1, r0, r1, f0, f1⟩ := hBX
      clear hb hb1
      go_wp2_with (first
        | (go_at_call 26; (with_reducible refine (CT.out _).mono ?_); rintro e w2 ⟨rfl, rfl⟩)
        | (go_at_call 36; (with_reducible refine (CS.out _).mono ?_); rintro e w2 ⟨rfl, rfl⟩))
      all_goals
        first
          | (obtain ⟨z0, z1⟩ := stored (wx := w1) HBX.out.r0 HBX.out.r1 (.int .i64 q) (.int .i64 t)
             refine bodyPost_ret (v := .tuple #[.agg #[.int .i64 q, .int .i64 t], .bool true]) ?_ rfl ⟨rfl, ?_⟩
             · simp [results, Tryz.results15, go_sem, z0, z1]
             · exact up_set (up_set HBX.out.below (Nat.le_succ _) _) (Nat.le_succ _) _)
          | (obtain ⟨z0, z1⟩ := stored (wx := w1) HBX.out.r0 HBX.out.r1 (.int .i64 (q + 1)) (.int .i64 t)
             refine bodyPost_ret (v := .tuple #[.agg #[.int .i64 (q + 1), .int .i64 t], .bool true]) ?_ rfl ⟨rfl, ?_⟩
             · simp [results, Tryz.results15, go_sem, z0, z1]
             · exact up_set (up_set HBX.out.below (Nat.le_succ _) _) (Nat.le_succ _) _)
  · rcases (show a % 2 = 0 ∨ a % 2 = 1 by omega) with ha | ha <;>
    rcases (show r = 0 ∨ (0 < r ∧ 2 * r < u) ∨ (0 < r ∧ 2 * r = u) ∨ (0 < r ∧ u < 2 * r) by omega) with hr | ⟨hr, hh⟩ | ⟨hr, hh⟩ | ⟨hr, hh⟩
    all_goals
      first
        | have hX : rq 5 q r u = q := by unfold rq; (try simp); (try ((repeat' split) <;> omega))
        | have hX : rq 5 q r u = q + 1 := by unfold rq; (try simp); (try ((repeat' split) <;> omega))
      rw [hX]
      have HX := Lib.hid hX
      clear hX hq0 hz
      go_enter Tryz.func15, Tryz.ntmps15
      go_upto_region 7 with (go_at_call 31; (with_reducible refine (CF.out _).mono ?_); rintro e w1 ⟨rfl, hb1⟩)
      have hBX := HB.out _ hb1
      have HBX := Lib.hid hBX
      obtain ⟨hb, x0, x1, r0, r1, f0, f1⟩ := hBX
      clear hb hb1
      go_wp2_with (first
        | (go_at_call 26; (with_reducible refine (CT.out _).mono ?_); rintro e w2 ⟨rfl, rfl⟩)
        | (go_at_call 36; (with_reducible refine (CS.out _).mono ?_); rintro e w2 ⟨rfl, rfl⟩))
      all_goals
        first
          | (obtain ⟨z0, z1⟩ := stored (wx := w1) HBX.out.r0 HBX.out.r1 (.int .i64 q) (.int .i64 t)
             refine bodyPost_ret (v := .tuple #[.agg #[.int .i64 q, .int .i64 t], .bool true]) ?_ rfl ⟨rfl, ?_⟩
             · simp [results, Tryz.results15, go_sem, z0, z1]
             · exact up_set (up_set HBX.out.below (Nat.le_succ _) _) (Nat.le_succ _) _)
          | (obtain ⟨z0, z1⟩ := stored (wx := w1) HBX.out.r0 HBX.out.r1 (.int .i64 (q + 1)) (.int .i64 t)
             refine bodyPost_ret (v := .tuple #[.agg #[.int .i64 (q + 1), .int .i64 t], .bool true]) ?_ rfl ⟨rfl, ?_⟩
             · simp [results, Tryz.results15, go_sem, z0, z1]
             · exact up_set (up_set HBX.out.below (Nat.le_succ _) _) (Nat.le_succ _) _)
end D
end Go.Proofs.YteekhfiphbhbjaaGreatDoor
