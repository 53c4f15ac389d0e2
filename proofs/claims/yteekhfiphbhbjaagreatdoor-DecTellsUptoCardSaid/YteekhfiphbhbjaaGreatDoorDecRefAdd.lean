/- The reference's rounding to as many digits or more, and its sum of two right numbers; what lay in memory stays as it was. -/
import Derived.Test.YteekhfiphbhbjaaGreatDoorDecRefOps
import Derived.Test.YteekhfiphbhbjaaGreatDoorDecAdd
namespace Go.Proofs.YteekhfiphbhbjaaGreatDoor
namespace D
open Go.RowKit

set_option maxHeartbeats 4000000 in
set_option maxRecDepth 100000 in
theorem refRound_more (c s t way : Int) (w : World) (h : Right c s) (hst : s ≤ t) (ht : t ≤ 9) :
    Calls Tryz.prog 15 #[.agg #[.int .i64 c, .int .i64 s], .int .i64 t, .int .i64 way] w
      (Gives w (if -1000000000000000 ≤ c * ten (t - s) ∧ c * ten (t - s) ≤ 1000000000000000 then .tuple #[.agg #[.int .i64 (c * ten (t - s)), .int .i64 t], .bool true] else .tuple #[.agg #[.int .i64 0, .int .i64 0], .bool false])) := by
  have HBX := Lib.hid (Boxes.new w c s 0 0)
  have x0 := HBX.out.c0
  have x1 := HBX.out.c1
  have r0 := HBX.out.r0
  have r1 := HBX.out.r1
  have f0 := HBX.out.f0
  have f1 := HBX.out.f1
  obtain ⟨h0, h9, hc0, hc1⟩ := h
  have CT := Lib.hid fun W => refTen_any (t - s) W (by omega) (by omega)
  have CS := Lib.hid fun W => refSize_any c W (by omega) (by omega)
  have b0 := ten_pos (t - s)
  have b6 := ten_le_nine (a := t - s) (by omega) (by omega)
  have hf := fits_iff (c := c) (m := 1000000000000000) b0 (by decide)
  have ed : (1000000000000000 : Int).tdiv (ten (t - s)) = 1000000000000000 / ten (t - s) := Int.tdiv_eq_ediv_of_nonneg (by decide)
  have hq : 0 ≤ (1000000000000000 : Int) / ten (t - s) ∧ (1000000000000000 : Int) / ten (t - s) ≤ 1000000000000000 := ⟨Int.ediv_nonneg (by decide) (by omega), Int.ediv_le_self _ (by decide)⟩
  rw [ed] at hf
  have k3 := wr (x := t - s) (by omega) (by omega)
  generalize ten (t - s) = u at *
  generalize hQ : (1000000000000000 : Int) / u = q at *
  have hu0 : (u == 0) = false := by simp; omega
  have hu1 : ¬ u = 0 := by omega
  have hN : (0 : Int) ≤ (c.natAbs : Int) ∧ (c.natAbs : Int) ≤ 1000000000000000 := by omega
  by_cases hb : (c.natAbs : Int) ≤ q
  · have hcu := hf.1 hb
    rw [if_pos hcu]
    clear hf
    generalize (c.natAbs : Int) = a at *
    have hbi : ¬ q < a := by omega
    go_enter Tryz.func15, Tryz.ntmps15
    go_upto_region 3 with (go_at_call 26; (with_reducible refine (CT.out _).mono ?_); rintro e w2 ⟨rfl, rfl⟩)
    go_quiet ((go_at_call 36; with_reducible exact quiet_same CS.out _ _))
    go_wp2_with fail
    refine bodyPost_ret (v := .tuple #[.agg #[.int .i64 (c * u), .int .i64 t], .bool true]) ?_ rfl ⟨rfl, ?_⟩
    · simp [results, Tryz.results15, go_sem]
    · exact up_set (up_set (up_drewN HBX.out.below _) (Nat.le_succ _) _) (Nat.le_succ _) _
  · have hcu : ¬ (-1000000000000000 ≤ c * u ∧ c * u ≤ 1000000000000000) := fun h => hb (hf.2 h)
    rw [if_neg hcu]
    clear hf hcu
    generalize (c.natAbs : Int) = a at *
    have hbi : q < a := by omega
    go_enter Tryz.func15, Tryz.ntmps15
    go_upto_region 3 with (go_at_call 26; (with_reducible refine (CT.out _).mono ?_); rintro e w2 ⟨rfl, rfl⟩)
    go_quiet ((go_at_call 36; with_reducible exact quiet_same CS.out _ _))
    go_wp2_with fail
    refine bodyPost_ret (v := .tuple #[.agg #[.int .i64 0, .int .i64 0], .bool false]) ?_ rfl ⟨rfl, ?_⟩
    · simp [results, Tryz.results15, go_sem]
    · exact up_set (up_set (up_drewN HBX.out.below _) (Nat.le_succ _) _) (Nat.le_succ _) _
end D
end Go.Proofs.YteekhfiphbhbjaaGreatDoor
