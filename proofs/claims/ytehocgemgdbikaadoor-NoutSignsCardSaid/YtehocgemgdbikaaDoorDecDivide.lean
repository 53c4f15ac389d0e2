/- The program's quotient, rounded by a way: it returns what the plain fact says, and the world stays as it was but for draws. -/
import Derived.Test.YtehocgemgdbikaaDoorDecPlain
namespace Go.Proofs.YtehocgemgdbikaaDoor
namespace D
open Go.RowKit

set_option maxHeartbeats 4000000 in
theorem divide_any (c u way : Int) (w : World) (hu : 0 < u) (hu1 : u ≤ 1000000000) (h0 : -1000000000000000 ≤ c) (hc : c ≤ 1000000000000000) (h1 : 1 ≤ way) (h5 : way ≤ 5) :
    Calls Tryd.prog 29 #[.int .i64 c, .int .i64 u, .int .i64 way] w (Drawn w (.int .i64 (rnd way c u))) := by
  have hu0 : (u == 0) = false := by simp; omega
  have ht := told_eq hu c way h1 h5
  obtain ⟨r0, r1, r2, r3⟩ := go_rest hu c
  rw [← ht]
  clear ht
  generalize hQ : c.tdiv u = q at *
  generalize hR : c.tmod u = r at *
  have q0 : -1000000000000000 ≤ q ∧ q ≤ 1000000000000000 := by omega
  clear r2 r3
  have HA : Hid (∀ W : World, Calls Tryd.prog 45 #[.int .i64 r] W fun e w' => e = .returned (.int .i64 r.natAbs) ∧ W = w') := Lib.hid fun W => abs_any r W (by omega) (by omega)
  have hm : (0 : Int) ≤ r.natAbs ∧ (r.natAbs : Int) ≤ 1000000000 := by omega
  rcases (show r < 0 ∨ r = 0 ∨ 0 < r by omega) with hr | hr | hr <;>
  rcases (show 2 * (r.natAbs : Int) < u ∨ 2 * (r.natAbs : Int) = u ∨ u < 2 * (r.natAbs : Int) by omega) with hh | hh | hh <;>
  rcases (show way = 1 ∨ way = 2 ∨ way = 3 ∨ way = 4 ∨ way = 5 by omega) with rfl | rfl | rfl | rfl | rfl <;>
  by_cases ho : q.tmod 2 = 0
  all_goals
    first
      | have C1 := Lib.hid (cmp_lt (show r < 0 by omega))
      | have C1 := Lib.hid (cmp_gt (show 0 < r by omega))
      | have C1 := Lib.hid (cmp_eq (show r = 0 by omega))
    first
      | have C2 := Lib.hid (cmp_lt (show 2 * (r.natAbs : Int) < u by omega))
      | have C2 := Lib.hid (cmp_gt (show u < 2 * (r.natAbs : Int) by omega))
      | have C2 := Lib.hid (cmp_eq (show 2 * (r.natAbs : Int) = u by omega))
    have HO := Lib.hid ho
    try (have ho1 : (q.tmod 2 == 0) = true := by simpa using ho)
    try (have ho1 : (q.tmod 2 == 0) = false := by simpa using ho)
    have HR := Lib.hid hr
    have HH := Lib.hid hh
    clear hh hr ho
    generalize hMM : (r.natAbs : Int) = m at *
    have HMM := Lib.hid hMM
    clear hMM
    go_enter Tryd.func29, Tryd.ntmps29
    go_wp2_with fail
    go_quiet (fail)
    go_wp2_with (first
      | (go_at_call 45; (with_reducible refine (HA.out _).mono ?_); rintro e w' ⟨rfl, rfl⟩)
      | (go_at_call 44; (with_reducible refine (C1.out _).mono ?_); rintro e w' ⟨rfl, rfl⟩)
      | (go_at_call 44; (with_reducible refine (C2.out _).mono ?_); rintro e w' ⟨rfl, rfl⟩))
    go_ret
    exact ⟨ret_int (by unfold told; have h1 := HR.out; have h2 := HH.out; have h3 := HO.out; have h4 := HMM.out; simp [h3]; try ((repeat' split) <;> omega)), _, rfl⟩
end D
end Go.Proofs.YtehocgemgdbikaaDoor
