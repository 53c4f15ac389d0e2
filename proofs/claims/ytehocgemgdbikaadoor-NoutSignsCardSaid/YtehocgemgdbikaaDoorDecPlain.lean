/- The program's helpers on whole numbers: whether a scale or a coefficient fits, a power of ten, a quotient rounded by a way; each returns what the plain fact says, and the world stays as it was but for draws. -/
import Derived.Test.YtehocgemgdbikaaDoorDecTens
namespace Go.Proofs.YtehocgemgdbikaaDoor
namespace D
open Go.RowKit

theorem abs_any (n : Int) (w : World) (h0 : -1000000000000000000 ≤ n) (h1 : n ≤ 1000000000000000000) : Calls Tryd.prog 45 #[.int .i64 n] w fun e w' => e = .returned (.int .i64 n.natAbs) ∧ w = w' := by
  by_cases h : 0 ≤ n
  all_goals
    go_enter Tryd.func45, Tryd.ntmps45
    go_wp2
    go_ret
    exact ⟨ret_int (by (repeat' split) <;> omega), rfl⟩
theorem fits_iff {c u m : Int} (hu : 0 < u) (hm : 0 ≤ m) : (c.natAbs : Int) ≤ m.tdiv u ↔ -m ≤ c * u ∧ c * u ≤ m := by
  rw [Int.tdiv_eq_ediv_of_nonneg hm, Int.le_ediv_iff_mul_le hu]
  rcases Int.le_total 0 c with h | h
  · have : (c.natAbs : Int) = c := by omega
    have h0 := Int.mul_nonneg h (show 0 ≤ u by omega)
    rw [this]; omega
  · have : (c.natAbs : Int) = -c := by omega
    have h0 := Int.mul_nonneg (show 0 ≤ -c by omega) (show 0 ≤ u by omega)
    rw [this, Int.neg_mul] at *; omega
set_option maxHeartbeats 1000000 in
theorem extend_any (c z m : Int) (w : World) (hz : 0 ≤ z) (hz9 : z ≤ 9) (h0 : -1000000000000000 ≤ c) (hc : c ≤ 1000000000000000) (hm : 0 ≤ m) (hm2 : m ≤ 2000000000000000) :
    Calls Tryd.prog 31 #[.int .i64 c, .int .i64 z, .int .i64 m] w (Drawn w (.tuple #[.int .i64 (if -m ≤ c * ten z ∧ c * ten z ≤ m then c * ten z else 0), .bool (decide (-m ≤ c * ten z ∧ c * ten z ≤ m))])) := by
  have HT : Hid (∀ W : World, Calls Tryd.prog 30 #[.int .i64 z] W fun e w' => e = .returned (.int .i64 (ten z)) ∧ W = w') := Lib.hid fun W => tens_any z W hz hz9
  have HA : Hid (∀ W : World, Calls Tryd.prog 45 #[.int .i64 c] W fun e w' => e = .returned (.int .i64 c.natAbs) ∧ W = w') := Lib.hid fun W => abs_any c W (by omega) (by omega)
  have b0 := ten_pos z
  have b1 := ten_le_nine hz hz9
  generalize ten z = u at *
  have hu0 : (u == 0) = false := by simp; omega
  have hf := fits_iff (c := c) b0 hm
  have HF := Lib.hid hf
  have hd := go_rest b0 m
  have hq : 0 ≤ m.tdiv u ∧ m.tdiv u ≤ 2000000000000000 := by omega
  clear hd
  generalize hQ : m.tdiv u = q at *
  by_cases hb : (c.natAbs : Int) ≤ q
  · have hcu := hf.1 hb
    have HB := Lib.hid hcu
    clear hf
    generalize hMM : (c.natAbs : Int) = a at *
    have HMM := Lib.hid hMM
    clear hMM
    go_enter Tryd.func31, Tryd.ntmps31
    go_wp2_with (go_at_call 30; (with_reducible refine (HT.out _).mono ?_); rintro e w' ⟨rfl, rfl⟩)
    go_quiet (first | (go_at_call 45; exact quiet_same HA.out _ _))
    go_wp2_with fail
    go_ret2
    exact ⟨rfl, _, rfl⟩
  · have hcu : ¬ (-m ≤ c * u ∧ c * u ≤ m) := fun h => hb (hf.2 h)
    have HB := Lib.hid hcu
    clear hf hcu
    generalize hMM : (c.natAbs : Int) = a at *
    have HMM := Lib.hid hMM
    clear hMM
    go_enter Tryd.func31, Tryd.ntmps31
    go_wp2_with (go_at_call 30; (with_reducible refine (HT.out _).mono ?_); rintro e w' ⟨rfl, rfl⟩)
    go_quiet (first | (go_at_call 45; exact quiet_same HA.out _ _))
    go_wp2_with fail
    go_ret2
    exact ⟨rfl, _, rfl⟩
end D
end Go.Proofs.YtehocgemgdbikaaDoor
