/- The program's helpers on whole numbers: whether a scale or a coefficient fits, a power of ten, a quotient rounded by a way; each returns what the plain fact says, and the world stays as it was but for draws. -/
import Derived.Test.YtppnfjapalilfaaProg
import Derived.Test.YtppnfjapalilfaaDecLawMath
import Derived.WalkKit
import Derived.WalkSpells
import Derived.Lib.Hide
import Derived.Lib.Small
import Derived.BigQuiet
import Derived.Outline
import Derived.Below
import Derived.IntWalk
import Derived.RegionTactic
import Derived.Deep.QuietTactic
import Derived.Deep.Draws
namespace Go.Proofs.Ytppnfjapalilfaa
namespace D
open Go.RowKit

theorem ret_bool {a b : Bool} (h : a = b) : Ending.returned (.bool a) = .returned (.bool b) := by rw [h]
theorem ret_int {a b : Int} (h : a = b) : Ending.returned (.int .i64 a) = .returned (.int .i64 b) := by rw [h]

theorem scaleFits_any (s : Int) (w : World) : Calls Try.prog 10 #[.int .i64 s] w fun e w' => e = .returned (.bool (decide (0 ≤ s ∧ s ≤ 9))) ∧ w = w' := by
  by_cases h1 : 0 ≤ s <;> by_cases h2 : s ≤ 9
  all_goals
    go_enter Try.func10, Try.ntmps10
    go_wp2
    go_ret
    exact ⟨ret_bool (by simp [h1, h2]), rfl⟩
theorem coefFits_any (c : Int) (w : World) : Calls Try.prog 14 #[.int .i64 c] w fun e w' => e = .returned (.bool (decide (-1000000000000000 ≤ c ∧ c ≤ 1000000000000000))) ∧ w = w' := by
  by_cases h1 : -1000000000000000 ≤ c <;> by_cases h2 : c ≤ 1000000000000000
  all_goals
    go_enter Try.func14, Try.ntmps14
    go_wp2
    go_ret
    exact ⟨ret_bool (by simp [h1, h2]), rfl⟩
theorem nan_any (x : Int) (w : World) : Calls Try.prog 17 #[.int .i64 x] w fun e w' => e = .returned (.bool false) ∧ w = w' := by
  go_enter Try.func17, Try.ntmps17
  go_wp2
  go_ret
  exact ⟨by simp, rfl⟩
theorem cmp_any (x y : Int) (w : World) : Calls Try.prog 15 #[.int .i64 x, .int .i64 y] w fun e w' => e = .returned (.int .i64 (if x < y then -1 else if y < x then 1 else 0)) ∧ w = w' := by
  rcases (show x < y ∨ y < x ∨ x = y by omega) with h | h | h
  all_goals
    first
      | (have h1 : ¬ y < x := by omega)
      | (have h1 : ¬ x < y := by omega)
    try (have h2 : ¬ y < x := by omega)
    go_enter Try.func15, Try.ntmps15
    go_wp2_with (go_at_call 17; (with_reducible refine (nan_any _ _).mono ?_); rintro e w' ⟨rfl, rfl⟩)
    go_ret
    exact ⟨ret_int (by (repeat' split) <;> omega), rfl⟩
theorem abs_any (n : Int) (w : World) (h0 : -1000000000000000000 ≤ n) (h1 : n ≤ 1000000000000000000) : Calls Try.prog 16 #[.int .i64 n] w fun e w' => e = .returned (.int .i64 n.natAbs) ∧ w = w' := by
  by_cases h : 0 ≤ n
  all_goals
    go_enter Try.func16, Try.ntmps16
    go_wp2
    go_ret
    exact ⟨ret_int (by (repeat' split) <;> omega), rfl⟩
theorem ten_nat (k : Nat) : ten (k : Int) = 10 ^ k := rfl
theorem ten_next (k : Nat) : ten ((k + 1 : Nat) : Int) = ten k * 10 := by rw [ten_nat, ten_nat, Int.pow_succ]
theorem tens_any (n : Int) (w : World) (h0 : 0 ≤ n) (h9 : n ≤ 9) : Calls Try.prog 12 #[.int .i64 n] w fun e w' => e = .returned (.int .i64 (ten n)) ∧ w = w' := by
  go_enter Try.func12, Try.ntmps12
  go_wp2_with fail
  go_loopw [3, 5] (fun p i wr => ∃ k : Nat, (k : Int) ≤ n ∧ i = .int .i64 k ∧ p = .int .i64 (ten k) ∧ w = wr) (fun _ i _ => n.toNat - (intOf i).toNat)
  case atStart => exact ⟨0, h0, rfl, rfl, rfl⟩
  case round =>
    obtain ⟨k, hk, rfl, rfl, rfl⟩ := hrel
    by_cases hlt : (k : Int) < n
    · have b0 := ten_pos (k : Int)
      have b1 := ten_le_nine (a := (k : Int)) (by omega) (by omega)
      have e1 := ten_next k
      go_wp2_with fail
      go_roundw
      case rel => exact ⟨k + 1, by omega, by go_num, by rw [e1], trivial⟩
      case measure => simp [intOf]; omega
    · obtain rfl : (k : Int) = n := by omega
      go_wp2_with fail
      go_ret
      exact ⟨rfl, rfl⟩

/-- the world is as it was but for draws -/
def Drawn (w : World) (v : Value) (e : Ending) (w' : World) : Prop := e = .returned v ∧ ∃ d, w.drewN d = w'
theorem quiet_same {f : Nat} {args : Array Value} {v : Value} (h : ∀ W : World, Calls Try.prog f args W fun e w' => e = .returned v ∧ W = w') (w : World) (n : Nat) :
    Calls Try.prog f args (w.drewN n) fun e w'' => e = .returned v ∧ ∃ m, w'' = w.drewN m :=
  (h (w.drewN n)).mono fun _ _ ⟨he, hw⟩ => ⟨he, n, hw.symm⟩
theorem fits_iff {c u m : Int} (hu : 0 < u) (hm : 0 ≤ m) : (c.natAbs : Int) ≤ m.tdiv u ↔ -m ≤ c * u ∧ c * u ≤ m := by
  rw [Int.tdiv_eq_ediv_of_nonneg hm, Int.le_ediv_iff_mul_le hu]
  rcases Int.le_total 0 c with h | h
  · have : (c.natAbs : Int) = c := by omega
    have h0 := Int.mul_nonneg h (show 0 ≤ u by omega)
    rw [this]; omega
  · have : (c.natAbs : Int) = -c := by omega
    have h0 := Int.mul_nonneg (show 0 ≤ -c by omega) (show 0 ≤ u by omega)
    rw [this, Int.neg_mul] at *; omega
set_option maxHeartbeats 1000000 in
theorem extend_any (c z m : Int) (w : World) (hz : 0 ≤ z) (hz9 : z ≤ 9) (h0 : -1000000000000000 ≤ c) (hc : c ≤ 1000000000000000) (hm : 0 ≤ m) (hm2 : m ≤ 2000000000000000) :
    Calls Try.prog 13 #[.int .i64 c, .int .i64 z, .int .i64 m] w (Drawn w (.tuple #[.int .i64 (if -m ≤ c * ten z ∧ c * ten z ≤ m then c * ten z else 0), .bool (decide (-m ≤ c * ten z ∧ c * ten z ≤ m))])) := by
  have HT : Hid (∀ W : World, Calls Try.prog 12 #[.int .i64 z] W fun e w' => e = .returned (.int .i64 (ten z)) ∧ W = w') := Lib.hid fun W => tens_any z W hz hz9
  have HA : Hid (∀ W : World, Calls Try.prog 16 #[.int .i64 c] W fun e w' => e = .returned (.int .i64 c.natAbs) ∧ W = w') := Lib.hid fun W => abs_any c W (by omega) (by omega)
  have b0 := ten_pos z
  have b1 := ten_le_nine hz hz9
  generalize ten z = u at *
  have hu0 : (u == 0) = false := by simp; omega
  have hf := fits_iff (c := c) b0 hm
  have HF := Lib.hid hf
  have hd := go_rest b0 m
  have hq : 0 ≤ m.tdiv u ∧ m.tdiv u ≤ 2000000000000000 := by omega
  clear hd
  generalize hQ : m.tdiv u = q at *
  by_cases hb : (c.natAbs : Int) ≤ q
  · have hcu := hf.1 hb
    have HB := Lib.hid hcu
    clear hf
    generalize hMM : (c.natAbs : Int) = a at *
    have HMM := Lib.hid hMM
    clear hMM
    go_enter Try.func13, Try.ntmps13
    go_wp2_with (go_at_call 12; (with_reducible refine (HT.out _).mono ?_); rintro e w' ⟨rfl, rfl⟩)
    go_quiet (first | (go_at_call 16; exact quiet_same HA.out _ _))
    go_wp2_with fail
    go_ret2
    exact ⟨rfl, _, rfl⟩
  · have hcu : ¬ (-m ≤ c * u ∧ c * u ≤ m) := fun h => hb (hf.2 h)
    have HB := Lib.hid hcu
    clear hf hcu
    generalize hMM : (c.natAbs : Int) = a at *
    have HMM := Lib.hid hMM
    clear hMM
    go_enter Try.func13, Try.ntmps13
    go_wp2_with (go_at_call 12; (with_reducible refine (HT.out _).mono ?_); rintro e w' ⟨rfl, rfl⟩)
    go_quiet (first | (go_at_call 16; exact quiet_same HA.out _ _))
    go_wp2_with fail
    go_ret2
    exact ⟨rfl, _, rfl⟩
end D
end Go.Proofs.Ytppnfjapalilfaa
