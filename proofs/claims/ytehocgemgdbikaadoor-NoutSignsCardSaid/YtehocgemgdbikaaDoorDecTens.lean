/- The program's comparison of two numbers and powers of ten; what lay in memory stays as it was. -/
import Derived.Test.YtehocgemgdbikaaDoorDecGround
namespace Go.Proofs.YtehocgemgdbikaaDoor
namespace D
open Go.RowKit

theorem nan_any (x : Int) (w : World) : Calls Tryd.prog 61 #[.int .i64 x] w fun e w' => e = .returned (.bool false) ∧ w = w' := by
  go_enter Tryd.func61, Tryd.ntmps61
  go_wp2
  go_ret
  exact ⟨by simp, rfl⟩
theorem cmp_any (x y : Int) (w : World) : Calls Tryd.prog 44 #[.int .i64 x, .int .i64 y] w fun e w' => e = .returned (.int .i64 (if x < y then -1 else if y < x then 1 else 0)) ∧ w = w' := by
  rcases (show x < y ∨ y < x ∨ x = y by omega) with h | h | h
  all_goals
    first
      | (have h1 : ¬ y < x := by omega)
      | (have h1 : ¬ x < y := by omega)
    try (have h2 : ¬ y < x := by omega)
    go_enter Tryd.func44, Tryd.ntmps44
    go_wp2_with (go_at_call 61; (with_reducible refine (nan_any _ _).mono ?_); rintro e w' ⟨rfl, rfl⟩)
    go_ret
    exact ⟨ret_int (by (repeat' split) <;> omega), rfl⟩
theorem tens_any (n : Int) (w : World) (h0 : 0 ≤ n) (h9 : n ≤ 9) : Calls Tryd.prog 30 #[.int .i64 n] w fun e w' => e = .returned (.int .i64 (ten n)) ∧ w = w' := by
  go_enter Tryd.func30, Tryd.ntmps30
  go_wp2_with fail
  go_loopw [3, 5] (fun p i wr => ∃ k : Nat, (k : Int) ≤ n ∧ i = .int .i64 k ∧ p = .int .i64 (ten k) ∧ w = wr) (fun _ i _ => n.toNat - (intOf i).toNat)
  case atStart => exact ⟨0, h0, rfl, rfl, rfl⟩
  case round =>
    obtain ⟨k, hk, rfl, rfl, rfl⟩ := hrel
    by_cases hlt : (k : Int) < n
    · have b0 := ten_pos (k : Int)
      have b1 := ten_le_nine (a := (k : Int)) (by omega) (by omega)
      have e1 := ten_next k
      go_wp2_with fail
      go_roundw
      case rel => exact ⟨k + 1, by omega, by go_num, by rw [e1], trivial⟩
      case measure => simp [intOf]; omega
    · obtain rfl : (k : Int) = n := by omega
      go_wp2_with fail
      go_ret
      exact ⟨rfl, rfl⟩

abbrev CmpIs (x y a : Int) : Prop := ∀ W : World, Calls Tryd.prog 44 #[.int .i64 x, .int .i64 y] W fun e w' => e = .returned (.int .i64 a) ∧ W = w'
theorem cmp_lt {x y : Int} (h : x < y) : CmpIs x y (-1) := fun W => by have := cmp_any x y W; rwa [if_pos h] at this
theorem cmp_gt {x y : Int} (h : y < x) : CmpIs x y 1 := fun W => by have := cmp_any x y W; rwa [if_neg (by omega), if_pos h] at this
theorem cmp_eq {x y : Int} (h : x = y) : CmpIs x y 0 := fun W => by have := cmp_any x y W; rwa [if_neg (by omega), if_neg (by omega)] at this
end D
end Go.Proofs.YtehocgemgdbikaaDoor
