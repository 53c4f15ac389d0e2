/- A nought put behind a number's last digit: its text, its value, its operands. -/
import Derived.Test.YteedhnpdffnfjaaGreatDoorLaSays
namespace Go.Proofs.YteedhnpdffnfjaaGreatDoor
namespace Ru
open Go.RowKit Go.Maps D

theorem low_ten (k n : Nat) : low (k + 1) (10 * n) = low k n ++ [48] := by
  show low k (10 * n / 10) ++ [dgt (10 * n)] = _
  rw [Nat.mul_div_cancel_left _ (by decide), show dgt (10 * n) = 48 from by unfold dgt; rw [Nat.mul_mod_right]; rfl]
theorem text_ten (c : Int) (k : Nat) : text (10 * c) (k + 1) = (if k = 0 then text c 0 ++ [46] else text c k) ++ [48] := by
  have h1 : (10 * c).natAbs = 10 * c.natAbs := by rw [Int.natAbs_mul]; rfl
  have h2 : 10 * c.natAbs / 10 ^ (k + 1) = c.natAbs / 10 ^ k := by rw [Nat.pow_succ, Nat.mul_comm (10 ^ k) 10, Nat.mul_div_mul_left _ _ (by decide)]
  have h3 : (10 * c < 0) ↔ (c < 0) := by omega
  unfold text
  rw [h1, h2, low_ten, if_neg (Nat.succ_ne_zero k)]
  simp only [h3]
  by_cases hk : k = 0
  · subst hk
    simp [low]
  · rw [if_neg hk, if_neg hk]
    simp
theorem val_ten {c s : Int} (h : 0 ≤ s) (h' : s ≤ 8) : val (10 * c) (s + 1) = val c s := by
  unfold val
  rw [show (9 : Int) - s = (9 - (s + 1)) + 1 from by omega, ten_succ (by omega)]
  rw [Int.mul_comm (ten (9 - (s + 1))) 10, ← Int.mul_assoc, Int.mul_comm c 10]
theorem ops_ten (c : Int) {s : Int} (h : 0 ≤ s) : opsI (10 * c) (s + 1) = opsI c s ∧ opsT (10 * c) (s + 1) = opsT c s := by
  have := ops_more c (s := s) (j := 1) h (by decide)
  rw [show ten 1 = 10 from rfl, Int.mul_comm c 10] at this
  exact ⟨this.1, this.2.2⟩
end Ru
end Go.Proofs.YteedhnpdffnfjaaGreatDoor
