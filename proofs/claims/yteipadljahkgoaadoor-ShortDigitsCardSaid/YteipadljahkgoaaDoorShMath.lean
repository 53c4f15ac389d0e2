/- Numbers in few digits: plain facts. Nothing of the program stands here. -/
import Derived.Test.YteipadljahkgoaaDoorDecFacts
namespace Go.Proofs.YteipadljahkgoaaDoor
namespace Sh
open D

/-- how many thousands there are, four at most -/
def rankN (n : Nat) : Nat := if n < 1000 then 0 else if n < 1000000 then 1 else if n < 1000000000 then 2 else if n < 1000000000000 then 3 else 4
def unitN (k : Nat) : Nat := 1000 ^ k
def letterL : Nat → List UInt8
  | 0 => []
  | 1 => [75]
  | 2 => [77]
  | 3 => [66]
  | _ => [84]
/-- the digit behind the point -/
def nextD (n : Nat) : Nat := n / (unitN (rankN n) / 10) % 10
def pointL (n : Nat) : List UInt8 := if 0 < rankN n ∧ n / unitN (rankN n) < 10 ∧ 0 < nextD n then [46] ++ Lib.decDigits (nextD n) else []
def shortL (n : Nat) : List UInt8 := Lib.decDigits (n / unitN (rankN n)) ++ (pointL n ++ letterL (rankN n))
theorem rank_le (n : Nat) : rankN n ≤ 4 := by unfold rankN; (repeat' split) <;> omega
theorem rank_big {n : Nat} : 0 < rankN n ↔ 1000 ≤ n := by unfold rankN; (repeat' split) <;> omega
theorem rank_rises {n m : Nat} (h : n ≤ m) : rankN n ≤ rankN m := by unfold rankN; (repeat' split) <;> omega
/-- a thousand times as much -/
theorem rank_more {n : Nat} (h0 : 1000 ≤ n) (h1 : n ≤ 1000000000) (h2 : n < 1000000000) : rankN (1000 * n) = rankN n + 1 := by unfold rankN; (repeat' split) <;> omega
theorem unit_next (k : Nat) : unitN (k + 1) = 1000 * unitN k := by unfold unitN; rw [Nat.pow_succ, Nat.mul_comm]
theorem rank_step {n k : Nat} (hk : k < 4) : 1000 ≤ n / unitN k ↔ k < rankN n := by
  unfold unitN rankN
  rcases (show k = 0 ∨ k = 1 ∨ k = 2 ∨ k = 3 by omega) with rfl | rfl | rfl | rfl <;> ((repeat' split) <;> omega)
theorem unit_pos (k : Nat) : 0 < unitN k := Nat.pow_pos (by decide)
theorem short_small {n : Nat} (h : n < 1000) : shortL n = Lib.decDigits n := by
  have hr : rankN n = 0 := by unfold rankN; rw [if_pos h]
  unfold shortL pointL
  rw [hr, if_neg (fun h => by have := h.1; omega)]
  show Lib.decDigits (n / 1) ++ ([] ++ []) = _
  rw [Nat.div_one]; simp
/-- the digits ahead of the letter -/
def headL (n : Nat) : List UInt8 := Lib.decDigits (n / unitN (rankN n)) ++ pointL n
theorem short_head (n : Nat) : shortL n = headL n ++ letterL (rankN n) := by unfold shortL headL; rw [List.append_assoc]
/-- a thousand times as much has the same digits -/
theorem head_more {n : Nat} (h0 : 1000 ≤ n) (h1 : n < 1000000000000) : rankN (1000 * n) = rankN n + 1 ∧ headL (1000 * n) = headL n := by
  have hr : rankN (1000 * n) = rankN n + 1 := by unfold rankN; (repeat' split) <;> omega
  refine ⟨hr, ?_⟩
  have hp := rank_big.2 h0
  have hq : 1000 * n / unitN (rankN n + 1) = n / unitN (rankN n) := by rw [unit_next, Nat.mul_div_mul_left _ _ (by decide)]
  have hd : nextD (1000 * n) = nextD n := by
    unfold nextD
    rw [hr]
    obtain ⟨j, hj⟩ : ∃ j, rankN n = j + 1 := ⟨rankN n - 1, by omega⟩
    have e1 : unitN (rankN n + 1) / 10 = 1000 * (unitN (rankN n) / 10) := by rw [hj, unit_next (j + 1), unit_next j]; omega
    rw [e1, Nat.mul_div_mul_left _ _ (by decide)]
  unfold headL pointL
  rw [hd, hr, hq]
  by_cases h : 0 < rankN n ∧ n / unitN (rankN n) < 10 ∧ 0 < nextD n
  · rw [if_pos h, if_pos ⟨by omega, h.2⟩]
  · rw [if_neg h, if_neg (fun k => h ⟨hp, k.2⟩)]
theorem next_lt (n : Nat) : nextD n < 10 := Nat.mod_lt _ (by decide)
theorem digits_one {n : Nat} (h : n < 10) : (Lib.decDigits n).length = 1 := by rw [Lib.decDigits_length, Lib.nDigits_small h]
theorem digits_len {n k : Nat} (hk : 0 < k) (h : n < 10 ^ k) : 1 ≤ (Lib.decDigits n).length ∧ (Lib.decDigits n).length ≤ k := by
  rw [Lib.decDigits_length]; exact ⟨Lib.nDigits_pos n, nDigits_le hk h⟩
theorem top_le {n : Nat} (h : n ≤ 1000000000000000) : n / unitN (rankN n) < 10000 := by
  unfold unitN rankN
  (repeat' split) <;> omega
/-- no more than six signs -/
theorem short_len {n : Nat} (h0 : 1000 ≤ n) (h1 : n ≤ 1000000000000000) : 2 ≤ (shortL n).length ∧ (shortL n).length ≤ 6 := by
  have hp := rank_big.2 h0
  have h4 := rank_le n
  have hl : (letterL (rankN n)).length = 1 := by
    rcases (show rankN n = 1 ∨ rankN n = 2 ∨ rankN n = 3 ∨ rankN n = 4 by omega) with h | h | h | h <;> rw [h] <;> rfl
  obtain ⟨d1, d4⟩ := digits_len (n := n / unitN (rankN n)) (k := 4) (by decide) (top_le h1)
  unfold shortL pointL
  rw [List.length_append, List.length_append, hl]
  by_cases h : 0 < rankN n ∧ n / unitN (rankN n) < 10 ∧ 0 < nextD n
  · rw [if_pos h, List.length_append, digits_one h.2.1, digits_one (next_lt n), List.length_singleton]
    omega
  · rw [if_neg h, List.length_nil]
    omega
theorem head_ne (n : Nat) : headL n ≠ [] := fun h => by
  unfold headL at h
  exact dec_ne _ (List.append_eq_nil_iff.1 h).1
theorem head_digit {n : Nat} {c : UInt8} (h : c ∈ headL n) : c = 46 ∨ (48 ≤ c.toNat ∧ c.toNat ≤ 57) := by
  unfold headL pointL at h
  rcases List.mem_append.1 h with h | h
  · exact .inr (dec_digs _ c h)
  · split at h
    · rcases List.mem_append.1 h with h | h
      · exact .inl (List.mem_singleton.1 h)
      · exact .inr (dec_digs _ c h)
    · cases h
/-- what letter a text ends in -/
def rankT (l : List UInt8) : Nat := match l.getLast? with
  | some c => if c = 75 then 1 else if c = 77 then 2 else if c = 66 then 3 else if c = 84 then 4 else 0
  | none => 0
theorem rank_text {n : Nat} : rankT (shortL n) = rankN n := by
  rw [short_head]
  have h4 := rank_le n
  rcases (show rankN n = 0 ∨ rankN n = 1 ∨ rankN n = 2 ∨ rankN n = 3 ∨ rankN n = 4 by omega) with h | h | h | h | h <;> rw [h]
  · show rankT (headL n ++ []) = 0
    rw [List.append_nil]
    unfold rankT
    cases hg : (headL n).getLast? with
    | none => rfl
    | some c =>
      have hm := head_digit (List.mem_of_getLast? hg)
      have : ∀ d : UInt8, 57 < d.toNat → c ≠ d := fun d hd e => by subst e; rcases hm with rfl | hm; revert hd; decide; omega
      simp only
      rw [if_neg (this 75 (by decide)), if_neg (this 77 (by decide)), if_neg (this 66 (by decide)), if_neg (this 84 (by decide))]
  · show rankT (headL n ++ [75]) = 1
    unfold rankT; simp
  · show rankT (headL n ++ [77]) = 2
    unfold rankT; simp
  · show rankT (headL n ++ [66]) = 3
    unfold rankT; simp
  · show rankT (headL n ++ [84]) = 4
    unfold rankT; simp
theorem fact_short : shortL 1250 = [49, 46, 50, 75] := by
  have hr : rankN 1250 = 1 := by decide
  unfold shortL pointL nextD
  rw [hr]
  show Lib.decDigits 1 ++ ((if _ then [46] ++ Lib.decDigits 2 else []) ++ [75]) = _
  rw [if_pos (by decide), digits_first (by decide), digits_first (by decide)]
  rfl
end Sh
end Go.Proofs.YteipadljahkgoaaDoor
