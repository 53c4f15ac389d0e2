/- Plain facts on a number's digits behind its point: how many are left where the noughts at the end are taken away. Nothing of the program stands here. -/
import Derived.Test.YtppnfjapalilfaaDoorDecMath
namespace Go.Proofs.YtppnfjapalilfaaDoor
namespace D

/-- of so many digits behind the point: how many are left without the noughts at the end -/
def trail : Nat → Nat → Nat
  | 0, _ => 0
  | k + 1, f => if f % 10 = 0 then trail k (f / 10) else k + 1
theorem trail_le : ∀ (k f : Nat), trail k f ≤ k
  | 0, _ => Nat.le_refl _
  | k + 1, f => by
    unfold trail
    split
    · exact Nat.le_succ_of_le (trail_le k _)
    · exact Nat.le_refl _
theorem pow_split (a b : Nat) : 10 ^ (a + b) = 10 ^ a * 10 ^ b := Nat.pow_add 10 a b
theorem trail_div : ∀ (k f : Nat), f % 10 ^ (k - trail k f) = 0
  | 0, f => by simp [Nat.mod_one]
  | k + 1, f => by
    unfold trail
    split
    · rename_i h
      have ih := trail_div k (f / 10)
      have hl := trail_le k (f / 10)
      rw [show k + 1 - trail k (f / 10) = 1 + (k - trail k (f / 10)) by omega, pow_split, Nat.pow_one]
      have e : f = 10 * (f / 10) := by omega
      rw [e, Nat.mul_mod_mul_left, ← e]
      rw [ih]
    · simp [Nat.mod_one]
theorem trail_last : ∀ (k f : Nat), 0 < trail k f → f / 10 ^ (k - trail k f) % 10 ≠ 0
  | 0, f, h => by simp [trail] at h
  | k + 1, f, h => by
    unfold trail at h ⊢
    split
    · rename_i h0
      rw [if_pos h0] at h
      have ih := trail_last k (f / 10) h
      have hl := trail_le k (f / 10)
      rw [show k + 1 - trail k (f / 10) = 1 + (k - trail k (f / 10)) by omega, pow_split, Nat.pow_one, ← Nat.div_div_eq_div_mul]
      exact ih
    · rename_i h0
      simpa using h0
/-- the one place where it ends so -/
theorem trail_one : ∀ (k f w : Nat), w ≤ k → f % 10 ^ (k - w) = 0 → (w = 0 ∨ f / 10 ^ (k - w) % 10 ≠ 0) → trail k f = w
  | 0, f, w, h, _, _ => by unfold trail; omega
  | k + 1, f, w, h, h1, h2 => by
    unfold trail
    split
    · rename_i h0
      have hw : w ≤ k := by
        rcases Nat.lt_or_ge k w with hlt | hge
        · obtain rfl : w = k + 1 := by omega
          simp at h2
          omega
        · exact hge
      rw [show k + 1 - w = 1 + (k - w) by omega, pow_split, Nat.pow_one] at h1 h2
      have e : f = 10 * (f / 10) := by omega
      refine trail_one k (f / 10) w hw ?_ ?_
      · rw [e, Nat.mul_mod_mul_left] at h1
        omega
      · rw [← Nat.div_div_eq_div_mul] at h2
        exact h2
    · rename_i h0
      rcases Nat.lt_or_ge k w with hlt | hge
      · omega
      · exfalso
        rw [show k + 1 - w = 1 + (k - w) by omega, pow_split, Nat.pow_one] at h1
        have : f % 10 = 0 := by
          have := Nat.mod_mod_of_dvd f (Nat.dvd_mul_right 10 (10 ^ (k - w)))
          rw [h1] at this
          omega
        exact h0 this
/-- one digit less, as it is asked from behind -/
theorem trail_go {k f w : Nat} (h1 : f % 10 ^ (k - w) = 0) : (f % 10 ^ (k - w + 1) = 0 ↔ f / 10 ^ (k - w) % 10 = 0) := by
  rw [pow_split, Nat.pow_one]
  have hp : 0 < 10 ^ (k - w) := Nat.pow_pos (by decide)
  have e : f = 10 ^ (k - w) * (f / 10 ^ (k - w)) := by
    have := Nat.div_add_mod f (10 ^ (k - w))
    omega
  generalize f / 10 ^ (k - w) = g at *
  rw [e, Nat.mul_mod_mul_left]
  generalize 10 ^ (k - w) = p at *
  constructor
  · intro h
    rcases Nat.mul_eq_zero.1 h with h | h
    · omega
    · exact h
  · intro h
    rw [h, Nat.mul_zero]
/-- noughts put behind change nothing -/
theorem trail_more (k f j : Nat) : trail (k + j) (f * 10 ^ j) = trail k f ∧ f * 10 ^ j / 10 ^ (k + j - trail k f) = f / 10 ^ (k - trail k f) := by
  have hl := trail_le k f
  have hp : 0 < 10 ^ j := Nat.pow_pos (by decide)
  have e : 10 ^ (k + j - trail k f) = 10 ^ (k - trail k f) * 10 ^ j := by rw [← pow_split, show k - trail k f + j = k + j - trail k f by omega]
  have e2 : f * 10 ^ j / 10 ^ (k + j - trail k f) = f / 10 ^ (k - trail k f) := by rw [e, Nat.mul_div_mul_right _ _ hp]
  refine ⟨trail_one _ _ _ (by omega) ?_ ?_, e2⟩
  · rw [e, Nat.mul_mod_mul_right, trail_div, Nat.zero_mul]
  · rw [e2]
    rcases Nat.eq_zero_or_pos (trail k f) with h | h
    · exact .inl h
    · exact .inr (trail_last k f h)
/-- the operands of a number, without its sign: what is ahead of the point, how many digits behind it without the noughts at the end, what is behind it, and that without the noughts -/
def opsI (c s : Int) : Int := ((c.natAbs / 10 ^ s.toNat : Nat) : Int)
def opsF (c s : Int) : Int := ((c.natAbs % 10 ^ s.toNat : Nat) : Int)
def opsW (c s : Int) : Int := ((trail s.toNat (c.natAbs % 10 ^ s.toNat) : Nat) : Int)
def opsT (c s : Int) : Int := ((c.natAbs % 10 ^ s.toNat / 10 ^ (s.toNat - trail s.toNat (c.natAbs % 10 ^ s.toNat)) : Nat) : Int)
theorem ten_cast {a : Int} (k : Nat) (h : a.toNat = k) : ten a = ((10 ^ k : Nat) : Int) := by unfold ten; rw [h]; simp
theorem ops_whole (c s : Int) : opsI c s * ten s + opsF c s = (c.natAbs : Int) := by
  unfold opsI opsF
  rw [ten_cast s.toNat rfl, ← Int.natCast_mul, ← Int.natCast_add, Nat.mul_comm, Nat.div_add_mod]
theorem ops_w (c s : Int) (hs : 0 ≤ s) : 0 ≤ opsW c s ∧ opsW c s ≤ s := by
  unfold opsW
  have := trail_le s.toNat (c.natAbs % 10 ^ s.toNat)
  omega
theorem ops_t (c s : Int) (hs : 0 ≤ s) : opsT c s * ten (s - opsW c s) = opsF c s := by
  unfold opsT opsW opsF
  generalize c.natAbs % 10 ^ s.toNat = f
  have hl := trail_le s.toNat f
  have hd := trail_div s.toNat f
  rw [ten_cast (s.toNat - trail s.toNat f) (by omega), ← Int.natCast_mul, Nat.mul_comm]
  have := Nat.div_add_mod f (10 ^ (s.toNat - trail s.toNat f))
  omega
theorem ops_last (c s : Int) (h : 0 < opsW c s) : opsT c s % 10 ≠ 0 := by
  unfold opsT opsW at *
  have := trail_last s.toNat (c.natAbs % 10 ^ s.toNat) (by omega)
  omega
theorem ops_neg (c s : Int) : opsI (-c) s = opsI c s ∧ opsF (-c) s = opsF c s ∧ opsW (-c) s = opsW c s ∧ opsT (-c) s = opsT c s := by
  unfold opsI opsF opsW opsT
  rw [Int.natAbs_neg]
  exact ⟨rfl, rfl, rfl, rfl⟩
theorem ops_left {c s w : Int} (h : opsW c s < w) (hs : w ≤ s) : opsF c s % ten (s - w + 1) = 0 := by
  unfold opsW at h
  unfold opsF
  generalize c.natAbs % 10 ^ s.toNat = f at *
  have hl := trail_le s.toNat f
  have hd := trail_div s.toNat f
  rw [ten_cast (s.toNat - w.toNat + 1) (by omega), ← Int.natCast_emod]
  have hj : s.toNat - trail s.toNat f = s.toNat - w.toNat + 1 + (w.toNat - 1 - trail s.toNat f) := by omega
  rw [hj, pow_split] at hd
  have := Nat.mod_mod_of_dvd f (Nat.dvd_mul_right (10 ^ (s.toNat - w.toNat + 1)) (10 ^ (w.toNat - 1 - trail s.toNat f)))
  rw [hd, Nat.zero_mod] at this
  rw [← this]
  rfl
theorem ops_stop {c s : Int} (h : 0 < opsW c s) (hs : 0 ≤ s) : opsF c s % ten (s - opsW c s + 1) ≠ 0 := by
  unfold opsW at *
  unfold opsF
  generalize c.natAbs % 10 ^ s.toNat = f at *
  have hl := trail_le s.toNat f
  have hg := trail_go (trail_div s.toNat f)
  have h2 := trail_last s.toNat f (by omega)
  rw [ten_cast (s.toNat - trail s.toNat f + 1) (by omega), ← Int.natCast_emod]
  intro h0
  exact h2 (hg.1 (by omega))
theorem ops_quo (c s : Int) (hs : 0 ≤ s) : opsF c s / ten (s - opsW c s) = opsT c s := by
  unfold opsT opsW opsF
  have hl := trail_le s.toNat (c.natAbs % 10 ^ s.toNat)
  rw [ten_cast (s.toNat - trail s.toNat (c.natAbs % 10 ^ s.toNat)) (by omega), ← Int.natCast_ediv]
theorem right_neg {c s : Int} (h : Right c s) : Right (-c) s := by unfold Right at *; omega
/-- noughts put behind -/
theorem ops_more (c : Int) {s j : Int} (hs : 0 ≤ s) (hj : 0 ≤ j) : opsI (c * ten j) (s + j) = opsI c s ∧ opsW (c * ten j) (s + j) = opsW c s ∧ opsT (c * ten j) (s + j) = opsT c s := by
  have e : (c * ten j).natAbs = c.natAbs * 10 ^ j.toNat := by rw [Int.natAbs_mul, ten_cast j.toNat rfl, Int.natAbs_natCast]
  have ek : (s + j).toNat = s.toNat + j.toNat := Int.toNat_add hs hj
  have hp : 0 < 10 ^ j.toNat := Nat.pow_pos (by decide)
  have ef : c.natAbs * 10 ^ j.toNat % 10 ^ (s.toNat + j.toNat) = c.natAbs % 10 ^ s.toNat * 10 ^ j.toNat := by rw [pow_split, Nat.mul_mod_mul_right]
  obtain ⟨t1, t2⟩ := trail_more s.toNat (c.natAbs % 10 ^ s.toNat) j.toNat
  unfold opsI opsW opsT
  rw [e, ek, ef]
  refine ⟨?_, ?_, ?_⟩
  · rw [pow_split, Nat.mul_div_mul_right _ _ hp]
  · rw [t1]
  · rw [t1, t2]
theorem ops_bounds {c s : Int} (h : Right c s) : (0 ≤ opsI c s ∧ opsI c s ≤ 1000000000000000) ∧ (0 ≤ opsF c s ∧ opsF c s < ten s) ∧ (0 ≤ opsT c s ∧ opsT c s ≤ opsF c s) := by
  obtain ⟨h0, h9, hc0, hc1⟩ := h
  have hI : c.natAbs / 10 ^ s.toNat ≤ c.natAbs := Nat.div_le_self _ _
  have hF : c.natAbs % 10 ^ s.toNat < 10 ^ s.toNat := Nat.mod_lt _ (Nat.pow_pos (by decide))
  have hT : c.natAbs % 10 ^ s.toNat / 10 ^ (s.toNat - trail s.toNat (c.natAbs % 10 ^ s.toNat)) ≤ c.natAbs % 10 ^ s.toNat := Nat.div_le_self _ _
  unfold opsI opsF opsT
  rw [ten_cast s.toNat rfl]
  generalize c.natAbs % 10 ^ s.toNat / 10 ^ (s.toNat - trail s.toNat (c.natAbs % 10 ^ s.toNat)) = x at *
  generalize c.natAbs % 10 ^ s.toNat = y at *
  generalize c.natAbs / 10 ^ s.toNat = z at *
  generalize 10 ^ s.toNat = u at *
  omega
end D
end Go.Proofs.YtppnfjapalilfaaDoor
