/- Numbers and their operands, as the laws on languages ask. -/
import Derived.Test.YteedhnpdffnfjaaDoorLaMath
namespace Go.Proofs.YteedhnpdffnfjaaDoor
namespace Ru
open Go.RowKit Go.Maps D

theorem ops_nought (c : Int) : opsI c 0 = (c.natAbs : Int) ∧ opsW c 0 = 0 ∧ opsF c 0 = 0 ∧ opsT c 0 = 0 := by
  have h1 := ops_whole c 0
  have h2 := ops_w c 0 (Int.le_refl 0)
  have h3 : opsF c 0 = 0 := by unfold opsF; simp [Nat.mod_one]
  have h4 := ops_t c 0 (Int.le_refl 0)
  have h5 : opsW c 0 = 0 := by omega
  rw [h5, show (0 : Int) - 0 = 0 from rfl, ten_zero] at h4
  rw [ten_zero] at h1
  exact ⟨by omega, h5, h3, by omega⟩
theorem en_one {c s : Int} (h : Right c s) : (opsI c s = 1 ∧ s = 0) ↔ (s = 0 ∧ (c.natAbs : Int) = 1) := by
  constructor
  · rintro ⟨h1, rfl⟩
    exact ⟨rfl, by rw [← (ops_nought c).1]; exact h1⟩
  · rintro ⟨rfl, h1⟩
    exact ⟨by rw [(ops_nought c).1]; exact h1, rfl⟩
theorem fr_near {c s : Int} (h : Right c s) : (opsI c s = 0 ∨ opsI c s = 1) ↔ (c.natAbs : Int) < 2 * ten s := by
  have h1 := ops_whole c s
  obtain ⟨⟨b1, b2⟩, ⟨b3, b4⟩, _⟩ := ops_bounds h
  have hp := ten_pos s
  generalize ten s = t at *
  constructor
  · rintro (e | e) <;> rw [e] at h1 <;> omega
  · intro hl
    have h2 : opsI c s < 2 := by
      by_cases hh : opsI c s < 2
      · exact hh
      · have : 2 * t ≤ opsI c s * t := Int.mul_le_mul_of_nonneg_right (by omega) (Int.le_of_lt hp)
        omega
    omega
/-- no digits but noughts behind the point: whole -/
theorem whole_of {c s : Int} (h : Right c s) (hT : opsT c s = 0) : c.tmod (ten s) = 0 := by
  have h1 := ops_whole c s
  have h2 := ops_t c s h.1
  rw [hT, Int.zero_mul] at h2
  rw [← h2, Int.add_zero] at h1
  have hd : ten s ∣ c := by
    have : ten s ∣ (c.natAbs : Int) := ⟨opsI c s, by rw [← h1, Int.mul_comm]⟩
    exact Int.dvd_natAbs.1 this
  exact Int.tmod_eq_zero_of_dvd hd
end Ru
end Go.Proofs.YteedhnpdffnfjaaDoor
