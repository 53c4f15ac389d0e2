/- Plain facts on decimals: what is right, their values, rounding by a quotient and what is left of it, sums. Nothing of the program stands here. And what follows from it. -/
import Derived.Lib.ItoaNum
import Derived.Lib.ItoaMem
import Derived.Lib.AtoiAllCases
import Derived.Lib.IndexMore
import Derived.Lib.IndexLaws
import Derived.Lib.Repeat
namespace Go.Proofs.YteipadljahkgoaaDoor
namespace D

/-- a power of ten -/
def ten (n : Int) : Int := 10 ^ n.toNat
theorem ten_pos (n : Int) : 0 < ten n := Int.pow_pos (by decide)
theorem ten_add {a b : Int} (ha : 0 ≤ a) (hb : 0 ≤ b) : ten (a + b) = ten a * ten b := by
  unfold ten
  rw [Int.toNat_add ha hb, Int.pow_add]
theorem ten_zero : ten 0 = 1 := rfl
theorem ten_nine : ten 9 = 1000000000 := rfl
theorem ten_succ {a : Int} (ha : 0 ≤ a) : ten (a + 1) = ten a * 10 := ten_add ha (by decide)
theorem ten_le {a b : Int} (ha : 0 ≤ a) (hb : a ≤ b) : ten a ≤ ten b := by
  have := ten_add ha (show 0 ≤ b - a by omega)
  rw [show a + (b - a) = b by omega] at this
  rw [this]
  have h1 := ten_pos a
  have h2 := ten_pos (b - a)
  have := Int.mul_le_mul_of_nonneg_left (show 1 ≤ ten (b - a) by omega) (show 0 ≤ ten a by omega)
  omega
theorem ten_le_nine {a : Int} (ha : 0 ≤ a) (hb : a ≤ 9) : ten a ≤ 1000000000 := ten_le ha hb
theorem ten_big {a : Int} (ha : 1 ≤ a) : 10 ≤ ten a := ten_le (a := 1) (by decide) ha
theorem ten_split {a b : Int} (ha : 0 ≤ a) (hb : a ≤ b) : ten b = ten a * ten (b - a) := by
  rw [← ten_add ha (by omega), show a + (b - a) = b by omega]

/-- a right number -/
def Right (c s : Int) : Prop := 0 ≤ s ∧ s ≤ 9 ∧ -1000000000000000 ≤ c ∧ c ≤ 1000000000000000
instance (c s : Int) : Decidable (Right c s) := by unfold Right; infer_instance
/-- a number's value, in the least digits that there may be -/
def val (c s : Int) : Int := c * ten (9 - s)

/-- a quotient and what is left of it, rounded by a way -/
def rq (way q r u : Int) : Int :=
  if way = 1 then (if q < 0 ∧ 0 < r then q + 1 else q)
  else if way = 2 then q
  else if way = 3 then (if 0 < r then q + 1 else q)
  else if way = 4 then (if u < 2 * r ∨ (2 * r = u ∧ 0 ≤ q) then q + 1 else q)
  else (if u < 2 * r ∨ (2 * r = u ∧ q % 2 = 1) then q + 1 else q)
/-- a quotient rounded by a way -/
def rnd (way c u : Int) : Int := rq way (c / u) (c % u) u

theorem rq_le (way q r u : Int) : q ≤ rq way q r u ∧ rq way q r u ≤ q + 1 := by
  unfold rq
  (repeat' split) <;> omega
theorem rnd_exact {u : Int} (hu : 0 < u) (way x : Int) : rnd way (x * u) u = x := by
  unfold rnd
  rw [Int.mul_ediv_cancel _ (by omega), Int.mul_emod_left]
  unfold rq
  (repeat' split) <;> omega
theorem rnd_scale {u k : Int} (hk : 0 < k) (way c : Int) : rnd way (c * k) (u * k) = rnd way c u := by
  unfold rnd
  rw [Int.mul_ediv_mul_of_pos_left _ _ hk, show c * k % (u * k) = c % u * k by rw [Int.mul_comm c k, Int.mul_comm u k, Int.mul_emod_mul_of_pos _ _ hk, Int.mul_comm]]
  generalize c / u = q
  generalize c % u = r
  have h1 : (0 < r * k) = (0 < r) := propext ⟨fun h => Int.pos_of_mul_pos_left h (by omega), fun h => Int.mul_pos h hk⟩
  have h2 : (u * k < 2 * (r * k)) = (u < 2 * r) := by
    rw [← Int.mul_assoc]
    exact propext ⟨fun h => Int.lt_of_mul_lt_mul_right h (by omega), fun h => Int.mul_lt_mul_of_pos_right h hk⟩
  have h3 : (2 * (r * k) = u * k) = (2 * r = u) := by
    rw [← Int.mul_assoc]
    exact propext ⟨fun h => Int.eq_of_mul_eq_mul_right (by omega) h, fun h => by rw [h]⟩
  unfold rq
  simp only [h1, h2, h3]
theorem rnd_mono {u : Int} (hu : 0 < u) (way : Int) {c d : Int} (h : c ≤ d) : rnd way c u ≤ rnd way d u := by
  unfold rnd
  have h1 : c / u ≤ d / u := Int.ediv_le_ediv hu h
  have e1 := Int.mul_ediv_add_emod c u
  have e2 := Int.mul_ediv_add_emod d u
  have b1 := Int.emod_nonneg c (show u ≠ 0 by omega)
  have b2 := Int.emod_nonneg d (show u ≠ 0 by omega)
  have b3 := Int.emod_lt_of_pos c hu
  have b4 := Int.emod_lt_of_pos d hu
  generalize c / u = q at *
  generalize c % u = r at *
  generalize d / u = q' at *
  generalize d % u = r' at *
  rcases Int.lt_or_eq_of_le h1 with hq | rfl
  · have := (rq_le way q r u).2
    have := (rq_le way q' r' u).1
    omega
  · have hr : r ≤ r' := by omega
    unfold rq
    (repeat' split) <;> omega
theorem rnd_neg {u : Int} (hu : 0 < u) (way c : Int) (hw : way = 1 ∨ way = 4 ∨ way = 5) : rnd way (-c) u = - rnd way c u := by
  unfold rnd
  have e1 := Int.mul_ediv_add_emod c u
  have b1 := Int.emod_nonneg c (show u ≠ 0 by omega)
  have b3 := Int.emod_lt_of_pos c hu
  by_cases h0 : c % u = 0
  · have e2 : (-c) / u = -(c / u) := Int.neg_ediv_of_dvd (Int.dvd_of_emod_eq_zero h0)
    have e3 : (-c) % u = 0 := Int.emod_eq_zero_of_dvd (Int.dvd_neg.2 (Int.dvd_of_emod_eq_zero h0))
    rw [e2, e3, h0]
    generalize c / u = q
    unfold rq
    rcases hw with rfl | rfl | rfl <;> simp <;> (repeat' split) <;> omega
  · have hd : (-c) / u = -(c / u) - 1 ∧ (-c) % u = u - c % u := by
      have := (Int.ediv_emod_unique (a := -c) (b := u) (r := u - c % u) (q := -(c / u) - 1) hu).2 ⟨by
        rw [Int.mul_sub, Int.mul_neg]; omega, by omega, by omega⟩
      exact this
    rw [hd.1, hd.2]
    generalize c / u = q at *
    generalize c % u = r at *
    unfold rq
    rcases hw with rfl | rfl | rfl <;> simp <;> (repeat' split) <;> omega
theorem rnd_room {u : Int} (hu : 10 ≤ u) (way : Int) {c : Int} (h0 : -1000000000000000 ≤ c) (h1 : c ≤ 1000000000000000) : -1000000000000000 ≤ rnd way c u ∧ rnd way c u ≤ 1000000000000000 := by
  unfold rnd
  have e1 := Int.mul_ediv_add_emod c u
  have b1 := Int.emod_nonneg c (show u ≠ 0 by omega)
  have b3 := Int.emod_lt_of_pos c (show 0 < u by omega)
  generalize c / u = q at *
  generalize c % u = r at *
  obtain ⟨l1, l2⟩ := rq_le way q r u
  refine ⟨?_, ?_⟩
  · by_cases hq : q < -1000000000000000
    · have := Int.mul_le_mul_of_nonneg_left (show q + 1 ≤ -1000000000000000 by omega) (show 0 ≤ u by omega)
      rw [Int.mul_add] at this
      have := Int.mul_le_mul_of_nonneg_right hu (show (0 : Int) ≤ 1000000000000000 by decide)
      omega
    · omega
  · by_cases hq : 1000000000000000 ≤ q
    · have := Int.mul_le_mul hu hq (by decide) (show 0 ≤ u by omega)
      omega
    · omega

/-- a number of as many digits as there are, or more: the same, noughts behind it -/
theorem rnd_more {c s t : Int} (way : Int) (hst : s ≤ t) (ht : t ≤ 9) : rnd way (val c s) (ten (9 - t)) = c * ten (t - s) := by
  have : val c s = (c * ten (t - s)) * ten (9 - t) := by
    unfold val
    rw [Int.mul_assoc, ← ten_add (by omega) (by omega), show t - s + (9 - t) = 9 - s by omega]
  rw [this, rnd_exact (ten_pos _)]
/-- of fewer digits: the coefficient's quotient -/
theorem rnd_fewer {c s t : Int} (way : Int) (hts : t ≤ s) (hs : s ≤ 9) : rnd way (val c s) (ten (9 - t)) = rnd way c (ten (s - t)) := by
  have : ten (9 - t) = ten (s - t) * ten (9 - s) := by
    rw [← ten_add (by omega) (by omega), show s - t + (9 - s) = 9 - t by omega]
  rw [this]
  exact rnd_scale (ten_pos _) way c

/-- a right number, so many digits behind the point: its coefficient -/
def rc (c s t way : Int) : Int := rnd way (val c s) (ten (9 - t))
/-- what is wrong with rounding so (0: nothing; 1: out of range; 3: no such way) -/
def roundF (c s t way : Int) : Nat :=
  if ¬ Right c s then 1 else if ¬ (0 ≤ t ∧ t ≤ 9) then 1 else if ¬ (1 ≤ way ∧ way ≤ 5) then 3 else if ¬ (-1000000000000000 ≤ rc c s t way ∧ rc c s t way ≤ 1000000000000000) then 1 else 0
theorem roundF_zero {c s t way : Int} : roundF c s t way = 0 ↔ Right c s ∧ (0 ≤ t ∧ t ≤ 9) ∧ (1 ≤ way ∧ way ≤ 5) ∧ (-1000000000000000 ≤ rc c s t way ∧ rc c s t way ≤ 1000000000000000) := by
  unfold roundF
  constructor
  · intro h
    by_cases h1 : Right c s
    · by_cases h2 : 0 ≤ t ∧ t ≤ 9
      · by_cases h3 : 1 ≤ way ∧ way ≤ 5
        · by_cases h4 : -1000000000000000 ≤ rc c s t way ∧ rc c s t way ≤ 1000000000000000
          · exact ⟨h1, h2, h3, h4⟩
          · simp [h1, h2, h3, h4] at h
        · simp [h1, h2, h3] at h
      · simp [h1, h2] at h
    · simp [h1] at h
  · rintro ⟨h1, h2, h3, h4⟩
    rw [if_neg (by simpa using h1), if_neg (by simpa using h2), if_neg (by simpa using h3), if_neg (by simpa using h4)]
theorem fewer_room {c s t way : Int} (hr : Right c s) (hts : t < s) : -1000000000000000 ≤ rc c s t way ∧ rc c s t way ≤ 1000000000000000 := by
  unfold rc
  rw [rnd_fewer way (by omega) hr.2.1]
  exact rnd_room (ten_big (by omega)) way hr.2.2.1 hr.2.2.2

/-- the scale of a sum, and its coefficient -/
def sumS (s t : Int) : Int := if s < t then t else s
def sumC (c s d t : Int) : Int := c * ten (sumS s t - s) + d * ten (sumS s t - t)
def addF (c s d t : Int) : Nat := if ¬ Right c s then 1 else if ¬ Right d t then 1 else if ¬ (-1000000000000000 ≤ sumC c s d t ∧ sumC c s d t ≤ 1000000000000000) then 1 else 0
theorem addF_zero {c s d t : Int} : addF c s d t = 0 ↔ Right c s ∧ Right d t ∧ (-1000000000000000 ≤ sumC c s d t ∧ sumC c s d t ≤ 1000000000000000) := by
  unfold addF
  constructor
  · intro h
    by_cases h1 : Right c s
    · by_cases h2 : Right d t
      · by_cases h4 : -1000000000000000 ≤ sumC c s d t ∧ sumC c s d t ≤ 1000000000000000
        · exact ⟨h1, h2, h4⟩
        · simp [h1, h2, h4] at h
      · simp [h1, h2] at h
    · simp [h1] at h
  · rintro ⟨h1, h2, h4⟩
    rw [if_neg (by simpa using h1), if_neg (by simpa using h2), if_neg (by simpa using h4)]
theorem sum_scale {s t : Int} (hs : 0 ≤ s ∧ s ≤ 9) (ht : 0 ≤ t ∧ t ≤ 9) : (0 ≤ sumS s t ∧ sumS s t ≤ 9) ∧ s ≤ sumS s t ∧ t ≤ sumS s t := by
  unfold sumS
  split <;> omega
theorem val_more {c s t : Int} (hs : s ≤ t) (ht : t ≤ 9) : c * ten (t - s) * ten (9 - t) = val c s := by
  unfold val
  rw [Int.mul_assoc, ← ten_add (by omega) (by omega), show t - s + (9 - t) = 9 - s by omega]
/-- a sum's value -/
theorem sum_val {c s d t : Int} (hs : 0 ≤ s ∧ s ≤ 9) (ht : 0 ≤ t ∧ t ≤ 9) : val (sumC c s d t) (sumS s t) = val c s + val d t := by
  obtain ⟨⟨_, h1⟩, h2, h3⟩ := sum_scale hs ht
  rw [← val_more (c := c) h2 h1, ← val_more (c := d) h3 h1]
  unfold val sumC
  rw [Int.add_mul]
theorem sumS_comm (s t : Int) : sumS s t = sumS t s := by unfold sumS; (repeat' split) <;> omega
theorem sumS_assoc (s t r : Int) : sumS (sumS s t) r = sumS s (sumS t r) := by unfold sumS; (repeat' split) <;> omega
theorem sumC_comm (c s d t : Int) : sumC c s d t = sumC d t c s := by
  unfold sumC
  rw [sumS_comm s t, Int.add_comm]
/-- a number is known by its scale and its value -/
theorem coef_of_val {c d s : Int} (h : val c s = val d s) : c = d := by
  unfold val at h
  exact Int.eq_of_mul_eq_mul_right (by have := ten_pos (9 - s); omega) h
theorem val_lt {c d s : Int} : val c s < val d s ↔ c < d := by
  unfold val
  have := ten_pos (9 - s)
  exact ⟨fun h => Int.lt_of_mul_lt_mul_right h (by omega), fun h => Int.mul_lt_mul_of_pos_right h this⟩
theorem val_neg (c s : Int) : val (-c) s = - val c s := by unfold val; rw [Int.neg_mul]
theorem val_rc {c s t way : Int} : val (rc c s t way) t = rc c s t way * ten (9 - t) := rfl
/-- rounded again it stays -/
theorem rc_again (c s t way : Int) : rc (rc c s t way) t t way = rc c s t way := by
  show rnd way (rc c s t way * ten (9 - t)) (ten (9 - t)) = _
  exact rnd_exact (ten_pos _) way _

/-- Go's quotient and what is left of it -/
theorem go_div {u : Int} (hu : 0 < u) (c : Int) : (0 ≤ c ∧ c.tdiv u = c / u ∧ c.tmod u = c % u) ∨ (c < 0 ∧ c % u = 0 ∧ c.tdiv u = c / u ∧ c.tmod u = 0) ∨ (c < 0 ∧ 0 < c % u ∧ c.tdiv u = c / u + 1 ∧ c.tmod u = c % u - u) := by
  by_cases hc : 0 ≤ c
  · exact .inl ⟨hc, Int.tdiv_eq_ediv_of_nonneg hc, Int.tmod_eq_emod_of_nonneg hc⟩
  · refine .inr ?_
    have b1 := Int.emod_nonneg c (show u ≠ 0 by omega)
    have hsg : u.sign = 1 := Int.sign_eq_one_of_pos hu
    have hn : u.natAbs = u := Int.natAbs_of_nonneg (by omega)
    have t1 := Int.tdiv_eq_ediv (a := c) (b := u)
    have t2 := Int.tmod_eq_emod (a := c) (b := u)
    by_cases h0 : c % u = 0
    · have hd := Int.dvd_of_emod_eq_zero h0
      rw [if_pos (.inr hd)] at t1 t2
      exact .inl ⟨by omega, h0, by omega, by omega⟩
    · have hd : ¬ u ∣ c := fun hd => h0 (Int.emod_eq_zero_of_dvd hd)
      rw [if_neg (by simp [hd]; omega)] at t1 t2
      exact .inr ⟨by omega, by omega, by omega, by omega⟩
/-- the number that is told of a quotient and of what is left of it -/
def told (way q r u : Int) : Int :=
  if way = 1 then q
  else if way = 2 then (if r < 0 then q - 1 else q)
  else if way = 3 then (if 0 < r then q + 1 else q)
  else if way = 4 then (if u ≤ 2 * (r.natAbs : Int) then (if r < 0 then q - 1 else if 0 < r then q + 1 else q) else q)
  else (if u < 2 * (r.natAbs : Int) ∨ (2 * (r.natAbs : Int) = u ∧ q.tmod 2 ≠ 0) then (if r < 0 then q - 1 else if 0 < r then q + 1 else q) else q)
theorem odd_iff (q : Int) : q.tmod 2 ≠ 0 ↔ q % 2 = 1 := by
  have h1 : (2 : Int) ∣ q ↔ q.tmod 2 = 0 := Int.dvd_iff_tmod_eq_zero
  have h2 : (2 : Int) ∣ q ↔ q % 2 = 0 := Int.dvd_iff_emod_eq_zero
  omega
theorem go_rest {u : Int} (hu : 0 < u) (c : Int) : -u < c.tmod u ∧ c.tmod u < u ∧ (0 ≤ c → 0 ≤ c.tdiv u ∧ c.tdiv u ≤ c) ∧ (c ≤ 0 → c ≤ c.tdiv u ∧ c.tdiv u ≤ 0) := by
  have e1 := Int.mul_ediv_add_emod c u
  have b1 := Int.emod_nonneg c (show u ≠ 0 by omega)
  have b3 := Int.emod_lt_of_pos c hu
  have hp : 0 ≤ c → 0 ≤ c / u ∧ c / u ≤ c := fun h => ⟨Int.ediv_nonneg h (by omega), Int.ediv_le_self u h⟩
  have hn : c < 0 → c ≤ c / u ∧ c / u < 0 := fun h => by
    have h2 : c / u < 0 := Int.ediv_neg_of_neg_of_pos h hu
    refine ⟨?_, h2⟩
    have := Int.mul_le_mul_of_nonpos_right (a := u) (b := 1) (c := c / u + 1) (by omega) (by omega)
    rw [Int.mul_add] at this
    omega
  rcases go_div hu c with ⟨h, e, f⟩ | ⟨h, h0, e, f⟩ | ⟨h, h0, e, f⟩ <;> rw [e, f] <;> (have := hp; have := hn; omega)
theorem told_eq {u : Int} (hu : 0 < u) (c way : Int) (h1 : 1 ≤ way) (h5 : way ≤ 5) : told way (c.tdiv u) (c.tmod u) u = rnd way c u := by
  have b1 := Int.emod_nonneg c (show u ≠ 0 by omega)
  have b3 := Int.emod_lt_of_pos c hu
  have hq0 : c / u < 0 ↔ c < 0 := by
    constructor
    · intro h
      by_cases hc : c < 0
      · exact hc
      · have := Int.ediv_nonneg (show 0 ≤ c by omega) (show 0 ≤ u by omega)
        omega
    · intro h; exact Int.ediv_neg_of_neg_of_pos h hu
  have ho := odd_iff (c.tdiv u)
  unfold told rnd rq
  simp only [ho]
  rcases go_div hu c with ⟨h, e, f⟩ | ⟨h, h0, e, f⟩ | ⟨h, h0, e, f⟩ <;> rw [e, f] at * <;> clear e f ho <;> generalize c / u = q at * <;> generalize c % u = r at *
  all_goals
    rcases (show way = 1 ∨ way = 2 ∨ way = 3 ∨ way = 4 ∨ way = 5 by omega) with rfl | rfl | rfl | rfl | rfl <;> simp at * <;> (repeat' split) <;> omega
end D
end Go.Proofs.YteipadljahkgoaaDoor

/- Plain facts on decimals that the laws ask for: how near a rounded number is, rounding in two steps, sums in whatever order. Nothing of the program stands here. -/
namespace Go.Proofs.YteipadljahkgoaaDoor
namespace D

theorem quot_neg {u : Int} (hu : 0 < u) (c : Int) : c / u < 0 ↔ c < 0 := by
  have e1 := Int.mul_ediv_add_emod c u
  have b1 := Int.emod_nonneg c (show u ≠ 0 by omega)
  have b3 := Int.emod_lt_of_pos c hu
  generalize c / u = q at *
  generalize c % u = r at *
  constructor
  · intro h
    have := Int.mul_le_mul_of_nonneg_left (show q + 1 ≤ 0 by omega) (show 0 ≤ u by omega)
    rw [Int.mul_add] at this
    omega
  · intro h
    by_cases hq : q < 0
    · exact hq
    · have := Int.mul_nonneg (show 0 ≤ u by omega) (show 0 ≤ q by omega)
      omega
/-- how near it is -/
theorem near {u : Int} (hu : 0 < u) (way c : Int) (h1 : 1 ≤ way) (h5 : way ≤ 5) :
    -u < c - rnd way c u * u ∧ c - rnd way c u * u < u ∧ (way = 4 ∨ way = 5 → -u ≤ 2 * (c - rnd way c u * u) ∧ 2 * (c - rnd way c u * u) ≤ u) ∧
    (way = 5 → 2 * (c - rnd way c u * u) = u ∨ 2 * (c - rnd way c u * u) = -u → rnd way c u % 2 = 0) ∧ (way = 2 → 0 ≤ c - rnd way c u * u) ∧ (way = 3 → c - rnd way c u * u ≤ 0) ∧
    (way = 1 → (0 ≤ c → 0 ≤ c - rnd way c u * u) ∧ (c ≤ 0 → c - rnd way c u * u ≤ 0)) := by
  have hq0 := quot_neg hu c
  unfold rnd
  have e1 := Int.mul_ediv_add_emod c u
  have b1 := Int.emod_nonneg c (show u ≠ 0 by omega)
  have b3 := Int.emod_lt_of_pos c hu
  have hz : c = 0 → c % u = 0 := fun h => by rw [h]; simp
  generalize c / u = q at *
  generalize c % u = r at *
  have hm : ∀ x : Int, (x = q ∨ x = q + 1) → c - x * u = if x = q then r else r - u := by
    rintro x (rfl | rfl)
    · rw [if_pos rfl, Int.mul_comm]; omega
    · rw [if_neg (by omega), Int.add_mul, Int.mul_comm q]; omega
  obtain ⟨l1, l2⟩ := rq_le way q r u
  have hx := hm (rq way q r u) (by omega)
  rw [hx]
  clear hx hm e1
  have hcase : way = 1 ∨ way = 2 ∨ way = 3 ∨ way = 4 ∨ way = 5 := by omega
  unfold rq at *
  rcases hcase with rfl | rfl | rfl | rfl | rfl <;> simp at * <;> (repeat' split) <;> (try simp at *) <;> omega

theorem rnd_two (V u : Int) : rnd 2 V u = V / u := by
  unfold rnd rq; simp
theorem rnd_three {u : Int} (hu : 0 < u) (V : Int) : rnd 3 V u = - rnd 2 (-V) u := by
  rw [rnd_two]
  unfold rnd rq
  simp
  have b1 := Int.emod_nonneg V (show u ≠ 0 by omega)
  have b3 := Int.emod_lt_of_pos V hu
  by_cases h0 : V % u = 0
  · rw [Int.neg_ediv_of_dvd (Int.dvd_of_emod_eq_zero h0), if_neg (by omega)]; omega
  · have e1 := Int.mul_ediv_add_emod V u
    have := (Int.ediv_emod_unique (a := -V) (b := u) (r := u - V % u) (q := -(V / u) - 1) hu).2 ⟨by
      rw [Int.mul_sub, Int.mul_neg]; omega, by omega, by omega⟩
    rw [this.1, if_pos (by omega)]
    omega
theorem rnd_one {u : Int} (hu : 0 < u) (V : Int) : rnd 1 V u = if V < 0 then rnd 3 V u else rnd 2 V u := by
  have := quot_neg hu V
  unfold rnd rq
  simp
  by_cases h : V < 0
  · have := this.2 h
    simp [h, this]
  · have h' : ¬ V / u < 0 := fun h' => h (this.1 h')
    simp [h, h']
theorem two_two {u k : Int} (hu : 0 < u) (V : Int) : rnd 2 (rnd 2 V u) k = rnd 2 V (k * u) := by
  rw [rnd_two, rnd_two, rnd_two, Int.ediv_ediv, if_neg (by omega), Int.mul_comm]
  omega
theorem three_three {u k : Int} (hu : 0 < u) (hk : 0 < k) (V : Int) : rnd 3 (rnd 3 V u) k = rnd 3 V (k * u) := by
  rw [rnd_three hk, rnd_three hu, Int.neg_neg, two_two hu, rnd_three (Int.mul_pos hk hu)]
theorem two_zero (k : Int) : rnd 2 0 k = 0 := by rw [rnd_two]; simp
theorem three_zero {k : Int} (hk : 0 < k) : rnd 3 0 k = 0 := by rw [rnd_three hk]; simp [two_zero]
theorem two_sign {u : Int} (hu : 0 < u) {V : Int} (h : 0 ≤ V) : 0 ≤ rnd 2 V u := by
  rw [rnd_two]; exact Int.ediv_nonneg h (by omega)
theorem three_sign {u : Int} (hu : 0 < u) {V : Int} (h : V ≤ 0) : rnd 3 V u ≤ 0 := by
  rw [rnd_three hu]
  have := two_sign hu (show 0 ≤ -V by omega)
  omega
theorem one_one {u k : Int} (hu : 0 < u) (hk : 0 < k) (V : Int) : rnd 1 (rnd 1 V u) k = rnd 1 V (k * u) := by
  rw [rnd_one (Int.mul_pos hk hu) V, rnd_one hk, rnd_one hu]
  by_cases h : V < 0
  · rw [if_pos h, if_pos h]
    have := three_sign hu (show V ≤ 0 by omega)
    by_cases h0 : rnd 3 V u < 0
    · rw [if_pos h0, three_three hu hk]
    · rw [if_neg h0, ← three_three hu hk, show rnd 3 V u = 0 by omega, two_zero, three_zero hk]
  · rw [if_neg h, if_neg h]
    have := two_sign hu (show 0 ≤ V by omega)
    rw [if_neg (by omega), two_two hu]
theorem rnd_twice {u k : Int} (hu : 0 < u) (hk : 0 < k) (V way : Int) (h1 : 1 ≤ way) (h3 : way ≤ 3) : rnd way (rnd way V u) k = rnd way V (k * u) := by
  rcases (show way = 1 ∨ way = 2 ∨ way = 3 by omega) with rfl | rfl | rfl
  · exact one_one hu hk V
  · exact two_two hu V
  · exact three_three hu hk V
/-- down, floor, ceil: first to more digits, then to fewer -/
theorem rc_twice {c s t m way : Int} (htm : t ≤ m) (hm : m ≤ 9) (h1 : 1 ≤ way) (h3 : way ≤ 3) : rc (rc c s m way) m t way = rc c s t way := by
  unfold rc
  have e : ten (9 - t) = ten (m - t) * ten (9 - m) := by
    rw [← ten_add (by omega) (by omega), show m - t + (9 - m) = 9 - t by omega]
  rw [show val (rnd way (val c s) (ten (9 - m))) m = rnd way (val c s) (ten (9 - m)) * ten (9 - m) from rfl, e, rnd_scale (ten_pos _), rnd_twice (ten_pos _) (ten_pos _) _ _ h1 h3]
theorem rc_more {c s t way : Int} (hst : s ≤ t) (ht : t ≤ 9) : rc c s t way = c * ten (t - s) := rnd_more way hst ht
theorem rc_fewer {c s t way : Int} (hts : t ≤ s) (hs : s ≤ 9) : rc c s t way = rnd way c (ten (s - t)) := rnd_fewer way hts hs
theorem val_rc_more {c s t way : Int} (hst : s ≤ t) (ht : t ≤ 9) : val (rc c s t way) t = val c s := by
  rw [rc_more hst ht]; exact val_more hst ht
/-- who is less stays less, or the same -/
theorem rc_mono {c s d r t way : Int} (h : val c s < val d r) : rc c s t way ≤ rc d r t way := rnd_mono (ten_pos _) way (by omega)
theorem rc_neg {c s t way : Int} (hw : way = 1 ∨ way = 4 ∨ way = 5) : rc (-c) s t way = - rc c s t way := by
  unfold rc
  rw [val_neg, rnd_neg (ten_pos _) way _ hw]
/-- what was rounded, taken off -/
theorem sum_off {c s r t : Int} (hts : t < s) : sumS s t = s ∧ sumC c s (-r) t = c - r * ten (s - t) := by
  have h : sumS s t = s := by unfold sumS; rw [if_neg (by omega)]
  refine ⟨h, ?_⟩
  unfold sumC
  rw [h, Int.sub_self, ten_zero, Int.neg_mul]
  omega
theorem sum_nought {c s : Int} (hs : 0 ≤ s) : sumS s 0 = s ∧ sumC c s 0 0 = c := by
  have h : sumS s 0 = s := by unfold sumS; split <;> omega
  refine ⟨h, ?_⟩
  unfold sumC
  rw [h, Int.sub_self, ten_zero]
  omega
theorem right_scale {c s : Int} (h : Right c s) : 0 ≤ s ∧ s ≤ 9 := ⟨h.1, h.2.1⟩
/-- of three it does not matter which two are added first -/
theorem sum_three {a s b t c r : Int} (ha : 0 ≤ s ∧ s ≤ 9) (hb : 0 ≤ t ∧ t ≤ 9) (hc : 0 ≤ r ∧ r ≤ 9) : sumC (sumC a s b t) (sumS s t) c r = sumC a s (sumC b t c r) (sumS t r) := by
  refine coef_of_val (s := sumS (sumS s t) r) ?_
  rw [sum_val (sum_scale ha hb).1 hc, sum_val ha hb]
  rw [sumS_assoc, sum_val ha (sum_scale hb hc).1, sum_val hb hc]
  omega
theorem add_three {a s b t c r : Int} (h1 : addF a s b t = 0) (h2 : addF b t c r = 0) : addF (sumC a s b t) (sumS s t) c r = addF a s (sumC b t c r) (sumS t r) := by
  obtain ⟨ra, rb, m1⟩ := addF_zero.1 h1
  obtain ⟨_, rc', m2⟩ := addF_zero.1 h2
  have e := sum_three (a := a) (b := b) (c := c) (right_scale ra) (right_scale rb) (right_scale rc')
  have q1 : Right (sumC a s b t) (sumS s t) := ⟨(sum_scale (right_scale ra) (right_scale rb)).1.1, (sum_scale (right_scale ra) (right_scale rb)).1.2, m1.1, m1.2⟩
  have q2 : Right (sumC b t c r) (sumS t r) := ⟨(sum_scale (right_scale rb) (right_scale rc')).1.1, (sum_scale (right_scale rb) (right_scale rc')).1.2, m2.1, m2.2⟩
  unfold addF
  simp only [q1, q2, ra, rc', not_true, if_false, e]
theorem right_sum {a s b t : Int} (h : addF a s b t = 0) : Right (sumC a s b t) (sumS s t) := by
  obtain ⟨ra, rb, m1⟩ := addF_zero.1 h
  exact ⟨(sum_scale (right_scale ra) (right_scale rb)).1.1, (sum_scale (right_scale ra) (right_scale rb)).1.2, m1.1, m1.2⟩
theorem right_rc {c s t way : Int} (h : roundF c s t way = 0) : Right (rc c s t way) t := by
  obtain ⟨_, h2, _, h4⟩ := roundF_zero.1 h
  exact ⟨h2.1, h2.2, h4.1, h4.2⟩
end D
end Go.Proofs.YteipadljahkgoaaDoor

/- Plain facts on decimals' texts: the digits ahead of the point and behind it, and how they are read again. Nothing of the program stands here. -/
namespace Go.Proofs.YteipadljahkgoaaDoor
namespace D

/-- a digit -/
abbrev dgt (n : Nat) : UInt8 := UInt8.ofNat (48 + n % 10)
/-- the last digits, just so many -/
def low : Nat → Nat → List UInt8
  | 0, _ => []
  | k + 1, n => low k (n / 10) ++ [dgt n]
theorem low_length : ∀ (k n : Nat), (low k n).length = k
  | 0, _ => rfl
  | k + 1, n => by simp [low, low_length k]
/-- noughts -/
def noughts (k : Nat) : List UInt8 := List.replicate k 48
/-- a number's digits, so many at least -/
def pad (k n : Nat) : List UInt8 := noughts (k - Lib.nDigits n) ++ Lib.decDigits n
theorem digits_last {n : Nat} (h : ¬ n < 10) : Lib.decDigits n = Lib.decDigits (n / 10) ++ [dgt n] := by
  rw [Lib.decDigits, dif_neg h]
theorem digits_first {n : Nat} (h : n < 10) : Lib.decDigits n = [dgt n] := by
  rw [Lib.decDigits_one h]; simp [dgt, Nat.mod_eq_of_lt h]
theorem pad_next (k n : Nat) : pad (k + 2) n = pad (k + 1) (n / 10) ++ [dgt n] := by
  unfold pad
  by_cases h : n < 10
  · rw [Lib.nDigits_small h, Lib.nDigits_small (by omega), digits_first h, digits_first (by omega), Nat.div_eq_of_lt h]
    simp only [Nat.add_sub_cancel, show k + 2 - 1 = k + 1 by omega]
    rw [show noughts (k + 1) = noughts k ++ [48] by simp [noughts, List.replicate_succ']]
    rfl
  · rw [Lib.nDigits_big h, digits_last h, show k + 2 - (Lib.nDigits (n / 10) + 1) = k + 1 - Lib.nDigits (n / 10) by omega, List.append_assoc]
theorem pad_one (n : Nat) : pad 1 n = Lib.decDigits n := by
  unfold pad
  have := Lib.nDigits_pos n
  rw [show 1 - Lib.nDigits n = 0 by omega]; rfl
/-- as many noughts ahead as are wanted: the digits ahead of the point and those behind it -/
theorem pad_split : ∀ (k n : Nat), pad (k + 1) n = Lib.decDigits (n / 10 ^ k) ++ low k n
  | 0, n => by rw [pad_one]; simp [low]
  | k + 1, n => by
    rw [pad_next, pad_split k (n / 10), Nat.div_div_eq_div_mul, Nat.pow_succ, Nat.mul_comm 10, List.append_assoc]
    rfl
theorem low_mod : ∀ (k n : Nat), low k (n % 10 ^ k) = low k n
  | 0, _ => rfl
  | k + 1, n => by
    show low k (n % 10 ^ (k + 1) / 10) ++ [dgt (n % 10 ^ (k + 1))] = low k (n / 10) ++ [dgt n]
    have h1 : n % 10 ^ (k + 1) / 10 = n / 10 % 10 ^ k := by
      rw [Nat.pow_succ, Nat.mul_comm, Nat.mod_mul_right_div_self]
    have h2 : n % 10 ^ (k + 1) % 10 = n % 10 := Nat.mod_mod_of_dvd _ (by rw [Nat.pow_succ]; exact Nat.dvd_mul_left _ _)
    rw [h1, low_mod k (n / 10)]
    unfold dgt
    rw [h2]
/-- so many digits of a number that has no more -/
theorem pad_low : ∀ (k n : Nat), n < 10 ^ (k + 1) → pad (k + 1) n = low (k + 1) n
  | 0, n, h => by rw [pad_one, digits_first (by simpa using h)]; rfl
  | k + 1, n, h => by
    rw [pad_next, pad_low k (n / 10) (by rw [Nat.pow_succ] at h; omega)]
    rfl
theorem noughts_repeat (k : Nat) : Lib.repeatL [48] k = noughts k := by
  have := Lib.repeatL_replicate 48 1 k
  simpa [noughts] using this

/-- digits alone -/
def Digs (l : List UInt8) : Prop := ∀ c ∈ l, 48 ≤ c.toNat ∧ c.toNat ≤ 57
theorem dgt_dig (n : Nat) : 48 ≤ (dgt n).toNat ∧ (dgt n).toNat ≤ 57 ∧ (dgt n).toNat = 48 + n % 10 := by
  have : (dgt n).toNat = 48 + n % 10 := by simp [dgt]; omega
  omega
theorem low_digs : ∀ (k n : Nat), Digs (low k n)
  | 0, _, c, h => by simp [low] at h
  | k + 1, n, c, h => by
    rcases List.mem_append.1 h with h | h
    · exact low_digs k _ c h
    · obtain rfl := List.mem_singleton.1 h
      exact ⟨(dgt_dig n).1, (dgt_dig n).2.1⟩
theorem dec_digs (n : Nat) : Digs (Lib.decDigits n) := by
  induction n using Nat.strongRecOn with
  | _ n ih =>
    intro c h
    by_cases hn : n < 10
    · rw [digits_first hn] at h
      obtain rfl := List.mem_singleton.1 h
      exact ⟨(dgt_dig n).1, (dgt_dig n).2.1⟩
    · rw [digits_last hn] at h
      rcases List.mem_append.1 h with h | h
      · exact ih _ (by omega) c h
      · obtain rfl := List.mem_singleton.1 h
        exact ⟨(dgt_dig n).1, (dgt_dig n).2.1⟩

/-- a number's text: its sign, the digits ahead of the point, and so many behind it -/
def text (c : Int) (k : Nat) : List UInt8 := (if c < 0 then [45] else []) ++ (Lib.decDigits (c.natAbs / 10 ^ k) ++ (if k = 0 then [] else 46 :: low k c.natAbs))

theorem parse_snoc : ∀ (l : List UInt8) (acc x n : Nat), Lib.parseUint10 acc l = .ok x → x < 1000000000000000000 → Lib.parseUint10 acc (l ++ [dgt n]) = .ok (x * 10 + n % 10)
  | [], acc, x, n, h, hx => by
    simp only [Lib.parseUint10] at h
    injection h with h
    subst h
    have := dgt_dig n
    simp only [List.nil_append, Lib.parseUint10]
    rw [if_pos ⟨this.1, this.2.1⟩, if_neg (by omega), if_neg (by omega)]
    rw [this.2.2]
    congr 1
    omega
  | c :: l, acc, x, n, h, hx => by
    rw [List.cons_append]
    simp only [Lib.parseUint10] at h ⊢
    split at h
    · rename_i h1
      split at h
      · cases h
      · rename_i h2
        split at h
        · cases h
        · rename_i h3
          rw [if_pos h1, if_neg h2, if_neg h3]
          exact parse_snoc l _ x n h hx
    · cases h
theorem parse_digits (n : Nat) (h : n < 1000000000000000000) : Lib.parseUint10 0 (Lib.decDigits n) = .ok n := by
  induction n using Nat.strongRecOn with
  | _ n ih =>
    by_cases hn : n < 10
    · rw [digits_first hn]
      have := parse_snoc [] 0 0 n rfl (by decide)
      rw [List.nil_append] at this
      rw [this]
      congr 1
      omega
    · rw [digits_last hn, parse_snoc _ _ _ n (ih (n / 10) (by omega) (by omega)) (by omega)]
      congr 1
      omega
/-- all digits of a number, the point left out, are the number again -/
theorem parse_all : ∀ (k n : Nat), n < 1000000000000000000 → Lib.parseUint10 0 (Lib.decDigits (n / 10 ^ k) ++ low k n) = .ok n
  | 0, n, h => by simpa [low] using parse_digits n h
  | k + 1, n, h => by
    have := parse_all k (n / 10) (by omega)
    rw [Nat.div_div_eq_div_mul, Nat.mul_comm, ← Nat.pow_succ] at this
    rw [show low (k + 1) n = low k (n / 10) ++ [dgt n] from rfl, ← List.append_assoc, parse_snoc _ _ _ n this (by omega)]
    congr 1
    omega
theorem dec_ne (n : Nat) : Lib.decDigits n ≠ [] := by
  intro h
  have := Lib.decDigits_length n
  rw [h] at this
  have := Lib.nDigits_pos n
  simp at *
  omega
theorem mag_all (k n : Nat) (h : n < 1000000000000000000) : Lib.parseMag (Lib.decDigits (n / 10 ^ k) ++ low k n) = .ok n := by
  unfold Lib.parseMag
  rw [if_neg (by simp [dec_ne]), parse_all k n h]
/-- the sign and all digits of a number, read again -/
theorem atoi_all (c : Int) (k : Nat) (h0 : -1000000000000000 ≤ c) (h1 : c ≤ 1000000000000000) :
    Lib.atoiAll ((if c < 0 then [45] else []) ++ (Lib.decDigits (c.natAbs / 10 ^ k) ++ low k c.natAbs)) = .ok c := by
  have hm := mag_all k c.natAbs (by omega)
  by_cases hc : c < 0
  · rw [if_pos hc]
    rw [show ([45] : List UInt8) ++ (Lib.decDigits (c.natAbs / 10 ^ k) ++ low k c.natAbs) = 45 :: (Lib.decDigits (c.natAbs / 10 ^ k) ++ low k c.natAbs) from rfl, Lib.atoiAll_minus, hm]
    unfold Lib.signed
    simp only
    rw [if_neg (by omega)]
    congr 1
    omega
  · rw [if_neg hc, List.nil_append]
    obtain ⟨b, r, e⟩ := List.exists_cons_of_ne_nil (dec_ne (c.natAbs / 10 ^ k))
    have hb := dec_digs (c.natAbs / 10 ^ k) b (by rw [e]; simp)
    rw [e, List.cons_append] at hm ⊢
    rw [Lib.atoiAll_plain _ _ (by omega) (by omega), hm]
    unfold Lib.signless
    simp only
    rw [if_neg (by omega)]
    congr 1
    omega

/-- no point in it -/
def Pointless (l : List UInt8) : Prop := ∀ c ∈ l, c ≠ 46
theorem digs_pointless {l : List UInt8} (h : Digs l) : Pointless l := fun c hc e => by
  have := h c hc
  rw [e] at this
  exact absurd this (by decide)
theorem idx_none {p : List UInt8} (h : Pointless p) : Lib.index p [46] = -1 := Lib.index_none fun j hj => by
  unfold Lib.occAt
  rcases Nat.lt_or_ge j p.length with hl | hl
  · rw [List.drop_eq_getElem_cons hl]
    have := h p[j] (List.getElem_mem hl)
    simp [List.isPrefixOf, this.symm]
  · rw [List.drop_eq_nil_of_le hl]; rfl
theorem idx_point {p : List UInt8} (h : Pointless p) (l : List UInt8) : Lib.index (p ++ 46 :: l) [46] = p.length := Lib.index_first (by simp) (by
    unfold Lib.occAt
    rw [List.drop_left]; simp [List.isPrefixOf]) fun j hj => by
  unfold Lib.occAt
  have hl : j < (p ++ 46 :: l).length := by simp; omega
  rw [List.drop_eq_getElem_cons hl, List.getElem_append_left hj]
  have := h p[j] (List.getElem_mem hj)
  simp [List.isPrefixOf, this.symm]
theorem cut_none {p : List UInt8} (h : Pointless p) : Lib.cut p [46] = (p, [], false) := by
  unfold Lib.cut
  rw [idx_none h, if_neg (by omega)]
theorem cut_point {p : List UInt8} (h : Pointless p) (l : List UInt8) : Lib.cut (p ++ 46 :: l) [46] = (p, l, true) := by
  unfold Lib.cut
  rw [idx_point h, if_pos (by omega)]
  simp
/-- what lies ahead of a number's point -/
def ahead (c : Int) (k : Nat) : List UInt8 := (if c < 0 then [45] else []) ++ Lib.decDigits (c.natAbs / 10 ^ k)
theorem ahead_pointless (c : Int) (k : Nat) : Pointless (ahead c k) := by
  intro b hb
  unfold ahead at hb
  rcases List.mem_append.1 hb with hb | hb
  · split at hb
    · obtain rfl := List.mem_singleton.1 hb; decide
    · simp at hb
  · exact digs_pointless (dec_digs _) b hb
theorem text_ahead (c : Int) (k : Nat) : text c k = ahead c k ++ (if k = 0 then [] else 46 :: low k c.natAbs) := by
  unfold text ahead
  rw [List.append_assoc]
/-- a number's text, cut at its point -/
theorem cut_text (c : Int) (k : Nat) : (Lib.cut (text c k) [46]).1 = ahead c k ∧ (Lib.cut (text c k) [46]).2.1 = low k c.natAbs := by
  rw [text_ahead]
  by_cases hk : k = 0
  · subst hk
    rw [if_pos rfl, List.append_nil, cut_none (ahead_pointless c 0)]
    exact ⟨rfl, rfl⟩
  · rw [if_neg hk, cut_point (ahead_pointless c k)]
    exact ⟨rfl, rfl⟩
end D
end Go.Proofs.YteipadljahkgoaaDoor

/- Plain facts on how the reference reads a decimal's text: its pieces between points, a number of digits alone, the digits behind the point added one by one. Nothing of the program stands here. -/
namespace Go.Proofs.YteipadljahkgoaaDoor
namespace D

/-- pieces with a point between each two; with a point behind each -/
def glueP : List (List UInt8) → List UInt8
  | [] => []
  | [p] => p
  | p :: q :: r => p ++ 46 :: glueP (q :: r)
def flatP (l : List (List UInt8)) : List UInt8 := (l.map fun p => p ++ [46]).flatten
theorem flatP_snoc (l : List (List UInt8)) (p : List UInt8) : flatP (l ++ [p]) = flatP l ++ p ++ [46] := by simp [flatP]
theorem glueP_snoc : ∀ (l : List (List UInt8)) (x : List UInt8), glueP (l ++ [x]) = flatP l ++ x
  | [], x => by simp [flatP, glueP]
  | p :: r, x => by
    have ih := glueP_snoc r x
    cases hr : r ++ [x] with
    | nil => simp at hr
    | cons q t => rw [List.cons_append, hr, glueP, ← hr, ih]; simp [flatP]
theorem part_at_point : ∀ {p p' t t' : List UInt8}, Pointless p → Pointless p' → p ++ 46 :: t = p' ++ 46 :: t' → p = p' ∧ t = t'
  | [], [], _, _, _, _, h => ⟨rfl, by simpa using h⟩
  | [], c :: p', _, _, _, hp', h => by
    have : (46 : UInt8) = c := by injection h
    exact absurd this.symm (hp' c (by simp))
  | c :: p, [], _, _, hp, _, h => by
    have : c = (46 : UInt8) := by injection h
    exact absurd this (hp c (by simp))
  | c :: p, c' :: p', t, t', hp, hp', h => by
    rw [List.cons_append, List.cons_append] at h
    injection h with h1 h2
    obtain ⟨e1, e2⟩ := part_at_point (fun x hx => hp x (by simp [hx])) (fun x hx => hp' x (by simp [hx])) h2
    exact ⟨by rw [h1, e1], e2⟩
/-- the pieces of a text -/
structure Pieces (s : List UInt8) (l : List (List UInt8)) : Prop where
  ne : l ≠ []
  clean : ∀ p ∈ l, Pointless p
  glue : glueP l = s
theorem Pieces.one {p : List UInt8} {l : List (List UInt8)} (h : Pieces p l) (hp : Pointless p) : l = [p] := by
  obtain ⟨hne, hc, hg⟩ := h
  match l, hne, hc, hg with
  | [x], _, _, hg => rw [show x = p from hg]
  | x :: y :: r, _, _, hg =>
    have : (46 : UInt8) ∈ p := by rw [← hg, glueP]; simp
    exact absurd rfl (hp 46 this)
theorem Pieces.two {p q : List UInt8} {l : List (List UInt8)} (h : Pieces (p ++ 46 :: q) l) (hp : Pointless p) (hq : Pointless q) : l = [p, q] := by
  obtain ⟨hne, hc, hg⟩ := h
  match l, hne, hc, hg with
  | [x], _, hc, hg =>
    have : (46 : UInt8) ∈ x := by rw [show x = p ++ 46 :: q from hg]; simp
    exact absurd rfl (hc x (by simp) 46 this)
  | x :: y :: r, _, hc, hg =>
    rw [glueP] at hg
    obtain ⟨e1, e2⟩ := part_at_point (hc x (by simp)) hp hg
    have := Pieces.one (p := q) (l := y :: r) ⟨by simp, fun z hz => hc z (by simp [hz]), e2⟩ hq
    rw [e1, this]

/-- digits added to a number, one by one -/
def addD (n : Int) (l : List UInt8) : Int := l.foldl (fun a b => 10 * a + ((b.toNat : Int) - 48)) n
theorem addD_snoc (n : Int) (l : List UInt8) (c : UInt8) : addD n (l ++ [c]) = 10 * addD n l + ((c.toNat : Int) - 48) := by simp [addD]
theorem addD_low : ∀ (k n : Nat), addD ((n / 10 ^ k : Nat) : Int) (low k n) = n
  | 0, n => by simp [addD, low]
  | k + 1, n => by
    have ih := addD_low k (n / 10)
    rw [Nat.div_div_eq_div_mul, Nat.mul_comm, ← Nat.pow_succ] at ih
    rw [show low (k + 1) n = low k (n / 10) ++ [dgt n] from rfl, addD_snoc, ih, (dgt_dig n).2.2]
    omega
theorem addD_dec (n : Nat) : addD 0 (Lib.decDigits n) = n := by
  induction n using Nat.strongRecOn with
  | _ n ih =>
    by_cases hn : n < 10
    · rw [digits_first hn]
      show 10 * 0 + (((dgt n).toNat : Int) - 48) = n
      rw [(dgt_dig n).2.2]; omega
    · rw [digits_last hn, addD_snoc, ih _ (by omega), (dgt_dig n).2.2]; omega
theorem addD_room : ∀ (l : List UInt8) (n : Int), 0 ≤ n → Digs l → 0 ≤ addD n l ∧ addD n l < (n + 1) * 10 ^ l.length
  | [], n, h, _ => by simp [addD]; omega
  | c :: l, n, h, hd => by
    have hc := hd c (by simp)
    obtain ⟨i1, i2⟩ := addD_room l (10 * n + ((c.toNat : Int) - 48)) (by omega) (fun x hx => hd x (by simp [hx]))
    refine ⟨i1, ?_⟩
    rw [List.length_cons, Int.pow_succ]
    refine Int.lt_of_lt_of_le i2 ?_
    rw [Int.mul_comm _ 10, ← Int.mul_assoc]
    exact Int.mul_le_mul_of_nonneg_right (by omega) (Int.le_of_lt (Int.pow_pos (by decide)))
theorem Digs.take {l : List UInt8} (h : Digs l) (k : Nat) : Digs (l.take k) := fun c hc => h c (List.mem_of_mem_take hc)

/-- a text that is a number's, up to the greatest coefficient -/
def IsNum (s : List UInt8) (n : Nat) : Prop := n ≤ 1000000000000000 ∧ Lib.decDigits n = s
theorem nDigits_le {n k : Nat} (hk : 0 < k) (h : n < 10 ^ k) : Lib.nDigits n ≤ k := by
  induction k generalizing n with
  | zero => omega
  | succ k ih =>
    by_cases hn : n < 10
    · rw [Lib.nDigits_small hn]; omega
    · rw [Lib.nDigits_big hn]
      have hk0 : 0 < k := by
        rcases Nat.eq_zero_or_pos k with h0 | h0
        · subst h0; omega
        · exact h0
      have := ih hk0 (n := n / 10) (by rw [Nat.pow_succ] at h; omega)
      omega
theorem IsNum.length {s : List UInt8} {n : Nat} (h : IsNum s n) : 0 < s.length ∧ s.length ≤ 16 ∧ Digs s := by
  obtain ⟨h1, rfl⟩ := h
  rw [Lib.decDigits_length]
  exact ⟨Lib.nDigits_pos n, nDigits_le (by decide) (by omega), dec_digs n⟩
theorem IsNum.value {s : List UInt8} {n : Nat} (h : IsNum s n) : addD 0 s = n := by
  rw [← h.2]; exact addD_dec n
theorem IsNum.eq {s : List UInt8} {n m : Nat} (h : IsNum s n) (h' : IsNum s m) : n = m := by
  have := h.value; have := h'.value; omega

/-- a text without its sign -/
def bare (s : List UInt8) : List UInt8 := if s.take 1 = [45] then s.drop 1 else s
theorem dec_plain (n : Nat) : (Lib.decDigits n).take 1 ≠ [45] := by
  obtain ⟨b, r, e⟩ := List.exists_cons_of_ne_nil (dec_ne n)
  have := dec_digs n b (by rw [e]; simp)
  rw [e]
  intro h
  simp at h
  rw [h] at this
  exact absurd this.1 (by decide)
theorem body_plain (n k : Nat) (t : List UInt8) : (Lib.decDigits (n / 10 ^ k) ++ t).take 1 ≠ [45] := by
  obtain ⟨b, r, e⟩ := List.exists_cons_of_ne_nil (dec_ne (n / 10 ^ k))
  have := dec_plain (n / 10 ^ k)
  rw [e] at this ⊢
  simpa using this
theorem text_neg {c : Int} (k : Nat) (h : c < 0) : (text c k).take 1 = [45] ∧ bare (text c k) = Lib.decDigits (c.natAbs / 10 ^ k) ++ (if k = 0 then [] else 46 :: low k c.natAbs) := by
  have : text c k = 45 :: (Lib.decDigits (c.natAbs / 10 ^ k) ++ (if k = 0 then [] else 46 :: low k c.natAbs)) := by unfold text; rw [if_pos h]; rfl
  rw [this]
  exact ⟨rfl, rfl⟩
theorem text_pos {c : Int} (k : Nat) (h : ¬ c < 0) : (text c k).take 1 ≠ [45] ∧ bare (text c k) = Lib.decDigits (c.natAbs / 10 ^ k) ++ (if k = 0 then [] else 46 :: low k c.natAbs) := by
  have : text c k = Lib.decDigits (c.natAbs / 10 ^ k) ++ (if k = 0 then [] else 46 :: low k c.natAbs) := by unfold text; rw [if_neg h]; rfl
  rw [this]
  have hp := body_plain c.natAbs k (if k = 0 then [] else 46 :: low k c.natAbs)
  exact ⟨hp, if_neg hp⟩
theorem text_bare (c : Int) (k : Nat) : bare (text c k) = Lib.decDigits (c.natAbs / 10 ^ k) ++ (if k = 0 then [] else 46 :: low k c.natAbs) := by
  by_cases h : c < 0
  · exact (text_neg k h).2
  · exact (text_pos k h).2
theorem text_sign (c : Int) (k : Nat) : (text c k).take 1 = [45] ↔ c < 0 := by
  constructor
  · intro h
    by_cases hc : c < 0
    · exact hc
    · exact absurd h (text_pos k hc).1
  · exact fun h => (text_neg k h).1
/-- the pieces of a number's text -/
theorem text_pieces {c : Int} {k : Nat} {l : List (List UInt8)} (h : Pieces (bare (text c k)) l) : (k = 0 ∧ l = [Lib.decDigits c.natAbs]) ∨ (0 < k ∧ l = [Lib.decDigits (c.natAbs / 10 ^ k), low k c.natAbs]) := by
  rw [text_bare] at h
  rcases Nat.eq_zero_or_pos k with rfl | hk
  · rw [if_pos rfl, List.append_nil, Nat.pow_zero, Nat.div_one] at h
    exact .inl ⟨rfl, h.one (digs_pointless (dec_digs _))⟩
  · rw [if_neg (by omega)] at h
    exact .inr ⟨hk, h.two (digs_pointless (dec_digs _)) (digs_pointless (low_digs _ _))⟩
theorem whole_num {c : Int} (k : Nat) (h0 : -1000000000000000 ≤ c) (h1 : c ≤ 1000000000000000) : IsNum (Lib.decDigits (c.natAbs / 10 ^ k)) (c.natAbs / 10 ^ k) :=
  ⟨Nat.le_trans (Nat.div_le_self _ _) (by omega), rfl⟩
end D
end Go.Proofs.YteipadljahkgoaaDoor

/- Plain facts on a number's digits behind its point: how many are left where the noughts at the end are taken away. Nothing of the program stands here. -/
namespace Go.Proofs.YteipadljahkgoaaDoor
namespace D

/-- of so many digits behind the point: how many are left without the noughts at the end -/
def trail : Nat → Nat → Nat
  | 0, _ => 0
  | k + 1, f => if f % 10 = 0 then trail k (f / 10) else k + 1
theorem trail_le : ∀ (k f : Nat), trail k f ≤ k
  | 0, _ => Nat.le_refl _
  | k + 1, f => by
    unfold trail
    split
    · exact Nat.le_succ_of_le (trail_le k _)
    · exact Nat.le_refl _
theorem pow_split (a b : Nat) : 10 ^ (a + b) = 10 ^ a * 10 ^ b := Nat.pow_add 10 a b
theorem trail_div : ∀ (k f : Nat), f % 10 ^ (k - trail k f) = 0
  | 0, f => by simp [Nat.mod_one]
  | k + 1, f => by
    unfold trail
    split
    · rename_i h
      have ih := trail_div k (f / 10)
      have hl := trail_le k (f / 10)
      rw [show k + 1 - trail k (f / 10) = 1 + (k - trail k (f / 10)) by omega, pow_split, Nat.pow_one]
      have e : f = 10 * (f / 10) := by omega
      rw [e, Nat.mul_mod_mul_left, ← e]
      rw [ih]
    · simp [Nat.mod_one]
theorem trail_last : ∀ (k f : Nat), 0 < trail k f → f / 10 ^ (k - trail k f) % 10 ≠ 0
  | 0, f, h => by simp [trail] at h
  | k + 1, f, h => by
    unfold trail at h ⊢
    split
    · rename_i h0
      rw [if_pos h0] at h
      have ih := trail_last k (f / 10) h
      have hl := trail_le k (f / 10)
      rw [show k + 1 - trail k (f / 10) = 1 + (k - trail k (f / 10)) by omega, pow_split, Nat.pow_one, ← Nat.div_div_eq_div_mul]
      exact ih
    · rename_i h0
      simpa using h0
/-- the one place where it ends so -/
theorem trail_one : ∀ (k f w : Nat), w ≤ k → f % 10 ^ (k - w) = 0 → (w = 0 ∨ f / 10 ^ (k - w) % 10 ≠ 0) → trail k f = w
  | 0, f, w, h, _, _ => by unfold trail; omega
  | k + 1, f, w, h, h1, h2 => by
    unfold trail
    split
    · rename_i h0
      have hw : w ≤ k := by
        rcases Nat.lt_or_ge k w with hlt | hge
        · obtain rfl : w = k + 1 := by omega
          simp at h2
          omega
        · exact hge
      rw [show k + 1 - w = 1 + (k - w) by omega, pow_split, Nat.pow_one] at h1 h2
      have e : f = 10 * (f / 10) := by omega
      refine trail_one k (f / 10) w hw ?_ ?_
      · rw [e, Nat.mul_mod_mul_left] at h1
        omega
      · rw [← Nat.div_div_eq_div_mul] at h2
        exact h2
    · rename_i h0
      rcases Nat.lt_or_ge k w with hlt | hge
      · omega
      · exfalso
        rw [show k + 1 - w = 1 + (k - w) by omega, pow_split, Nat.pow_one] at h1
        have : f % 10 = 0 := by
          have := Nat.mod_mod_of_dvd f (Nat.dvd_mul_right 10 (10 ^ (k - w)))
          rw [h1] at this
          omega
        exact h0 this
/-- one digit less, as it is asked from behind -/
theorem trail_go {k f w : Nat} (h1 : f % 10 ^ (k - w) = 0) : (f % 10 ^ (k - w + 1) = 0 ↔ f / 10 ^ (k - w) % 10 = 0) := by
  rw [pow_split, Nat.pow_one]
  have hp : 0 < 10 ^ (k - w) := Nat.pow_pos (by decide)
  have e : f = 10 ^ (k - w) * (f / 10 ^ (k - w)) := by
    have := Nat.div_add_mod f (10 ^ (k - w))
    omega
  generalize f / 10 ^ (k - w) = g at *
  rw [e, Nat.mul_mod_mul_left]
  generalize 10 ^ (k - w) = p at *
  constructor
  · intro h
    rcases Nat.mul_eq_zero.1 h with h | h
    · omega
    · exact h
  · intro h
    rw [h, Nat.mul_zero]
/-- noughts put behind change nothing -/
theorem trail_more (k f j : Nat) : trail (k + j) (f * 10 ^ j) = trail k f ∧ f * 10 ^ j / 10 ^ (k + j - trail k f) = f / 10 ^ (k - trail k f) := by
  have hl := trail_le k f
  have hp : 0 < 10 ^ j := Nat.pow_pos (by decide)
  have e : 10 ^ (k + j - trail k f) = 10 ^ (k - trail k f) * 10 ^ j := by rw [← pow_split, show k - trail k f + j = k + j - trail k f by omega]
  have e2 : f * 10 ^ j / 10 ^ (k + j - trail k f) = f / 10 ^ (k - trail k f) := by rw [e, Nat.mul_div_mul_right _ _ hp]
  refine ⟨trail_one _ _ _ (by omega) ?_ ?_, e2⟩
  · rw [e, Nat.mul_mod_mul_right, trail_div, Nat.zero_mul]
  · rw [e2]
    rcases Nat.eq_zero_or_pos (trail k f) with h | h
    · exact .inl h
    · exact .inr (trail_last k f h)
/-- the operands of a number, without its sign: what is ahead of the point, how many digits behind it without the noughts at the end, what is behind it, and that without the noughts -/
def opsI (c s : Int) : Int := ((c.natAbs / 10 ^ s.toNat : Nat) : Int)
def opsF (c s : Int) : Int := ((c.natAbs % 10 ^ s.toNat : Nat) : Int)
def opsW (c s : Int) : Int := ((trail s.toNat (c.natAbs % 10 ^ s.toNat) : Nat) : Int)
def opsT (c s : Int) : Int := ((c.natAbs % 10 ^ s.toNat / 10 ^ (s.toNat - trail s.toNat (c.natAbs % 10 ^ s.toNat)) : Nat) : Int)
theorem ten_cast {a : Int} (k : Nat) (h : a.toNat = k) : ten a = ((10 ^ k : Nat) : Int) := by unfold ten; rw [h]; simp
theorem ops_whole (c s : Int) : opsI c s * ten s + opsF c s = (c.natAbs : Int) := by
  unfold opsI opsF
  rw [ten_cast s.toNat rfl, ← Int.natCast_mul, ← Int.natCast_add, Nat.mul_comm, Nat.div_add_mod]
theorem ops_w (c s : Int) (hs : 0 ≤ s) : 0 ≤ opsW c s ∧ opsW c s ≤ s := by
  unfold opsW
  have := trail_le s.toNat (c.natAbs % 10 ^ s.toNat)
  omega
theorem ops_t (c s : Int) (hs : 0 ≤ s) : opsT c s * ten (s - opsW c s) = opsF c s := by
  unfold opsT opsW opsF
  generalize c.natAbs % 10 ^ s.toNat = f
  have hl := trail_le s.toNat f
  have hd := trail_div s.toNat f
  rw [ten_cast (s.toNat - trail s.toNat f) (by omega), ← Int.natCast_mul, Nat.mul_comm]
  have := Nat.div_add_mod f (10 ^ (s.toNat - trail s.toNat f))
  omega
theorem ops_last (c s : Int) (h : 0 < opsW c s) : opsT c s % 10 ≠ 0 := by
  unfold opsT opsW at *
  have := trail_last s.toNat (c.natAbs % 10 ^ s.toNat) (by omega)
  omega
theorem ops_neg (c s : Int) : opsI (-c) s = opsI c s ∧ opsF (-c) s = opsF c s ∧ opsW (-c) s = opsW c s ∧ opsT (-c) s = opsT c s := by
  unfold opsI opsF opsW opsT
  rw [Int.natAbs_neg]
  exact ⟨rfl, rfl, rfl, rfl⟩
theorem ops_left {c s w : Int} (h : opsW c s < w) (hs : w ≤ s) : opsF c s % ten (s - w + 1) = 0 := by
  unfold opsW at h
  unfold opsF
  generalize c.natAbs % 10 ^ s.toNat = f at *
  have hl := trail_le s.toNat f
  have hd := trail_div s.toNat f
  rw [ten_cast (s.toNat - w.toNat + 1) (by omega), ← Int.natCast_emod]
  have hj : s.toNat - trail s.toNat f = s.toNat - w.toNat + 1 + (w.toNat - 1 - trail s.toNat f) := by omega
  rw [hj, pow_split] at hd
  have := Nat.mod_mod_of_dvd f (Nat.dvd_mul_right (10 ^ (s.toNat - w.toNat + 1)) (10 ^ (w.toNat - 1 - trail s.toNat f)))
  rw [hd, Nat.zero_mod] at this
  rw [← this]
  rfl
theorem ops_stop {c s : Int} (h : 0 < opsW c s) (hs : 0 ≤ s) : opsF c s % ten (s - opsW c s + 1) ≠ 0 := by
  unfold opsW at *
  unfold opsF
  generalize c.natAbs % 10 ^ s.toNat = f at *
  have hl := trail_le s.toNat f
  have hg := trail_go (trail_div s.toNat f)
  have h2 := trail_last s.toNat f (by omega)
  rw [ten_cast (s.toNat - trail s.toNat f + 1) (by omega), ← Int.natCast_emod]
  intro h0
  exact h2 (hg.1 (by omega))
theorem ops_quo (c s : Int) (hs : 0 ≤ s) : opsF c s / ten (s - opsW c s) = opsT c s := by
  unfold opsT opsW opsF
  have hl := trail_le s.toNat (c.natAbs % 10 ^ s.toNat)
  rw [ten_cast (s.toNat - trail s.toNat (c.natAbs % 10 ^ s.toNat)) (by omega), ← Int.natCast_ediv]
theorem right_neg {c s : Int} (h : Right c s) : Right (-c) s := by unfold Right at *; omega
/-- noughts put behind -/
theorem ops_more (c : Int) {s j : Int} (hs : 0 ≤ s) (hj : 0 ≤ j) : opsI (c * ten j) (s + j) = opsI c s ∧ opsW (c * ten j) (s + j) = opsW c s ∧ opsT (c * ten j) (s + j) = opsT c s := by
  have e : (c * ten j).natAbs = c.natAbs * 10 ^ j.toNat := by rw [Int.natAbs_mul, ten_cast j.toNat rfl, Int.natAbs_natCast]
  have ek : (s + j).toNat = s.toNat + j.toNat := Int.toNat_add hs hj
  have hp : 0 < 10 ^ j.toNat := Nat.pow_pos (by decide)
  have ef : c.natAbs * 10 ^ j.toNat % 10 ^ (s.toNat + j.toNat) = c.natAbs % 10 ^ s.toNat * 10 ^ j.toNat := by rw [pow_split, Nat.mul_mod_mul_right]
  obtain ⟨t1, t2⟩ := trail_more s.toNat (c.natAbs % 10 ^ s.toNat) j.toNat
  unfold opsI opsW opsT
  rw [e, ek, ef]
  refine ⟨?_, ?_, ?_⟩
  · rw [pow_split, Nat.mul_div_mul_right _ _ hp]
  · rw [t1]
  · rw [t1, t2]
theorem ops_bounds {c s : Int} (h : Right c s) : (0 ≤ opsI c s ∧ opsI c s ≤ 1000000000000000) ∧ (0 ≤ opsF c s ∧ opsF c s < ten s) ∧ (0 ≤ opsT c s ∧ opsT c s ≤ opsF c s) := by
  obtain ⟨h0, h9, hc0, hc1⟩ := h
  have hI : c.natAbs / 10 ^ s.toNat ≤ c.natAbs := Nat.div_le_self _ _
  have hF : c.natAbs % 10 ^ s.toNat < 10 ^ s.toNat := Nat.mod_lt _ (Nat.pow_pos (by decide))
  have hT : c.natAbs % 10 ^ s.toNat / 10 ^ (s.toNat - trail s.toNat (c.natAbs % 10 ^ s.toNat)) ≤ c.natAbs % 10 ^ s.toNat := Nat.div_le_self _ _
  unfold opsI opsF opsT
  rw [ten_cast s.toNat rfl]
  generalize c.natAbs % 10 ^ s.toNat / 10 ^ (s.toNat - trail s.toNat (c.natAbs % 10 ^ s.toNat)) = x at *
  generalize c.natAbs % 10 ^ s.toNat = y at *
  generalize c.natAbs / 10 ^ s.toNat = z at *
  generalize 10 ^ s.toNat = u at *
  omega
end D
end Go.Proofs.YteipadljahkgoaaDoor
