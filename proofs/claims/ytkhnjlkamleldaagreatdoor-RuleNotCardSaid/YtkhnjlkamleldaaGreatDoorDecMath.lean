/- Plain facts on decimals: what is right, their values, rounding by a quotient and what is left of it, sums. Nothing of the program stands here. -/
namespace Go.Proofs.YtkhnjlkamleldaaGreatDoor
namespace D

/-- a power of ten -/
def ten (n : Int) : Int := 10 ^ n.toNat
theorem ten_pos (n : Int) : 0 < ten n := Int.pow_pos (by decide)
theorem ten_add {a b : Int} (ha : 0 ≤ a) (hb : 0 ≤ b) : ten (a + b) = ten a * ten b := by
  unfold ten
  rw [Int.toNat_add ha hb, Int.pow_add]
theorem ten_zero : ten 0 = 1 := rfl
theorem ten_nine : ten 9 = 1000000000 := rfl
theorem ten_succ {a : Int} (ha : 0 ≤ a) : ten (a + 1) = ten a * 10 := ten_add ha (by decide)
theorem ten_le {a b : Int} (ha : 0 ≤ a) (hb : a ≤ b) : ten a ≤ ten b := by
  have := ten_add ha (show 0 ≤ b - a by omega)
  rw [show a + (b - a) = b by omega] at this
  rw [this]
  have h1 := ten_pos a
  have h2 := ten_pos (b - a)
  have := Int.mul_le_mul_of_nonneg_left (show 1 ≤ ten (b - a) by omega) (show 0 ≤ ten a by omega)
  omega
theorem ten_le_nine {a : Int} (ha : 0 ≤ a) (hb : a ≤ 9) : ten a ≤ 1000000000 := ten_le ha hb
theorem ten_big {a : Int} (ha : 1 ≤ a) : 10 ≤ ten a := ten_le (a := 1) (by decide) ha
theorem ten_split {a b : Int} (ha : 0 ≤ a) (hb : a ≤ b) : ten b = ten a * ten (b - a) := by
  rw [← ten_add ha (by omega), show a + (b - a) = b by omega]

/-- a right number -/
def Right (c s : Int) : Prop := 0 ≤ s ∧ s ≤ 9 ∧ -1000000000000000 ≤ c ∧ c ≤ 1000000000000000
instance (c s : Int) : Decidable (Right c s) := by unfold Right; infer_instance
/-- a number's value, in the least digits that there may be -/
def val (c s : Int) : Int := c * ten (9 - s)

/-- a quotient and what is left of it, rounded by a way -/
def rq (way q r u : Int) : Int :=
  if way = 1 then (if q < 0 ∧ 0 < r then q + 1 else q)
  else if way = 2 then q
  else if way = 3 then (if 0 < r then q + 1 else q)
  else if way = 4 then (if u < 2 * r ∨ (2 * r = u ∧ 0 ≤ q) then q + 1 else q)
  else (if u < 2 * r ∨ (2 * r = u ∧ q % 2 = 1) then q + 1 else q)
/-- a quotient rounded by a way -/
def rnd (way c u : Int) : Int := rq way (c / u) (c % u) u

theorem rq_le (way q r u : Int) : q ≤ rq way q r u ∧ rq way q r u ≤ q + 1 := by
  unfold rq
  (repeat' split) <;> omega
theorem rnd_exact {u : Int} (hu : 0 < u) (way x : Int) : rnd way (x * u) u = x := by
  unfold rnd
  rw [Int.mul_ediv_cancel _ (by omega), Int.mul_emod_left]
  unfold rq
  (repeat' split) <;> omega
theorem rnd_scale {u k : Int} (hk : 0 < k) (way c : Int) : rnd way (c * k) (u * k) = rnd way c u := by
  unfold rnd
  rw [Int.mul_ediv_mul_of_pos_left _ _ hk, show c * k % (u * k) = c % u * k by rw [Int.mul_comm c k, Int.mul_comm u k, Int.mul_emod_mul_of_pos _ _ hk, Int.mul_comm]]
  generalize c / u = q
  generalize c % u = r
  have h1 : (0 < r * k) = (0 < r) := propext ⟨fun h => Int.pos_of_mul_pos_left h (by omega), fun h => Int.mul_pos h hk⟩
  have h2 : (u * k < 2 * (r * k)) = (u < 2 * r) := by
    rw [← Int.mul_assoc]
    exact propext ⟨fun h => Int.lt_of_mul_lt_mul_right h (by omega), fun h => Int.mul_lt_mul_of_pos_right h hk⟩
  have h3 : (2 * (r * k) = u * k) = (2 * r = u) := by
    rw [← Int.mul_assoc]
    exact propext ⟨fun h => Int.eq_of_mul_eq_mul_right (by omega) h, fun h => by rw [h]⟩
  unfold rq
  simp only [h1, h2, h3]
theorem rnd_mono {u : Int} (hu : 0 < u) (way : Int) {c d : Int} (h : c ≤ d) : rnd way c u ≤ rnd way d u := by
  unfold rnd
  have h1 : c / u ≤ d / u := Int.ediv_le_ediv hu h
  have e1 := Int.mul_ediv_add_emod c u
  have e2 := Int.mul_ediv_add_emod d u
  have b1 := Int.emod_nonneg c (show u ≠ 0 by omega)
  have b2 := Int.emod_nonneg d (show u ≠ 0 by omega)
  have b3 := Int.emod_lt_of_pos c hu
  have b4 := Int.emod_lt_of_pos d hu
  generalize c / u = q at *
  generalize c % u = r at *
  generalize d / u = q' at *
  generalize d % u = r' at *
  rcases Int.lt_or_eq_of_le h1 with hq | rfl
  · have := (rq_le way q r u).2
    have := (rq_le way q' r' u).1
    omega
  · have hr : r ≤ r' := by omega
    unfold rq
    (repeat' split) <;> omega
theorem rnd_neg {u : Int} (hu : 0 < u) (way c : Int) (hw : way = 1 ∨ way = 4 ∨ way = 5) : rnd way (-c) u = - rnd way c u := by
  unfold rnd
  have e1 := Int.mul_ediv_add_emod c u
  have b1 := Int.emod_nonneg c (show u ≠ 0 by omega)
  have b3 := Int.emod_lt_of_pos c hu
  by_cases h0 : c % u = 0
  · have e2 : (-c) / u = -(c / u) := Int.neg_ediv_of_dvd (Int.dvd_of_emod_eq_zero h0)
    have e3 : (-c) % u = 0 := Int.emod_eq_zero_of_dvd (Int.dvd_neg.2 (Int.dvd_of_emod_eq_zero h0))
    rw [e2, e3, h0]
    generalize c / u = q
    unfold rq
    rcases hw with rfl | rfl | rfl <;> simp <;> (repeat' split) <;> omega
  · have hd : (-c) / u = -(c / u) - 1 ∧ (-c) % u = u - c % u := by
      have := (Int.ediv_emod_unique (a := -c) (b := u) (r := u - c % u) (q := -(c / u) - 1) hu).2 ⟨by
        rw [Int.mul_sub, Int.mul_neg]; omega, by omega, by omega⟩
      exact this
    rw [hd.1, hd.2]
    generalize c / u = q at *
    generalize c % u = r at *
    unfold rq
    rcases hw with rfl | rfl | rfl <;> simp <;> (repeat' split) <;> omega
theorem rnd_room {u : Int} (hu : 10 ≤ u) (way : Int) {c : Int} (h0 : -1000000000000000 ≤ c) (h1 : c ≤ 1000000000000000) : -1000000000000000 ≤ rnd way c u ∧ rnd way c u ≤ 1000000000000000 := by
  unfold rnd
  have e1 := Int.mul_ediv_add_emod c u
  have b1 := Int.emod_nonneg c (show u ≠ 0 by omega)
  have b3 := Int.emod_lt_of_pos c (show 0 < u by omega)
  generalize c / u = q at *
  generalize c % u = r at *
  obtain ⟨l1, l2⟩ := rq_le way q r u
  refine ⟨?_, ?_⟩
  · by_cases hq : q < -1000000000000000
    · have := Int.mul_le_mul_of_nonneg_left (show q + 1 ≤ -1000000000000000 by omega) (show 0 ≤ u by omega)
      rw [Int.mul_add] at this
      have := Int.mul_le_mul_of_nonneg_right hu (show (0 : Int) ≤ 1000000000000000 by decide)
      omega
    · omega
  · by_cases hq : 1000000000000000 ≤ q
    · have := Int.mul_le_mul hu hq (by decide) (show 0 ≤ u by omega)
      omega
    · omega

/-- a number of as many digits as there are, or more: the same, noughts behind it -/
theorem rnd_more {c s t : Int} (way : Int) (hst : s ≤ t) (ht : t ≤ 9) : rnd way (val c s) (ten (9 - t)) = c * ten (t - s) := by
  have : val c s = (c * ten (t - s)) * ten (9 - t) := by
    unfold val
    rw [Int.mul_assoc, ← ten_add (by omega) (by omega), show t - s + (9 - t) = 9 - s by omega]
  rw [this, rnd_exact (ten_pos _)]
/-- of fewer digits: the coefficient's quotient -/
theorem rnd_fewer {c s t : Int} (way : Int) (hts : t ≤ s) (hs : s ≤ 9) : rnd way (val c s) (ten (9 - t)) = rnd way c (ten (s - t)) := by
  have : ten (9 - t) = ten (s - t) * ten (9 - s) := by
    rw [← ten_add (by omega) (by omega), show s - t + (9 - s) = 9 - t by omega]
  rw [this]
  exact rnd_scale (ten_pos _) way c

/-- a right number, so many digits behind the point: its coefficient -/
def rc (c s t way : Int) : Int := rnd way (val c s) (ten (9 - t))
/-- what is wrong with rounding so (0: nothing; 1: out of range; 3: no such way) -/
def roundF (c s t way : Int) : Nat :=
  if ¬ Right c s then 1 else if ¬ (0 ≤ t ∧ t ≤ 9) then 1 else if ¬ (1 ≤ way ∧ way ≤ 5) then 3 else if ¬ (-1000000000000000 ≤ rc c s t way ∧ rc c s t way ≤ 1000000000000000) then 1 else 0
theorem roundF_zero {c s t way : Int} : roundF c s t way = 0 ↔ Right c s ∧ (0 ≤ t ∧ t ≤ 9) ∧ (1 ≤ way ∧ way ≤ 5) ∧ (-1000000000000000 ≤ rc c s t way ∧ rc c s t way ≤ 1000000000000000) := by
  unfold roundF
  constructor
  · intro h
    by_cases h1 : Right c s
    · by_cases h2 : 0 ≤ t ∧ t ≤ 9
      · by_cases h3 : 1 ≤ way ∧ way ≤ 5
        · by_cases h4 : -1000000000000000 ≤ rc c s t way ∧ rc c s t way ≤ 1000000000000000
          · exact ⟨h1, h2, h3, h4⟩
          · simp [h1, h2, h3, h4] at h
        · simp [h1, h2, h3] at h
      · simp [h1, h2] at h
    · simp [h1] at h
  · rintro ⟨h1, h2, h3, h4⟩
    rw [if_neg (by simpa using h1), if_neg (by simpa using h2), if_neg (by simpa using h3), if_neg (by simpa using h4)]
theorem fewer_room {c s t way : Int} (hr : Right c s) (hts : t < s) : -1000000000000000 ≤ rc c s t way ∧ rc c s t way ≤ 1000000000000000 := by
  unfold rc
  rw [rnd_fewer way (by omega) hr.2.1]
  exact rnd_room (ten_big (by omega)) way hr.2.2.1 hr.2.2.2

/-- the scale of a sum, and its coefficient -/
def sumS (s t : Int) : Int := if s < t then t else s
def sumC (c s d t : Int) : Int := c * ten (sumS s t - s) + d * ten (sumS s t - t)
def addF (c s d t : Int) : Nat := if ¬ Right c s then 1 else if ¬ Right d t then 1 else if ¬ (-1000000000000000 ≤ sumC c s d t ∧ sumC c s d t ≤ 1000000000000000) then 1 else 0
theorem addF_zero {c s d t : Int} : addF c s d t = 0 ↔ Right c s ∧ Right d t ∧ (-1000000000000000 ≤ sumC c s d t ∧ sumC c s d t ≤ 1000000000000000) := by
  unfold addF
  constructor
  · intro h
    by_cases h1 : Right c s
    · by_cases h2 : Right d t
      · by_cases h4 : -1000000000000000 ≤ sumC c s d t ∧ sumC c s d t ≤ 1000000000000000
        · exact ⟨h1, h2, h4⟩
        · simp [h1, h2, h4] at h
      · simp [h1, h2] at h
    · simp [h1] at h
  · rintro ⟨h1, h2, h4⟩
    rw [if_neg (by simpa using h1), if_neg (by simpa using h2), if_neg (by simpa using h4)]
theorem sum_scale {s t : Int} (hs : 0 ≤ s ∧ s ≤ 9) (ht : 0 ≤ t ∧ t ≤ 9) : (0 ≤ sumS s t ∧ sumS s t ≤ 9) ∧ s ≤ sumS s t ∧ t ≤ sumS s t := by
  unfold sumS
  split <;> omega
theorem val_more {c s t : Int} (hs : s ≤ t) (ht : t ≤ 9) : c * ten (t - s) * ten (9 - t) = val c s := by
  unfold val
  rw [Int.mul_assoc, ← ten_add (by omega) (by omega), show t - s + (9 - t) = 9 - s by omega]
/-- a sum's value -/
theorem sum_val {c s d t : Int} (hs : 0 ≤ s ∧ s ≤ 9) (ht : 0 ≤ t ∧ t ≤ 9) : val (sumC c s d t) (sumS s t) = val c s + val d t := by
  obtain ⟨⟨_, h1⟩, h2, h3⟩ := sum_scale hs ht
  rw [← val_more (c := c) h2 h1, ← val_more (c := d) h3 h1]
  unfold val sumC
  rw [Int.add_mul]
theorem sumS_comm (s t : Int) : sumS s t = sumS t s := by unfold sumS; (repeat' split) <;> omega
theorem sumS_assoc (s t r : Int) : sumS (sumS s t) r = sumS s (sumS t r) := by unfold sumS; (repeat' split) <;> omega
theorem sumC_comm (c s d t : Int) : sumC c s d t = sumC d t c s := by
  unfold sumC
  rw [sumS_comm s t, Int.add_comm]
/-- a number is known by its scale and its value -/
theorem coef_of_val {c d s : Int} (h : val c s = val d s) : c = d := by
  unfold val at h
  exact Int.eq_of_mul_eq_mul_right (by have := ten_pos (9 - s); omega) h
theorem val_lt {c d s : Int} : val c s < val d s ↔ c < d := by
  unfold val
  have := ten_pos (9 - s)
  exact ⟨fun h => Int.lt_of_mul_lt_mul_right h (by omega), fun h => Int.mul_lt_mul_of_pos_right h this⟩
theorem val_neg (c s : Int) : val (-c) s = - val c s := by unfold val; rw [Int.neg_mul]
theorem val_rc {c s t way : Int} : val (rc c s t way) t = rc c s t way * ten (9 - t) := rfl
/-- rounded again it stays -/
theorem rc_again (c s t way : Int) : rc (rc c s t way) t t way = rc c s t way := by
  show rnd way (rc c s t way * ten (9 - t)) (ten (9 - t)) = _
  exact rnd_exact (ten_pos _) way _

/-- Go's quotient and what is left of it -/
theorem go_div {u : Int} (hu : 0 < u) (c : Int) : (0 ≤ c ∧ c.tdiv u = c / u ∧ c.tmod u = c % u) ∨ (c < 0 ∧ c % u = 0 ∧ c.tdiv u = c / u ∧ c.tmod u = 0) ∨ (c < 0 ∧ 0 < c % u ∧ c.tdiv u = c / u + 1 ∧ c.tmod u = c % u - u) := by
  by_cases hc : 0 ≤ c
  · exact .inl ⟨hc, Int.tdiv_eq_ediv_of_nonneg hc, Int.tmod_eq_emod_of_nonneg hc⟩
  · refine .inr ?_
    have b1 := Int.emod_nonneg c (show u ≠ 0 by omega)
    have hsg : u.sign = 1 := Int.sign_eq_one_of_pos hu
    have hn : u.natAbs = u := Int.natAbs_of_nonneg (by omega)
    have t1 := Int.tdiv_eq_ediv (a := c) (b := u)
    have t2 := Int.tmod_eq_emod (a := c) (b := u)
    by_cases h0 : c % u = 0
    · have hd := Int.dvd_of_emod_eq_zero h0
      rw [if_pos (.inr hd)] at t1 t2
      exact .inl ⟨by omega, h0, by omega, by omega⟩
    · have hd : ¬ u ∣ c := fun hd => h0 (Int.emod_eq_zero_of_dvd hd)
      rw [if_neg (by simp [hd]; omega)] at t1 t2
      exact .inr ⟨by omega, by omega, by omega, by omega⟩
/-- the number that is told of a quotient and of what is left of it -/
def told (way q r u : Int) : Int :=
  if way = 1 then q
  else if way = 2 then (if r < 0 then q - 1 else q)
  else if way = 3 then (if 0 < r then q + 1 else q)
  else if way = 4 then (if u ≤ 2 * (r.natAbs : Int) then (if r < 0 then q - 1 else if 0 < r then q + 1 else q) else q)
  else (if u < 2 * (r.natAbs : Int) ∨ (2 * (r.natAbs : Int) = u ∧ q.tmod 2 ≠ 0) then (if r < 0 then q - 1 else if 0 < r then q + 1 else q) else q)
theorem odd_iff (q : Int) : q.tmod 2 ≠ 0 ↔ q % 2 = 1 := by
  have h1 : (2 : Int) ∣ q ↔ q.tmod 2 = 0 := Int.dvd_iff_tmod_eq_zero
  have h2 : (2 : Int) ∣ q ↔ q % 2 = 0 := Int.dvd_iff_emod_eq_zero
  omega
theorem go_rest {u : Int} (hu : 0 < u) (c : Int) : -u < c.tmod u ∧ c.tmod u < u ∧ (0 ≤ c → 0 ≤ c.tdiv u ∧ c.tdiv u ≤ c) ∧ (c ≤ 0 → c ≤ c.tdiv u ∧ c.tdiv u ≤ 0) := by
  have e1 := Int.mul_ediv_add_emod c u
  have b1 := Int.emod_nonneg c (show u ≠ 0 by omega)
  have b3 := Int.emod_lt_of_pos c hu
  have hp : 0 ≤ c → 0 ≤ c / u ∧ c / u ≤ c := fun h => ⟨Int.ediv_nonneg h (by omega), Int.ediv_le_self u h⟩
  have hn : c < 0 → c ≤ c / u ∧ c / u < 0 := fun h => by
    have h2 : c / u < 0 := Int.ediv_neg_of_neg_of_pos h hu
    refine ⟨?_, h2⟩
    have := Int.mul_le_mul_of_nonpos_right (a := u) (b := 1) (c := c / u + 1) (by omega) (by omega)
    rw [Int.mul_add] at this
    omega
  rcases go_div hu c with ⟨h, e, f⟩ | ⟨h, h0, e, f⟩ | ⟨h, h0, e, f⟩ <;> rw [e, f] <;> (have := hp; have := hn; omega)
theorem told_eq {u : Int} (hu : 0 < u) (c way : Int) (h1 : 1 ≤ way) (h5 : way ≤ 5) : told way (c.tdiv u) (c.tmod u) u = rnd way c u := by
  have b1 := Int.emod_nonneg c (show u ≠ 0 by omega)
  have b3 := Int.emod_lt_of_pos c hu
  have hq0 : c / u < 0 ↔ c < 0 := by
    constructor
    · intro h
      by_cases hc : c < 0
      · exact hc
      · have := Int.ediv_nonneg (show 0 ≤ c by omega) (show 0 ≤ u by omega)
        omega
    · intro h; exact Int.ediv_neg_of_neg_of_pos h hu
  have ho := odd_iff (c.tdiv u)
  unfold told rnd rq
  simp only [ho]
  rcases go_div hu c with ⟨h, e, f⟩ | ⟨h, h0, e, f⟩ | ⟨h, h0, e, f⟩ <;> rw [e, f] at * <;> clear e f ho <;> generalize c / u = q at * <;> generalize c % u = r at *
  all_goals
    rcases (show way = 1 ∨ way = 2 ∨ way = 3 ∨ way = 4 ∨ way = 5 by omega) with rfl | rfl | rfl | rfl | rfl <;> simp at * <;> (repeat' split) <;> omega
end D
end Go.Proofs.YtkhnjlkamleldaaGreatDoor
