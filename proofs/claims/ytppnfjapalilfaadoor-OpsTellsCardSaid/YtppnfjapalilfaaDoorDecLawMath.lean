/- Plain facts on decimals that the laws ask for: how near a rounded number is, rounding in two steps, sums in whatever order. Nothing of the program stands here. -/
import Derived.Test.YtppnfjapalilfaaDoorDecMath
namespace Go.Proofs.YtppnfjapalilfaaDoor
namespace D

theorem quot_neg {u : Int} (hu : 0 < u) (c : Int) : c / u < 0 ↔ c < 0 := by
  have e1 := Int.mul_ediv_add_emod c u
  have b1 := Int.emod_nonneg c (show u ≠ 0 by omega)
  have b3 := Int.emod_lt_of_pos c hu
  generalize c / u = q at *
  generalize c % u = r at *
  constructor
  · intro h
    have := Int.mul_le_mul_of_nonneg_left (show q + 1 ≤ 0 by omega) (show 0 ≤ u by omega)
    rw [Int.mul_add] at this
    omega
  · intro h
    by_cases hq : q < 0
    · exact hq
    · have := Int.mul_nonneg (show 0 ≤ u by omega) (show 0 ≤ q by omega)
      omega
/-- how near it is -/
theorem near {u : Int} (hu : 0 < u) (way c : Int) (h1 : 1 ≤ way) (h5 : way ≤ 5) :
    -u < c - rnd way c u * u ∧ c - rnd way c u * u < u ∧ (way = 4 ∨ way = 5 → -u ≤ 2 * (c - rnd way c u * u) ∧ 2 * (c - rnd way c u * u) ≤ u) ∧
    (way = 5 → 2 * (c - rnd way c u * u) = u ∨ 2 * (c - rnd way c u * u) = -u → rnd way c u % 2 = 0) ∧ (way = 2 → 0 ≤ c - rnd way c u * u) ∧ (way = 3 → c - rnd way c u * u ≤ 0) ∧
    (way = 1 → (0 ≤ c → 0 ≤ c - rnd way c u * u) ∧ (c ≤ 0 → c - rnd way c u * u ≤ 0)) := by
  have hq0 := quot_neg hu c
  unfold rnd
  have e1 := Int.mul_ediv_add_emod c u
  have b1 := Int.emod_nonneg c (show u ≠ 0 by omega)
  have b3 := Int.emod_lt_of_pos c hu
  have hz : c = 0 → c % u = 0 := fun h => by rw [h]; simp
  generalize c / u = q at *
  generalize c % u = r at *
  have hm : ∀ x : Int, (x = q ∨ x = q + 1) → c - x * u = if x = q then r else r - u := by
    rintro x (rfl | rfl)
    · rw [if_pos rfl, Int.mul_comm]; omega
    · rw [if_neg (by omega), Int.add_mul, Int.mul_comm q]; omega
  obtain ⟨l1, l2⟩ := rq_le way q r u
  have hx := hm (rq way q r u) (by omega)
  rw [hx]
  clear hx hm e1
  have hcase : way = 1 ∨ way = 2 ∨ way = 3 ∨ way = 4 ∨ way = 5 := by omega
  unfold rq at *
  rcases hcase with rfl | rfl | rfl | rfl | rfl <;> simp at * <;> (repeat' split) <;> (try simp at *) <;> omega

theorem rnd_two (V u : Int) : rnd 2 V u = V / u := by
  unfold rnd rq; simp
theorem rnd_three {u : Int} (hu : 0 < u) (V : Int) : rnd 3 V u = - rnd 2 (-V) u := by
  rw [rnd_two]
  unfold rnd rq
  simp
  have b1 := Int.emod_nonneg V (show u ≠ 0 by omega)
  have b3 := Int.emod_lt_of_pos V hu
  by_cases h0 : V % u = 0
  · rw [Int.neg_ediv_of_dvd (Int.dvd_of_emod_eq_zero h0), if_neg (by omega)]; omega
  · have e1 := Int.mul_ediv_add_emod V u
    have := (Int.ediv_emod_unique (a := -V) (b := u) (r := u - V % u) (q := -(V / u) - 1) hu).2 ⟨by
      rw [Int.mul_sub, Int.mul_neg]; omega, by omega, by omega⟩
    rw [this.1, if_pos (by omega)]
    omega
theorem rnd_one {u : Int} (hu : 0 < u) (V : Int) : rnd 1 V u = if V < 0 then rnd 3 V u else rnd 2 V u := by
  have := quot_neg hu V
  unfold rnd rq
  simp
  by_cases h : V < 0
  · have := this.2 h
    simp [h, this]
  · have h' : ¬ V / u < 0 := fun h' => h (this.1 h')
    simp [h, h']
theorem two_two {u k : Int} (hu : 0 < u) (V : Int) : rnd 2 (rnd 2 V u) k = rnd 2 V (k * u) := by
  rw [rnd_two, rnd_two, rnd_two, Int.ediv_ediv, if_neg (by omega), Int.mul_comm]
  omega
theorem three_three {u k : Int} (hu : 0 < u) (hk : 0 < k) (V : Int) : rnd 3 (rnd 3 V u) k = rnd 3 V (k * u) := by
  rw [rnd_three hk, rnd_three hu, Int.neg_neg, two_two hu, rnd_three (Int.mul_pos hk hu)]
theorem two_zero (k : Int) : rnd 2 0 k = 0 := by rw [rnd_two]; simp
theorem three_zero {k : Int} (hk : 0 < k) : rnd 3 0 k = 0 := by rw [rnd_three hk]; simp [two_zero]
theorem two_sign {u : Int} (hu : 0 < u) {V : Int} (h : 0 ≤ V) : 0 ≤ rnd 2 V u := by
  rw [rnd_two]; exact Int.ediv_nonneg h (by omega)
theorem three_sign {u : Int} (hu : 0 < u) {V : Int} (h : V ≤ 0) : rnd 3 V u ≤ 0 := by
  rw [rnd_three hu]
  have := two_sign hu (show 0 ≤ -V by omega)
  omega
theorem one_one {u k : Int} (hu : 0 < u) (hk : 0 < k) (V : Int) : rnd 1 (rnd 1 V u) k = rnd 1 V (k * u) := by
  rw [rnd_one (Int.mul_pos hk hu) V, rnd_one hk, rnd_one hu]
  by_cases h : V < 0
  · rw [if_pos h, if_pos h]
    have := three_sign hu (show V ≤ 0 by omega)
    by_cases h0 : rnd 3 V u < 0
    · rw [if_pos h0, three_three hu hk]
    · rw [if_neg h0, ← three_three hu hk, show rnd 3 V u = 0 by omega, two_zero, three_zero hk]
  · rw [if_neg h, if_neg h]
    have := two_sign hu (show 0 ≤ V by omega)
    rw [if_neg (by omega), two_two hu]
theorem rnd_twice {u k : Int} (hu : 0 < u) (hk : 0 < k) (V way : Int) (h1 : 1 ≤ way) (h3 : way ≤ 3) : rnd way (rnd way V u) k = rnd way V (k * u) := by
  rcases (show way = 1 ∨ way = 2 ∨ way = 3 by omega) with rfl | rfl | rfl
  · exact one_one hu hk V
  · exact two_two hu V
  · exact three_three hu hk V
/-- down, floor, ceil: first to more digits, then to fewer -/
theorem rc_twice {c s t m way : Int} (htm : t ≤ m) (hm : m ≤ 9) (h1 : 1 ≤ way) (h3 : way ≤ 3) : rc (rc c s m way) m t way = rc c s t way := by
  unfold rc
  have e : ten (9 - t) = ten (m - t) * ten (9 - m) := by
    rw [← ten_add (by omega) (by omega), show m - t + (9 - m) = 9 - t by omega]
  rw [show val (rnd way (val c s) (ten (9 - m))) m = rnd way (val c s) (ten (9 - m)) * ten (9 - m) from rfl, e, rnd_scale (ten_pos _), rnd_twice (ten_pos _) (ten_pos _) _ _ h1 h3]
theorem rc_more {c s t way : Int} (hst : s ≤ t) (ht : t ≤ 9) : rc c s t way = c * ten (t - s) := rnd_more way hst ht
theorem rc_fewer {c s t way : Int} (hts : t ≤ s) (hs : s ≤ 9) : rc c s t way = rnd way c (ten (s - t)) := rnd_fewer way hts hs
theorem val_rc_more {c s t way : Int} (hst : s ≤ t) (ht : t ≤ 9) : val (rc c s t way) t = val c s := by
  rw [rc_more hst ht]; exact val_more hst ht
/-- who is less stays less, or the same -/
theorem rc_mono {c s d r t way : Int} (h : val c s < val d r) : rc c s t way ≤ rc d r t way := rnd_mono (ten_pos _) way (by omega)
theorem rc_neg {c s t way : Int} (hw : way = 1 ∨ way = 4 ∨ way = 5) : rc (-c) s t way = - rc c s t way := by
  unfold rc
  rw [val_neg, rnd_neg (ten_pos _) way _ hw]
/-- what was rounded, taken off -/
theorem sum_off {c s r t : Int} (hts : t < s) : sumS s t = s ∧ sumC c s (-r) t = c - r * ten (s - t) := by
  have h : sumS s t = s := by unfold sumS; rw [if_neg (by omega)]
  refine ⟨h, ?_⟩
  unfold sumC
  rw [h, Int.sub_self, ten_zero, Int.neg_mul]
  omega
theorem sum_nought {c s : Int} (hs : 0 ≤ s) : sumS s 0 = s ∧ sumC c s 0 0 = c := by
  have h : sumS s 0 = s := by unfold sumS; split <;> omega
  refine ⟨h, ?_⟩
  unfold sumC
  rw [h, Int.sub_self, ten_zero]
  omega
theorem right_scale {c s : Int} (h : Right c s) : 0 ≤ s ∧ s ≤ 9 := ⟨h.1, h.2.1⟩
/-- of three it does not matter which two are added first -/
theorem sum_three {a s b t c r : Int} (ha : 0 ≤ s ∧ s ≤ 9) (hb : 0 ≤ t ∧ t ≤ 9) (hc : 0 ≤ r ∧ r ≤ 9) : sumC (sumC a s b t) (sumS s t) c r = sumC a s (sumC b t c r) (sumS t r) := by
  refine coef_of_val (s := sumS (sumS s t) r) ?_
  rw [sum_val (sum_scale ha hb).1 hc, sum_val ha hb]
  rw [sumS_assoc, sum_val ha (sum_scale hb hc).1, sum_val hb hc]
  omega
theorem add_three {a s b t c r : Int} (h1 : addF a s b t = 0) (h2 : addF b t c r = 0) : addF (sumC a s b t) (sumS s t) c r = addF a s (sumC b t c r) (sumS t r) := by
  obtain ⟨ra, rb, m1⟩ := addF_zero.1 h1
  obtain ⟨_, rc', m2⟩ := addF_zero.1 h2
  have e := sum_three (a := a) (b := b) (c := c) (right_scale ra) (right_scale rb) (right_scale rc')
  have q1 : Right (sumC a s b t) (sumS s t) := ⟨(sum_scale (right_scale ra) (right_scale rb)).1.1, (sum_scale (right_scale ra) (right_scale rb)).1.2, m1.1, m1.2⟩
  have q2 : Right (sumC b t c r) (sumS t r) := ⟨(sum_scale (right_scale rb) (right_scale rc')).1.1, (sum_scale (right_scale rb) (right_scale rc')).1.2, m2.1, m2.2⟩
  unfold addF
  simp only [q1, q2, ra, rc', not_true, if_false, e]
theorem right_sum {a s b t : Int} (h : addF a s b t = 0) : Right (sumC a s b t) (sumS s t) := by
  obtain ⟨ra, rb, m1⟩ := addF_zero.1 h
  exact ⟨(sum_scale (right_scale ra) (right_scale rb)).1.1, (sum_scale (right_scale ra) (right_scale rb)).1.2, m1.1, m1.2⟩
theorem right_rc {c s t way : Int} (h : roundF c s t way = 0) : Right (rc c s t way) t := by
  obtain ⟨_, h2, _, h4⟩ := roundF_zero.1 h
  exact ⟨h2.1, h2.2, h4.1, h4.2⟩
end D
end Go.Proofs.YtppnfjapalilfaaDoor
