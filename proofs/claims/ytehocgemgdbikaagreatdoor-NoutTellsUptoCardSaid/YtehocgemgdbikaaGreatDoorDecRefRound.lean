/- Plain facts on how the reference reckons with decimals: the greatest whole number that is no greater, the order of two values, rounding, sums. Nothing of the program stands here. And what follows from it. -/
import Derived.Test.YtehocgemgdbikaaGreatDoorDecFacts
import Derived.Test.YtehocgemgdbikaaGreatDoorDecRef
import Derived.Test.YtehocgemgdbikaaGreatDoorDecRefFault
import Derived.Test.YtehocgemgdbikaaGreatDoorDecTwo
namespace Go.Proofs.YtehocgemgdbikaaGreatDoor
namespace D

/-- Go's quotient, mended: the floor -/
theorem floor_fix {u : Int} (hu : 0 < u) (c : Int) : (c < c.tdiv u * u → c.tdiv u - 1 = c / u) ∧ (¬ c < c.tdiv u * u → c.tdiv u = c / u) := by
  have e1 := Int.mul_ediv_add_emod c u
  have b3 := Int.emod_lt_of_pos c hu
  have b1 := Int.emod_nonneg c (show u ≠ 0 by omega)
  rcases go_div hu c with ⟨h, e, f⟩ | ⟨h, h0, e, f⟩ | ⟨h, h0, e, f⟩ <;> rw [e] <;> (try rw [Int.add_mul]) <;> rw [Int.mul_comm (c / u) u] <;> constructor <;> intro <;> omega
theorem floor_room {u : Int} (hu : 0 < u) (c : Int) (h0 : -1000000000000000 ≤ c) (h1 : c ≤ 1000000000000000) : -1000000000000000 ≤ c / u ∧ c / u ≤ 1000000000000000 := by
  rcases Int.lt_or_le c 0 with h | h
  · have e1 := Int.mul_ediv_add_emod c u
    have b3 := Int.emod_lt_of_pos c hu
    have b1 := Int.emod_nonneg c (show u ≠ 0 by omega)
    have h2 : c / u < 0 := Int.ediv_neg_of_neg_of_pos h hu
    have := Int.mul_le_mul_of_nonpos_right (a := u) (b := 1) (c := c / u + 1) (by omega) (by omega)
    rw [Int.mul_add] at this
    omega
  · have := Int.ediv_nonneg h (show 0 ≤ u by omega)
    have := Int.ediv_le_self u h
    omega
theorem rest_eq {u : Int} (c : Int) : c - c / u * u = c % u := by
  have e1 := Int.mul_ediv_add_emod c u
  rw [Int.mul_comm] at e1
  omega
/-- what lies behind the point, in nine digits, the floor taken off -/
def frac (c s : Int) : Int := c % ten s * ten (9 - s)
theorem frac_val {c s : Int} (h : 0 ≤ s ∧ s ≤ 9) : val c s = c / ten s * 1000000000 + frac c s ∧ 0 ≤ frac c s ∧ frac c s < 1000000000 := by
  have b := ten_pos s
  have b' := ten_pos (9 - s)
  have e : ten s * ten (9 - s) = 1000000000 := by rw [← ten_add h.1 (by omega), show s + (9 - s) = 9 by omega]; rfl
  have hd := Int.mul_ediv_add_emod c (ten s)
  have b1 := Int.emod_nonneg c (show ten s ≠ 0 by omega)
  have b3 := Int.emod_lt_of_pos c b
  unfold val frac
  generalize c / ten s = q at *
  generalize c % ten s = r at *
  refine ⟨?_, Int.mul_nonneg b1 (by omega), by rw [← e]; exact Int.mul_lt_mul_of_pos_right b3 b'⟩
  rw [← hd, Int.add_mul, ← e, Int.mul_comm (ten s) q, Int.mul_assoc]
/-- the order that is told of two -/
def ordR (c s d t : Int) : Int := if c / ten s = d / ten t then frac c s - frac d t else c / ten s - d / ten t
theorem ordR_lt {c s d t : Int} (h : 0 ≤ s ∧ s ≤ 9) (h' : 0 ≤ t ∧ t ≤ 9) : (ordR c s d t < 0 ↔ val c s < val d t) ∧ (ordR c s d t = 0 ↔ val c s = val d t) := by
  obtain ⟨e1, a1, a2⟩ := frac_val (c := c) h
  obtain ⟨e2, c1, c2⟩ := frac_val (c := d) h'
  unfold ordR
  rw [e1, e2]
  split <;> constructor <;> constructor <;> intro <;> omega
/-- rounding, as the reference puts it: one more, or not -/
def upR (way c u q r : Int) : Bool :=
  if way = 4 ∨ way = 5 then decide (u < 2 * r) || (decide (2 * r = u) && ((decide (way = 4) && decide (0 < c)) || (decide (way = 5) && decide ((q.natAbs : Int) % 2 = 1))))
  else decide (0 < r) && (decide (way = 3) || (decide (way = 1) && decide (c < 0)))
theorem up_rnd {u : Int} (hu : 0 < u) (c way : Int) (h1 : 1 ≤ way) (h5 : way ≤ 5) : (if upR way c u (c / u) (c % u) then c / u + 1 else c / u) = rnd way c u := by
  have hq0 := quot_neg hu c
  have b1 := Int.emod_nonneg c (show u ≠ 0 by omega)
  have hz : c = 0 → c % u = 0 := fun h => by rw [h]; simp
  unfold rnd rq upR
  generalize c / u = q at *
  generalize c % u = r at *
  rcases (show way = 1 ∨ way = 2 ∨ way = 3 ∨ way = 4 ∨ way = 5 by omega) with rfl | rfl | rfl | rfl | rfl <;> simp <;> (repeat' split) <;> omega
/-- a sum, as the reference puts it -/
theorem sum_pieces {c s d t : Int} (hs : 0 ≤ s ∧ s ≤ 9) (ht : 0 ≤ t ∧ t ≤ 9) :
    (c / ten s + d / ten t) * ten (sumS s t) + c % ten s * ten (sumS s t - s) + d % ten t * ten (sumS s t - t) = sumC c s d t := by
  obtain ⟨⟨h0, h1⟩, h2, h3⟩ := sum_scale hs ht
  have e1 := ten_split hs.1 h2
  have e2 := ten_split ht.1 h3
  have d1 := Int.mul_ediv_add_emod c (ten s)
  have d2 := Int.mul_ediv_add_emod d (ten t)
  unfold sumC
  rw [Int.add_mul, ← (show ten s * (c / ten s) * ten (sumS s t - s) + c % ten s * ten (sumS s t - s) = c * ten (sumS s t - s) by rw [← Int.add_mul, d1]),
    ← (show ten t * (d / ten t) * ten (sumS s t - t) + d % ten t * ten (sumS s t - t) = d * ten (sumS s t - t) by rw [← Int.add_mul, d2])]
  have f1 : c / ten s * ten (sumS s t) = ten s * (c / ten s) * ten (sumS s t - s) := by rw [e1, Int.mul_comm (ten s) (c / ten s), Int.mul_assoc]
  have f2 : d / ten t * ten (sumS s t) = ten t * (d / ten t) * ten (sumS s t - t) := by rw [e2, Int.mul_comm (ten t) (d / ten t), Int.mul_assoc]
  rw [f1, f2]
  omega
theorem frac_room {c s k : Int} (hs : 0 ≤ s) (hk : s ≤ k) : 0 ≤ c % ten s * ten (k - s) ∧ c % ten s * ten (k - s) < ten k := by
  have b := ten_pos s
  have b' := ten_pos (k - s)
  have b1 := Int.emod_nonneg c (show ten s ≠ 0 by omega)
  have b3 := Int.emod_lt_of_pos c b
  exact ⟨Int.mul_nonneg b1 (by omega), by rw [ten_split hs hk]; exact Int.mul_lt_mul_of_pos_right b3 b'⟩
/-- too great ahead of the point: too great -/
theorem sum_far {c s d t : Int} (hs : 0 ≤ s ∧ s ≤ 9) (ht : 0 ≤ t ∧ t ≤ 9) (h : (1000000000000000 : Int) / ten (sumS s t) + 2 < ((c / ten s + d / ten t).natAbs : Int)) :
    ¬ (-1000000000000000 ≤ sumC c s d t ∧ sumC c s d t ≤ 1000000000000000) := by
  obtain ⟨⟨h0, h1⟩, h2, h3⟩ := sum_scale hs ht
  have e := sum_pieces (c := c) (d := d) hs ht
  obtain ⟨p0, p1⟩ := frac_room (c := c) hs.1 h2
  obtain ⟨q0, q1⟩ := frac_room (c := d) ht.1 h3
  have b := ten_pos (sumS s t)
  have m1 := Int.mul_ediv_add_emod 1000000000000000 (ten (sumS s t))
  have m3 := Int.emod_lt_of_pos 1000000000000000 b
  rw [← e]
  generalize c % ten s * ten (sumS s t - s) = p at *
  generalize d % ten t * ten (sumS s t - t) = q at *
  generalize c / ten s + d / ten t = z at *
  generalize ten (sumS s t) = u at *
  generalize (1000000000000000 : Int) / u = m at *
  rcases Int.lt_or_le z 0 with hz | hz
  · have := Int.mul_le_mul_of_nonneg_right (show z ≤ -(m + 3) by omega) (show 0 ≤ u by omega)
    rw [Int.neg_mul, Int.add_mul, Int.mul_comm m u] at this
    omega
  · have := Int.mul_le_mul_of_nonneg_right (show m + 3 ≤ z by omega) (show 0 ≤ u by omega)
    rw [Int.add_mul, Int.mul_comm m u] at this
    omega
theorem sum_near {u z : Int} (hu : 0 < u) (hu1 : u ≤ 1000000000) (h : (z.natAbs : Int) ≤ (1000000000000000 : Int) / u + 2) : -1000002000000000 ≤ z * u ∧ z * u ≤ 1000002000000000 := by
  have m1 := Int.mul_ediv_add_emod 1000000000000000 u
  have m0 := Int.emod_nonneg 1000000000000000 (show u ≠ 0 by omega)
  generalize (1000000000000000 : Int) / u = m at *
  have a := Int.mul_le_mul_of_nonneg_right (show z ≤ m + 2 by omega) (show 0 ≤ u by omega)
  have b := Int.mul_le_mul_of_nonneg_right (show -(m + 2) ≤ z by omega) (show 0 ≤ u by omega)
  rw [Int.neg_mul, Int.add_mul, Int.mul_comm m u] at b
  rw [Int.add_mul, Int.mul_comm m u] at a
  omega
end D
end Go.Proofs.YtehocgemgdbikaaGreatDoor

/- The reference's floor of a number; what lay in memory stays as it was. -/
namespace Go.Proofs.YtehocgemgdbikaaGreatDoor
namespace D
open Go.RowKit

set_option maxHeartbeats 1000000 in
theorem refFloor_any (c s : Int) (w : World) (h : Right c s) : Calls Tryz.prog 45 #[.agg #[.int .i64 c, .int .i64 s]] w (Gives w (.int .i64 (c / ten s))) := by
  have hb : Below w.heap.size w (w.alloc (box c s)) := up_alloc (Below.refl _ _) _
  obtain ⟨h0, h9, hc0, hc1⟩ := h
  have CT := Lib.hid fun W => refTen_any s W h0 h9
  have b0 := ten_pos s
  have b1 := ten_le_nine h0 h9
  obtain ⟨f1, f2⟩ := floor_fix b0 c
  obtain ⟨r0, r1, r2, r3⟩ := go_rest b0 c
  have e1 := Int.mul_tdiv_add_tmod c (ten s)
  rw [Int.mul_comm] at e1
  have m0 : -2000000000000000 ≤ c.tdiv (ten s) * ten s ∧ c.tdiv (ten s) * ten s ≤ 2000000000000000 := by omega
  have q0 : -1000000000000000 ≤ c.tdiv (ten s) ∧ c.tdiv (ten s) ≤ 1000000000000000 := by omega
  clear e1 r0 r1 r2 r3
  generalize ten s = u at *
  generalize hQ : c.tdiv u = q at *
  have hu0 : (u == 0) = false := by simp; omega
  by_cases hlt : c < q * u
  · have HE := Lib.hid (f1 hlt)
    clear f1 f2
    go_enter Tryz.func45, Tryz.ntmps45
    go_wp2_with (go_at_call 44; (with_reducible refine (CT.out _).mono ?_); rintro e w1 ⟨rfl, rfl⟩)
    go_ret
    exact ⟨ret_int HE.out, hb⟩
  · have HE := Lib.hid (f2 hlt)
    clear f1 f2
    go_enter Tryz.func45, Tryz.ntmps45
    go_wp2_with (go_at_call 44; (with_reducible refine (CT.out _).mono ?_); rintro e w1 ⟨rfl, rfl⟩)
    go_ret
    exact ⟨ret_int HE.out, hb⟩
theorem wr {x : Int} (h0 : -9223372036854775808 ≤ x) (h1 : x ≤ 9223372036854775807) : IntKind.i64.wrap x = x := by rw [IntKind.wrap_i64]; omega
end D
end Go.Proofs.YtehocgemgdbikaaGreatDoor

/- The reference's rounding of a right number; what lay in memory stays as it was. -/
namespace Go.Proofs.YtehocgemgdbikaaGreatDoor
namespace D
open Go.RowKit

set_option maxHeartbeats 32000000 in
set_option maxRecDepth 100000 in
theorem refRound_few (c s t way : Int) (w : World) (h : Right c s) (h2 : 0 ≤ t) (hts : t < s) (h3 : 1 ≤ way) (h5 : way ≤ 5) :
    Calls Tryz.prog 22 #[.agg #[.int .i64 c, .int .i64 s], .int .i64 t, .int .i64 way] w (Gives w (.tuple #[.agg #[.int .i64 (rnd way c (ten (s - t))), .int .i64 t], .bool true])) := by
  have HB := Lib.hid fun (wx : World) (hb : Below ((w.alloc (box c s)).alloc (box 0 0)).heap.size ((w.alloc (box c s)).alloc (box 0 0)) wx) => (Boxes.new w c s 0 0).call (lt_two w _ _) hb
  have CF := Lib.hid fun W => refFloor_any c (s - t) W ⟨by omega, by have := h.2.1; omega, h.2.2.1, h.2.2.2⟩
  have CT := Lib.hid fun W => refTen_any (s - t) W (by omega) (by have := h.2.1; omega)
  obtain ⟨h0, h9, hc0, hc1⟩ := h
  have b0 := ten_pos (s - t)
  have b6 := ten_le_nine (a := s - t) (by omega) (by omega)
  have e1 := rest_eq (u := ten (s - t)) c
  have fr := floor_room b0 c hc0 hc1
  have hq0 := quot_neg b0 c
  have b1 := Int.emod_nonneg c (show ten (s - t) ≠ 0 by omega)
  have b3 := Int.emod_lt_of_pos c b0
  have hz : c = 0 → c % ten (s - t) = 0 := fun h => by rw [h]; simp
  have m0 : -2000000000000000 ≤ c / ten (s - t) * ten (s - t) ∧ c / ten (s - t) * ten (s - t) ≤ 2000000000000000 := by omega
  unfold rnd
  generalize hR : c % ten (s - t) = r at *
  generalize hQ : c / ten (s - t) = q at *
  clear hR hQ
  generalize ten (s - t) = u at *
  have CS := Lib.hid fun W => refSize_any q W (by omega) (by omega)
  have ea : ((q.natAbs : Int) % 2 = 1 ↔ q % 2 = 1) ∧ 0 ≤ (q.natAbs : Int) ∧ (q.natAbs : Int) ≤ 1000000000000000 := by omega
  generalize (q.natAbs : Int) = a at *
  rcases (show way = 1 ∨ way = 2 ∨ way = 3 ∨ way = 4 ∨ way = 5 by omega) with rfl | rfl | rfl | rfl | rfl
  · rcases (show c < 0 ∨ 0 ≤ c by omega) with hc | hc <;>
    rcases (show r = 0 ∨ (0 < r ∧ 2 * r < u) ∨ (0 < r ∧ 2 * r = u) ∨ (0 < r ∧ u < 2 * r) by omega) with hr | ⟨hr, hh⟩ | ⟨hr, hh⟩ | ⟨hr, hh⟩
    all_goals (try (exfalso; omega))
    all_goals
      first
        | have hX : rq 1 q r u = q := by unfold rq; (try simp); (try ((repeat' split) <;> omega))
        | have hX : rq 1 q r u = q + 1 := by unfold rq; (try simp); (try ((repeat' split) <;> omega))
      rw [hX]
      have HX := Lib.hid hX
      clear hX hq0 hz
      go_enter Tryz.func22, Tryz.ntmps22
      go_upto_region 7 with (go_at_call 45; (with_reducible refine (CF.out _).mono ?_); rintro e w1 ⟨rfl, hb1⟩)
      have hBX := HB.out _ hb1
      have HBX := Lib.hid hBX
      obtain ⟨hb, x0, x1, r0, r1, f0, f1⟩ := hBX
      clear hb hb1
      go_wp2_with (first
        | (go_at_call 44; (with_reducible refine (CT.out _).mono ?_); rintro e w2 ⟨rfl, rfl⟩)
        | (go_at_call 25; (with_reducible refine (CS.out _).mono ?_); rintro e w2 ⟨rfl, rfl⟩))
      all_goals
        first
          | (obtain ⟨z0, z1⟩ := stored (wx := w1) HBX.out.r0 HBX.out.r1 (.int .i64 q) (.int .i64 t)
             refine bodyPost_ret (v := .tuple #[.agg #[.int .i64 q, .int .i64 t], .bool true]) ?_ rfl ⟨rfl, ?_⟩
             · simp [results, Tryz.results22, go_sem, z0, z1]
             · exact up_set (up_set HBX.out.below (Nat.le_succ _) _) (Nat.le_succ _) _)
          | (obtain ⟨z0, z1⟩ := stored (wx := w1) HBX.out.r0 HBX.out.r1 (.int .i64 (q + 1)) (.int .i64 t)
             refine bodyPost_ret (v := .tuple #[.agg #[.int .i64 (q + 1), .int .i64 t], .bool true]) ?_ rfl ⟨rfl, ?_⟩
             · simp [results, Tryz.results22, go_sem, z0, z1]
             · exact up_set (up_set HBX.out.below (Nat.le_succ _) _) (Nat.le_succ _) _)
  · rcases (show r = 0 ∨ (0 < r ∧ 2 * r < u) ∨ (0 < r ∧ 2 * r = u) ∨ (0 < r ∧ u < 2 * r) by omega) with hr | ⟨hr, hh⟩ | ⟨hr, hh⟩ | ⟨hr, hh⟩
    all_goals
      first
        | have hX : rq 2 q r u = q := by unfold rq; (try simp); (try ((repeat' split) <;> omega))
        | have hX : rq 2 q r u = q + 1 := by unfold rq; (try simp); (try ((repeat' split) <;> omega))
      rw [hX]
      have HX := Lib.hid hX
      clear hX hq0 hz
      go_enter Tryz.func22, Tryz.ntmps22
      go_upto_region 7 with (go_at_call 45; (with_reducible refine (CF.out _).mono ?_); rintro e w1 ⟨rfl, hb1⟩)
      have hBX := HB.out _ hb1
      have HBX := Lib.hid hBX
      obtain ⟨hb, x0, x1, r0, r1, f0, f1⟩ := hBX
      clear hb hb1
      go_wp2_with (first
        | (go_at_call 44; (with_reducible refine (CT.out _).mono ?_); rintro e w2 ⟨rfl, rfl⟩)
        | (go_at_call 25; (with_reducible refine (CS.out _).mono ?_); rintro e w2 ⟨rfl, rfl⟩))
      all_goals
        first
          | (obtain ⟨z0, z1⟩ := stored (wx := w1) HBX.out.r0 HBX.out.r1 (.int .i64 q) (.int .i64 t)
             refine bodyPost_ret (v := .tuple #[.agg #[.int .i64 q, .int .i64 t], .bool true]) ?_ rfl ⟨rfl, ?_⟩
             · simp [results, Tryz.results22, go_sem, z0, z1]
             · exact up_set (up_set HBX.out.below (Nat.le_succ _) _) (Nat.le_succ _) _)
          | (obtain ⟨z0, z1⟩ := stored (wx := w1) HBX.out.r0 HBX.out.r1 (.int .i64 (q + 1)) (.int .i64 t)
             refine bodyPost_ret (v := .tuple #[.agg #[.int .i64 (q + 1), .int .i64 t], .bool true]) ?_ rfl ⟨rfl, ?_⟩
             · simp [results, Tryz.results22, go_sem, z0, z1]
             · exact up_set (up_set HBX.out.below (Nat.le_succ _) _) (Nat.le_succ _) _)
  · rcases (show r = 0 ∨ (0 < r ∧ 2 * r < u) ∨ (0 < r ∧ 2 * r = u) ∨ (0 < r ∧ u < 2 * r) by omega) with hr | ⟨hr, hh⟩ | ⟨hr, hh⟩ | ⟨hr, hh⟩
    all_goals
      first
        | have hX : rq 3 q r u = q := by unfold rq; (try simp); (try ((repeat' split) <;> omega))
        | have hX : rq 3 q r u = q + 1 := by unfold rq; (try simp); (try ((repeat' split) <;> omega))
      rw [hX]
      have HX := Lib.hid hX
      clear hX hq0 hz
      go_enter Tryz.func22, Tryz.ntmps22
      go_upto_region 7 with (go_at_call 45; (with_reducible refine (CF.out _).mono ?_); rintro e w1 ⟨rfl, hb1⟩)
      have hBX := HB.out _ hb1
      have HBX := Lib.hid hBX
      obtain ⟨hb, x0, x1, r0, r1, f0, f1⟩ := hBX
      clear hb hb1
      go_wp2_with (first
        | (go_at_call 44; (with_reducible refine (CT.out _).mono ?_); rintro e w2 ⟨rfl, rfl⟩)
        | (go_at_call 25; (with_reducible refine (CS.out _).mono ?_); rintro e w2 ⟨rfl, rfl⟩))
      all_goals
        first
          | (obtain ⟨z0, z1⟩ := stored (wx := w1) HBX.out.r0 HBX.out.r1 (.int .i64 q) (.int .i64 t)
             refine bodyPost_ret (v := .tuple #[.agg #[.int .i64 q, .int .i64 t], .bool true]) ?_ rfl ⟨rfl, ?_⟩
             · simp [results, Tryz.results22, go_sem, z0, z1]
             · exact up_set (up_set HBX.out.below (Nat.le_succ _) _) (Nat.le_succ _) _)
          | (obtain ⟨z0, z1⟩ := stored (wx := w1) HBX.out.r0 HBX.out.r1 (.int .i64 (q + 1)) (.int .i64 t)
             refine bodyPost_ret (v := .tuple #[.agg #[.int .i64 (q + 1), .int .i64 t], .bool true]) ?_ rfl ⟨rfl, ?_⟩
             · simp [results, Tryz.results22, go_sem, z0, z1]
             · exact up_set (up_set HBX.out.below (Nat.le_succ _) _) (Nat.le_succ _) _)
  · rcases (show c ≤ 0 ∨ 0 < c by omega) with hc | hc <;>
    rcases (show r = 0 ∨ (0 < r ∧ 2 * r < u) ∨ (0 < r ∧ 2 * r = u) ∨ (0 < r ∧ u < 2 * r) by omega) with hr | ⟨hr, hh⟩ | ⟨hr, hh⟩ | ⟨hr, hh⟩
    all_goals (try (exfalso; omega))
    all_goals
      first
        | have hX : rq 4 q r u = q := by unfold rq; (try simp); (try ((repeat' split) <;> omega))
        | have hX : rq 4 q r u = q + 1 := by unfold rq; (try simp); (try ((repeat' split) <;> omega))
      rw [hX]
      have HX := Lib.hid hX
      clear hX hq0 hz
      go_enter Tryz.func22, Tryz.ntmps22
      go_upto_region 7 with (go_at_call 45; (with_reducible refine (CF.out _).mono ?_); rintro e w1 ⟨rfl, hb1⟩)
      have hBX := HB.out _ hb1
      have HBX := Lib.hid hBX
      obtain ⟨hb, x0, x1, r0, r1, f0, f1⟩ := hBX
      clear hb hb1
      go_wp2_with (first
        | (go_at_call 44; (with_reducible refine (CT.out _).mono ?_); rintro e w2 ⟨rfl, rfl⟩)
        | (go_at_call 25; (with_reducible refine (CS.out _).mono ?_); rintro e w2 ⟨rfl, rfl⟩))
      all_goals
        first
          | (obtain ⟨z0, z1⟩ := stored (wx := w1) HBX.out.r0 HBX.out.r1 (.int .i64 q) (.int .i64 t)
             refine bodyPost_ret (v := .tuple #[.agg #[.int .i64 q, .int .i64 t], .bool true]) ?_ rfl ⟨rfl, ?_⟩
             · simp [results, Tryz.results22, go_sem, z0, z1]
             · exact up_set (up_set HBX.out.below (Nat.le_succ _) _) (Nat.le_succ _) _)
          | (obtain ⟨z0, z1⟩ := stored (wx := w1) HBX.out.r0 HBX.out.r1 (.int .i64 (q + 1)) (.int .i64 t)
             refine bodyPost_ret (v := .tuple #[.agg #[.int .i64 (q + 1), .int .i64 t], .bool true]) ?_ rfl ⟨rfl, ?_⟩
             · simp [results, Tryz.results22, go_sem, z0, z1]
             · exact up_set (up_set HBX.out.below (Nat.le_succ _) _) (Nat.le_succ _) _)
  · rcases (show a % 2 = 0 ∨ a % 2 = 1 by omega) with ha | ha <;>
    rcases (show r = 0 ∨ (0 < r ∧ 2 * r < u) ∨ (0 < r ∧ 2 * r = u) ∨ (0 < r ∧ u < 2 * r) by omega) with hr | ⟨hr, hh⟩ | ⟨hr, hh⟩ | ⟨hr, hh⟩
    all_goals
      first
        | have hX : rq 5 q r u = q := by unfold rq; (try simp); (try ((repeat' split) <;> omega))
        | have hX : rq 5 q r u = q + 1 := by unfold rq; (try simp); (try ((repeat' split) <;> omega))
      rw [hX]
      have HX := Lib.hid hX
      clear hX hq0 hz
      go_enter Tryz.func22, Tryz.ntmps22
      go_upto_region 7 with (go_at_call 45; (with_reducible refine (CF.out _).mono ?_); rintro e w1 ⟨rfl, hb1⟩)
      have hBX := HB.out _ hb1
      have HBX := Lib.hid hBX
      obtain ⟨hb, x0, x1, r0, r1, f0, f1⟩ := hBX
      clear hb hb1
      go_wp2_with (first
        | (go_at_call 44; (with_reducible refine (CT.out _).mono ?_); rintro e w2 ⟨rfl, rfl⟩)
        | (go_at_call 25; (with_reducible refine (CS.out _).mono ?_); rintro e w2 ⟨rfl, rfl⟩))
      all_goals
        first
          | (obtain ⟨z0, z1⟩ := stored (wx := w1) HBX.out.r0 HBX.out.r1 (.int .i64 q) (.int .i64 t)
             refine bodyPost_ret (v := .tuple #[.agg #[.int .i64 q, .int .i64 t], .bool true]) ?_ rfl ⟨rfl, ?_⟩
             · simp [results, Tryz.results22, go_sem, z0, z1]
             · exact up_set (up_set HBX.out.below (Nat.le_succ _) _) (Nat.le_succ _) _)
          | (obtain ⟨z0, z1⟩ := stored (wx := w1) HBX.out.r0 HBX.out.r1 (.int .i64 (q + 1)) (.int .i64 t)
             refine bodyPost_ret (v := .tuple #[.agg #[.int .i64 (q + 1), .int .i64 t], .bool true]) ?_ rfl ⟨rfl, ?_⟩
             · simp [results, Tryz.results22, go_sem, z0, z1]
             · exact up_set (up_set HBX.out.below (Nat.le_succ _) _) (Nat.le_succ _) _)
end D
end Go.Proofs.YtehocgemgdbikaaGreatDoor
