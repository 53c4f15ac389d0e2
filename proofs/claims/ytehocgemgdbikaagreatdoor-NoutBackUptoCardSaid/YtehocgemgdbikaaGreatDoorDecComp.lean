/- The program's Less and Same of two numbers: their values are compared; what lay in memory stays as it was. -/
import Derived.Test.YtehocgemgdbikaaGreatDoorDecGround
import Derived.Test.YtehocgemgdbikaaGreatDoorDecTens
import Derived.Deep.RegionHeld3
import Derived.Deep.DeepCutAuto
import Derived.Deep.DrawnRows
namespace Go.Proofs.YtehocgemgdbikaaGreatDoor
namespace D
open Go.RowKit
attribute [local go_sem ↓] Go.wp_at_zero Go.wp_at_succ

/-- the first that is not nought, of two -/
theorem or_two (g : Nat) (x y : Int) (w : World) (h0 : w.cell? ⟨g, 0, none⟩ = some (.int .i64 x)) (h1 : w.cell? ⟨g, 1, none⟩ = some (.int .i64 y)) :
    Calls Tryz.prog 66 #[.slice (some ⟨g, 0, none⟩) 2 2] w fun e w' => e = .returned (.int .i64 (if x = 0 then y else x)) ∧ w = w' := by
  go_enter Tryz.func66, Tryz.ntmps66
  go_wp2_with fail
  go_loopw [8] (fun i wr => ∃ k : Nat, k ≤ 2 ∧ i = .int .i64 k ∧ w = wr ∧ (1 ≤ k → x = 0) ∧ (2 ≤ k → y = 0)) (fun i _ => 2 - (intOf i).toNat)
  case atStart => exact ⟨0, by omega, rfl, rfl, by omega, by omega⟩
  case round =>
    obtain ⟨k, hk, rfl, rfl, hx, hy⟩ := hrel
    rcases (show k = 0 ∨ k = 1 ∨ k = 2 by omega) with rfl | rfl | rfl
    · by_cases hz : x = 0
      · subst hz
        go_wp2_with fail
        go_roundw
        case rel => refine ⟨1, by omega, rfl, ?_⟩; simp
        case measure => simp [intOf]
      · have hz0 : (x == 0) = false := by simpa using hz
        go_wp2_with fail
        go_ret
        exact ⟨ret_int (by simp), rfl⟩
    · obtain rfl := hx (by omega)
      by_cases hz : y = 0
      · subst hz
        go_wp2_with fail
        go_roundw
        case rel => refine ⟨2, by omega, rfl, ?_⟩; simp
        case measure => simp [intOf]
      · have hz0 : (y == 0) = false := by simpa using hz
        go_wp2_with fail
        go_ret
        exact ⟨ret_int (by simp), rfl⟩
    · obtain rfl := hx (by omega)
      obtain rfl := hy (by omega)
      go_wp2_with fail
      go_ret
      exact ⟨ret_int (by simp), rfl⟩

/-- what lies ahead of the point, and behind it in nine digits -/
def whole (c s : Int) : Int := c.tdiv (ten s)
def part (c s : Int) : Int := c.tmod (ten s) * ten (9 - s)
theorem part_val {c s : Int} (h : Right c s) : val c s = whole c s * 1000000000 + part c s ∧ -1000000000 < part c s ∧ part c s < 1000000000 ∧ (0 < whole c s → 0 ≤ part c s) ∧ (whole c s < 0 → part c s ≤ 0) := by
  obtain ⟨h0, h9, _, _⟩ := h
  have b := ten_pos s
  have b' := ten_pos (9 - s)
  have e : ten s * ten (9 - s) = 1000000000 := by rw [← ten_add h0 (by omega), show s + (9 - s) = 9 by omega]; rfl
  have hd := Int.mul_tdiv_add_tmod c (ten s)
  obtain ⟨r0, r1, r2, r3⟩ := go_rest b c
  have hsg : (0 < c.tdiv (ten s) → 0 ≤ c.tmod (ten s)) ∧ (c.tdiv (ten s) < 0 → c.tmod (ten s) ≤ 0) := by
    constructor
    · intro h
      have : 0 ≤ c := by
        rcases Int.lt_or_le c 0 with h' | h'
        · have := r3 (by omega); omega
        · exact h'
      exact Int.tmod_nonneg _ this
    · intro h
      have : c ≤ 0 := by
        rcases Int.lt_or_le 0 c with h' | h'
        · have := r2 (by omega); omega
        · exact h'
      have h2 := Int.tmod_nonneg (ten s) (show 0 ≤ -c by omega)
      rw [Int.neg_tmod] at h2
      omega
  unfold val whole part
  generalize c.tdiv (ten s) = q at *
  generalize c.tmod (ten s) = r at *
  have hp1 : r * ten (9 - s) < 1000000000 := by
    rw [← e]; exact Int.mul_lt_mul_of_pos_right r1 b'
  have hp0 : -1000000000 < r * ten (9 - s) := by
    have := Int.mul_lt_mul_of_pos_right r0 b'
    rw [Int.neg_mul, e] at this
    exact this
  refine ⟨?_, hp0, hp1, fun h => Int.mul_nonneg (hsg.1 h) (by omega), fun h => Int.mul_nonpos_of_nonpos_of_nonneg (hsg.2 h) (by omega)⟩
  rw [← hd, Int.add_mul, ← e, Int.mul_comm (ten s) q, Int.mul_assoc]

set_option maxHeartbeats 1000000 in
theorem split_any (c s : Int) (w : World) (h : Right c s) : Calls Tryz.prog 65 #[.agg #[.int .i64 c, .int .i64 s]] w (Gives w (.tuple #[.int .i64 (whole c s), .int .i64 (part c s)])) := by
  have hb : Below w.heap.size w (w.alloc (box c s)) := up_alloc (Below.refl _ _) _
  have HT : Hid (∀ W : World, Calls Tryz.prog 39 #[.int .i64 s] W fun e w' => e = .returned (.int .i64 (ten s)) ∧ W = w') := Lib.hid fun W => tens_any s W h.1 h.2.1
  have HU : Hid (∀ W : World, Calls Tryz.prog 39 #[.int .i64 (9 - s)] W fun e w' => e = .returned (.int .i64 (ten (9 - s))) ∧ W = w') := Lib.hid fun W => tens_any (9 - s) W (by have := h.2.1; omega) (by have := h.1; omega)
  obtain ⟨pv, p0, p1, _, _⟩ := part_val h
  clear pv
  obtain ⟨h0, h9, hc0, hc1⟩ := h
  have b0 := ten_pos s
  have b1 := ten_le_nine h0 h9
  have b2 := ten_pos (9 - s)
  have b3 := ten_le_nine (a := 9 - s) (by omega) (by omega)
  obtain ⟨r0, r1, r2, r3⟩ := go_rest b0 c
  have q0 : -1000000000000000 ≤ c.tdiv (ten s) ∧ c.tdiv (ten s) ≤ 1000000000000000 := by omega
  clear r2 r3
  unfold whole part at *
  generalize ten s = u at *
  generalize ten (9 - s) = v at *
  generalize hQ : c.tdiv u = q at *
  generalize hR : c.tmod u = r at *
  have hu0 : (u == 0) = false := by simp; omega
  go_enter Tryz.func65, Tryz.ntmps65
  go_wp2_with (go_at_call 39; (with_reducible refine (HT.out _).mono ?_); rintro e w' ⟨rfl, rfl⟩)
  go_quiet (first | (go_at_call 39; exact quiet_same HU.out _ _))
  go_wp2_with fail
  go_ret2
  exact ⟨rfl, up_drewN hb _⟩

/-- how two values stand to each other -/
def ord (c s d t : Int) : Int := if val c s < val d t then -1 else if val d t < val c s then 1 else 0
theorem ord_eq {c s d t : Int} (h : Right c s) (h' : Right d t) :
    (if (if whole c s < whole d t then -1 else if whole d t < whole c s then 1 else (0 : Int)) = 0 then (if part c s < part d t then -1 else if part d t < part c s then 1 else (0 : Int)) else (if whole c s < whole d t then -1 else if whole d t < whole c s then 1 else (0 : Int))) = ord c s d t := by
  obtain ⟨e1, a0, a1, a2, a3⟩ := part_val h
  obtain ⟨e2, c0, c1, c2, c3⟩ := part_val h'
  unfold ord
  rw [e1, e2]
  generalize whole c s = q at *
  generalize part c s = r at *
  generalize whole d t = q' at *
  generalize part d t = r' at *
  (repeat' split) <;> omega
set_option maxHeartbeats 4000000 in
theorem compare_any (c s d t : Int) (w : World) (h : Right c s) (h' : Right d t) :
    Calls Tryz.prog 42 #[.agg #[.int .i64 c, .int .i64 s], .agg #[.int .i64 d, .int .i64 t]] w (Gives w (.int .i64 (ord c s d t))) := by
  have HS : Hid (∀ W : World, Calls Tryz.prog 65 #[.agg #[.int .i64 c, .int .i64 s]] W (Gives W (.tuple #[.int .i64 (whole c s), .int .i64 (part c s)]))) := Lib.hid fun W => split_any c s W h
  have HS' : Hid (∀ W : World, Calls Tryz.prog 65 #[.agg #[.int .i64 d, .int .i64 t]] W (Gives W (.tuple #[.int .i64 (whole d t), .int .i64 (part d t)]))) := Lib.hid fun W => split_any d t W h'
  have HC := Lib.hid fun W => cmp_any (whole c s) (whole d t) W
  have HC' := Lib.hid fun W => cmp_any (part c s) (part d t) W
  have HE := Lib.hid (ord_eq h h')
  have hb : Below w.heap.size w ((w.alloc (box c s)).alloc (box d t)) := up_alloc (up_alloc (Below.refl _ _) _) _
  have hlt : w.heap.size < ((w.alloc (box c s)).alloc (box d t)).heap.size := by simp; omega
  clear h h'
  generalize (if whole c s < whole d t then -1 else if whole d t < whole c s then 1 else (0 : Int)) = x at *
  generalize (if part c s < part d t then -1 else if part d t < part c s then 1 else (0 : Int)) = y at *
  generalize whole c s = q at *
  generalize part c s = r at *
  generalize whole d t = q' at *
  generalize part d t = r' at *
  generalize ord c s d t = o at *
  have z0 : ((w.alloc (box c s)).alloc (box d t)).cell? ⟨w.heap.size + 1, 0, none⟩ = some (.int .i64 d) := by simp
  have z1 : ((w.alloc (box c s)).alloc (box d t)).cell? ⟨w.heap.size + 1, 1, none⟩ = some (.int .i64 t) := by simp
  have Z0 := Lib.hid z0
  have Z1 := Lib.hid z1
  clear z0 z1
  go_enter Tryz.func42, Tryz.ntmps42
  go_upto_region 2 with (first
    | (go_at_call 65; (with_reducible refine (HS.out _).mono ?_); rintro e w1 ⟨rfl, hb1⟩; dsimp only))
  have y0 := (hb1.cell (p := ⟨w.heap.size + 1, 0, none⟩) (by simp)).trans Z0.out
  have y1 := (hb1.cell (p := ⟨w.heap.size + 1, 1, none⟩) (by simp)).trans Z1.out
  have hb' := up_call hb hb1
  clear hb hb1
  go_upto_region 3 with (first
    | (go_at_call 65; (with_reducible refine (HS'.out _).mono ?_); rintro e w2 ⟨rfl, hb2⟩; dsimp only))
  have hb3 := up_call hb' hb2
  clear hb' hb2 y0 y1
  go_wp2_with (first
    | (go_at_call 63; (with_reducible refine (HC.out _).mono ?_); rintro e w' ⟨rfl, rfl⟩)
    | (go_at_call 63; (with_reducible refine (HC'.out _).mono ?_); rintro e w' ⟨rfl, rfl⟩)
    | (go_at_call 66; (with_reducible refine (or_two w2.heap.size x y _ (by simp) (by simp)).mono ?_); rintro e w' ⟨rfl, rfl⟩))
  all_goals
    go_ret
    exact ⟨ret_int (by have e := HE.out; (repeat' split at e) <;> omega), up_alloc hb3 _⟩
/-- whether both fit -/
def fit (c s d t : Int) : Bool := decide (Right c s ∧ Right d t)
set_option maxHeartbeats 4000000 in
theorem bothFit_any (c s d t : Int) (w : World) :
    Calls Tryz.prog 41 #[.agg #[.int .i64 c, .int .i64 s], .agg #[.int .i64 d, .int .i64 t]] w (Gives w (.bool (fit c s d t))) := by
  have hb : Below w.heap.size w ((w.alloc (box c s)).alloc (box d t)) := up_alloc (up_alloc (Below.refl _ _) _) _
  have z0 : ((w.alloc (box c s)).alloc (box d t)).cell? ⟨w.heap.size + 1, 0, none⟩ = some (.int .i64 d) := by simp
  have z1 : ((w.alloc (box c s)).alloc (box d t)).cell? ⟨w.heap.size + 1, 1, none⟩ = some (.int .i64 t) := by simp
  have Z0 := Lib.hid z0
  have Z1 := Lib.hid z1
  clear z0 z1
  have C1 := Lib.hid fun W => check_any c s W
  have C2 := Lib.hid fun W => check_any d t W
  by_cases h1 : Right c s <;> by_cases h2 : Right d t
  all_goals
    first
      | (have e1 := fault_ok h1; simp only [e1, errV_zero] at C1)
      | (have e1 := fault_no h1; simp only [e1, errV_one] at C1)
    first
      | (have e2 := fault_ok h2; simp only [e2, errV_zero] at C2)
      | (have e2 := fault_no h2; simp only [e2, errV_one] at C2)
    have HF : fit c s d t = decide (Right c s ∧ Right d t) := rfl
    simp only [h1, h2] at HF
    rw [HF]
    clear HF h1 h2
    go_enter Tryz.func41, Tryz.ntmps41
    go_wp2_with (first
      | (go_at_call 36; (with_reducible refine (C1.out _).mono ?_); rintro e w1 ⟨rfl, hb1⟩; have y0 := (hb1.cell (p := ⟨w.heap.size + 1, 0, none⟩) (by simp)).trans Z0.out; have y1 := (hb1.cell (p := ⟨w.heap.size + 1, 1, none⟩) (by simp)).trans Z1.out)
      | (go_at_call 36; (with_reducible refine (C2.out _).mono ?_); rintro e w2 ⟨rfl, hb2⟩))
    go_ret
    first
      | exact ⟨rfl, up_call (up_call hb hb1) hb2⟩
      | exact ⟨rfl, up_call hb hb1⟩
def sameB (c s d t : Int) : Bool := decide (Right c s ∧ Right d t ∧ val c s = val d t)
set_option maxHeartbeats 4000000 in
theorem same_any (c s d t : Int) (w : World) :
    Calls Tryz.prog 16 #[.agg #[.int .i64 c, .int .i64 s], .agg #[.int .i64 d, .int .i64 t]] w (Gives w (.bool (sameB c s d t))) := by
  have hb : Below w.heap.size w ((w.alloc (box c s)).alloc (box d t)) := up_alloc (up_alloc (Below.refl _ _) _) _
  have z0 : ((w.alloc (box c s)).alloc (box d t)).cell? ⟨w.heap.size, 0, none⟩ = some (.int .i64 c) := by simp
  have z1 : ((w.alloc (box c s)).alloc (box d t)).cell? ⟨w.heap.size, 1, none⟩ = some (.int .i64 s) := by simp
  have z2 : ((w.alloc (box c s)).alloc (box d t)).cell? ⟨w.heap.size + 1, 0, none⟩ = some (.int .i64 d) := by simp
  have z3 : ((w.alloc (box c s)).alloc (box d t)).cell? ⟨w.heap.size + 1, 1, none⟩ = some (.int .i64 t) := by simp
  have Z0 := Lib.hid z0
  have Z1 := Lib.hid z1
  have Z2 := Lib.hid z2
  have Z3 := Lib.hid z3
  clear z0 z1 z2 z3
  have C1 := Lib.hid fun W => bothFit_any c s d t W
  by_cases h : Right c s ∧ Right d t
  · have C2 := Lib.hid fun W => compare_any c s d t W h.1 h.2
    have e1 : fit c s d t = true := decide_eq_true h
    rw [e1] at C1
    have e2 : sameB c s d t = decide (ord c s d t = 0) := by
      unfold sameB ord
      simp only [h.1, h.2, true_and]
      rcases (show val c s < val d t ∨ val d t < val c s ∨ val c s = val d t by omega) with h' | h' | h' <;> simp [h'] <;> omega
    rw [e2]
    clear h e1 e2
    generalize ord c s d t = o at *
    by_cases ho : o = 0
    all_goals
      try (have ho0 : (o == 0) = true := by simp; omega)
      try (have ho0 : (o == 0) = false := by simp; omega)
      go_enter Tryz.func16, Tryz.ntmps16
      go_wp2_with (first
        | (go_at_call 41; (with_reducible refine (C1.out _).mono ?_); rintro e w1 ⟨rfl, hb1⟩; have y0 := (hb1.cell (p := ⟨w.heap.size, 0, none⟩) (by simp; omega)).trans Z0.out; have y1 := (hb1.cell (p := ⟨w.heap.size, 1, none⟩) (by simp; omega)).trans Z1.out; have y2 := (hb1.cell (p := ⟨w.heap.size + 1, 0, none⟩) (by simp)).trans Z2.out; have y3 := (hb1.cell (p := ⟨w.heap.size + 1, 1, none⟩) (by simp)).trans Z3.out)
        | (go_at_call 42; (with_reducible refine (C2.out _).mono ?_); rintro e w2 ⟨rfl, hb2⟩))
      go_ret
      exact ⟨ret_bool (by simp [ho]), up_call (up_call hb hb1) hb2⟩
  · have e1 : fit c s d t = false := decide_eq_false h
    rw [e1] at C1
    have e2 : sameB c s d t = false := decide_eq_false fun h' => h ⟨h'.1, h'.2.1⟩
    rw [e2]
    clear h e1 e2
    go_enter Tryz.func16, Tryz.ntmps16
    go_wp2_with (go_at_call 41; (with_reducible refine (C1.out _).mono ?_); rintro e w1 ⟨rfl, hb1⟩)
    go_ret
    exact ⟨rfl, up_call hb hb1⟩
end D
end Go.Proofs.YtehocgemgdbikaaGreatDoor
