/- The reference's text of a number in few digits; what lay in memory stays as it was. -/
import Derived.Test.YteipadljahkgoaaDoorShMath
import Derived.Test.YteipadljahkgoaaDoorKit
import Derived.Test.YteipadljahkgoaaDoorRefDigits
namespace Go.Proofs.YteipadljahkgoaaDoor
namespace Sh
open Go.RowKit D Ru

theorem unit_le {k : Nat} (h : k ≤ 4) : unitN k ≤ 1000000000000 := by
  unfold unitN
  rcases (show k = 0 ∨ k = 1 ∨ k = 2 ∨ k = 3 ∨ k = 4 by omega) with rfl | rfl | rfl | rfl | rfl <;> decide
theorem unit_ten {k : Nat} (h : 0 < k) : 0 < unitN k / 10 := by
  obtain ⟨j, rfl⟩ : ∃ j, k = j + 1 := ⟨k - 1, by omega⟩
  have := unit_pos j
  rw [unit_next]
  omega
/-- a quotient of numbers that are not below 0 -/
theorem quo_nat (n u : Nat) (hn : n ≤ 1000000000000000) : (n : Int).tdiv (u : Int) = ((n / u : Nat) : Int) ∧ (n : Int) / (u : Int) = ((n / u : Nat) : Int) ∧ IntKind.i64.wrap ((n / u : Nat) : Int) = ((n / u : Nat) : Int) ∧ wrap64 ((n / u : Nat) : Int) = ((n / u : Nat) : Int) := by
  refine ⟨by rw [Int.tdiv_eq_ediv_of_nonneg (by omega)]; rfl, rfl, ?_⟩
  have := Nat.div_le_self n u
  generalize n / u = q at *
  exact ⟨by rw [IntKind.wrap_i64]; omega, by unfold wrap64; omega⟩
theorem rem_nat (q : Nat) : (q : Int).tmod 10 = ((q % 10 : Nat) : Int) ∧ (q : Int) % 10 = ((q % 10 : Nat) : Int) ∧ IntKind.i64.wrap ((q % 10 : Nat) : Int) = ((q % 10 : Nat) : Int) ∧ wrap64 ((q % 10 : Nat) : Int) = ((q % 10 : Nat) : Int) := by
  refine ⟨by rw [Int.tmod_eq_emod_of_nonneg (by omega)]; rfl, rfl, ?_⟩
  exact ⟨by rw [IntKind.wrap_i64]; omega, by unfold wrap64; omega⟩
theorem mod_le (q : Nat) : q % 10 ≤ 1000000000000000 := by omega
theorem str_len (l : List UInt8) : (str l).size = l.length := by rw [D.ba_size, str_data]
theorem digits_small {n : Nat} (h : n ≤ 1000000000000000) : (Lib.decDigits n).length ≤ 20 := by rw [Lib.decDigits_length]; exact D.nDigits_le (by decide) (by omega)
set_option maxHeartbeats 4000000 in
set_option maxRecDepth 100000 in
theorem refShort_any (n : Nat) (w : World) (hn : n ≤ 1000000000000000) : Calls Tryd.prog 7 #[.int .i64 n] w (Gives w (.string (str (shortL n)))) := by
  have CD : Hid (∀ (m : Nat) (W : World), m ≤ 1000000000000000 → Calls Tryd.prog 10 #[.int .i64 m, .int .i64 0] W (Gives W (.string (str (Lib.decDigits m))))) := Lib.hid fun m W hm => by
    have := refDigits_any m 0 W (by omega) (by omega)
    rwa [pad_zero, show ((0 : Nat) : Int) = 0 from rfl] at this
  have HST : Hid (∀ k, k < 4 → (1000 ≤ n / unitN k ↔ k < rankN n)) := Lib.hid fun k hk => rank_step hk
  have hr4 := rank_le n
  have hB0 := Below.refl w.heap.size w
  go_enter Tryd.func7, Tryd.ntmps7
  go_wp2_with fail
  go_loop [3, 4] (fun u k => ∃ j : Nat, j ≤ rankN n ∧ k = .int .i64 j ∧ u = .int .i64 ((unitN j : Nat) : Int)) (fun _ k => 4 - (intOf k).toNat)
  case atStart => exact ⟨0, Nat.zero_le _, rfl, rfl⟩
  case round =>
    obtain ⟨j, hj, rfl, rfl⟩ := hrel
    have hu := unit_pos j
    have hu2 := unit_le (k := j) (by omega)
    obtain ⟨q1, q2, q3, q4⟩ := quo_nat n (unitN j) hn
    have hz : (((unitN j : Nat) : Int) == 0) = false := by rw [beq_eq_false_iff_ne]; omega
    have hz' : ¬ ((unitN j : Nat) : Int) = 0 := by omega
    by_cases hlt : j < rankN n
    · have h4 : (j : Int) < 4 := by omega
      have hq : (1000 : Int) ≤ ((n / unitN j : Nat) : Int) := by have := (HST.out j (by omega)).2 hlt; omega
      have hm : IntKind.i64.wrap (((unitN j : Nat) : Int) * 1000) = ((unitN (j + 1) : Nat) : Int) := by
        have := unit_le (k := j + 1) (by omega)
        rw [unit_next] at this ⊢
        rw [IntKind.wrap_i64]; omega
      clear hu hu2
      obtain ⟨v, hv⟩ : ∃ v, unitN (j + 1) = v := ⟨_, rfl⟩
      have HV := Lib.hid hv
      rw [hv] at hm
      clear hv
      generalize n / unitN j = q at *
      generalize unitN j = u at *
      go_wp2_with fail
      go_round
      case rel => exact ⟨j + 1, hlt, by go_num, by rw [HV.out]⟩
      case measure => simp [intOf]; omega
    · obtain rfl : j = rankN n := by omega
      have hg : Hid (rankN n < 4 → ¬ (1000 : Int) ≤ ((n / unitN (rankN n) : Nat) : Int)) := Lib.hid fun h hk => hlt ((HST.out _ h).1 (by omega))
      have HS : Hid (shortL n = Lib.decDigits (n / unitN (rankN n)) ++ (pointL n ++ letterL (rankN n))) := Lib.hid rfl
      have HP : Hid (pointL n = if 0 < rankN n ∧ n / unitN (rankN n) < 10 ∧ 0 < nextD n then [46] ++ Lib.decDigits (nextD n) else []) := Lib.hid rfl
      have HN : Hid (nextD n = n / (unitN (rankN n) / 10) % 10) := Lib.hid rfl
      clear hu hu2 q1 q2 q3 q4 hz hz' hlt hj
      generalize rankN n = r at *
      have hg' := hg.out
      clear hg
      rcases (show r = 0 ∨ r = 1 ∨ r = 2 ∨ r = 3 ∨ r = 4 by omega) with rfl | rfl | rfl | rfl | rfl
      · -- rank 0
        have hu : unitN 0 = 1 := rfl
        rw [hu] at HS HP HN hg' ⊢
        have hg2 := hg' (by omega)
        clear hg'
        obtain ⟨q1, q2, q3, q4⟩ := quo_nat n 1 hn
        simp only [show ((1 : Nat) : Int) = 1 from rfl] at q1 q2
        have CD0 := Lib.hid (fun W => CD.out (n / 1) W (Nat.le_trans (Nat.div_le_self n 1) hn))
        have hl0 := digits_small (n := n / 1) (Nat.le_trans (Nat.div_le_self n 1) hn)
        have hsz := str_len (Lib.decDigits (n / 1))
        have HT : Hid (str (shortL n) = str (Lib.decDigits (n / 1)) ++ ⟨#[]⟩) := Lib.hid (by
          rw [HS.out, HP.out, if_neg (fun h => by have := h.1; omega)]
          exact ba_ext (by simp [letterL, ByteArray.data_append]))
        clear HS HP HN CD hu hn HST
        generalize n / 1 = q at *
        generalize str (Lib.decDigits q) = D0 at *
        generalize str (shortL n) = ST at *
        have hs1 : ¬ 9223372036854775807 < D0.size := by omega
        go_wp2_with (go_at_call 10; (with_reducible refine (CD0.out _).mono ?_); rintro e w1 ⟨rfl, hb1⟩; dsimp only)
        go_ret
        exact ⟨ret_str (by first | exact HT.out.symm | (rw [HT.out]; rfl) | (rw [HT.out]; simp)), bel_alloc hb1 _⟩
      · -- rank 1
        have hg2 := hg' (by omega)
        clear hg'
        have ht0 := unit_ten (k := 1) (by decide)
        have hu0 := unit_pos 1
        obtain ⟨q1, q2, q3, q4⟩ := quo_nat n (unitN 1) hn
        obtain ⟨p1, p2, p3, p4⟩ := quo_nat n (unitN 1 / 10) hn
        obtain ⟨m1, m2, m3, m4⟩ := rem_nat (n / (unitN 1 / 10))
        obtain ⟨t1, t2, t3, t4⟩ := quo_nat (unitN 1) 10 (Nat.le_trans (unit_le (k := 1) (by decide)) (by decide))
        have CD0 := Lib.hid (fun W => CD.out (n / unitN 1) W (Nat.le_trans (Nat.div_le_self n _) hn))
        have CD1 := Lib.hid (fun W => CD.out (n / (unitN 1 / 10) % 10) W (mod_le _))
        have hl0 := digits_small (n := n / unitN 1) (Nat.le_trans (Nat.div_le_self n _) hn)
        have hl1 := digits_small (n := n / (unitN 1 / 10) % 10) (mod_le _)
        have hsz := str_len (Lib.decDigits (n / unitN 1))
        have hsz1 := str_len (Lib.decDigits (n / (unitN 1 / 10) % 10))
        have HS2 : Hid (str (shortL n) = if n / unitN 1 < 10 ∧ 0 < n / (unitN 1 / 10) % 10 then str (Lib.decDigits (n / unitN 1)) ++ ⟨#[46]⟩ ++ str (Lib.decDigits (n / (unitN 1 / 10) % 10)) ++ ⟨#[75]⟩ else str (Lib.decDigits (n / unitN 1)) ++ ⟨#[75]⟩) := Lib.hid (by
          rw [HS.out, HP.out, HN.out]
          by_cases h : n / unitN 1 < 10 ∧ 0 < n / (unitN 1 / 10) % 10
          · rw [if_pos h, if_pos ⟨by decide, h⟩]
            exact ba_ext (by simp [letterL, ByteArray.data_append])
          · rw [if_neg h, if_neg (fun k => h k.2)]
            exact ba_ext (by simp [letterL, ByteArray.data_append]))
        clear HS HP HN CD HST hn
        generalize str (shortL n) = ST at *
        simp only [show ((10 : Nat) : Int) = 10 from rfl] at t1 t2
        generalize unitN 1 / 10 = t at *
        generalize unitN 1 = u at *
        generalize n / u = q at *
        generalize n / t = d at *
        generalize d % 10 = d1 at *
        generalize str (Lib.decDigits q) = D0 at *
        generalize str (Lib.decDigits d1) = D1 at *
        have zu : ((u : Int) == 0) = false := by rw [beq_eq_false_iff_ne]; omega
        have zu' : ¬ (u : Int) = 0 := by omega
        have zt : ((t : Int) == 0) = false := by rw [beq_eq_false_iff_ne]; omega
        have zt' : ¬ (t : Int) = 0 := by omega
        have hs0 : ¬ 9223372036854775807 < D0.size + 1 := by omega
        have hs2 : ¬ 9223372036854775807 < D0.size + 1 + D1.size := by omega
        have hs3 : ¬ 9223372036854775807 < D0.size + 1 + D1.size + 1 := by omega
        clear hl0 hl1 hsz hsz1 ht0 hu0
        by_cases hq : q < 10
        · have hqi : (q : Int) < 10 := Int.ofNat_lt.2 hq
          by_cases hd : 0 < d1
          · have hdi : (0 : Int) < (d1 : Int) := Int.ofNat_lt.2 hd
            have hT0 := HS2.out
            rw [if_pos ⟨hq, hd⟩] at hT0
            have HT := Lib.hid hT0
            clear hT0 HS2
            go_wp2_with (first
              | (go_at_call 10; (with_reducible refine (CD0.out _).mono ?_); rintro e w1 ⟨rfl, hb1⟩; dsimp only)
              | (go_at_call 10; (with_reducible refine (CD1.out _).mono ?_); rintro e w2 ⟨rfl, hb2⟩; dsimp only))
            go_ret
            exact ⟨ret_str HT.out.symm, bel_alloc (bel_call hb1 hb2) _⟩
          · have hdi : ¬ (0 : Int) < (d1 : Int) := fun h => hd (Int.ofNat_lt.1 h)
            have hT0 := HS2.out
            rw [if_neg fun h => hd h.2] at hT0
            have HT := Lib.hid hT0
            clear hT0 HS2
            go_wp2_with (go_at_call 10; (with_reducible refine (CD0.out _).mono ?_); rintro e w1 ⟨rfl, hb1⟩; dsimp only)
            go_ret
            exact ⟨ret_str HT.out.symm, bel_alloc hb1 _⟩
        · have hqi : ¬ (q : Int) < 10 := fun h => hq (Int.ofNat_lt.1 h)
          have hT0 := HS2.out
          rw [if_neg fun h => hq h.1] at hT0
          have HT := Lib.hid hT0
          clear hT0 HS2
          go_wp2_with (go_at_call 10; (with_reducible refine (CD0.out _).mono ?_); rintro e w1 ⟨rfl, hb1⟩; dsimp only)
          go_ret
          exact ⟨ret_str HT.out.symm, bel_alloc hb1 _⟩
      · -- rank 2
        have hg2 := hg' (by omega)
        clear hg'
        have ht0 := unit_ten (k := 2) (by decide)
        have hu0 := unit_pos 2
        obtain ⟨q1, q2, q3, q4⟩ := quo_nat n (unitN 2) hn
        obtain ⟨p1, p2, p3, p4⟩ := quo_nat n (unitN 2 / 10) hn
        obtain ⟨m1, m2, m3, m4⟩ := rem_nat (n / (unitN 2 / 10))
        obtain ⟨t1, t2, t3, t4⟩ := quo_nat (unitN 2) 10 (Nat.le_trans (unit_le (k := 2) (by decide)) (by decide))
        have CD0 := Lib.hid (fun W => CD.out (n / unitN 2) W (Nat.le_trans (Nat.div_le_self n _) hn))
        have CD1 := Lib.hid (fun W => CD.out (n / (unitN 2 / 10) % 10) W (mod_le _))
        have hl0 := digits_small (n := n / unitN 2) (Nat.le_trans (Nat.div_le_self n _) hn)
        have hl1 := digits_small (n := n / (unitN 2 / 10) % 10) (mod_le _)
        have hsz := str_len (Lib.decDigits (n / unitN 2))
        have hsz1 := str_len (Lib.decDigits (n / (unitN 2 / 10) % 10))
        have HS2 : Hid (str (shortL n) = if n / unitN 2 < 10 ∧ 0 < n / (unitN 2 / 10) % 10 then str (Lib.decDigits (n / unitN 2)) ++ ⟨#[46]⟩ ++ str (Lib.decDigits (n / (unitN 2 / 10) % 10)) ++ ⟨#[77]⟩ else str (Lib.decDigits (n / unitN 2)) ++ ⟨#[77]⟩) := Lib.hid (by
          rw [HS.out, HP.out, HN.out]
          by_cases h : n / unitN 2 < 10 ∧ 0 < n / (unitN 2 / 10) % 10
          · rw [if_pos h, if_pos ⟨by decide, h⟩]
            exact ba_ext (by simp [letterL, ByteArray.data_append])
          · rw [if_neg h, if_neg (fun k => h k.2)]
            exact ba_ext (by simp [letterL, ByteArray.data_append]))
        clear HS HP HN CD HST hn
        generalize str (shortL n) = ST at *
        simp only [show ((10 : Nat) : Int) = 10 from rfl] at t1 t2
        generalize unitN 2 / 10 = t at *
        generalize unitN 2 = u at *
        generalize n / u = q at *
        generalize n / t = d at *
        generalize d % 10 = d1 at *
        generalize str (Lib.decDigits q) = D0 at *
        generalize str (Lib.decDigits d1) = D1 at *
        have zu : ((u : Int) == 0) = false := by rw [beq_eq_false_iff_ne]; omega
        have zu' : ¬ (u : Int) = 0 := by omega
        have zt : ((t : Int) == 0) = false := by rw [beq_eq_false_iff_ne]; omega
        have zt' : ¬ (t : Int) = 0 := by omega
        have hs0 : ¬ 9223372036854775807 < D0.size + 1 := by omega
        have hs2 : ¬ 9223372036854775807 < D0.size + 1 + D1.size := by omega
        have hs3 : ¬ 9223372036854775807 < D0.size + 1 + D1.size + 1 := by omega
        clear hl0 hl1 hsz hsz1 ht0 hu0
        by_cases hq : q < 10
        · have hqi : (q : Int) < 10 := Int.ofNat_lt.2 hq
          by_cases hd : 0 < d1
          · have hdi : (0 : Int) < (d1 : Int) := Int.ofNat_lt.2 hd
            have hT0 := HS2.out
            rw [if_pos ⟨hq, hd⟩] at hT0
            have HT := Lib.hid hT0
            clear hT0 HS2
            go_wp2_with (first
              | (go_at_call 10; (with_reducible refine (CD0.out _).mono ?_); rintro e w1 ⟨rfl, hb1⟩; dsimp only)
              | (go_at_call 10; (with_reducible refine (CD1.out _).mono ?_); rintro e w2 ⟨rfl, hb2⟩; dsimp only))
            go_ret
            exact ⟨ret_str HT.out.symm, bel_alloc (bel_call hb1 hb2) _⟩
          · have hdi : ¬ (0 : Int) < (d1 : Int) := fun h => hd (Int.ofNat_lt.1 h)
            have hT0 := HS2.out
            rw [if_neg fun h => hd h.2] at hT0
            have HT := Lib.hid hT0
            clear hT0 HS2
            go_wp2_with (go_at_call 10; (with_reducible refine (CD0.out _).mono ?_); rintro e w1 ⟨rfl, hb1⟩; dsimp only)
            go_ret
            exact ⟨ret_str HT.out.symm, bel_alloc hb1 _⟩
        · have hqi : ¬ (q : Int) < 10 := fun h => hq (Int.ofNat_lt.1 h)
          have hT0 := HS2.out
          rw [if_neg fun h => hq h.1] at hT0
          have HT := Lib.hid hT0
          clear hT0 HS2
          go_wp2_with (go_at_call 10; (with_reducible refine (CD0.out _).mono ?_); rintro e w1 ⟨rfl, hb1⟩; dsimp only)
          go_ret
          exact ⟨ret_str HT.out.symm, bel_alloc hb1 _⟩
      · -- rank 3
        have hg2 := hg' (by omega)
        clear hg'
        have ht0 := unit_ten (k := 3) (by decide)
        have hu0 := unit_pos 3
        obtain ⟨q1, q2, q3, q4⟩ := quo_nat n (unitN 3) hn
        obtain ⟨p1, p2, p3, p4⟩ := quo_nat n (unitN 3 / 10) hn
        obtain ⟨m1, m2, m3, m4⟩ := rem_nat (n / (unitN 3 / 10))
        obtain ⟨t1, t2, t3, t4⟩ := quo_nat (unitN 3) 10 (Nat.le_trans (unit_le (k := 3) (by decide)) (by decide))
        have CD0 := Lib.hid (fun W => CD.out (n / unitN 3) W (Nat.le_trans (Nat.div_le_self n _) hn))
        have CD1 := Lib.hid (fun W => CD.out (n / (unitN 3 / 10) % 10) W (mod_le _))
        have hl0 := digits_small (n := n / unitN 3) (Nat.le_trans (Nat.div_le_self n _) hn)
        have hl1 := digits_small (n := n / (unitN 3 / 10) % 10) (mod_le _)
        have hsz := str_len (Lib.decDigits (n / unitN 3))
        have hsz1 := str_len (Lib.decDigits (n / (unitN 3 / 10) % 10))
        have HS2 : Hid (str (shortL n) = if n / unitN 3 < 10 ∧ 0 < n / (unitN 3 / 10) % 10 then str (Lib.decDigits (n / unitN 3)) ++ ⟨#[46]⟩ ++ str (Lib.decDigits (n / (unitN 3 / 10) % 10)) ++ ⟨#[66]⟩ else str (Lib.decDigits (n / unitN 3)) ++ ⟨#[66]⟩) := Lib.hid (by
          rw [HS.out, HP.out, HN.out]
          by_cases h : n / unitN 3 < 10 ∧ 0 < n / (unitN 3 / 10) % 10
          · rw [if_pos h, if_pos ⟨by decide, h⟩]
            exact ba_ext (by simp [letterL, ByteArray.data_append])
          · rw [if_neg h, if_neg (fun k => h k.2)]
            exact ba_ext (by simp [letterL, ByteArray.data_append]))
        clear HS HP HN CD HST hn
        generalize str (shortL n) = ST at *
        simp only [show ((10 : Nat) : Int) = 10 from rfl] at t1 t2
        generalize unitN 3 / 10 = t at *
        generalize unitN 3 = u at *
        generalize n / u = q at *
        generalize n / t = d at *
        generalize d % 10 = d1 at *
        generalize str (Lib.decDigits q) = D0 at *
        generalize str (Lib.decDigits d1) = D1 at *
        have zu : ((u : Int) == 0) = false := by rw [beq_eq_false_iff_ne]; omega
        have zu' : ¬ (u : Int) = 0 := by omega
        have zt : ((t : Int) == 0) = false := by rw [beq_eq_false_iff_ne]; omega
        have zt' : ¬ (t : Int) = 0 := by omega
        have hs0 : ¬ 9223372036854775807 < D0.size + 1 := by omega
        have hs2 : ¬ 9223372036854775807 < D0.size + 1 + D1.size := by omega
        have hs3 : ¬ 9223372036854775807 < D0.size + 1 + D1.size + 1 := by omega
        clear hl0 hl1 hsz hsz1 ht0 hu0
        by_cases hq : q < 10
        · have hqi : (q : Int) < 10 := Int.ofNat_lt.2 hq
          by_cases hd : 0 < d1
          · have hdi : (0 : Int) < (d1 : Int) := Int.ofNat_lt.2 hd
            have hT0 := HS2.out
            rw [if_pos ⟨hq, hd⟩] at hT0
            have HT := Lib.hid hT0
            clear hT0 HS2
            go_wp2_with (first
              | (go_at_call 10; (with_reducible refine (CD0.out _).mono ?_); rintro e w1 ⟨rfl, hb1⟩; dsimp only)
              | (go_at_call 10; (with_reducible refine (CD1.out _).mono ?_); rintro e w2 ⟨rfl, hb2⟩; dsimp only))
            go_ret
            exact ⟨ret_str HT.out.symm, bel_alloc (bel_call hb1 hb2) _⟩
          · have hdi : ¬ (0 : Int) < (d1 : Int) := fun h => hd (Int.ofNat_lt.1 h)
            have hT0 := HS2.out
            rw [if_neg fun h => hd h.2] at hT0
            have HT := Lib.hid hT0
            clear hT0 HS2
            go_wp2_with (go_at_call 10; (with_reducible refine (CD0.out _).mono ?_); rintro e w1 ⟨rfl, hb1⟩; dsimp only)
            go_ret
            exact ⟨ret_str HT.out.symm, bel_alloc hb1 _⟩
        · have hqi : ¬ (q : Int) < 10 := fun h => hq (Int.ofNat_lt.1 h)
          have hT0 := HS2.out
          rw [if_neg fun h => hq h.1] at hT0
          have HT := Lib.hid hT0
          clear hT0 HS2
          go_wp2_with (go_at_call 10; (with_reducible refine (CD0.out _).mono ?_); rintro e w1 ⟨rfl, hb1⟩; dsimp only)
          go_ret
          exact ⟨ret_str HT.out.symm, bel_alloc hb1 _⟩
      · -- rank 4
        skip
        clear hg'
        have ht0 := unit_ten (k := 4) (by decide)
        have hu0 := unit_pos 4
        obtain ⟨q1, q2, q3, q4⟩ := quo_nat n (unitN 4) hn
        obtain ⟨p1, p2, p3, p4⟩ := quo_nat n (unitN 4 / 10) hn
        obtain ⟨m1, m2, m3, m4⟩ := rem_nat (n / (unitN 4 / 10))
        obtain ⟨t1, t2, t3, t4⟩ := quo_nat (unitN 4) 10 (Nat.le_trans (unit_le (k := 4) (by decide)) (by decide))
        have CD0 := Lib.hid (fun W => CD.out (n / unitN 4) W (Nat.le_trans (Nat.div_le_self n _) hn))
        have CD1 := Lib.hid (fun W => CD.out (n / (unitN 4 / 10) % 10) W (mod_le _))
        have hl0 := digits_small (n := n / unitN 4) (Nat.le_trans (Nat.div_le_self n _) hn)
        have hl1 := digits_small (n := n / (unitN 4 / 10) % 10) (mod_le _)
        have hsz := str_len (Lib.decDigits (n / unitN 4))
        have hsz1 := str_len (Lib.decDigits (n / (unitN 4 / 10) % 10))
        have HS2 : Hid (str (shortL n) = if n / unitN 4 < 10 ∧ 0 < n / (unitN 4 / 10) % 10 then str (Lib.decDigits (n / unitN 4)) ++ ⟨#[46]⟩ ++ str (Lib.decDigits (n / (unitN 4 / 10) % 10)) ++ ⟨#[84]⟩ else str (Lib.decDigits (n / unitN 4)) ++ ⟨#[84]⟩) := Lib.hid (by
          rw [HS.out, HP.out, HN.out]
          by_cases h : n / unitN 4 < 10 ∧ 0 < n / (unitN 4 / 10) % 10
          · rw [if_pos h, if_pos ⟨by decide, h⟩]
            exact ba_ext (by simp [letterL, ByteArray.data_append])
          · rw [if_neg h, if_neg (fun k => h k.2)]
            exact ba_ext (by simp [letterL, ByteArray.data_append]))
        clear HS HP HN CD HST hn
        generalize str (shortL n) = ST at *
        simp only [show ((10 : Nat) : Int) = 10 from rfl] at t1 t2
        generalize unitN 4 / 10 = t at *
        generalize unitN 4 = u at *
        generalize n / u = q at *
        generalize n / t = d at *
        generalize d % 10 = d1 at *
        generalize str (Lib.decDigits q) = D0 at *
        generalize str (Lib.decDigits d1) = D1 at *
        have zu : ((u : Int) == 0) = false := by rw [beq_eq_false_iff_ne]; omega
        have zu' : ¬ (u : Int) = 0 := by omega
        have zt : ((t : Int) == 0) = false := by rw [beq_eq_false_iff_ne]; omega
        have zt' : ¬ (t : Int) = 0 := by omega
        have hs0 : ¬ 9223372036854775807 < D0.size + 1 := by omega
        have hs2 : ¬ 9223372036854775807 < D0.size + 1 + D1.size := by omega
        have hs3 : ¬ 9223372036854775807 < D0.size + 1 + D1.size + 1 := by omega
        clear hl0 hl1 hsz hsz1 ht0 hu0
        by_cases hq : q < 10
        · have hqi : (q : Int) < 10 := Int.ofNat_lt.2 hq
          by_cases hd : 0 < d1
          · have hdi : (0 : Int) < (d1 : Int) := Int.ofNat_lt.2 hd
            have hT0 := HS2.out
            rw [if_pos ⟨hq, hd⟩] at hT0
            have HT := Lib.hid hT0
            clear hT0 HS2
            go_wp2_with (first
              | (go_at_call 10; (with_reducible refine (CD0.out _).mono ?_); rintro e w1 ⟨rfl, hb1⟩; dsimp only)
              | (go_at_call 10; (with_reducible refine (CD1.out _).mono ?_); rintro e w2 ⟨rfl, hb2⟩; dsimp only))
            go_ret
            exact ⟨ret_str HT.out.symm, bel_alloc (bel_call hb1 hb2) _⟩
          · have hdi : ¬ (0 : Int) < (d1 : Int) := fun h => hd (Int.ofNat_lt.1 h)
            have hT0 := HS2.out
            rw [if_neg fun h => hd h.2] at hT0
            have HT := Lib.hid hT0
            clear hT0 HS2
            go_wp2_with (go_at_call 10; (with_reducible refine (CD0.out _).mono ?_); rintro e w1 ⟨rfl, hb1⟩; dsimp only)
            go_ret
            exact ⟨ret_str HT.out.symm, bel_alloc hb1 _⟩
        · have hqi : ¬ (q : Int) < 10 := fun h => hq (Int.ofNat_lt.1 h)
          have hT0 := HS2.out
          rw [if_neg fun h => hq h.1] at hT0
          have HT := Lib.hid hT0
          clear hT0 HS2
          go_wp2_with (go_at_call 10; (with_reducible refine (CD0.out _).mono ?_); rintro e w1 ⟨rfl, hb1⟩; dsimp only)
          go_ret
          exact ⟨ret_str HT.out.symm, bel_alloc hb1 _⟩
end Sh
end Go.Proofs.YteipadljahkgoaaDoor
