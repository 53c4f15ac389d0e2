/- The program's Text of a number in few digits, and Parts; what lay in memory stays as it was. -/
import Derived.Test.YteipadljahkgoaaDoorShSays
import Derived.Test.YteipadljahkgoaaDoorPow10
import Derived.Deep.DeepCutAuto
import Derived.BigQuiet
namespace Go.Proofs.YteipadljahkgoaaDoor
namespace Sh
open Go.RowKit D Ru

/-- what is left of the last division by a thousand -/
def restN (n : Nat) : Nat → Nat
  | 0 => 0
  | j + 1 => n / unitN j % 1000
theorem div_next (n j : Nat) : n / unitN j / 1000 = n / unitN (j + 1) := by rw [unit_next, Nat.mul_comm, Nat.div_div_eq_div_mul]
theorem rest_digit (n j : Nat) : restN n (j + 1) / 100 = n / (unitN (j + 1) / 10) % 10 := by
  have e : unitN (j + 1) / 10 = unitN j * 100 := by rw [unit_next]; omega
  rw [e, ← Nat.div_div_eq_div_mul]
  show n / unitN j % 1000 / 100 = _
  generalize n / unitN j = q
  omega
/-- the point and the digit, of what the loop has left -/
theorem point_rest (n : Nat) : pointL n = if 10 ≤ n / unitN (rankN n) ∨ restN n (rankN n) / 100 = 0 then [] else 46 :: Lib.decDigits (restN n (rankN n) / 100) := by
  unfold pointL nextD
  generalize rankN n = r
  cases r with
  | zero =>
    rw [if_neg (fun h => by have := h.1; omega), if_pos (.inr (by show 0 / 100 = 0; omega))]
  | succ j =>
    rw [rest_digit]
    generalize n / (unitN (j + 1) / 10) % 10 = d
    generalize n / unitN (j + 1) = q
    by_cases h : 10 ≤ q ∨ d = 0
    · rw [if_pos h, if_neg (fun k => by omega)]
    · rw [if_neg h, if_pos ⟨by omega, by omega, by omega⟩]; rfl
theorem fits_any (n : Int) (w : World) : Calls Tryd.prog 12 #[.int .i64 n] w fun e w' => e = .returned (.bool (decide (NumOk n))) ∧ w = w' := by
  have hd : decide (NumOk n) = (decide (0 ≤ n) && decide (n ≤ 1000000000000000)) := by by_cases h1 : 0 ≤ n <;> by_cases h2 : n ≤ 1000000000000000 <;> simp [h1, h2, NumOk]
  rw [hd]
  by_cases h : 0 ≤ n
  · go_enter Tryd.func12, Tryd.ntmps12
    go_wp2_with fail
    go_ret
    exact ⟨ret_bool (by simp [h]), rfl⟩
  · go_enter Tryd.func12, Tryd.ntmps12
    go_wp2_with fail
    go_ret
    exact ⟨ret_bool (by simp; omega), rfl⟩
theorem itoa_nat (q : Nat) (w : World) (h : q ≤ 1000000000000000) (hP : Pow w) : Calls Tryd.prog 13 #[.int .i64 q] w (Gives w (.string (str (Lib.decDigits q)))) := by
  have := itoa_pow q w (by omega) (by omega) hP
  rwa [itoa_sign, if_neg (by omega), List.nil_append, Int.natAbs_natCast] at this
theorem str_size (l : List UInt8) : (str l).size = l.length := by rw [D.ba_size, str_data]
theorem str_plus (a b : List UInt8) : str a ++ str b = str (a ++ b) := ba_ext (by simp [ByteArray.data_append])
theorem dec_short {n : Nat} (h : n ≤ 1000000000000000) : (Lib.decDigits n).length ≤ 20 := by rw [Lib.decDigits_length]; exact D.nDigits_le (by decide) (by omega)
def partB (q r : Nat) : List UInt8 := if 10 ≤ q ∨ r / 100 = 0 then [] else 46 :: Lib.decDigits (r / 100)
theorem part_short (q r : Nat) (h : r < 1000) : (partB q r).length ≤ 30 := by
  unfold partB
  split
  · simp
  · have := dec_short (n := r / 100) (by omega)
    simp; omega
set_option maxHeartbeats 1000000 in
theorem part_any (q r : Nat) (w : World) (h : r < 1000) (hP : Pow w) : Calls Tryd.prog 14 #[.int .i64 q, .int .i64 r] w (Gives w (.string (str (partB q r)))) := by
  have hd : (r : Int).tdiv 100 = ((r / 100 : Nat) : Int) := by rw [Int.tdiv_eq_ediv_of_nonneg (by omega)]; rfl
  have hd2 : (r : Int) / 100 = ((r / 100 : Nat) : Int) := rfl
  have hw : IntKind.i64.wrap ((r / 100 : Nat) : Int) = ((r / 100 : Nat) : Int) := by rw [IntKind.wrap_i64]; omega
  have CI := Lib.hid fun W (hW : Below w.heap.size w W) => itoa_nat (r / 100) W (by omega) (hP.later hW)
  have hl := dec_short (n := r / 100) (by omega)
  have hs := str_size (Lib.decDigits (r / 100))
  have HT : Hid (str (partB q r) = if 10 ≤ q ∨ r / 100 = 0 then ⟨#[]⟩ else ⟨#[46]⟩ ++ str (Lib.decDigits (r / 100))) := Lib.hid (by
    unfold partB
    by_cases h : 10 ≤ q ∨ r / 100 = 0
    · rw [if_pos h, if_pos h]
    · rw [if_neg h, if_neg h]; exact ba_ext (by simp [ByteArray.data_append]))
  have hg : ¬ 9223372036854775807 < 1 + (str (Lib.decDigits (r / 100))).size := by omega
  clear hl hs h
  generalize str (partB q r) = T at *
  generalize str (Lib.decDigits (r / 100)) = D0 at *
  generalize r / 100 = d at *
  have hB0 := Below.refl w.heap.size w
  by_cases hq : 10 ≤ q
  · have hqi : (10 : Int) ≤ (q : Int) := by omega
    have e := HT.out
    rw [if_pos (.inl hq)] at e
    have HE := Lib.hid e
    clear e HT
    go_enter Tryd.func14, Tryd.ntmps14
    go_wp2_with fail
    go_ret
    exact ⟨by rw [HE.out]; rfl, hB0⟩
  · have hqi : ¬ (10 : Int) ≤ (q : Int) := by omega
    by_cases hz : d = 0
    · subst hz
      have e := HT.out
      rw [if_pos (.inr rfl)] at e
      have HE := Lib.hid e
      clear e HT
      go_enter Tryd.func14, Tryd.ntmps14
      go_wp2_with fail
      go_ret
      exact ⟨by rw [HE.out]; rfl, hB0⟩
    · have e := HT.out
      rw [if_neg (fun h => h.elim hq hz)] at e
      have hzi : ¬ (d : Int) = 0 := by omega
      have HE := Lib.hid e
      clear e HT hq hz
      go_enter Tryd.func14, Tryd.ntmps14
      go_wp2_with (go_at_call 13; (with_reducible refine (CI.out _ hB0).mono ?_); rintro e w1 ⟨rfl, hb1⟩)
      go_ret
      exact ⟨by rw [HE.out]; rfl, hb1⟩
theorem quo_k (q : Nat) (h : q ≤ 1000000000000000) : (q : Int).tdiv 1000 = ((q / 1000 : Nat) : Int) ∧ (q : Int) / 1000 = ((q / 1000 : Nat) : Int) ∧ IntKind.i64.wrap ((q / 1000 : Nat) : Int) = ((q / 1000 : Nat) : Int) ∧ wrap64 ((q / 1000 : Nat) : Int) = ((q / 1000 : Nat) : Int) :=
  ⟨by rw [Int.tdiv_eq_ediv_of_nonneg (by omega)]; rfl, rfl, by rw [IntKind.wrap_i64]; omega, by unfold wrap64; omega⟩
theorem rem_k (q : Nat) : (q : Int).tmod 1000 = ((q % 1000 : Nat) : Int) ∧ (q : Int) % 1000 = ((q % 1000 : Nat) : Int) ∧ IntKind.i64.wrap ((q % 1000 : Nat) : Int) = ((q % 1000 : Nat) : Int) ∧ wrap64 ((q % 1000 : Nat) : Int) = ((q % 1000 : Nat) : Int) :=
  ⟨by rw [Int.tmod_eq_emod_of_nonneg (by omega)]; rfl, rfl, by rw [IntKind.wrap_i64]; omega, by unfold wrap64; omega⟩
set_option maxHeartbeats 4000000 in
set_option maxRecDepth 100000 in
theorem text_yes (n : Nat) (w : World) (hn : n ≤ 1000000000000000) (hP : Pow w) : Calls Tryd.prog 6 #[.int .i64 n] w (TextY w (str (shortL n))) := by
  have CF := Lib.hid fun W => fits_any (n : Int) W
  have hok : decide (NumOk (n : Int)) = true := decide_eq_true ⟨by omega, by omega⟩
  rw [hok] at CF
  clear hok
  have HST : Hid (∀ k, k < 4 → (1000 ≤ n / unitN k ↔ k < rankN n)) := Lib.hid fun k hk => rank_step hk
  have hr4 := rank_le n
  have hB0 := Below.refl w.heap.size w
  have h0 : n / unitN 0 = n := Nat.div_one n
  have HD := Lib.hid fun j => div_next n j
  have HDL := Lib.hid fun j => Nat.div_le_self n (unitN j)
  have HR : Hid (∀ j, restN n (j + 1) = n / unitN j % 1000) := Lib.hid fun j => rfl
  have HR0 : Hid (restN n 0 = 0) := Lib.hid rfl
  have HS : Hid (shortL n = Lib.decDigits (n / unitN (rankN n)) ++ (partB (n / unitN (rankN n)) (restN n (rankN n)) ++ letterL (rankN n))) := Lib.hid (by
    show _ ++ (pointL n ++ _) = _
    rw [point_rest]; rfl)
  have HL : Hid (∀ j, restN n j < 1000) := Lib.hid fun j => by
    cases j with
    | zero => show 0 < 1000; decide
    | succ j => exact Nat.mod_lt _ (by decide)
  generalize restN n = R at *
  obtain ⟨Q, hQ⟩ : ∃ Q : Nat → Nat, Q = fun j => n / unitN j := ⟨_, rfl⟩
  have e1 : ∀ j, n / unitN j = Q j := fun j => by rw [hQ]
  simp only [e1] at HST HD HDL HR HS h0
  clear hQ e1
  subst h0
  generalize rankN (Q 0) = r at *
  go_enter Tryd.func6, Tryd.ntmps6
  go_upto_region 3 with (go_at_call 12; (with_reducible refine (CF.out _).mono ?_); rintro e w1 ⟨rfl, rfl⟩)
  go_wp2_with fail
  go_loop [0, 4, 5] (fun a k z => ∃ j : Nat, j ≤ r ∧ a = .int .i64 (Q j : Nat) ∧ k = .int .i64 j ∧ z = .int .i64 (R j : Nat)) (fun _ k _ => 4 - (intOf k).toNat)
  case atStart => exact ⟨0, Nat.zero_le _, rfl, rfl, by rw [HR0.out]; rfl⟩
  case round =>
    obtain ⟨j, hj, rfl, rfl, rfl⟩ := hrel
    by_cases hlt : j < r
    · have h4 : (j : Int) < 4 := by omega
      have hq : (1000 : Int) ≤ ((Q j : Nat) : Int) := by have := (HST.out j (by omega)).2 hlt; omega
      obtain ⟨q1, q2, q3, q4⟩ := quo_k (Q j) (Nat.le_trans (HDL.out j) hn)
      obtain ⟨m1, m2, m3, m4⟩ := rem_k (Q j)
      rw [HD.out j] at q1 q2 q3 q4
      rw [← HR.out j] at m1 m2 m3 m4
      clear hn
      go_wp2_with fail
      go_round
      case rel => exact ⟨j + 1, hlt, rfl, by go_num, rfl⟩
      case measure => simp [intOf]; omega
    · obtain rfl : j = r := by omega
      have hg : Hid (j < 4 → ¬ (1000 : Int) ≤ ((Q j : Nat) : Int)) := Lib.hid fun h hk => hlt ((HST.out _ h).1 (by omega))
      have CI := Lib.hid fun W (hW : Below w.heap.size w W) => itoa_nat (Q j) W (Nat.le_trans (HDL.out j) hn) (hP.later hW)
      have CP := Lib.hid fun W (hW : Below w.heap.size w W) => part_any (Q j) (R j) W (HL.out j) (hP.later hW)
      have l1 := dec_short (Nat.le_trans (HDL.out j) hn)
      have l2 := part_short (Q j) (R j) (HL.out j)
      have hs1 := str_size (Lib.decDigits (Q j))
      have hs2 := str_size (partB (Q j) (R j))
      have hs3 := ByteArray.size_append (a := str (Lib.decDigits (Q j))) (b := str (partB (Q j) (R j)))
      have HT : Hid (str (shortL (Q 0)) = str (Lib.decDigits (Q j)) ++ str (partB (Q j) (R j)) ++ str (letterL j)) := Lib.hid (by
        rw [HS.out, str_plus, str_plus, List.append_assoc])
      clear HS HST HD HDL HR HR0 HL hn hP hj hlt CF
      generalize str (shortL (Q 0)) = ST at *
      generalize str (Lib.decDigits (Q j)) = A at *
      generalize str (partB (Q j) (R j)) = B at *
      generalize Q j = q at *
      generalize R j = z at *
      have g1 : ¬ 9223372036854775807 < A.size + B.size := by omega
      have g2 : ¬ 9223372036854775807 < (A ++ B).size := by omega
      have g3 : ¬ 9223372036854775807 < (A ++ B).size + 1 := by omega
      clear hs1 hs2 hs3 l1 l2
      have hV : ∃ V, A ++ B = V := ⟨_, rfl⟩
      obtain ⟨V, hV⟩ := hV
      rw [hV] at HT g2 g3
      have hg' := hg.out
      clear hg
      have HX : Hid ((⟨#[75, 77, 66, 84]⟩ : ByteArray).extract (j - 1) j = str (letterL j)) := Lib.hid (by
        rcases (show j = 0 ∨ j = 1 ∨ j = 2 ∨ j = 3 ∨ j = 4 by omega) with rfl | rfl | rfl | rfl | rfl <;> rfl)
      have hxs : Hid ((str (letterL j)).size ≤ 1) := Lib.hid (by
        rcases (show j = 0 ∨ j = 1 ∨ j = 2 ∨ j = 3 ∨ j = 4 by omega) with rfl | rfl | rfl | rfl | rfl <;> decide)
      obtain ⟨m, hm⟩ : ∃ m, j - 1 = m := ⟨_, rfl⟩
      rw [hm] at HX
      have e1 : IntKind.i64.wrap ((j : Int) - 1) = (j : Int) - 1 := by rw [IntKind.wrap_i64]; omega
      have e2 : max ((j : Int) - 1) 0 = (m : Int) := by omega
      have hz : (⟨#[75, 77, 66, 84]⟩ : ByteArray).size = 4 := rfl
      have b0 : (0 : Int) ≤ (m : Int) := by omega
      have b1 : (m : Int) ≤ (j : Int) := by omega
      have b2 : (j : Int) ≤ 4 := by omega
      have b3 : m ≤ j := by omega
      generalize str (letterL j) = L at *
      have hLs : ¬ 9223372036854775807 < V.size + L.size := by have := hxs.out; omega
      have hj4 : min j 4 = j := by omega
      have hL1 : ¬ 9223372036854775807 < V.size + (j - m) := by omega
      have hL2 : ¬ 9223372036854775807 < V.size + (min j 4 - m) := by omega
      have hL3 : ¬ 9223372036854775807 < A.size + B.size + (j - m) := by rw [← ByteArray.size_append, hV]; exact hL1
      have hL4 : ¬ 9223372036854775807 < A.size + B.size + (min j 4 - m) := by rw [← ByteArray.size_append, hV]; exact hL2
      clear hm hr4 hxs g3
      have hgg : ¬ ((1000 : Int) ≤ (q : Int) ∧ (j : Int) < 4) := fun h => hg' (by omega) h.1
      have hpick : (decide ((1000 : Int) ≤ (q : Int)) && decide ((j : Int) < 4)) = false := by
        by_cases h : (1000 : Int) ≤ (q : Int)
        · rw [decide_eq_false (fun h4 => hgg ⟨h, h4⟩), Bool.and_false]
        · rw [decide_eq_false h, Bool.false_and]
      clear hg' hgg
      by_cases hq : (1000 : Int) ≤ (q : Int)
      · have h4 : ¬ (j : Int) < 4 := fun h => by simp [hq, h] at hpick
        clear hpick
        go_upto_region 7 with fail
        go_region_held3 (fun wx => Below w.heap.size w wx)
          (first | assumption | exact Below.drew (by assumption))
          (first
            | (go_at_call 13; (with_reducible refine (CI.out _ (by first | assumption | exact Below.drew (by assumption))).mono ?_); rintro e wy ⟨rfl, hby⟩; (have hTy : Below w.heap.size w wy := by first | exact up_call (by assumption) hby | exact up_call (Below.drew (by assumption)) hby))
            | (go_at_call 14; (with_reducible refine (CP.out _ (by first | assumption | exact Below.drew (by assumption))).mono ?_); rintro e wz ⟨rfl, hbz⟩; (have hTz : Below w.heap.size w wz := by first | exact up_call (by assumption) hbz | exact up_call (Below.drew (by assumption)) hbz)))
        all_goals
          go_wp2_with fail
          go_ret2
          exact ⟨by rw [HT.out, ← HX.out]; rfl, by first | assumption | exact Below.drew (by assumption)⟩
      · clear hpick
        go_upto_region 7 with fail
        go_region_held3 (fun wx => Below w.heap.size w wx)
          (first | assumption | exact Below.drew (by assumption))
          (first
            | (go_at_call 13; (with_reducible refine (CI.out _ (by first | assumption | exact Below.drew (by assumption))).mono ?_); rintro e wy ⟨rfl, hby⟩; (have hTy : Below w.heap.size w wy := by first | exact up_call (by assumption) hby | exact up_call (Below.drew (by assumption)) hby))
            | (go_at_call 14; (with_reducible refine (CP.out _ (by first | assumption | exact Below.drew (by assumption))).mono ?_); rintro e wz ⟨rfl, hbz⟩; (have hTz : Below w.heap.size w wz := by first | exact up_call (by assumption) hbz | exact up_call (Below.drew (by assumption)) hbz)))
        all_goals
          go_wp2_with fail
          go_ret2
          exact ⟨by rw [HT.out, ← HX.out]; rfl, by first | assumption | exact Below.drew (by assumption)⟩
theorem text_no (n : Int) (w : World) (h : ¬ NumOk n) : Calls Tryd.prog 6 #[.int .i64 n] w (TextN w 1) := by
  have CF := Lib.hid fun W => fits_any n W
  rw [decide_eq_false h] at CF
  go_enter Tryd.func6, Tryd.ntmps6
  go_wp2_with (go_at_call 12; (with_reducible refine (CF.out _).mono ?_); rintro e w1 ⟨rfl, rfl⟩)
  go_ret2
  exact ⟨rfl, Below.refl _ _⟩
theorem text_ok (w : World) (hP : Pow w) : TextOk w := fun n W hW => by
  by_cases h : NumOk n
  · obtain ⟨k, rfl⟩ : ∃ k : Nat, n = k := ⟨n.toNat, by have := h.1; omega⟩
    have := text_yes k W (by have := h.2; omega) (hP.later hW)
    rw [show shT (k : Int) = shortL k from if_pos h, show shF (k : Int) = 0 from if_pos h]
    exact this
  · rw [show shT n = [] from if_neg h, show shF n = 1 from if_neg h]
    exact text_no n W h
/-! ### Parts -/
theorem parts_any (n u : Int) (w : World) : Calls Tryd.prog 9 #[.int .i64 n, .int .i64 u] w (Gives w (.tuple #[.int .i64 (paQ n u), .int .i64 (paR n u), errV (paF n u)])) := by
  have CF := Lib.hid fun W => fits_any n W
  have hB0 := Below.refl w.heap.size w
  by_cases h : NumOk n
  · rw [decide_eq_true h] at CF
    by_cases hu : UnitOk u
    · have a1 : paQ n u = n.tdiv u := if_pos ⟨h, hu⟩
      have a2 : paR n u = n.tmod u := if_pos ⟨h, hu⟩
      have a3 : paF n u = 0 := if_pos ⟨h, hu⟩
      rw [a1, a2, a3, show errV 0 = .nilIface from rfl]
      clear a1 a2 a3
      obtain ⟨n, rfl⟩ : ∃ k : Nat, n = k := ⟨n.toNat, by have := h.1; omega⟩
      obtain ⟨u, rfl⟩ : ∃ k : Nat, u = k := ⟨u.toNat, by have := hu.1; omega⟩
      have hn : n ≤ 1000000000000000 := by have := h.2; omega
      have u1 : ¬ (u : Int) < 1 := by have := hu.1; omega
      have u2 : ¬ (1000000 : Int) < (u : Int) := by have := hu.2; omega
      have zu : ((u : Int) == 0) = false := by rw [beq_eq_false_iff_ne]; omega
      have zu' : ¬ (u : Int) = 0 := by omega
      have q0 := Nat.div_le_self n u
      have m0 := Nat.mod_le n u
      have q1 : (n : Int).tdiv (u : Int) = ((n / u : Nat) : Int) := by rw [Int.tdiv_eq_ediv_of_nonneg (by omega)]; rfl
      have m1 : (n : Int).tmod (u : Int) = ((n % u : Nat) : Int) := by rw [Int.tmod_eq_emod_of_nonneg (by omega)]; rfl
      have q2 : IntKind.i64.wrap ((n / u : Nat) : Int) = ((n / u : Nat) : Int) := by generalize n / u = q at *; rw [IntKind.wrap_i64]; omega
      have m2 : IntKind.i64.wrap ((n % u : Nat) : Int) = ((n % u : Nat) : Int) := by generalize n % u = q at *; rw [IntKind.wrap_i64]; omega
      rw [q1, m1]
      have q3 : (n : Int) / (u : Int) = ((n / u : Nat) : Int) := rfl
      have m3 : (n : Int) % (u : Int) = ((n % u : Nat) : Int) := rfl
      clear q0 m0 h hu hn
      generalize n / u = q at *
      generalize n % u = m at *
      go_enter Tryd.func9, Tryd.ntmps9
      go_upto_region 3 with (go_at_call 12; (with_reducible refine (CF.out _).mono ?_); rintro e w1 ⟨rfl, rfl⟩)
      go_quiet (fail)
      go_wp2_with fail
      go_ret3
      exact ⟨rfl, up_drewN hB0 _⟩
    · have a1 : paQ n u = 0 := if_neg fun h => hu h.2
      have a2 : paR n u = 0 := if_neg fun h => hu h.2
      have a3 : paF n u = 1 := if_neg fun h => hu h.2
      rw [a1, a2, a3, show errV 1 = .iface 26 (.int .i64 1) from rfl]
      clear a1 a2 a3
      by_cases u1 : u < 1
      · clear hu h
        go_enter Tryd.func9, Tryd.ntmps9
        go_wp2_with (go_at_call 12; (with_reducible refine (CF.out _).mono ?_); rintro e w1 ⟨rfl, rfl⟩)
        go_ret3
        exact ⟨rfl, hB0⟩
      · have u2 : (1000000 : Int) < u := by
          rcases Int.lt_or_le 1000000 u with h | h
          · exact h
          · exact absurd ⟨by omega, h⟩ hu
        clear hu h
        go_enter Tryd.func9, Tryd.ntmps9
        go_wp2_with (go_at_call 12; (with_reducible refine (CF.out _).mono ?_); rintro e w1 ⟨rfl, rfl⟩)
        go_ret3
        exact ⟨rfl, hB0⟩
  · rw [decide_eq_false h] at CF
    have a1 : paQ n u = 0 := if_neg fun k => h k.1
    have a2 : paR n u = 0 := if_neg fun k => h k.1
    have a3 : paF n u = 1 := if_neg fun k => h k.1
    rw [a1, a2, a3, show errV 1 = .iface 26 (.int .i64 1) from rfl]
    clear a1 a2 a3 h
    go_enter Tryd.func9, Tryd.ntmps9
    go_wp2_with (go_at_call 12; (with_reducible refine (CF.out _).mono ?_); rintro e w1 ⟨rfl, rfl⟩)
    go_ret3
    exact ⟨rfl, hB0⟩
theorem parts_ok (w : World) : PartsOk w := fun n u W _ => parts_any n u W
end Sh
end Go.Proofs.YteipadljahkgoaaDoor
