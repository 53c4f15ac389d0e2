/- The program's Check of a pattern. -/
import Derived.Test.YtehocgemgdbikaaDoorNpVal
namespace Go.Proofs.YtehocgemgdbikaaDoor
namespace Np
open Go.RowKit Go.Maps D Ru

theorem aff_table : ((List.range 256).all fun n => affL.contains (UInt8.ofNat n) == (n == 32 || n == 36 || n == 37 || (decide (97 ≤ n) && decide (n ≤ 122)) || (decide (65 ≤ n) && decide (n ≤ 90)))) = true := by decide +kernel
theorem aff_is (c : UInt8) : affL.contains c = (c.toNat == 32 || c.toNat == 36 || c.toNat == 37 || (decide (97 ≤ c.toNat) && decide (c.toNat ≤ 122)) || (decide (65 ≤ c.toNat) && decide (c.toNat ≤ 90))) := by
  have h := List.all_eq_true.1 aff_table c.toNat (List.mem_range.2 c.toNat_lt)
  rw [beq_iff_eq] at h
  rw [← h]
  simp
theorem inAffix_any (c : UInt8) (w : World) : Calls Tryd.prog 59 #[.int .u8 c.toNat] w fun e w' => e = .returned (.bool (affL.contains c)) ∧ w = w' := by
  have hb : c.toNat < 256 := c.toNat_lt
  rw [aff_is]
  generalize c.toNat = n at *
  rcases (show n = 32 ∨ n = 36 ∨ n = 37 ∨ (97 ≤ n ∧ n ≤ 122) ∨ (65 ≤ n ∧ n ≤ 90) ∨ (n < 65 ∧ n ≠ 32 ∧ n ≠ 36 ∧ n ≠ 37) ∨ (90 < n ∧ n < 97) ∨ 122 < n by omega) with rfl | rfl | rfl | h | h | h | h | h
  · go_enter Tryd.func59, Tryd.ntmps59
    go_wp2
    go_ret
    exact ⟨rfl, rfl⟩
  · go_enter Tryd.func59, Tryd.ntmps59
    go_wp2
    go_ret
    exact ⟨rfl, rfl⟩
  · go_enter Tryd.func59, Tryd.ntmps59
    go_wp2
    go_ret
    exact ⟨rfl, rfl⟩
  all_goals
    have e1 : ((n : Int) == 32) = false := beq_eq_false_iff_ne.2 (by omega)
    have e2 : ((n : Int) == 36) = false := beq_eq_false_iff_ne.2 (by omega)
    have e3 : ((n : Int) == 37) = false := beq_eq_false_iff_ne.2 (by omega)
  · have g1 : (97 : Int) ≤ (n : Int) := by omega
    have g2 : (n : Int) ≤ 122 := by omega
    have HR := Lib.hid (show (n == 32 || n == 36 || n == 37 || (decide (97 ≤ n) && decide (n ≤ 122)) || (decide (65 ≤ n) && decide (n ≤ 90))) = true by simp; omega)
    generalize (n == 32 || n == 36 || n == 37 || (decide (97 ≤ n) && decide (n ≤ 122)) || (decide (65 ≤ n) && decide (n ≤ 90))) = R at *
    go_enter Tryd.func59, Tryd.ntmps59
    go_wp2_with fail
    go_ret
    exact ⟨by rw [HR.out]; rfl, rfl⟩
  · have g1 : ¬ (97 : Int) ≤ (n : Int) := by omega
    have g2 : (65 : Int) ≤ (n : Int) := by omega
    have g3 : (n : Int) ≤ 90 := by omega
    have HR := Lib.hid (show (n == 32 || n == 36 || n == 37 || (decide (97 ≤ n) && decide (n ≤ 122)) || (decide (65 ≤ n) && decide (n ≤ 90))) = true by simp; omega)
    generalize (n == 32 || n == 36 || n == 37 || (decide (97 ≤ n) && decide (n ≤ 122)) || (decide (65 ≤ n) && decide (n ≤ 90))) = R at *
    go_enter Tryd.func59, Tryd.ntmps59
    go_wp2_with fail
    go_ret
    exact ⟨by rw [HR.out]; rfl, rfl⟩
  · have g1 : ¬ (97 : Int) ≤ (n : Int) := by omega
    have g2 : ¬ (65 : Int) ≤ (n : Int) := by omega
    have HR := Lib.hid (show (n == 32 || n == 36 || n == 37 || (decide (97 ≤ n) && decide (n ≤ 122)) || (decide (65 ≤ n) && decide (n ≤ 90))) = false by simp; omega)
    generalize (n == 32 || n == 36 || n == 37 || (decide (97 ≤ n) && decide (n ≤ 122)) || (decide (65 ≤ n) && decide (n ≤ 90))) = R at *
    go_enter Tryd.func59, Tryd.ntmps59
    go_wp2_with fail
    go_ret
    exact ⟨by rw [HR.out]; rfl, rfl⟩
  · have g1 : ¬ (97 : Int) ≤ (n : Int) := by omega
    have g2 : (65 : Int) ≤ (n : Int) := by omega
    have g3 : ¬ (n : Int) ≤ 90 := by omega
    have HR := Lib.hid (show (n == 32 || n == 36 || n == 37 || (decide (97 ≤ n) && decide (n ≤ 122)) || (decide (65 ≤ n) && decide (n ≤ 90))) = false by simp; omega)
    generalize (n == 32 || n == 36 || n == 37 || (decide (97 ≤ n) && decide (n ≤ 122)) || (decide (65 ≤ n) && decide (n ≤ 90))) = R at *
    go_enter Tryd.func59, Tryd.ntmps59
    go_wp2_with fail
    go_ret
    exact ⟨by rw [HR.out]; rfl, rfl⟩
  · have g1 : (97 : Int) ≤ (n : Int) := by omega
    have g0 : ¬ (n : Int) ≤ 122 := by omega
    have g2 : (65 : Int) ≤ (n : Int) := by omega
    have g3 : ¬ (n : Int) ≤ 90 := by omega
    have HR := Lib.hid (show (n == 32 || n == 36 || n == 37 || (decide (97 ≤ n) && decide (n ≤ 122)) || (decide (65 ≤ n) && decide (n ≤ 90))) = false by simp; omega)
    generalize (n == 32 || n == 36 || n == 37 || (decide (97 ≤ n) && decide (n ≤ 122)) || (decide (65 ≤ n) && decide (n ≤ 90))) = R at *
    go_enter Tryd.func59, Tryd.ntmps59
    go_wp2_with fail
    go_ret
    exact ⟨by rw [HR.out]; rfl, rfl⟩
theorem snoc_aff (s : ByteArray) (k : Nat) (h : k < s.size) (ha : (s.data.toList.take k).all (fun c => affL.contains c) = true) (hp : affL.contains s[k] = true) : (s.data.toList.take (k + 1)).all (fun c => affL.contains c) = true := by
  rw [take_snoc s k h, List.all_append, ha]; simp only [List.all_cons, hp, List.all_nil]; rfl
set_option maxHeartbeats 1000000 in
theorem fills_any (l : List UInt8) (w : World) (hs : l.length ≤ 140737488355328) : Calls Tryd.prog 60 #[.func (.func 59) #[] #[], .string (str l), .int .i64 5] w fun e w' => e = .returned (.bool (decide (Aff l))) ∧ w = w' := by
  have hsz : (str l).size = l.length := str_len l
  have hsl : (str l).data.toList = l := str_data l
  obtain ⟨s, hse⟩ : ∃ s, s = str l := ⟨_, rfl⟩
  rw [← hse] at hsz hsl ⊢
  have HL := Lib.hid hsl; clear hse hsl
  by_cases h5 : l.length ≤ 5
  · have h5i : ¬ (5 : Int) < (s.size : Int) := by omega
    go_enter Tryd.func60, Tryd.ntmps60
    go_wp2_with fail
    go_loopw [14] (fun i wr => ∃ k : Nat, k ≤ s.size ∧ i = .int .i64 k ∧ w = wr ∧ Hid ((s.data.toList.take k).all (fun c => affL.contains c) = true)) (fun i _ => s.size - (intOf i).toNat)
    case atStart => exact ⟨0, Nat.zero_le _, rfl, rfl, Lib.hid rfl⟩
    case round =>
      obtain ⟨k, hk, rfl, rfl, hall⟩ := hrel
      by_cases hlt : k < s.size
      · have hki : (k : Int) < (s.size : Int) := by omega
        have CD := Lib.hid (inAffix_any s[k])
        by_cases hd : affL.contains s[k] = true
        · rw [hd] at CD
          have HD := Lib.hid (snoc_aff s k hlt hall.out hd); clear hd
          go_wp2_with (go_at_call 59; (with_reducible refine (CD.out _).mono ?_); rintro e w' ⟨rfl, rfl⟩)
          go_roundw
          case rel => exact ⟨k + 1, by omega, by go_num, trivial, HD⟩
          case measure => simp [intOf]; omega
        · have hdf : affL.contains s[k] = false := by simpa using hd
          rw [hdf] at CD
          have HN := Lib.hid (show decide (Aff l) = false by
            apply decide_eq_false
            intro ha
            have := ha.2 s[k] (by rw [← HL.out]; exact List.getElem_mem (by simpa using hlt))
            rw [hdf] at this; cases this)
          clear hd hdf
          go_wp2_with (go_at_call 59; (with_reducible refine (CD.out _).mono ?_); rintro e w' ⟨rfl, rfl⟩)
          go_ret
          exact ⟨ret_bool (by rw [HN.out]), rfl⟩
      · have hki : ¬ (k : Int) < (s.size : Int) := by omega
        have HF := Lib.hid (show decide (Aff l) = true by
          apply decide_eq_true
          refine ⟨h5, fun c hc => ?_⟩
          have := hall.out
          rw [List.take_of_length_le (by rw [HL.out]; omega), List.all_eq_true, HL.out] at this
          exact this c hc)
        go_wp2_with fail
        go_ret
        exact ⟨ret_bool (by rw [HF.out]), rfl⟩
  · have h5i : (5 : Int) < (s.size : Int) := by omega
    have HF := Lib.hid (show decide (Aff l) = false from decide_eq_false fun h => h5 h.1)
    go_enter Tryd.func60, Tryd.ntmps60
    go_wp2_with fail
    go_ret
    exact ⟨ret_bool (by rw [HF.out]), rfl⟩
theorem isAffix_any (l : List UInt8) (w : World) (hs : l.length ≤ 140737488355328) : Calls Tryd.prog 38 #[.string (str l)] w fun e w' => e = .returned (.bool (decide (Aff l))) ∧ w = w' := by
  have CF := Lib.hid (fills_any l w hs)
  generalize str l = s at *
  generalize decide (Aff l) = b at *
  go_enter Tryd.func38, Tryd.ntmps38
  go_wp2_with (go_at_call 60; (with_reducible refine (CF.out).mono ?_); rintro e w' ⟨rfl, rfl⟩)
  go_ret
  exact ⟨rfl, rfl⟩
theorem inBounds_any (n a b : Int) (w : World) : Calls Tryd.prog 39 #[.int .i64 n, .int .i64 a, .int .i64 b] w fun e w' => e = .returned (.bool (decide (a ≤ n ∧ n ≤ b))) ∧ w = w' := by
  by_cases h1 : a ≤ n <;> by_cases h2 : n ≤ b
  all_goals
    go_enter Tryd.func39, Tryd.ntmps39
    go_wp2
    go_ret
    exact ⟨ret_bool (by simp [h1, h2]), rfl⟩
set_option maxHeartbeats 4000000 in
set_option maxRecDepth 100000 in
theorem check_any (p : PatV) (w : World) (h1 : p.pre.length ≤ 140737488355328) (h2 : p.suf.length ≤ 140737488355328) : Calls Tryd.prog 19 #[patV p] w (Gives w (errV (patF p))) := by
  obtain ⟨pre, suf, a, b, m, g, g2⟩ := p
  have HB : Hid (Bs w _ [_]) := Lib.hid (bs_one w (patC ⟨pre, suf, a, b, m, g, g2⟩) 23)
  have O1 := Lib.hid fun (W : World) => isAffix_any pre W h1
  have O2 := Lib.hid fun (W : World) => isAffix_any suf W h2
  have CA := Lib.hid fun (W : World) => inBounds_any a 1 9 W
  have CM := Lib.hid fun (W : World) => inBounds_any m 0 6 W
  have CB := Lib.hid fun (W : World) => inBounds_any b 0 m W
  have CG := Lib.hid fun (W : World) => inBounds_any g 0 4 W
  have CK := Lib.hid fun (W : World) => inBounds_any g2 0 4 W
  have H3 : Hid (¬ (Aff pre ∧ Aff suf) → patF ⟨pre, suf, a, b, m, g, g2⟩ = 3) := Lib.hid fun h => by unfold patF; rw [if_neg h]
  have H1 : Hid (Aff pre ∧ Aff suf → ¬ ((1 ≤ a ∧ a ≤ 9) ∧ (0 ≤ m ∧ m ≤ 6) ∧ (0 ≤ b ∧ b ≤ m) ∧ (0 ≤ g ∧ g ≤ 4) ∧ 0 ≤ g2 ∧ g2 ≤ 4) → patF ⟨pre, suf, a, b, m, g, g2⟩ = 1) := Lib.hid fun h h' => by unfold patF; rw [if_pos h, if_neg (by exact h')]
  have H0 : Hid (Aff pre ∧ Aff suf → ((1 ≤ a ∧ a ≤ 9) ∧ (0 ≤ m ∧ m ≤ 6) ∧ (0 ≤ b ∧ b ≤ m) ∧ (0 ≤ g ∧ g ≤ 4) ∧ 0 ≤ g2 ∧ g2 ≤ 4) → patF ⟨pre, suf, a, b, m, g, g2⟩ = if g2 ≠ 0 ∧ g = 0 then 3 else 0) := Lib.hid fun h h' => by unfold patF; rw [if_pos h, if_pos (by exact h')]
  clear h1 h2
  generalize patF ⟨pre, suf, a, b, m, g, g2⟩ = F at *
  obtain ⟨d0, d1, d2, d3, d4, d5, d6, -⟩ := HB.out.cells
  by_cases hp : Aff pre
  rotate_left
  · rw [decide_eq_false hp] at O1
    obtain rfl := H3.out fun h => hp h.1
    clear hp H3 H1 H0
    go_enter Tryd.func19, Tryd.ntmps19
    go_wp2_with (first | (go_at_call 38; (with_reducible refine (O1.out _).mono ?_); rintro e w' ⟨rfl, rfl⟩))
    go_ret
    exact ⟨rfl, HB.out.below⟩
  rw [decide_eq_true hp] at O1
  by_cases hs : Aff suf
  rotate_left
  · rw [decide_eq_false hs] at O2
    obtain rfl := H3.out fun h => hs h.2
    clear hp hs H3 H1 H0
    go_enter Tryd.func19, Tryd.ntmps19
    go_wp2_with (first | (go_at_call 38; (with_reducible refine (O1.out _).mono ?_); rintro e w' ⟨rfl, rfl⟩) | (go_at_call 38; (with_reducible refine (O2.out _).mono ?_); rintro e w' ⟨rfl, rfl⟩))
    go_ret
    exact ⟨rfl, HB.out.below⟩
  rw [decide_eq_true hs] at O2
  have H1 := Lib.hid (H1.out ⟨hp, hs⟩)
  have H0 := Lib.hid (H0.out ⟨hp, hs⟩)
  clear H3 hp hs
  by_cases ha : 1 ≤ a ∧ a ≤ 9
  rotate_left
  · rw [decide_eq_false ha] at CA
    obtain rfl := H1.out fun h => ha h.1
    clear ha H1 H0
    go_enter Tryd.func19, Tryd.ntmps19
    go_wp2_with (first | (go_at_call 38; (with_reducible refine (O1.out _).mono ?_); rintro e w' ⟨rfl, rfl⟩) | (go_at_call 38; (with_reducible refine (O2.out _).mono ?_); rintro e w' ⟨rfl, rfl⟩) | (go_at_call 39; (with_reducible refine (CA.out _).mono ?_); rintro e w' ⟨rfl, rfl⟩))
    go_ret
    exact ⟨rfl, HB.out.below⟩
  rw [decide_eq_true ha] at CA
  by_cases hm : 0 ≤ m ∧ m ≤ 6
  rotate_left
  · rw [decide_eq_false hm] at CM
    obtain rfl := H1.out fun h => hm h.2.1
    clear ha hm H1 H0
    go_enter Tryd.func19, Tryd.ntmps19
    go_wp2_with (first | (go_at_call 38; (with_reducible refine (O1.out _).mono ?_); rintro e w' ⟨rfl, rfl⟩) | (go_at_call 38; (with_reducible refine (O2.out _).mono ?_); rintro e w' ⟨rfl, rfl⟩) | (go_at_call 39; (with_reducible refine (CA.out _).mono ?_); rintro e w' ⟨rfl, rfl⟩) | (go_at_call 39; (with_reducible refine (CM.out _).mono ?_); rintro e w' ⟨rfl, rfl⟩))
    go_ret
    exact ⟨rfl, HB.out.below⟩
  rw [decide_eq_true hm] at CM
  by_cases hb : 0 ≤ b ∧ b ≤ m
  rotate_left
  · rw [decide_eq_false hb] at CB
    obtain rfl := H1.out fun h => hb h.2.2.1
    clear ha hm hb H1 H0
    go_enter Tryd.func19, Tryd.ntmps19
    go_wp2_with (first | (go_at_call 38; (with_reducible refine (O1.out _).mono ?_); rintro e w' ⟨rfl, rfl⟩) | (go_at_call 38; (with_reducible refine (O2.out _).mono ?_); rintro e w' ⟨rfl, rfl⟩) | (go_at_call 39; (with_reducible refine (CA.out _).mono ?_); rintro e w' ⟨rfl, rfl⟩) | (go_at_call 39; (with_reducible refine (CM.out _).mono ?_); rintro e w' ⟨rfl, rfl⟩) | (go_at_call 39; (with_reducible refine (CB.out _).mono ?_); rintro e w' ⟨rfl, rfl⟩))
    go_ret
    exact ⟨rfl, HB.out.below⟩
  rw [decide_eq_true hb] at CB
  by_cases hg : 0 ≤ g ∧ g ≤ 4
  rotate_left
  · rw [decide_eq_false hg] at CG
    obtain rfl := H1.out fun h => hg h.2.2.2.1
    clear ha hm hb hg H1 H0
    go_enter Tryd.func19, Tryd.ntmps19
    go_wp2_with (first | (go_at_call 38; (with_reducible refine (O1.out _).mono ?_); rintro e w' ⟨rfl, rfl⟩) | (go_at_call 38; (with_reducible refine (O2.out _).mono ?_); rintro e w' ⟨rfl, rfl⟩) | (go_at_call 39; (with_reducible refine (CA.out _).mono ?_); rintro e w' ⟨rfl, rfl⟩) | (go_at_call 39; (with_reducible refine (CM.out _).mono ?_); rintro e w' ⟨rfl, rfl⟩) | (go_at_call 39; (with_reducible refine (CB.out _).mono ?_); rintro e w' ⟨rfl, rfl⟩) | (go_at_call 39; (with_reducible refine (CG.out _).mono ?_); rintro e w' ⟨rfl, rfl⟩))
    go_ret
    exact ⟨rfl, HB.out.below⟩
  rw [decide_eq_true hg] at CG
  by_cases hk : 0 ≤ g2 ∧ g2 ≤ 4
  rotate_left
  · rw [decide_eq_false hk] at CK
    obtain rfl := H1.out fun h => hk h.2.2.2.2
    clear ha hm hb hg hk H1 H0
    go_enter Tryd.func19, Tryd.ntmps19
    go_wp2_with (first | (go_at_call 38; (with_reducible refine (O1.out _).mono ?_); rintro e w' ⟨rfl, rfl⟩) | (go_at_call 38; (with_reducible refine (O2.out _).mono ?_); rintro e w' ⟨rfl, rfl⟩) | (go_at_call 39; (with_reducible refine (CA.out _).mono ?_); rintro e w' ⟨rfl, rfl⟩) | (go_at_call 39; (with_reducible refine (CM.out _).mono ?_); rintro e w' ⟨rfl, rfl⟩) | (go_at_call 39; (with_reducible refine (CB.out _).mono ?_); rintro e w' ⟨rfl, rfl⟩) | (go_at_call 39; (with_reducible refine (CG.out _).mono ?_); rintro e w' ⟨rfl, rfl⟩) | (go_at_call 39; (with_reducible refine (CK.out _).mono ?_); rintro e w' ⟨rfl, rfl⟩))
    go_ret
    exact ⟨rfl, HB.out.below⟩
  rw [decide_eq_true hk] at CK
  have HF := Lib.hid (H0.out ⟨ha, hm, hb, hg, hk⟩)
  clear ha hm hb hg hk H1 H0
  by_cases hz : g2 = 0
  · obtain rfl : F = 0 := by rw [HF.out, if_neg fun h => h.1 hz]
    subst hz
    go_enter Tryd.func19, Tryd.ntmps19
    go_wp2_with (first | (go_at_call 38; (with_reducible refine (O1.out _).mono ?_); rintro e w' ⟨rfl, rfl⟩) | (go_at_call 38; (with_reducible refine (O2.out _).mono ?_); rintro e w' ⟨rfl, rfl⟩) | (go_at_call 39; (with_reducible refine (CA.out _).mono ?_); rintro e w' ⟨rfl, rfl⟩) | (go_at_call 39; (with_reducible refine (CM.out _).mono ?_); rintro e w' ⟨rfl, rfl⟩) | (go_at_call 39; (with_reducible refine (CB.out _).mono ?_); rintro e w' ⟨rfl, rfl⟩) | (go_at_call 39; (with_reducible refine (CG.out _).mono ?_); rintro e w' ⟨rfl, rfl⟩) | (go_at_call 39; (with_reducible refine (CK.out _).mono ?_); rintro e w' ⟨rfl, rfl⟩))
    go_ret
    exact ⟨rfl, HB.out.below⟩
  have hzb : (g2 == 0) = false := by rw [beq_eq_false_iff_ne]; exact hz
  have hzn : (g2 != 0) = true := by rw [bne_iff_ne]; exact hz
  by_cases hg : g = 0
  · obtain rfl : F = 3 := by rw [HF.out, if_pos ⟨hz, hg⟩]
    subst hg
    clear hz
    go_enter Tryd.func19, Tryd.ntmps19
    go_wp2_with (first | (go_at_call 38; (with_reducible refine (O1.out _).mono ?_); rintro e w' ⟨rfl, rfl⟩) | (go_at_call 38; (with_reducible refine (O2.out _).mono ?_); rintro e w' ⟨rfl, rfl⟩) | (go_at_call 39; (with_reducible refine (CA.out _).mono ?_); rintro e w' ⟨rfl, rfl⟩) | (go_at_call 39; (with_reducible refine (CM.out _).mono ?_); rintro e w' ⟨rfl, rfl⟩) | (go_at_call 39; (with_reducible refine (CB.out _).mono ?_); rintro e w' ⟨rfl, rfl⟩) | (go_at_call 39; (with_reducible refine (CG.out _).mono ?_); rintro e w' ⟨rfl, rfl⟩) | (go_at_call 39; (with_reducible refine (CK.out _).mono ?_); rintro e w' ⟨rfl, rfl⟩))
    go_ret
    exact ⟨rfl, HB.out.below⟩
  obtain rfl : F = 0 := by rw [HF.out, if_neg fun h => hg h.2]
  have hgb : (g == 0) = false := by rw [beq_eq_false_iff_ne]; exact hg
  clear hz hg
  go_enter Tryd.func19, Tryd.ntmps19
  go_wp2_with (first | (go_at_call 38; (with_reducible refine (O1.out _).mono ?_); rintro e w' ⟨rfl, rfl⟩) | (go_at_call 38; (with_reducible refine (O2.out _).mono ?_); rintro e w' ⟨rfl, rfl⟩) | (go_at_call 39; (with_reducible refine (CA.out _).mono ?_); rintro e w' ⟨rfl, rfl⟩) | (go_at_call 39; (with_reducible refine (CM.out _).mono ?_); rintro e w' ⟨rfl, rfl⟩) | (go_at_call 39; (with_reducible refine (CB.out _).mono ?_); rintro e w' ⟨rfl, rfl⟩) | (go_at_call 39; (with_reducible refine (CG.out _).mono ?_); rintro e w' ⟨rfl, rfl⟩) | (go_at_call 39; (with_reducible refine (CK.out _).mono ?_); rintro e w' ⟨rfl, rfl⟩))
  go_ret
  exact ⟨rfl, HB.out.below⟩

end Np
end Go.Proofs.YtehocgemgdbikaaDoor
