/- The law ShortRises returns true. -/
import Derived.Test.YteipadljahkgoaaDoorShSays
import Derived.BigQuiet
namespace Go.Proofs.YteipadljahkgoaaDoor
namespace Sh
open Go.RowKit D Ru

theorem last_ix {l : List UInt8} {K : Nat} (h : l.length = K + 1) (S : ByteArray) (hS : S = str l) (hk : K < S.size) : l.getLast? = some (S[K]'hk) := by
  subst hS
  rw [List.getLast?_eq_getElem?, h, Nat.add_sub_cancel, List.getElem?_eq_getElem (by omega)]
  show some l[K] = some l.toArray[K]
  simp
/-- which letter ends the text: where it stands among the letters, or behind them -/
theorem rank_place {l : List UInt8} {x : UInt8} (h : l.getLast? = some x) : ∃ E : Nat, E ≤ 4 ∧ rankT l = (if E = 4 then 0 else E + 1) ∧ ((E = 0 ∧ (x.toNat : Int) = 75) ∨ (E = 1 ∧ (x.toNat : Int) = 77) ∨ (E = 2 ∧ (x.toNat : Int) = 66) ∨ (E = 3 ∧ (x.toNat : Int) = 84) ∨ (E = 4 ∧ (x.toNat : Int) ≠ 75 ∧ (x.toNat : Int) ≠ 77 ∧ (x.toNat : Int) ≠ 66 ∧ (x.toNat : Int) ≠ 84)) := by
  have hne : ∀ c : UInt8, x ≠ c → (x.toNat : Int) ≠ (c.toNat : Int) := fun c hc e => hc (UInt8.toNat_inj.1 (by omega))
  unfold rankT
  rw [h]
  by_cases h0 : x = 75
  · subst h0; exact ⟨0, by omega, by simp, .inl ⟨rfl, rfl⟩⟩
  by_cases h1 : x = 77
  · subst h1; exact ⟨1, by omega, by simp, .inr (.inl ⟨rfl, rfl⟩)⟩
  by_cases h2 : x = 66
  · subst h2; exact ⟨2, by omega, by simp, .inr (.inr (.inl ⟨rfl, rfl⟩))⟩
  by_cases h3 : x = 84
  · subst h3; exact ⟨3, by omega, by simp, .inr (.inr (.inr (.inl ⟨rfl, rfl⟩)))⟩
  · exact ⟨4, by omega, by simp [h0, h1, h2, h3], .inr (.inr (.inr (.inr ⟨rfl, hne 75 h0, hne 77 h1, hne 66 h2, hne 84 h3⟩)))⟩
set_option maxHeartbeats 4000000 in
set_option maxRecDepth 100000 in
theorem rank_any (l : List UInt8) (w : World) (hl : l ≠ []) (hm : l.length ≤ 1000) : Calls Tryd.prog 11 #[.string (str l)] w (Drawn w (.int .i64 (rankT l : Nat))) := by
  have hp := List.length_pos_iff.2 hl
  obtain ⟨K, hK⟩ : ∃ K, l.length = K + 1 := ⟨l.length - 1, by omega⟩
  have hz : (str l).size = K + 1 := by rw [D.ba_size, str_data, hK]
  have hne : str l ≠ ⟨#[]⟩ := fun e => hl (by have := congrArg (fun b : ByteArray => b.data.toList) e; simpa using this)
  have hn1 : l.isEmpty = false := by simpa using hl
  have hn2 : ¬ l = [] := hl
  have hn3 := (toList_ne hne).2
  obtain ⟨S, hS⟩ : ∃ S, S = str l := ⟨_, rfl⟩
  have hkS : K < S.size := by rw [hS, hz]; omega
  obtain ⟨E, hE4, hr, hx⟩ := rank_place (last_ix hK S hS hkS)
  generalize rankT l = rk at *
  have HR := Lib.hid hr
  rw [← hS] at hz hn3 ⊢
  have hn4 : S.toList.isEmpty = false := by simpa using hn3
  have hn5 : ¬ S.toList = [] := by simpa using hn4
  have hn6 : (!S.toList.isEmpty) = true := by rw [hn4]; rfl
  have hn7 : (S.toList != []) = true := by simpa using hn5
  have hw1 : wrap64 (K : Int) = (K : Int) := by unfold wrap64; omega
  have hw2 : IntKind.i64.wrap (K : Int) = (K : Int) := by rw [IntKind.wrap_i64]; omega
  clear hS hr hne hK hp hn1 hn2 hl hm
  obtain ⟨xi, hxi⟩ : ∃ xi, (S[K].toNat : Int) = xi := ⟨_, rfl⟩
  rw [hxi] at hx
  have hwk : (S.size : Int) - 1 = (K : Int) := by omega
  have hk1 : (K : Int) < (S.size : Int) := by omega
  have hk2 : (0 : Int) ≤ (K : Int) := by omega
  have l0 : ∀ h, (⟨#[75, 77, 66, 84]⟩ : ByteArray)[0]'h = 75 := fun _ => rfl
  have l1 : ∀ h, (⟨#[75, 77, 66, 84]⟩ : ByteArray)[1]'h = 77 := fun _ => rfl
  have l2 : ∀ h, (⟨#[75, 77, 66, 84]⟩ : ByteArray)[2]'h = 66 := fun _ => rfl
  have l3 : ∀ h, (⟨#[75, 77, 66, 84]⟩ : ByteArray)[3]'h = 84 := fun _ => rfl
  go_enter Tryd.func11, Tryd.ntmps11
  go_upto_region 3 with fail
  go_loopw [4] (fun i wx => ∃ j d : Nat, j ≤ E ∧ i = .int .i64 j ∧ w.drewN d = wx) (fun i _ => 4 - (intOf i).toNat)
  case atStart => exact ⟨0, 0, Nat.zero_le _, rfl, rfl⟩
  case round =>
    obtain ⟨j, d, hj, rfl, rfl⟩ := hrel
    rcases (show j < E ∨ (j = E ∧ E < 4) ∨ (j = 4 ∧ E = 4) by omega) with h | ⟨rfl, h⟩ | ⟨rfl, rfl⟩
    · rcases (show (j = 0 ∧ xi ≠ 75) ∨ (j = 1 ∧ xi ≠ 77) ∨ (j = 2 ∧ xi ≠ 66) ∨ (j = 3 ∧ xi ≠ 84) by omega) with ⟨rfl, hc⟩ | ⟨rfl, hc⟩ | ⟨rfl, hc⟩ | ⟨rfl, hc⟩
      all_goals
        have hq : (xi == _) = false := beq_eq_false_iff_ne.2 hc
        clear hx hc
        go_upto_region 5 with fail
        go_quiet (fail)
        go_wp2_with fail
        go_roundw
        case rel => exact ⟨_, d + nq, h, by go_num, by simp⟩
        case measure => simp [intOf]
    · rcases (show (j = 0 ∧ xi = 75) ∨ (j = 1 ∧ xi = 77) ∨ (j = 2 ∧ xi = 66) ∨ (j = 3 ∧ xi = 84) by omega) with ⟨rfl, rfl⟩ | ⟨rfl, rfl⟩ | ⟨rfl, rfl⟩ | ⟨rfl, rfl⟩
      all_goals
        clear hx
        go_upto_region 5 with fail
        go_quiet (fail)
        go_wp2_with fail
        go_ret
        exact ⟨by rw [HR.out]; simp, d + nq, by simp⟩
    · clear hx
      go_wp2_with fail
      go_ret
      exact ⟨by rw [HR.out]; simp, d, rfl⟩
set_option maxHeartbeats 8000000 in
set_option maxRecDepth 100000 in
theorem rises_any (n m u : Int) (w : World) (hT : TextOk w) (hP : PartsOk w) : Calls Tryd.prog 5 #[.int .i64 n, .int .i64 m, .int .i64 u] w (TrueB w) := by
  have CF := Lib.hid (fact_any hT)
  have hb0 := Below.refl w.heap.size w
  by_cases hn : NumOk n
  · have CT := Lib.hid (hT.yes hn)
    by_cases hm : NumOk m
    · have CQ := Lib.hid (hT.yes hm)
      by_cases hnm : m < n
      · clear hT hP hn hm
        generalize str (shortL n.toNat) = A at *
        generalize str (shortL m.toNat) = B at *
        go_enter Tryd.func5, Tryd.ntmps5
        go_upto_region 2 with (go_at_call 6; (with_reducible refine (CF.out _ hb0).mono ?_); rintro e w1 ⟨rfl, hb1⟩; dsimp only)
        go_upto_region 3 with (go_at_call 6; (with_reducible refine (CT.out _ hb1).mono ?_); rintro e w2 ⟨rfl, hb2⟩; (have hB2 := bel_call hb1 hb2); dsimp only)
        go_wp2_with (go_at_call 6; (with_reducible refine (CQ.out _ hB2).mono ?_); rintro e w3 ⟨rfl, hb3⟩; (have hB3 := bel_call hB2 hb3); dsimp only)
        go_ret
        exact ⟨rfl, hB3⟩
      · have hnn : ¬ m < n := hnm
        have CPA := Lib.hid fun W (hW : Below w.heap.size w W) => hP n u W hW
        have len : ∀ {k : Int}, NumOk k → 0 < (shortL k.toNat).length ∧ (shortL k.toNat).length ≤ 1000 := fun {k} hk => by
          by_cases h1 : k.toNat < 1000
          · rw [short_small h1, Lib.decDigits_length]
            exact ⟨Lib.nDigits_pos _, Nat.le_trans (nDigits_le (k := 16) (by decide) (by omega)) (by omega)⟩
          · have := short_len (n := k.toNat) (by omega) (by have := hk.2; omega)
            omega
        have CA := Lib.hid fun W => rank_any (shortL n.toNat) W (List.length_pos_iff.1 (len hn).1) (len hn).2
        have CB := Lib.hid fun W => rank_any (shortL m.toNat) W (List.length_pos_iff.1 (len hm).1) (len hm).2
        rw [rank_text] at CA CB
        have hrr := rank_rises (n := n.toNat) (m := m.toNat) (by have := hn.1; have := hm.1; omega)
        have hbz : 0 < (str (shortL m.toNat)).size := by rw [D.ba_size, str_data]; exact (len hm).1
        have hbi : (0 : Int) < ((str (shortL m.toNat)).size : Int) := by omega
        have hq : UnitOk u → paF n u = 0 ∧ paQ n u = n.tdiv u ∧ paR n u = n.tmod u := fun hu => ⟨if_pos ⟨hn, hu⟩, if_pos ⟨hn, hu⟩, if_pos ⟨hn, hu⟩⟩
        have hqn : ¬ UnitOk u → paF n u = 1 ∧ paQ n u = 0 ∧ paR n u = 0 := fun hu => ⟨if_neg fun h => hu h.2, if_neg fun h => hu h.2, if_neg fun h => hu h.2⟩
        have h1 := Int.mul_tdiv_add_tmod n u
        have hn0 := hn.1
        have hn1 := hn.2
        generalize str (shortL n.toNat) = A at *
        generalize str (shortL m.toNat) = B at *
        generalize rankN n.toNat = ra at *
        generalize rankN m.toNat = rb at *
        have hri : (ra : Int) ≤ (rb : Int) := by omega
        clear hT hP hnm hm len
        by_cases hu : UnitOk u
        · obtain ⟨q1, q2, q3⟩ := hq hu
          rw [q1, q2, q3, errV_zero] at CPA
          have m0 := Int.tmod_nonneg u hn0
          have m1 := Int.tmod_lt_of_pos n (show 0 < u by have := hu.1; omega)
          have d0 := Int.tdiv_nonneg hn0 (show 0 ≤ u by have := hu.1; omega)
          rw [Int.mul_comm] at h1
          have p0 : 0 ≤ n.tdiv u * u := Int.mul_nonneg d0 (by have := hu.1; omega)
          clear hq hqn q1 q2 q3 hu hn
          generalize n.tmod u = rr at *
          generalize n.tdiv u = qq at *
          generalize hPP : qq * u = PP at *
          have k1 : IntKind.i64.wrap PP = PP := by rw [IntKind.wrap_i64]; omega
          have k2 : wrap64 PP = PP := by unfold wrap64; omega
          have k3 : IntKind.i64.wrap (PP + rr) = n := by rw [IntKind.wrap_i64]; omega
          have k4 : wrap64 (PP + rr) = n := by unfold wrap64; omega
          have k5 : PP + rr = n := h1
          have k6 : (n != n) = false := by simp
          have k7 : ¬ rr < 0 := by omega
          have k8 : ¬ u ≤ rr := by omega
          by_cases hlt : (ra : Int) < (rb : Int)
          all_goals
            go_enter Tryd.func5, Tryd.ntmps5
            go_upto_region 2 with (go_at_call 6; (with_reducible refine (CF.out _ hb0).mono ?_); rintro e w1 ⟨rfl, hb1⟩; dsimp only)
            go_upto_region 3 with (go_at_call 6; (with_reducible refine (CT.out _ hb1).mono ?_); rintro e w2 ⟨rfl, hb2⟩; (have hB2 := bel_call hb1 hb2); dsimp only)
            go_upto_region 8 with (go_at_call 6; (with_reducible refine (CQ.out _ hB2).mono ?_); rintro e w3 ⟨rfl, hb3⟩; (have hB3 := bel_call hB2 hb3); dsimp only)
            go_wp2_with (first
              | (go_at_call 9; (with_reducible refine (CPA.out _ hB3).mono ?_); rintro e w4 ⟨rfl, hb4⟩; (have hB4 := bel_call hB3 hb4); dsimp only)
              | (go_at_call 11; (with_reducible refine (CA.out _).mono ?_); rintro e w5 ⟨rfl, d5, rfl⟩; dsimp only)
              | (go_at_call 11; (with_reducible refine (CB.out _).mono ?_); rintro e w6 ⟨rfl, d6, rfl⟩; dsimp only))
            go_ret
            exact ⟨by first | (simp; done) | (simp; exact hbz), up_drewN hB4 _⟩
        · obtain ⟨q1, q2, q3⟩ := hqn hu
          rw [q1, q2, q3, errV_one] at CPA
          clear hq hqn q1 q2 q3 hu hn h1
          by_cases hlt : (ra : Int) < (rb : Int)
          all_goals
            go_enter Tryd.func5, Tryd.ntmps5
            go_upto_region 2 with (go_at_call 6; (with_reducible refine (CF.out _ hb0).mono ?_); rintro e w1 ⟨rfl, hb1⟩; dsimp only)
            go_upto_region 3 with (go_at_call 6; (with_reducible refine (CT.out _ hb1).mono ?_); rintro e w2 ⟨rfl, hb2⟩; (have hB2 := bel_call hb1 hb2); dsimp only)
            go_upto_region 8 with (go_at_call 6; (with_reducible refine (CQ.out _ hB2).mono ?_); rintro e w3 ⟨rfl, hb3⟩; (have hB3 := bel_call hB2 hb3); dsimp only)
            go_wp2_with (first
              | (go_at_call 9; (with_reducible refine (CPA.out _ hB3).mono ?_); rintro e w4 ⟨rfl, hb4⟩; (have hB4 := bel_call hB3 hb4); dsimp only)
              | (go_at_call 11; (with_reducible refine (CA.out _).mono ?_); rintro e w5 ⟨rfl, d5, rfl⟩; dsimp only)
              | (go_at_call 11; (with_reducible refine (CB.out _).mono ?_); rintro e w6 ⟨rfl, d6, rfl⟩; dsimp only))
            go_ret
            exact ⟨by first | (simp; done) | (simp; exact hbz), up_drewN hB4 _⟩
    · have CQ := Lib.hid (hT.no hm)
      clear hT hP hn hm
      generalize str (shortL n.toNat) = A at *
      go_enter Tryd.func5, Tryd.ntmps5
      go_upto_region 2 with (go_at_call 6; (with_reducible refine (CF.out _ hb0).mono ?_); rintro e w1 ⟨rfl, hb1⟩; dsimp only)
      go_upto_region 3 with (go_at_call 6; (with_reducible refine (CT.out _ hb1).mono ?_); rintro e w2 ⟨rfl, hb2⟩; (have hB2 := bel_call hb1 hb2); dsimp only)
      go_wp2_with (go_at_call 6; (with_reducible refine (CQ.out _ hB2).mono ?_); rintro e w3 ⟨rfl, hb3⟩; (have hB3 := bel_call hB2 hb3); dsimp only)
      go_ret
      exact ⟨rfl, hB3⟩
  · have CT := Lib.hid (hT.no hn)
    obtain ⟨TV, EV, CQ⟩ : ∃ (TV : ByteArray) (EV : Value), Hid (∀ W, Below w.heap.size w W → Calls Tryd.prog 6 #[.int .i64 m] W (Gives W (.tuple #[.string TV, EV]))) := ⟨_, _, Lib.hid fun W hW => hT m W hW⟩
    clear hT hP hn
    go_enter Tryd.func5, Tryd.ntmps5
    go_upto_region 2 with (go_at_call 6; (with_reducible refine (CF.out _ hb0).mono ?_); rintro e w1 ⟨rfl, hb1⟩; dsimp only)
    go_upto_region 3 with (go_at_call 6; (with_reducible refine (CT.out _ hb1).mono ?_); rintro e w2 ⟨rfl, hb2⟩; (have hB2 := bel_call hb1 hb2); dsimp only)
    go_wp2_with (go_at_call 6; (with_reducible refine (CQ.out _ hB2).mono ?_); rintro e w3 ⟨rfl, hb3⟩; (have hB3 := bel_call hB2 hb3); dsimp only)
    go_ret
    exact ⟨rfl, hB3⟩
end Sh
end Go.Proofs.YteipadljahkgoaaDoor
