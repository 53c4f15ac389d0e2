/- The law ShortDigits returns true. -/
import Derived.Test.YteipadljahkgoaaDoorShSays
import Derived.Test.YteipadljahkgoaaDoorRefDigits
import Derived.BigQuiet
namespace Go.Proofs.YteipadljahkgoaaDoor
namespace Sh
open Go.RowKit D Ru

theorem str_sz (l : List UInt8) : (str l).size = l.length := by rw [D.ba_size, str_data]
theorem str_ix (l : List UInt8) (S : ByteArray) (hS : S = str l) (k : Nat) (hk : k < S.size) : l[k]? = some (S[k]'hk) := by
  subst hS
  have hk' : k < l.length := by rw [D.ba_size, str_data] at hk; exact hk
  rw [List.getElem?_eq_getElem hk']
  show some l[k] = some l.toArray[k]
  simp
theorem str_head (H : List UInt8) (a : UInt8) : (str (H ++ [a])).extract 0 H.length = str H := by
  apply ba_ext
  rw [ByteArray.data_extract, Array.toList_extract, str_data, str_data]
  simp
/-- the letters of numbers between a thousand and a thousand million, and the next ones -/
theorem letter_cases {m : Nat} (h0 : 1000 ≤ m) (h1 : m ≤ 1000000000) : ∃ r : Nat, rankN m = r + 1 ∧ r ≤ 2 ∧ rankN (1000 * m) = r + 2 := by
  have hr := rank_big.2 h0
  have h3 : rankN m ≤ 3 := by unfold rankN; (repeat' split) <;> omega
  exact ⟨rankN m - 1, by omega, by omega, by have := (head_more h0 (by omega)).1; omega⟩
theorem letter_three : ∀ r, r ≤ 2 → ∃ a b : UInt8, letterL (r + 1) = [a] ∧ letterL (r + 2) = [b] ∧ (r = 0 → a = 75 ∧ b = 77) ∧ (r = 1 → a = 77 ∧ b = 66) ∧ (r = 2 → a = 66 ∧ b = 84)
  | 0, _ => ⟨75, 77, rfl, rfl, fun _ => ⟨rfl, rfl⟩, fun h => by omega, fun h => by omega⟩
  | 1, _ => ⟨77, 66, rfl, rfl, fun h => by omega, fun _ => ⟨rfl, rfl⟩, fun h => by omega⟩
  | 2, _ => ⟨66, 84, rfl, rfl, fun h => by omega, fun h => by omega, fun _ => ⟨rfl, rfl⟩⟩
  | r + 3, h => by omega
set_option maxHeartbeats 8000000 in
set_option maxRecDepth 100000 in
theorem digits_any (n : Int) (w : World) (hT : TextOk w) : Calls Tryd.prog 4 #[.int .i64 n] w (TrueB w) := by
  have CF := Lib.hid (fact_any hT)
  have hb0 := Below.refl w.heap.size w
  by_cases hn : NumOk n
  · have CT := Lib.hid (hT.yes hn)
    obtain ⟨hn0, hn1⟩ := hn
    obtain ⟨m, rfl⟩ := Int.eq_ofNat_of_zero_le hn0
    rw [Int.toNat_natCast] at CT
    by_cases hsm : m < 1000
    · rw [short_small hsm] at CT
      have CD : Hid (∀ W, Calls Tryd.prog 10 #[.int .i64 (m : Int), .int .i64 0] W (Gives W (.string (str (Lib.decDigits m))))) := Lib.hid fun W => by
        have := refDigits_any m 0 W (by omega) (by omega)
        rwa [pad_zero] at this
      have hi : (m : Int) < 1000 := by omega
      clear hT hn0 hn1 hsm
      generalize str (Lib.decDigits m) = DD at *
      go_enter Tryd.func4, Tryd.ntmps4
      go_upto_region 2 with (go_at_call 6; (with_reducible refine (CF.out _ hb0).mono ?_); rintro e w1 ⟨rfl, hb1⟩; dsimp only)
      go_upto_region 8 with (go_at_call 6; (with_reducible refine (CT.out _ hb1).mono ?_); rintro e w2 ⟨rfl, hb2⟩; (have hB2 := bel_call hb1 hb2); dsimp only)
      go_wp2_with (go_at_call 10; (with_reducible refine (CD.out _).mono ?_); rintro e w3 ⟨rfl, hb3⟩; (have hB3 := bel_call hB2 hb3); dsimp only)
      go_ret
      exact ⟨rfl, hB3⟩
    · obtain ⟨hl2, hl6⟩ := short_len (n := m) (by omega) (by omega)
      have hsi : ¬ (m : Int) < 1000 := by omega
      have hw : IntKind.i64.wrap (1000 * (m : Int)) = 1000 * (m : Int) := by rw [IntKind.wrap_i64]; omega
      have hw2 : wrap64 (1000 * (m : Int)) = 1000 * (m : Int) := by unfold wrap64; omega
      have hsz := str_sz (shortL m)
      by_cases hbig : 1000000000 < m
      · have hbi : (1000000000 : Int) < (m : Int) := by omega
        obtain ⟨TV, EV, CQ⟩ : ∃ (TV : ByteArray) (EV : Value), Hid (∀ W, Below w.heap.size w W → Calls Tryd.prog 6 #[.int .i64 (1000 * (m : Int))] W (Gives W (.tuple #[.string TV, EV]))) :=
          ⟨_, _, Lib.hid fun W hW => hT (1000 * (m : Int)) W hW⟩
        have g2 : ¬ ((str (shortL m)).size : Int) < 2 := by omega
        have g6 : ¬ (6 : Int) < ((str (shortL m)).size : Int) := by omega
        have g2' : (2 : Int) ≤ ((str (shortL m)).size : Int) := by omega
        have g6' : ((str (shortL m)).size : Int) ≤ 6 := by omega
        clear hT hn0 hn1 hsm hl2 hl6 hsz hbig
        generalize str (shortL m) = SS at *
        go_enter Tryd.func4, Tryd.ntmps4
        go_upto_region 2 with (go_at_call 6; (with_reducible refine (CF.out _ hb0).mono ?_); rintro e w1 ⟨rfl, hb1⟩; dsimp only)
        go_upto_region 9 with (go_at_call 6; (with_reducible refine (CT.out _ hb1).mono ?_); rintro e w2 ⟨rfl, hb2⟩; (have hB2 := bel_call hb1 hb2); dsimp only)
        go_wp2_with (go_at_call 6; (with_reducible refine (CQ.out _ hB2).mono ?_); rintro e w3 ⟨rfl, hb3⟩; (have hB3 := bel_call hB2 hb3); dsimp only)
        go_ret
        exact ⟨rfl, hB3⟩
      · have hbi : ¬ (1000000000 : Int) < (m : Int) := by omega
        have CQ := Lib.hid (hT.yes (n := 1000 * (m : Int)) ⟨by omega, by omega⟩)
        rw [show (1000 * (m : Int)).toNat = 1000 * m by omega] at CQ
        obtain ⟨r, hr1, hr2, hr3⟩ := letter_cases (m := m) (by omega) (by omega)
        obtain ⟨a, b, ha, hb, h0, h1, h2⟩ := letter_three r hr2
        have e1 : shortL m = headL m ++ [a] := by rw [short_head, hr1, ha]
        have e2 : shortL (1000 * m) = headL m ++ [b] := by rw [short_head, hr3, hb, (head_more (n := m) (by omega) (by omega)).2]
        rw [e1] at CT hsz hl2 hl6
        rw [e2] at CQ
        have htz := str_sz (headL m ++ [b])
        have x1 := str_head (headL m) a
        have x2 := str_head (headL m) b
        rw [List.length_append, List.length_singleton] at hsz htz hl2 hl6
        obtain ⟨SS, hSS⟩ : ∃ SS, SS = str (headL m ++ [a]) := ⟨_, rfl⟩
        obtain ⟨TS, hTS⟩ : ∃ TS, TS = str (headL m ++ [b]) := ⟨_, rfl⟩
        rw [← hSS] at CT hsz x1
        rw [← hTS] at CQ htz x2
        have y1 := fun hk => str_ix (headL m ++ [a]) SS hSS (headL m).length hk
        have y2 := fun hk => str_ix (headL m ++ [b]) TS hTS (headL m).length hk
        simp only [List.getElem?_concat_length, Option.some.injEq] at y1 y2
        have x3 : TS.extract 0 (headL m).length = SS.extract 0 (headL m).length := by rw [x1, x2]
        clear hSS hTS x1 x2 e1 e2 ha hb hr1 hr3
        generalize (headL m).length = K at *
        have hkS : K < SS.size := by omega
        have hkT : K < TS.size := by omega
        have z1 : (SS[K].toNat : Int) = (a.toNat : Int) := by rw [y1 hkS]
        have z2 : (TS[K].toNat : Int) = (b.toNat : Int) := by rw [y2 hkT]
        have hAB : (r = 0 ∧ (a.toNat : Int) = 75 ∧ (b.toNat : Int) = 77) ∨ (r = 1 ∧ (a.toNat : Int) = 77 ∧ (b.toNat : Int) = 66) ∨ (r = 2 ∧ (a.toNat : Int) = 66 ∧ (b.toNat : Int) = 84) := by
          rcases (show r = 0 ∨ r = 1 ∨ r = 2 by omega) with h | h | h
          · obtain ⟨rfl, rfl⟩ := h0 h; exact .inl ⟨h, rfl, rfl⟩
          · obtain ⟨rfl, rfl⟩ := h1 h; exact .inr (.inl ⟨h, rfl, rfl⟩)
          · obtain ⟨rfl, rfl⟩ := h2 h; exact .inr (.inr ⟨h, rfl, rfl⟩)
        clear y1 y2 h0 h1 h2 hT hn0 hn1 hsm hbig
        generalize (a.toNat : Int) = ai at *
        generalize (b.toNat : Int) = bi at *
        have g2 : ¬ (SS.size : Int) < 2 := by omega
        have g6 : ¬ (6 : Int) < (SS.size : Int) := by omega
        have hwk : (SS.size : Int) - 1 = (K : Int) := by omega
        have hk1 : (K : Int) < (SS.size : Int) := by omega
        have hk2 : (K : Int) < (TS.size : Int) := by omega
        have hk3 : (0 : Int) ≤ (K : Int) := by omega
        have hle : ((TS.size : Int) == (SS.size : Int)) = true := by rw [beq_iff_eq]; omega
        have hle2 : (TS.size : Int) = (SS.size : Int) := by omega
        have hk4 : (K : Int) ≤ (TS.size : Int) := by omega
        have hk5 : (K : Int) ≤ (SS.size : Int) := by omega
        go_enter Tryd.func4, Tryd.ntmps4
        go_upto_region 2 with (go_at_call 6; (with_reducible refine (CF.out _ hb0).mono ?_); rintro e w1 ⟨rfl, hb1⟩; dsimp only)
        go_upto_region 9 with (go_at_call 6; (with_reducible refine (CT.out _ hb1).mono ?_); rintro e w2 ⟨rfl, hb2⟩; (have hB2 := bel_call hb1 hb2); dsimp only)
        go_upto_region 15 with (go_at_call 6; (with_reducible refine (CQ.out _ hB2).mono ?_); rintro e w3 ⟨rfl, hb3⟩; (have hB3 := bel_call hB2 hb3); dsimp only)
        have l0 : ∀ h, (⟨#[75, 77, 66, 84]⟩ : ByteArray)[0]'h = 75 := fun _ => rfl
        have l1 : ∀ h, (⟨#[75, 77, 66, 84]⟩ : ByteArray)[1]'h = 77 := fun _ => rfl
        have l2 : ∀ h, (⟨#[75, 77, 66, 84]⟩ : ByteArray)[2]'h = 66 := fun _ => rfl
        have l3 : ∀ h, (⟨#[75, 77, 66, 84]⟩ : ByteArray)[3]'h = 84 := fun _ => rfl
        go_loopw [11] (fun i wx => ∃ j d : Nat, j ≤ r ∧ i = .int .i64 j ∧ w3.drewN d = wx) (fun i _ => 3 - (intOf i).toNat)
        case atStart => exact ⟨0, 0, Nat.zero_le _, rfl, rfl⟩
        case round =>
          obtain ⟨j, d, hj, rfl, rfl⟩ := hrel
          have hjr : j = r ∨ j < r := by omega
          rcases hjr with hjr | hjr
          · subst hjr
            have hb4 : Below w.heap.size w (w3.drewN d) := up_drewN hB3 d
            generalize w3.drewN d = W4 at *
            rcases hAB with ⟨rfl, rfl, rfl⟩ | ⟨rfl, rfl, rfl⟩ | ⟨rfl, rfl, rfl⟩
            all_goals
              go_upto_region 17 with fail
              go_quiet (fail)
              go_upto_region 18 with fail
              generalize hW5 : W4.drewN nq = W5
              have hb5 : Below w.heap.size w W5 := by rw [← hW5]; exact up_drewN hb4 _
              go_big_quiet (fail)
              go_wp2_with fail
              go_ret
              exact ⟨by simp, up_drewN hb5 _⟩
          · rcases (show (j = 0 ∧ ai = 77 ∧ bi = 66 ∧ r = 1) ∨ (j = 0 ∧ ai = 66 ∧ bi = 84 ∧ r = 2) ∨ (j = 1 ∧ ai = 66 ∧ bi = 84 ∧ r = 2) by omega) with ⟨rfl, rfl, rfl, rfl⟩ | ⟨rfl, rfl, rfl, rfl⟩ | ⟨rfl, rfl, rfl, rfl⟩
            all_goals
              clear hAB
              go_upto_region 17 with fail
              go_quiet (fail)
              go_wp2_with fail
              go_roundw
              case rel => exact ⟨_, d + nq, hjr, by go_num, by simp⟩
              case measure => simp [intOf]
  · have CT := Lib.hid (hT.no hn)
    clear hT hn
    go_enter Tryd.func4, Tryd.ntmps4
    go_upto_region 2 with (go_at_call 6; (with_reducible refine (CF.out _ hb0).mono ?_); rintro e w1 ⟨rfl, hb1⟩; dsimp only)
    go_wp2_with (go_at_call 6; (with_reducible refine (CT.out _ hb1).mono ?_); rintro e w2 ⟨rfl, hb2⟩; (have hB2 := bel_call hb1 hb2); dsimp only)
    go_ret
    exact ⟨rfl, hB2⟩
end Sh
end Go.Proofs.YteipadljahkgoaaDoor
