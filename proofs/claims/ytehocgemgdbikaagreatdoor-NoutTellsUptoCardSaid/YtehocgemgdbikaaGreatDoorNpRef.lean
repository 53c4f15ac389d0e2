/- What the reference says is wrong with a pattern; a right pattern's text; what lay in memory stays as it was. -/
import Derived.Test.YtehocgemgdbikaaGreatDoorNpVal
import Derived.Test.YtehocgemgdbikaaGreatDoorRefOnly
namespace Go.Proofs.YtehocgemgdbikaaGreatDoor
namespace Np
open Go.RowKit D Ru

theorem fills_aff (l : List UInt8) : fillsB (amongB affL) l 0 5 = decide (Aff l) := by
  unfold fillsB amongB
  rw [Bool.eq_iff_iff]
  simp only [Bool.and_eq_true, decide_eq_true_iff, List.all_eq_true]
  exact ⟨fun h => ⟨h.1.2, h.2⟩, fun h => ⟨⟨Nat.zero_le _, h.1⟩, h.2⟩⟩
theorem only_aff (l : List UInt8) (W : World) (hl : l.length ≤ maxLen) : Calls Tryz.prog 17 #[.string (str l), .string ⟨#[97, 98, 99, 100, 101, 102, 103, 104, 105, 106, 107, 108, 109, 110, 111, 112, 113, 114, 115, 116, 117, 118, 119, 120, 121, 122, 65, 66, 67, 68, 69, 70, 71, 72, 73, 74, 75, 76, 77, 78, 79, 80, 81, 82, 83, 84, 85, 86, 87, 88, 89, 90, 32, 36, 37]⟩, .int .i64 0, .int .i64 5] W (Drawn W (.bool (decide (Aff l)))) := by
  have := refOnly_any (str l) (str affL) 0 5 W (by rw [D.ba_size, str_data]; exact hl) (by rw [D.ba_size, str_data]; unfold maxLen; decide)
  rw [str_data, str_data, fills_aff] at this
  exact this
set_option maxHeartbeats 4000000 in
set_option maxRecDepth 100000 in
theorem refPatFault_any (p : PatV) (w : World) (h1 : p.pre.length ≤ maxLen) (h2 : p.suf.length ≤ maxLen) : Calls Tryz.prog 6 #[patV p] w (GivesI w (patF p)) := by
  obtain ⟨pre, suf, a, b, m, g, g2⟩ := p
  have HB0 : Hid (Bs w _ [_]) := Lib.hid (bs_one w (patC ⟨pre, suf, a, b, m, g, g2⟩) 23)
  have O1 := Lib.hid fun (W : World) => only_aff pre W h1
  have O2 := Lib.hid fun (W : World) => only_aff suf W h2
  have H3 : Hid (¬ (Aff pre ∧ Aff suf) → patF ⟨pre, suf, a, b, m, g, g2⟩ = 3) := Lib.hid fun h => by unfold patF; rw [if_neg h]
  have H1 : Hid (Aff pre ∧ Aff suf → ¬ ((1 ≤ a ∧ a ≤ 9) ∧ (0 ≤ m ∧ m ≤ 6) ∧ (0 ≤ b ∧ b ≤ m) ∧ (0 ≤ g ∧ g ≤ 4) ∧ 0 ≤ g2 ∧ g2 ≤ 4) → patF ⟨pre, suf, a, b, m, g, g2⟩ = 1) := Lib.hid fun h h' => by unfold patF; rw [if_pos h, if_neg (by exact h')]
  have H0 : Hid (Aff pre ∧ Aff suf → ((1 ≤ a ∧ a ≤ 9) ∧ (0 ≤ m ∧ m ≤ 6) ∧ (0 ≤ b ∧ b ≤ m) ∧ (0 ≤ g ∧ g ≤ 4) ∧ 0 ≤ g2 ∧ g2 ≤ 4) → patF ⟨pre, suf, a, b, m, g, g2⟩ = if g2 ≠ 0 ∧ g = 0 then 3 else 0) := Lib.hid fun h h' => by unfold patF; rw [if_pos h, if_pos (by exact h')]
  clear h1 h2
  generalize patF ⟨pre, suf, a, b, m, g, g2⟩ = F at *
  obtain ⟨d0, d1, d2, d3, d4, d5, d6, -⟩ := HB0.out.cells
  by_cases hp : Aff pre
  · rw [decide_eq_true hp] at O1
    by_cases hs : Aff suf
    · have H1 := H1.out ⟨hp, hs⟩
      have H0 := H0.out ⟨hp, hs⟩
      rw [decide_eq_true hs] at O2
      go_enter Tryz.func6, Tryz.ntmps6
      go_upto_region 3 with (first
        | (go_at_call 17; (with_reducible refine (O1.out _).mono ?_); rintro e wo ⟨rfl, k1, rfl⟩; (have HB1 := Lib.hid (HB0.out.drewN k1)); (obtain ⟨c0, c1, c2, c3, c4, c5, c6, -⟩ := HB1.out.cells))
        | (go_at_call 17; (with_reducible refine (O2.out _).mono ?_); rintro e wo ⟨rfl, k2, rfl⟩; (have HB2 := Lib.hid (HB0.out.drewN (k1 + k2)))))
      clear d0 d1 d2 d3 d4 d5 d6 c0 c1 c2 c3 c4 c5 c6 H3 hp hs
      have hB2 := HB2.out.below
      obtain ⟨-, -, d2, d3, d4, d5, d6, -⟩ := HB2.out.cells
      by_cases hS : (1 ≤ a ∧ a ≤ 9) ∧ (0 ≤ m ∧ m ≤ 6) ∧ (0 ≤ b ∧ b ≤ m) ∧ (0 ≤ g ∧ g ≤ 4) ∧ 0 ≤ g2 ∧ g2 ≤ 4
      · have hF := H0 hS
        obtain ⟨⟨a1, a9⟩, ⟨m0, m6⟩, ⟨b0, bm⟩, ⟨g0, g4⟩, k0, k4⟩ := hS
        have z1 : ¬ a < 1 := by omega
        have z2 : ¬ 9 < a := by omega
        have z3 : ¬ m < 0 := by omega
        have z4 : ¬ 6 < m := by omega
        have z5 : ¬ b < 0 := by omega
        have z6 : ¬ m < b := by omega
        have z7 : ¬ g < 0 := by omega
        have z8 : ¬ 4 < g := by omega
        have z9 : ¬ g2 < 0 := by omega
        have zz : ¬ 4 < g2 := by omega
        clear H0 H1 a1 a9 m0 m6 b0 bm g0 g4 k0 k4
        by_cases hz : g2 = 0
        · rw [if_neg fun h => h.1 hz] at hF
          subst hF
          subst hz
          go_wp2_with fail
          go_ret
          exact ⟨rfl, hB2⟩
        · have hzb : (g2 == 0) = false := by rw [beq_eq_false_iff_ne]; exact hz
          have hzn : (g2 != 0) = true := by rw [bne_iff_ne]; exact hz
          by_cases hg : g = 0
          · rw [if_pos ⟨hz, hg⟩] at hF
            subst hF
            subst hg
            clear hz
            go_wp2_with fail
            go_ret
            exact ⟨rfl, hB2⟩
          · rw [if_neg fun h => hg h.2] at hF
            have hgb : (g == 0) = false := by rw [beq_eq_false_iff_ne]; exact hg
            subst hF
            clear hz hg
            go_wp2_with fail
            go_ret
            exact ⟨rfl, hB2⟩
      · have hF := H1 hS
        subst hF
        clear H0 H1
        have HS := Lib.hid hS
        clear hS
        go_wp2_with fail
        all_goals first
          | (exfalso; have := HS.out; omega)
          | (go_ret; exact ⟨rfl, hB2⟩)
    · rw [decide_eq_false hs] at O2
      have hF := H3.out fun h => hs h.2
      subst hF
      go_enter Tryz.func6, Tryz.ntmps6
      go_wp2_with (first
        | (go_at_call 17; (with_reducible refine (O1.out _).mono ?_); rintro e wo ⟨rfl, k1, rfl⟩; (have HB1 := Lib.hid (HB0.out.drewN k1)); (obtain ⟨c0, c1, c2, c3, c4, c5, c6, -⟩ := HB1.out.cells))
        | (go_at_call 17; (with_reducible refine (O2.out _).mono ?_); rintro e wo ⟨rfl, k2, rfl⟩))
      go_ret
      exact ⟨rfl, up_drewN HB0.out.below _⟩
  · rw [decide_eq_false hp] at O1
    have hF := H3.out fun h => hp h.1
    subst hF
    go_enter Tryz.func6, Tryz.ntmps6
    go_wp2_with (go_at_call 17; (with_reducible refine (O1.out _).mono ?_); rintro e wo ⟨rfl, k1, rfl⟩)
    go_ret
    exact ⟨rfl, up_drewN HB0.out.below _⟩
end Np
end Go.Proofs.YtehocgemgdbikaaGreatDoor
