/- The law GroupSizes returns true. -/
import Derived.Test.YtbacfehkalkmbaaGrFact
import Derived.Test.YtbacfehkalkmbaaGrConv
import Derived.Test.YtbacfehkalkmbaaRefJoined
namespace Go.Proofs.Ytbacfehkalkmbaa
namespace Gr
open Go.RowKit Go.Maps D Ru

theorem size_str' (l : List UInt8) : (str l).size = l.length := by rw [D.ba_size, str_data]
theorem bs_get {ps : List ByteArray} {k : Nat} (h : k < ps.length) {L : List (List UInt8)} (hb : bs ps = L) : L[k]? = some ps[k].data.toList := by
  subst hb; simp [bs, h]
/-- a row of pieces -/
def CutG (W : World) (ps : List (List UInt8)) (e : Ending) (w' : World) : Prop := ∃ (lst : List ByteArray) (A : Option Addr) (cc : Nat), e = .returned (.slice A lst.length cc) ∧ Reads w' w'.heap.size 1 A lst.length (sv lst) ∧ Below W.heap.size W w' ∧ bs lst = ps
set_option maxHeartbeats 4000000 in
set_option maxRecDepth 100000 in
theorem sizes_any (N : Nat) (l : List UInt8) (g g2 : Int) (c : UInt8) (w : World) (hG : PutOk N w) (h5 : 5 ≤ N) (hl : l.length ≤ N) (hN : N ≤ 1048576) :
    Calls Try.prog 3 #[.string (str l), .int .i64 g, .int .i64 g2, .int .u8 c.toNat] w (TrueB w) := by
  have hB0 := Below.refl w.heap.size w
  have CF := Lib.hid (fact_any hG h5)
  by_cases hp : putF l g g2 c = 0
  · have CP := Lib.hid (hG.putY hl hp)
    obtain ⟨⟨hnum, hdg⟩, ⟨hg0, hg4⟩, hh0, hh4⟩ := putF_zero.1 hp
    obtain ⟨G, rfl⟩ := Int.eq_ofNat_of_zero_le hg0
    obtain ⟨G2, rfl⟩ := Int.eq_ofNat_of_zero_le hh0
    have hT : putT l (G : Int) (G2 : Int) c = grouped c G G2 l := by rw [putT_zero hp]; rfl
    rw [hT] at CP
    have hcut := pcs_cut G G2 l (num_free hnum hdg)
    have hflat := pcs_flat G G2 l
    have hne := List.length_pos_iff.2 (pcs_ne G G2 l)
    have HSZ : Hid (G ≠ 0 → ∀ (i : Nat) (p : List UInt8), (pcs G G2 l)[i]? = some p → 0 < p.length ∧ p.length ≤ wantG G G2 (pcs G G2 l).length i ∧ (0 < i → p.length = wantG G G2 (pcs G G2 l).length i)) := Lib.hid fun h => pcs_sizes G G2 l h hnum.1
    have h2 : Hid (1 < (pcs G G2 l).length → G ≠ 0) := Lib.hid fun h => (pcs_two h).1
    have h1 : Hid (¬ 1 < (pcs G G2 l).length → G = 0 ∨ l.length ≤ G) := Lib.hid pcs_single
    have hlen := grouped_le c G G2 l
    have hsl := size_str' l
    have hsg := size_str' (grouped c G G2 l)
    have CC : Hid (∀ W : World, Calls Try.prog 7 #[.string (str (grouped c G G2 l)), .string (str [c])] W (CutG W (pcs G G2 l))) := Lib.hid fun W => by
      refine (refCut_any (str (grouped c G G2 l)) (str [c]) W (by omega) (by rw [size_str']; exact Nat.one_pos) (by rw [size_str']; show 1 ≤ 100; decide)).mono fun e w' ⟨lst, v, he, hown, hb, hbs, _, _⟩ => ?_
      rw [str_data, str_data, hcut] at hbs
      obtain ⟨A, cc, rfl, hc, hm, hr, -⟩ := own_shape hown
      exact ⟨lst, A, cc, he, hr, hb, hbs⟩
    clear hG hp hnum hdg hT hcut hg0 hh0 hsg h5
    generalize str (grouped c G G2 l) = S at *
    obtain ⟨m, hm⟩ : ∃ m, (pcs G G2 l).length = m := ⟨_, rfl⟩
    rw [hm] at HSZ h2 h1 hne
    have hml : m ≤ 1048577 := by
      have := pcs_few G G2 l
      omega
    have CJ : Hid (∀ (lst : List ByteArray) (A : Option Addr) (cc : Nat) (W : World), bs lst = pcs G G2 l → Reads W W.heap.size 1 A lst.length (sv lst) → Calls Try.prog 8 #[.slice A lst.length cc, .string ⟨#[]⟩] W fun e w' => e = .returned (.string (str l)) ∧ W = w') := Lib.hid fun lst A cc W hbs hr => by
      have hll : lst.length = m := by rw [← hm, ← hbs]; simp [bs]
      have := joined_any A lst.length cc lst ⟨#[]⟩ W _ hr (by unfold maxLen; omega) (by rw [hbs]; show (joinL [] (pcs G G2 l)).length ≤ _; rw [joinL_nil, hflat]; omega)
      rw [hbs, show joinL (⟨#[]⟩ : ByteArray).data.toList (pcs G G2 l) = l from (joinL_nil _).trans hflat] at this
      exact this
    have hLL : (str l).size = l.length := hsl
    clear hflat hlen
    generalize str l = L at *
    generalize hpp : pcs G G2 l = PP at *
    have hconv := fun W : World => conv_one W c
    obtain ⟨cs, hcs⟩ : ∃ cs, str [c] = cs := ⟨_, rfl⟩
    rw [hcs] at CC hconv
    generalize (c.toNat : Int) = ci at *
    clear hcs
    go_enter Try.func3, Try.ntmps3
    go_upto_region 2 with (go_at_call 5; (with_reducible refine (CF.out _ hB0).mono ?_); rintro e w1 ⟨rfl, hb1⟩; dsimp only)
    go_upto_region 7 with (go_at_call 6; (with_reducible refine (CP.out _ hb1).mono ?_); rintro e w2 ⟨rfl, hb2⟩; (have hB2 := bel_call hb1 hb2); dsimp only)
    have hconv := hconv w2
    go_upto_region 8 with (go_at_call 7; (with_reducible refine (CC.out _).mono ?_); rintro e w3 ⟨lst, A, cc, rfl, hr, hb3, hbs⟩; (have hB3 := bel_call (bel_alloc hB2 _) hb3); dsimp only)
    clear hconv hb3 hb2 hB2 hb1
    have hll : lst.length = m := by rw [← hm, ← hbs]; simp [bs]
    have CJ := Lib.hid (CJ.out lst A cc w3 hbs hr)
    have HR := Lib.hid hr
    have HBS := Lib.hid hbs
    subst hll
    clear hr hbs hm CP CC CF hB0
    generalize hq : lst.length = m at *
    have HQ := Lib.hid hq
    clear hq
    by_cases hm1 : 1 < m
    · have hG0 := h2.out hm1
      have g0 : ((G : Int) == 0) = false := by rw [beq_eq_false_iff_ne]; omega
      have hm1i : (1 : Int) < (m : Int) := by omega
      have hw : IntKind.i64.wrap ((m : Int) - 1) = ((m - 1 : Nat) : Int) := by rw [IntKind.wrap_i64]; omega
      clear h1 h2
      have key : ∀ (NG : Nat), (∀ i, wantG G G2 m i = if i + 1 = m then G else NG) → ∀ (k : Nat) (hk : k < m), ∃ (p : ByteArray) (ad : Addr), A = some ad ∧ w3.cell? (ad.add k) = some (.string p) ∧ 0 < p.size ∧ p.size ≤ (if k + 1 = m then G else NG) ∧ (0 < k → p.size = if k + 1 = m then G else NG) := by
        intro NG hNG k hk
        obtain ⟨ad, u, rfl, -, hu, x0⟩ := HR.out.at_ hk
        obtain ⟨hkp, rfl⟩ := sv_get hu
        obtain ⟨z1, z2, z3⟩ := HSZ.out hG0 k _ (bs_get hkp HBS.out)
        rw [← D.ba_size, hNG] at z2
        rw [← D.ba_size] at z1
        refine ⟨lst[k], ad, rfl, x0, z1, z2, fun h => ?_⟩
        have := z3 h
        rwa [← D.ba_size, hNG] at this
      by_cases hz : G2 = 0
      · have HK := Lib.hid (key G (fun i => by unfold wantG nextG; rw [if_pos hz]))
        subst hz
        clear key HSZ HR HBS HQ
        go_upto_region 13 with (go_at_call 8; (with_reducible refine (CJ.out).mono ?_); rintro e w4 ⟨rfl, rfl⟩; dsimp only)
        go_wp2_with fail
        go_loop [14] (fun i => ∃ k : Nat, k ≤ m ∧ i = .int .i64 k) (fun i => m - (intOf i).toNat)
        case atStart => exact ⟨0, Nat.zero_le _, rfl⟩
        case round =>
          obtain ⟨k, hk, rfl⟩ := hrel
          by_cases hlt : k < m
          · obtain ⟨p, ad, rfl, x0, z1, z2, z3⟩ := HK.out k hlt
            have hki : (k : Int) < (m : Int) := by omega
            have e3 : ((p.size : Int) == 0) = false := by rw [beq_eq_false_iff_ne]; omega
            by_cases hla : k + 1 = m
            · rw [if_pos hla] at z2 z3
              have ek : ((k : Int) == ((m - 1 : Nat) : Int)) = true := by rw [beq_iff_eq]; omega
              have e1 : ¬ ((G : Int) < (p.size : Int)) := by omega
              have hk0 : (0 : Int) < (k : Int) := by omega
              have e2 : ¬ ((p.size : Int) < (G : Int)) := by have := z3 (by omega); omega
              clear z1 z2 z3 hla HK
              go_wp2_with fail
              go_round
              case rel => exact ⟨k + 1, by omega, by go_num⟩
              case measure => simp [intOf]; omega
            · rw [if_neg hla] at z2 z3
              have ek : ((k : Int) == ((m - 1 : Nat) : Int)) = false := by rw [beq_eq_false_iff_ne]; omega
              have e1 : ¬ ((G : Int) < (p.size : Int)) := by omega
              by_cases hk0 : 0 < k
              · have hk0i : (0 : Int) < (k : Int) := by omega
                have e2 : ¬ ((p.size : Int) < (G : Int)) := by have := z3 hk0; omega
                clear z1 z2 z3 hla HK
                go_wp2_with fail
                go_round
                case rel => exact ⟨k + 1, by omega, by go_num⟩
                case measure => simp [intOf]; omega
              · obtain rfl : k = 0 := by omega
                have x00 : w3.cell? ad = some (.string p) := by simpa [Addr.add] using x0
                clear x0
                clear z1 z2 z3 hla HK
                go_wp2_with fail
                all_goals
                  go_round
                  case rel => exact ⟨1, by omega, by go_num⟩
                  case measure => simp [intOf]; omega
          · have hki : ¬ ((k : Int) < (m : Int)) := by omega
            clear HK
            go_wp2_with fail
            go_ret
            exact ⟨rfl, hB3⟩
      · have g2 : ((G2 : Int) == 0) = false := by rw [beq_eq_false_iff_ne]; omega
        have HK := Lib.hid (key G2 (fun i => by unfold wantG nextG; rw [if_neg hz]))
        clear key HSZ HR HBS HQ hz
        go_upto_region 13 with (go_at_call 8; (with_reducible refine (CJ.out).mono ?_); rintro e w4 ⟨rfl, rfl⟩; dsimp only)
        go_wp2_with fail
        go_loop [14] (fun i => ∃ k : Nat, k ≤ m ∧ i = .int .i64 k) (fun i => m - (intOf i).toNat)
        case atStart => exact ⟨0, Nat.zero_le _, rfl⟩
        case round =>
          obtain ⟨k, hk, rfl⟩ := hrel
          by_cases hlt : k < m
          · obtain ⟨p, ad, rfl, x0, z1, z2, z3⟩ := HK.out k hlt
            have hki : (k : Int) < (m : Int) := by omega
            have e3 : ((p.size : Int) == 0) = false := by rw [beq_eq_false_iff_ne]; omega
            by_cases hla : k + 1 = m
            · rw [if_pos hla] at z2 z3
              have ek : ((k : Int) == ((m - 1 : Nat) : Int)) = true := by rw [beq_iff_eq]; omega
              have e1 : ¬ ((G : Int) < (p.size : Int)) := by omega
              have hk0 : (0 : Int) < (k : Int) := by omega
              have e2 : ¬ ((p.size : Int) < (G : Int)) := by have := z3 (by omega); omega
              clear z1 z2 z3 hla HK
              go_wp2_with fail
              go_round
              case rel => exact ⟨k + 1, by omega, by go_num⟩
              case measure => simp [intOf]; omega
            · rw [if_neg hla] at z2 z3
              have ek : ((k : Int) == ((m - 1 : Nat) : Int)) = false := by rw [beq_eq_false_iff_ne]; omega
              have e1 : ¬ ((G2 : Int) < (p.size : Int)) := by omega
              by_cases hk0 : 0 < k
              · have hk0i : (0 : Int) < (k : Int) := by omega
                have e2 : ¬ ((p.size : Int) < (G2 : Int)) := by have := z3 hk0; omega
                clear z1 z2 z3 hla HK
                go_wp2_with fail
                go_round
                case rel => exact ⟨k + 1, by omega, by go_num⟩
                case measure => simp [intOf]; omega
              · obtain rfl : k = 0 := by omega
                have x00 : w3.cell? ad = some (.string p) := by simpa [Addr.add] using x0
                clear x0
                clear z1 z2 z3 hla HK
                go_wp2_with fail
                all_goals
                  go_round
                  case rel => exact ⟨1, by omega, by go_num⟩
                  case measure => simp [intOf]; omega
          · have hki : ¬ ((k : Int) < (m : Int)) := by omega
            clear HK
            go_wp2_with fail
            go_ret
            exact ⟨rfl, hB3⟩
    · have hm0 : m = 1 := by omega
      have hor := h1.out hm1
      subst hm0
      clear h1 h2 HSZ HR HBS HQ
      rcases hor with h0 | h0
      · subst h0
        go_upto_region 13 with (go_at_call 8; (with_reducible refine (CJ.out).mono ?_); rintro e w4 ⟨rfl, rfl⟩; dsimp only)
        all_goals
          go_wp2_with fail
          go_loop [14] (fun i => i = .int .i64 0) (fun _ => 0)
          case atStart => exact rfl
          case round =>
            obtain rfl := hrel
            go_wp2_with fail
            go_ret
            exact ⟨rfl, hB3⟩
      · have h0i : (L.size : Int) ≤ (G : Int) := by omega
        go_upto_region 13 with (go_at_call 8; (with_reducible refine (CJ.out).mono ?_); rintro e w4 ⟨rfl, rfl⟩; dsimp only)
        all_goals
          go_wp2_with fail
          go_loop [14] (fun i => i = .int .i64 0) (fun _ => 0)
          case atStart => exact rfl
          case round =>
            obtain rfl := hrel
            go_wp2_with fail
            go_ret
            exact ⟨rfl, hB3⟩
  · have CP := Lib.hid (hG.putN hl hp)
    clear hG hp hl h5 hN
    generalize putF l g g2 c = z at *
    generalize str l = L at *
    generalize (c.toNat : Int) = ci at *
    go_enter Try.func3, Try.ntmps3
    go_upto_region 2 with (go_at_call 5; (with_reducible refine (CF.out _ hB0).mono ?_); rintro e w1 ⟨rfl, hb1⟩; dsimp only)
    go_wp2_with (go_at_call 6; (with_reducible refine (CP.out _ hb1).mono ?_); rintro e w2 ⟨rfl, hb2⟩; (have hB2 := bel_call hb1 hb2); dsimp only)
    go_ret
    exact ⟨rfl, hB2⟩
end Gr
end Go.Proofs.Ytbacfehkalkmbaa
