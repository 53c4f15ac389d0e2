/- The reference's text of a right pattern; what lay in memory stays as it was. -/
import Derived.Test.YtonbjfepckolnaaDoorNpRef
namespace Go.Proofs.YtonbjfepckolnaaDoor
namespace Np
open Go.RowKit D Ru

/-- what stands so far, what is left -/
def Left (T : List UInt8) (r : List UInt8) (Y : ByteArray) : Prop := Y.data.toList ++ r = T
theorem Left.put {T r : List UInt8} {Y : ByteArray} {x : UInt8} (h : Left T (x :: r) Y) : Left T r (Y ++ ⟨#[x]⟩) := by
  unfold Left at *
  rw [ByteArray.data_append, Array.toList_append, ← h]
  simp
theorem Left.size {T r : List UInt8} {Y : ByteArray} (h : Left T r Y) : Y.size ≤ T.length := by
  rw [D.ba_size, ← h, List.length_append]; omega
theorem Left.done {T : List UInt8} {Y : ByteArray} (h : Left T [] Y) : Y = str T := str_eq (by rw [← h]; simp)
theorem intU_len (a g g2 n : Nat) : ∀ k, (intU a g g2 n k).length ≤ 2 * k
  | 0 => by simp [intU]
  | k + 1 => by
    have := intU_len a g g2 n k
    unfold intU
    rw [List.length_append, List.length_append]
    have h1 : (if 0 < g ∧ k + 1 < n ∧ (k + 1 = g ∨ 0 < g2 ∧ k + 1 = g + g2) then [44] else ([] : List UInt8)).length ≤ 1 := by split <;> simp
    have h2 : (if a < k + 1 then [35] else ([48] : List UInt8)).length ≤ 1 := by split <;> simp
    omega
theorem fracU_len (b : Nat) : ∀ k, (fracU b k).length ≤ 2 * k
  | 0 => by simp [fracU]
  | k + 1 => by
    have := fracU_len b k
    unfold fracU
    rw [List.length_append, List.length_append]
    have h1 : (if k = 0 then [46] else ([] : List UInt8)).length ≤ 1 := by split <;> simp
    have h2 : (if k < b then [48] else ([35] : List UInt8)).length ≤ 1 := by split <;> simp
    omega
theorem places_le {a g g2 : Nat} (ha : a ≤ 9) (hg : g ≤ 4) (hg2 : g2 ≤ 4) : places a g g2 ≤ 9 := by unfold places; split <;> omega
set_option maxHeartbeats 4000000 in
set_option maxRecDepth 100000 in
theorem patText_nat (pre suf : List UInt8) (a b m g g2 : Nat) (w : World) (hl : pre.length + suf.length ≤ 100) (ha : a ≤ 9) (hm : m ≤ 6) (hg : g ≤ 4) (hg2 : g2 ≤ 4) :
    Calls Tryd.prog 9 #[patV ⟨pre, suf, a, b, m, g, g2⟩] w (Gives w (.string (str (pre ++ (intT a g g2 ++ fracU b m) ++ suf)))) := by
  have HB0 : Hid (Bs w _ [_]) := Lib.hid (bs_one w (patC ⟨pre, suf, a, b, m, g, g2⟩) 23)
  obtain ⟨d0, d1, d2, d3, d4, d5, d6, -⟩ := HB0.out.cells
  have hB0 := HB0.out.below
  have hps := str_len pre
  have hss := str_len suf
  have HI : Hid (∀ n k, intU a g g2 n (k + 1) = (if 0 < g ∧ k + 1 < n ∧ (k + 1 = g ∨ 0 < g2 ∧ k + 1 = g + g2) then [44] else []) ++ ((if a < k + 1 then [35] else [48]) ++ intU a g g2 n k)) := Lib.hid fun n k => rfl
  have HFR : Hid (∀ k, fracU b (k + 1) = fracU b k ++ ((if k = 0 then [46] else []) ++ (if k < b then [48] else [35]))) := Lib.hid fun k => rfl
  have HT : Hid (intT a g g2 = intU a g g2 (places a g g2) (places a g g2)) := Lib.hid rfl
  have HPL : Hid (places a g g2 = if 0 < g ∧ a < g + g2 + 1 then g + g2 + 1 else a) := Lib.hid rfl
  have HST : Hid (str (pre ++ (intT a g g2 ++ fracU b m) ++ suf) = str (pre ++ intT a g g2 ++ fracU b m) ++ str suf) := Lib.hid (by rw [add_str]; congr 1; simp)
  have hwp : IntKind.i64.wrap ((g : Int) + (g2 : Int)) = (g : Int) + (g2 : Int) := by rw [IntKind.wrap_i64]; omega
  have hwq : IntKind.i64.wrap ((g : Int) + (g2 : Int) + 1) = (g : Int) + (g2 : Int) + 1 := by rw [IntKind.wrap_i64]; omega
  have HTL : Hid ((pre ++ intT a g g2).length ≤ 120) := Lib.hid (by
    have h1 := intU_len a g g2 (places a g g2) (places a g g2)
    have h2 := places_le ha hg hg2
    rw [List.length_append]; unfold intT; omega)
  have HN9 := places_le ha hg hg2
  have HFL : Hid (∀ k, k ≤ m → (pre ++ intT a g g2 ++ fracU b k).length ≤ 140) := Lib.hid fun k hk => by
    have h1 := HTL.out
    have h2 := fracU_len b k
    rw [List.length_append]; omega
  generalize hTT : pre ++ intT a g g2 = TT at *
  go_enter Tryd.func9, Tryd.ntmps9
  go_upto_region 2 with fail
  generalize w.alloc (.cells #[.string (str pre), .string (str suf), .int .i64 (a : Int), .int .i64 (b : Int), .int .i64 (m : Int), .int .i64 (g : Int), .int .i64 (g2 : Int)] 23) = W0 at *
  obtain ⟨C, HC⟩ := flag (0 < g ∧ a < g + g2 + 1)
  go_cut [21] (fun s21 wx => s21 = .bool C ∧ W0 = wx)
  case first =>
    by_cases h1 : 0 < g
    · have h1i : (0 : Int) < (g : Int) := by omega
      by_cases h2 : a < g + g2 + 1
      · have h2i : (a : Int) < (g : Int) + (g2 : Int) + 1 := by omega
        go_wp2_with fail
        go_meet
        exact ⟨val_b (HC.out.1 ⟨h1, h2⟩).symm, rfl⟩
      · have h2i : ¬ (a : Int) < (g : Int) + (g2 : Int) + 1 := by omega
        go_wp2_with fail
        go_meet
        exact ⟨val_b (HC.out.2 fun h => h2 h.2).symm, rfl⟩
    · have h1i : ¬ (0 : Int) < (g : Int) := by omega
      go_wp2_with fail
      go_meet
      exact ⟨val_b (HC.out.2 fun h => h1 h.1).symm, rfl⟩
  case rest =>
    obtain ⟨rfl, rfl⟩ := hcut
    go_upto_if 21 with fail
    go_cut [3] (fun s3 wx => s3 = .int .i64 ((places a g g2 : Nat) : Int) ∧ W0 = wx)
    case first =>
      cases hC : C
      · have hp := HPL.out
        rw [if_neg (HC.out.no hC)] at hp
        have HP := Lib.hid hp
        clear hp
        go_wp2_with fail
        go_meet
        exact ⟨by rw [HP.out], rfl⟩
      · have hp := HPL.out
        rw [if_pos (HC.out.yes hC)] at hp
        have HP := Lib.hid hp
        clear hp
        go_wp2_with fail
        go_meet
        exact ⟨congrArg (Value.int .i64) (by rw [HP.out]; omega), rfl⟩
    case rest =>
      obtain ⟨rfl, rfl⟩ := hcut
      clear HPL
      have HST0 : Hid (Left TT (intU a g g2 (places a g g2) (places a g g2)) (str pre)) := Lib.hid (by unfold Left; rw [str_data, ← hTT, HT.out])
      clear HT hTT
      generalize places a g g2 = n at *
      go_wp2_with fail
      go_loop [4, 5] (fun y l => ∃ (k : Nat) (Y : ByteArray), k ≤ n ∧ l = .int .i64 k ∧ y = .string Y ∧ Hid (Left TT (intU a g g2 n k) Y)) (fun _ l => (intOf l).toNat)
      case atStart => exact ⟨n, _, Nat.le_refl _, rfl, rfl, HST0⟩
      case round =>
        obtain ⟨k, Y, hk, rfl, rfl, HY⟩ := hrel
        have hYs : Y.size ≤ 120 := Nat.le_trans HY.out.size HTL.out
        have hY1 : ¬ 9223372036854775807 < Y.size + 1 := by omega
        rcases k with _ | j
        · have HE : Hid (Y = str TT) := Lib.hid HY.out.done
          have hE := HE.out
          subst hE
          clear HY HE hYs
          have HF1 : Hid (∀ k, k ≤ m → (str (TT ++ fracU b k)).size ≤ 140) := Lib.hid fun k hk => by rw [str_len]; exact HFL.out k hk
          have HF2 : Hid (∀ k, str (TT ++ fracU b (k + 1)) = str (TT ++ fracU b k) ++ str ((if k = 0 then [46] else []) ++ (if k < b then [48] else [35]))) := Lib.hid fun k => by rw [HFR.out, add_str, List.append_assoc]
          have HF3 : Hid (Value.string (str TT) = .string (str (TT ++ fracU b 0))) := Lib.hid (by rw [show TT ++ fracU b 0 = TT from List.append_nil _])
          clear HFR HFL HI HTL HN9 hwp hwq
          go_wp2_with fail
          go_loop [4, 6] (fun y i => ∃ (k : Nat), k ≤ m ∧ i = .int .i64 k ∧ y = .string (str (TT ++ fracU b k))) (fun _ i => m - (intOf i).toNat)
          case atStart => exact ⟨0, Nat.zero_le _, rfl, HF3.out⟩
          case round =>
            obtain ⟨k, hk, rfl, rfl⟩ := hrel
            have hys := HF1.out k hk
            by_cases hlt : k < m
            · have hki : (k : Int) < (m : Int) := by omega
              have hr := HF2.out k
              generalize str (TT ++ fracU b k) = Y at *
              have hy1 : ¬ 9223372036854775807 < Y.size + 1 := by omega
              have hy2 : ¬ 9223372036854775807 < Y.size + 1 + 1 := by omega
              clear HF1 HF3 HST hys
              by_cases h0 : k = 0
              · have h0i : ((k : Int) == 0) = true := by rw [beq_iff_eq]; omega
                by_cases hb : k < b
                · have hbi : (k : Int) < (b : Int) := by omega
                  rw [if_pos h0, if_pos hb] at hr
                  have HR : Hid (str (TT ++ fracU b (k + 1)) = Y ++ ⟨#[46]⟩ ++ ⟨#[48]⟩) := Lib.hid (by rw [hr]; exact ba_ext (by simp [ByteArray.data_append]))
                  subst h0
                  clear hr hb HF2
                  go_wp2_with fail
                  go_round
                  case rel => exact ⟨1, by omega, by go_num, by rw [HR.out]⟩
                  case measure => simp [intOf]; omega
                · have hbi : ¬ (k : Int) < (b : Int) := by omega
                  rw [if_pos h0, if_neg hb] at hr
                  have HR : Hid (str (TT ++ fracU b (k + 1)) = Y ++ ⟨#[46]⟩ ++ ⟨#[35]⟩) := Lib.hid (by rw [hr]; exact ba_ext (by simp [ByteArray.data_append]))
                  subst h0
                  clear hr hb HF2
                  go_wp2_with fail
                  go_round
                  case rel => exact ⟨1, by omega, by go_num, by rw [HR.out]⟩
                  case measure => simp [intOf]; omega
              · have h0i : ((k : Int) == 0) = false := by rw [beq_eq_false_iff_ne]; omega
                by_cases hb : k < b
                · have hbi : (k : Int) < (b : Int) := by omega
                  rw [if_neg h0, if_pos hb] at hr
                  have HR : Hid (str (TT ++ fracU b (k + 1)) = Y ++ ⟨#[48]⟩) := Lib.hid (by rw [hr]; exact ba_ext (by simp [ByteArray.data_append]))
                  clear hr hb HF2 h0
                  go_wp2_with fail
                  go_round
                  case rel => exact ⟨k + 1, by omega, by go_num, by rw [HR.out]⟩
                  case measure => simp [intOf]; omega
                · have hbi : ¬ (k : Int) < (b : Int) := by omega
                  rw [if_neg h0, if_neg hb] at hr
                  have HR : Hid (str (TT ++ fracU b (k + 1)) = Y ++ ⟨#[35]⟩) := Lib.hid (by rw [hr]; exact ba_ext (by simp [ByteArray.data_append]))
                  clear hr hb HF2 h0
                  go_wp2_with fail
                  go_round
                  case rel => exact ⟨k + 1, by omega, by go_num, by rw [HR.out]⟩
                  case measure => simp [intOf]; omega
            · have hki : ¬ ((k : Int) < (m : Int)) := by omega
              obtain rfl : k = m := by omega
              have hsum : ¬ 9223372036854775807 < (str (TT ++ fracU b k)).size + (str suf).size := by omega
              clear HF1 HF2 HF3 hlt hk hys
              generalize str (TT ++ fracU b k) = Y at *
              generalize str suf = S at *
              go_wp2_with fail
              go_ret
              exact ⟨ret_str (HST.out.symm.trans (congrArg str (by simp))), hB0⟩
        · have hji : (0 : Int) < ((j + 1 : Nat) : Int) := by omega
          have HY2 := Lib.hid HY.out
          rw [HI.out] at HY2
          go_upto_region 8 with fail
          obtain ⟨D, HD⟩ := flag (0 < g ∧ j + 1 < n ∧ (j + 1 = g ∨ 0 < g2 ∧ j + 1 = g + g2))
          go_cut [62] (fun s62 wx => s62 = .bool D ∧ W0 = wx)
          case first =>
            clear HY HY2 hY1 hYs HI HFR HST HFL HTL hji
            by_cases h1 : 0 < g
            · have h1i : (0 : Int) < (g : Int) := by omega
              by_cases h2 : j + 1 < n
              · have h2i : (j : Int) + 1 < (n : Int) := by omega
                by_cases h3 : j + 1 = g
                · have h3i : ((j : Int) + 1 == (g : Int)) = true := by rw [beq_iff_eq]; omega
                  have hd := HD.out.1 ⟨h1, h2, .inl h3⟩
                  clear h3 h1 h2
                  go_wp2_with fail
                  go_meet
                  exact ⟨val_b hd.symm, rfl⟩
                · have h3i : ((j : Int) + 1 == (g : Int)) = false := by rw [beq_eq_false_iff_ne]; omega
                  by_cases h4 : 0 < g2
                  · have h4i : (0 : Int) < (g2 : Int) := by omega
                    by_cases h5 : j + 1 = g + g2
                    · have h5i : ((j : Int) + 1 == (g : Int) + (g2 : Int)) = true := by rw [beq_iff_eq]; omega
                      have hd := HD.out.1 ⟨h1, h2, .inr ⟨h4, h5⟩⟩
                      clear h3 h1 h2 h4 h5
                      go_wp2_with fail
                      go_meet
                      exact ⟨val_b hd.symm, rfl⟩
                    · have h5i : ((j : Int) + 1 == (g : Int) + (g2 : Int)) = false := by rw [beq_eq_false_iff_ne]; omega
                      have hd := HD.out.2 fun h => h.2.2.elim h3 fun h => h5 h.2
                      clear h3 h1 h2 h4 h5
                      go_wp2_with fail
                      go_meet
                      exact ⟨val_b hd.symm, rfl⟩
                  · have h4i : ¬ (0 : Int) < (g2 : Int) := by omega
                    have hd := HD.out.2 fun h => h.2.2.elim h3 fun h => h4 h.1
                    clear h3 h1 h2 h4
                    go_wp2_with fail
                    go_meet
                    exact ⟨val_b hd.symm, rfl⟩
              · have h2i : ¬ (j : Int) + 1 < (n : Int) := by omega
                have hd := HD.out.2 fun h => h2 h.2.1
                clear h1 h2
                go_wp2_with fail
                go_meet
                exact ⟨val_b hd.symm, rfl⟩
            · have h1i : ¬ (0 : Int) < (g : Int) := by omega
              have hd := HD.out.2 fun h => h1 h.1
              clear h1
              go_wp2_with fail
              go_meet
              exact ⟨val_b hd.symm, rfl⟩
          case rest =>
            obtain ⟨rfl, rfl⟩ := hcut
            go_upto_if 62 with fail
            go_cut [4] (fun s4 wx => (∃ Y2 : ByteArray, s4 = .string Y2 ∧ Hid (Left TT ((if a < j + 1 then [35] else [48]) ++ intU a g g2 n j) Y2)) ∧ W0 = wx)
            case first =>
              have hy2 := HY2.out
              cases hD : D
              · rw [if_neg (HD.out.no hD)] at hy2
                have HY3 := Lib.hid hy2
                clear hy2 HY2 HY
                go_wp2_with fail
                go_meet
                exact ⟨⟨_, rfl, HY3⟩, rfl⟩
              · rw [if_pos (HD.out.yes hD)] at hy2
                have HY3 := Lib.hid (Left.put hy2)
                clear hy2 HY2 HY
                go_wp2_with fail
                go_meet
                exact ⟨⟨_, rfl, HY3⟩, rfl⟩
            case rest =>
              obtain ⟨⟨Y2, rfl, HY3⟩, rfl⟩ := hcut
              have hY2s : Y2.size ≤ 120 := Nat.le_trans HY3.out.size HTL.out
              have hY21 : ¬ 9223372036854775807 < Y2.size + 1 := by omega
              have hwj : IntKind.i64.wrap (((j + 1 : Nat) : Int) - 1) = (j : Int) := by rw [IntKind.wrap_i64]; omega
              clear HY HY2 hY1 hYs HD hY2s
              by_cases hlt : a < j + 1
              · have hlti : (a : Int) < (j : Int) + 1 := by omega
                have hy4 := HY3.out
                rw [if_pos hlt] at hy4
                have HY4 := Lib.hid (Left.put hy4)
                clear hy4 HY3 hlt
                go_wp2_with fail
                go_round
                case rel => exact ⟨j, _, by omega, by go_num, rfl, HY4⟩
                case measure => simp [intOf]
              · have hlti : ¬ (a : Int) < (j : Int) + 1 := by omega
                have hy4 := HY3.out
                rw [if_neg hlt] at hy4
                have HY4 := Lib.hid (Left.put hy4)
                clear hy4 HY3 hlt
                go_wp2_with fail
                go_round
                case rel => exact ⟨j, _, by omega, by go_num, rfl, HY4⟩
                case measure => simp [intOf]
/-- a right pattern's text -/
theorem refPatText_any (p : PatV) (w : World) (h : patF p = 0) : Calls Tryd.prog 9 #[patV p] w (Gives w (.string (str (patT p)))) := by
  obtain ⟨⟨h1, h2⟩, ⟨⟨a1, a9⟩, ⟨m0, m6⟩, ⟨b0, bm⟩, ⟨g0, g4⟩, k0, k4⟩, hz⟩ := patF_zero.1 h
  have hp := h1.1
  have hs := h2.1
  have := patText_nat p.pre p.suf p.a.toNat p.b.toNat p.m.toNat p.g.toNat p.g2.toNat w (by omega) (by omega) (by omega) (by omega) (by omega)
  rw [show (p.a.toNat : Int) = p.a by omega, show (p.b.toNat : Int) = p.b by omega, show (p.m.toNat : Int) = p.m by omega, show (p.g.toNat : Int) = p.g by omega, show (p.g2.toNat : Int) = p.g2 by omega] at this
  exact this
end Np
end Go.Proofs.YtonbjfepckolnaaDoor
