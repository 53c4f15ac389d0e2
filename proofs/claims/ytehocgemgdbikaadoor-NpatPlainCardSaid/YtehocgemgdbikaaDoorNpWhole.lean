/- The program's text of a pattern: what is ahead of the point, what is behind it. -/
import Derived.Test.YtehocgemgdbikaaDoorNpCheck
import Derived.Test.YtehocgemgdbikaaDoorNpEnds
import Derived.Test.YtehocgemgdbikaaDoorShelf
import Derived.Laws.IdiomStrings
namespace Go.Proofs.YtehocgemgdbikaaDoor
namespace Np
open Go.RowKit Go.Maps D Ru

/-- so many times a byte -/
def rep (c : UInt8) (n : Nat) : List UInt8 := List.replicate n c
theorem rep_any (c : UInt8) (n : Nat) (w : World) (hn : n ≤ 1000) : Calls Tryd.prog 35 #[.string ⟨#[c]⟩, .int .i64 n] w (Gives w (.string (str (rep c n)))) := by
  refine (Tryd.strings_Repeat ⟨#[c]⟩ n w (by omega) (by show 1 * n ≤ _; omega)).mono fun e w' ⟨he, hb⟩ => ⟨?_, hb⟩
  rw [he]
  have : ∀ n, Lib.repeatL [c] n = rep c n := fun n => by
    induction n with
    | zero => rfl
    | succ n ih => rw [Lib.repeatL, ih]; rfl
  show Ending.returned (.string ⟨(Lib.repeatL [c] n).toArray⟩) = _
  rw [this]
theorem rep_size (c : UInt8) (n : Nat) : (str (rep c n)).size = n := by rw [str_len]; unfold rep; simp
/-- the places ahead of the point, one behind the other -/
def digL (a n : Nat) : List UInt8 := rep 35 (n - a) ++ rep 48 a
theorem digL_len {a n : Nat} (h : a ≤ n) : (digL a n).length = n := by unfold digL rep; simp; omega
theorem digL_at {a n i : Nat} (h : a ≤ n) (hi : i < n) : (digL a n)[i]? = some (if a < n - i then 35 else 48) := by
  unfold digL rep
  by_cases h1 : i < n - a
  · rw [List.getElem?_append_left (by simpa using h1), if_pos (by omega), List.getElem?_replicate, if_pos h1]
  · rw [List.getElem?_append_right (by simp; omega), if_neg (by omega), List.getElem?_replicate, List.length_replicate, if_pos (by omega)]
theorem int_step {a g g2 n k : Nat} (h0 : ¬ (g2 ≠ 0 ∧ g = 0)) (hn : n = places a g g2) (hk : k < n) : intU a g g2 n (k + 1) = (if k + 1 = g ∨ k + 1 = g + g2 then [44] else []) ++ ((if a < k + 1 then [35] else [48]) ++ intU a g g2 n k) := by
  have hpl : a ≤ n ∧ (0 < g → g + g2 + 1 ≤ n) := by
    rw [hn]; unfold places
    by_cases h : 0 < g ∧ a < g + g2 + 1
    · rw [if_pos h]; omega
    · rw [if_neg h]; omega
  rw [intU]
  by_cases hg : 0 < g
  · have := hpl.2 hg
    by_cases hc : k + 1 = g ∨ k + 1 = g + g2
    · have e1 : 0 < g ∧ k + 1 < n ∧ (k + 1 = g ∨ 0 < g2 ∧ k + 1 = g + g2) := by omega
      rw [if_pos hc, if_pos e1]
    · have e1 : ¬ (0 < g ∧ k + 1 < n ∧ (k + 1 = g ∨ 0 < g2 ∧ k + 1 = g + g2)) := by omega
      rw [if_neg hc, if_neg e1]
  · have e1 : ¬ (0 < g ∧ k + 1 < n ∧ (k + 1 = g ∨ 0 < g2 ∧ k + 1 = g + g2)) := by omega
    have e2 : ¬ (k + 1 = g ∨ k + 1 = g + g2) := by omega
    rw [if_neg e1, if_neg e2]
theorem places_max (a g g2 : Nat) (h0 : ¬ (g2 ≠ 0 ∧ g = 0)) (ha : 0 < a) : places a g g2 = max a (g + g2 + 1) := by
  unfold places
  by_cases hg : 0 < g
  · by_cases h : a < g + g2 + 1
    · rw [if_pos ⟨hg, h⟩]; omega
    · rw [if_neg (by omega)]; omega
  · rw [if_neg (by omega)]; omega
theorem frac_form_table : ((List.range 7).all fun m => (List.range 7).all fun b => decide (m < b) || (fracU b m == if m = 0 then [] else 46 :: (rep 48 b ++ rep 35 (m - b)))) = true := by decide +kernel
theorem frac_form {b m : Nat} (h1 : m < 7) (h2 : b ≤ m) : fracU b m = if m = 0 then [] else 46 :: (rep 48 b ++ rep 35 (m - b)) := by
  have h := frac_form_table
  rw [List.all_eq_true] at h
  have h := h m (List.mem_range.2 h1)
  rw [List.all_eq_true] at h
  have h := h b (List.mem_range.2 (by omega))
  simp only [Bool.or_eq_true, decide_eq_true_iff, beq_iff_eq] at h
  rcases h with h | h
  · omega
  · exact h
/-- bytes as cells -/
def bC (l : List UInt8) : List Value := l.map fun b => .int .u8 b.toNat
theorem bC_app (a b : List UInt8) : bC (a ++ b) = bC a ++ bC b := List.map_append
theorem u8_info : (Tryd.prog.info? 5).map (fun i => (i.zero, i.size, i.bytes)) = some (some (.int .u8 0), 1, 1) := by kernel_rfl
/-- a row of bytes, made a text of -/
theorem back_own {w : World} {base : Nat} {v : Value} {l : List UInt8} (h : w.ownsRow base 5 1 v l.length (bC l)) (hl : l ≠ []) :
    (convert 57 9 v).run Tryd.prog w = .ok (.string (str l)) w := by
  obtain ⟨A, c, rfl, _, _, hr, _⟩ := own_shape h
  obtain ⟨ad, rfl, _, hc⟩ := hr.2 (List.length_pos_iff.2 hl)
  exact run_convert_bytes_back w _ _ 5 ad c l Tryd.underlying57 Tryd.underlying5 Tryd.underlying9 fun j hj => hc j _ (by unfold bC; rw [List.getElem?_map, List.getElem?_eq_getElem hj]; rfl)
set_option maxHeartbeats 4000000 in
set_option maxRecDepth 100000 in
theorem whole_any (pre suf : List UInt8) (b m : Int) (a g g2 : Nat) (w : World) (ha1 : 1 ≤ a) (ha9 : a ≤ 9) (hg4 : g ≤ 4) (hk4 : g2 ≤ 4) (hz : ¬ (g2 ≠ 0 ∧ g = 0)) :
    Calls Tryd.prog 20 #[patV ⟨pre, suf, a, b, m, g, g2⟩] w (Gives w (.string (str (intT a g g2)))) := by
  obtain ⟨i0, hi0, hz0, hz1, hz2⟩ := info_parts u8_info
  have HB : Hid (Bs w _ [_]) := Lib.hid (bs_one w (patC ⟨pre, suf, a, b, m, g, g2⟩) 23)
  obtain ⟨n, hn⟩ : ∃ n, n = places a g g2 := ⟨_, rfl⟩
  have hmax := hn.trans (places_max a g g2 hz (by omega))
  have han : a ≤ n := by omega
  have hn9 : n ≤ 9 := by omega
  have HST := Lib.hid (fun k hk => int_step (k := k) hz hn hk)
  unfold intT
  rw [← hn]
  have C1 := Lib.hid (fun W => rep_any 35 (n - a) W (by omega))
  have C2 := Lib.hid (fun W => rep_any 48 a W (by omega))
  have hs1 := rep_size 35 (n - a)
  have hs2 := rep_size 48 a
  have hSS : str (rep 35 (n - a)) ++ str (rep 48 a) = str (digL a n) := add_str _ _
  have w1 : IntKind.i64.wrap ((g : Int) + (g2 : Int)) = (g : Int) + (g2 : Int) := by rw [IntKind.wrap_i64]; omega
  have w2 : IntKind.i64.wrap ((g : Int) + (g2 : Int) + 1) = (g : Int) + (g2 : Int) + 1 := by rw [IntKind.wrap_i64]; omega
  have w3 : max (a : Int) ((g : Int) + (g2 : Int) + 1) = (n : Int) := by omega
  have w4 : IntKind.i64.wrap ((n : Int) - (a : Int)) = ((n - a : Nat) : Int) := by rw [IntKind.wrap_i64]; omega
  have HD : Hid ((digL a n).length = n ∧ ∀ i, i < n → (digL a n)[i]? = some (if a < n - i then 35 else 48)) := Lib.hid ⟨digL_len han, fun i hi => digL_at han hi⟩
  have HNP := Lib.hid (show intU a g g2 n n ≠ [] by
    intro e
    have := HST.out (n - 1) (by omega)
    rw [show n - 1 + 1 = n by omega, e] at this
    have := congrArg List.length this
    have h2 : (if a < n then [(35 : UInt8)] else [48]).length = 1 := by split <;> rfl
    rw [List.length_append, List.length_append, h2] at this
    simp only [List.length_nil] at this
    omega)
  have g1 : ¬ 9223372036854775807 < (str (rep 35 (n - a))).size + (str (rep 48 a)).size := by omega
  have h1n : 1 ≤ n := by omega
  clear hs1 hs2 hn hmax
  generalize str (rep 35 (n - a)) = A1 at *
  generalize str (rep 48 a) = A2 at *
  generalize hG : intU a g g2 n n = G at *
  have hG := Lib.hid hG
  have HC : Hid (∀ wx, Below (w.alloc (.cells (patC ⟨pre, suf, a, b, m, g, g2⟩).toArray 23)).heap.size (w.alloc (.cells (patC ⟨pre, suf, a, b, m, g, g2⟩).toArray 23)) wx → Below (w.alloc (.cells (patC ⟨pre, suf, a, b, m, g, g2⟩).toArray 23)).heap.size (w.alloc (.cells (patC ⟨pre, suf, a, b, m, g, g2⟩).toArray 23)) wx ∧ wx.cell? ⟨w.heap.size, 2, none⟩ = some (.int .i64 a)) := Lib.hid fun wx hb => by
    obtain ⟨-, -, e2, -⟩ := (HB.out.call hb).cells
    exact ⟨hb, e2⟩
  obtain ⟨d0, d1, d2, d3, d4, d5, d6, -⟩ := HB.out.cells
  go_enter Tryd.func20, Tryd.ntmps20
  go_upto_region 2 with fail
  generalize hW0 : w.alloc _ = W0 at *
  clear hW0
  clear d0 d1 d3 d4 d5 d6
  obtain ⟨hB0, -⟩ := HC.out _ (Below.refl _ _)
  go_region_held3 (fun wx => Below W0.heap.size W0 wx ∧ wx.cell? ⟨w.heap.size, 2, none⟩ = some (.int .i64 a))
    (first | exact HC.out _ (by assumption) | exact HC.out _ (Below.drew (by assumption)))
    (first
      | (go_at_call 35; (with_reducible refine (C1.out _).mono ?_); rintro e wy ⟨rfl, hby⟩; (have hTy : Below W0.heap.size W0 wy := by first | exact up_call (by assumption) hby | exact up_call (Below.drew (by assumption)) hby))
      | (go_at_call 35; (with_reducible refine (C2.out _).mono ?_); rintro e wz ⟨rfl, hbz⟩; (have hTz : Below W0.heap.size W0 wz := by first | exact up_call (by assumption) hbz | exact up_call (Below.drew (by assumption)) hbz)))
  have HBz := Lib.hid (HB.out.call hTz)
  obtain ⟨S, hS⟩ : ∃ S, S = str (digL a n) := ⟨_, rfl⟩
  rw [← hS]
  have hsz : S.size = n := by rw [hS, str_len]; exact HD.out.1
  have HSB : Hid (∀ i (h : i < S.size), S[i] = if a < n - i then 35 else 48) := Lib.hid fun i h => by
    have := HD.out.2 i (by omega)
    subst hS
    rw [List.getElem?_eq_getElem (by rw [HD.out.1]; omega)] at this
    have e : (str (digL a n))[i]'h = (digL a n)[i]'(by rw [HD.out.1]; omega) := by show (digL a n).toArray[i] = _; simp
    rw [e]
    exact Option.some.inj this
  clear hS hSS HC HD hB0 hTy d2 w1 w2 w3 w4 g1
  have hn9i : n ≤ 9 := hn9
  go_wp2_with fail
  go_loopw [5, 27] (fun v i wr => ∃ (k : Nat) (acc : List UInt8), k ≤ n ∧ i = .int .i64 k ∧ wr.ownsRow wz.heap.size 5 1 v acc.length (bC acc) ∧ Below wz.heap.size wz wr ∧ Hid (acc.length ≤ 2 * k ∧ acc ++ intU a g g2 n (n - k) = G)) (fun _ i _ => n - (intOf i).toNat)
  case atStart => exact ⟨0, [], Nat.zero_le _, rfl, World.ownsRow_nil _ _ _ _, Below.refl _ _, Lib.hid ⟨Nat.zero_le _, hG.out⟩⟩
  case round =>
    obtain ⟨k, acc, hk, rfl, hown, hbw, HR⟩ := hrel
    by_cases hlt : k < n
    · have hki : (k : Int) < (n : Int) := by omega
      have hkS : k < S.size := by omega
      have hkSi : (k : Int) < (S.size : Int) := by omega
      obtain ⟨-, -, -, -, -, e5, e6, -⟩ := (HBz.out.call hbw).cells
      obtain ⟨j, hj⟩ : ∃ j, n - k = j + 1 := ⟨n - k - 1, by omega⟩
      have hw : IntKind.i64.wrap ((n : Int) - (k : Int)) = ((j + 1 : Nat) : Int) := by rw [IntKind.wrap_i64]; omega
      have hw2 : IntKind.i64.wrap ((g : Int) + (g2 : Int)) = ((g + g2 : Nat) : Int) := by rw [IntKind.wrap_i64]; omega
      have hst := HST.out j (by omega)
      have hal := HR.out.1
      have hcs : [S[k]] = (if a < j + 1 then ([35] : List UInt8) else [48]) := by
        rw [HSB.out k hkS, hj]; split <;> rfl
      rw [← hcs] at hst
      have ho : ∀ x : UInt8, ∀ u ∈ ([.int .u8 (x.toNat : Int)] : List Value), u.oneCell' = true := by intro x u hu; simp at hu; subst hu; rfl
      have ho44 : ∀ u ∈ ([.int .u8 44] : List Value), u.oneCell' = true := by intro u hu; simp at hu; subst hu; rfl
      have hnj : n - (k + 1) = j := by omega
      by_cases hc : j + 1 = g ∨ j + 1 = g + g2
      · rw [if_pos hc] at hst
        have HHR : Hid ((acc ++ [44] ++ [S[k]]).length ≤ 2 * (k + 1) ∧ (acc ++ [44] ++ [S[k]]) ++ intU a g g2 n (n - (k + 1)) = G) := Lib.hid ⟨by simp; omega, by rw [← HR.out.2, hj, hst, hnj]; simp⟩
        clear hst hcs HST HR HSB
        by_cases hc1 : j + 1 = g
        · have hb1 : (((j + 1 : Nat) : Int) == (g : Int)) = true := beq_iff_eq.2 (by omega)
          clear hc
          generalize hz1' : ((j + 1 : Nat) : Int) = z1 at *
          clear hz1'
          go_wp2_with (first
            | (at_builtin; refine wpList_append_own _ rfl (.tmp 46) (.tmp 47) _ rfl wz.heap.size 5 i0 _ 1 1 Tryd.underlying57 hi0 hz0 hz1 hz2 rfl (by decide) _ _ _ rfl (hown.alloc _) ⟨wr.heap.size, 0, none⟩ 1 1 [.int .u8 44] rfl rfl (cell_one_new _ _ _) ho44 (by unfold maxLen; omega) (by omega) (by have := hbw.size; simp; omega) ?_; intro v2 w2 hown2 hg2 hnil2; (have hbw2 : Below wz.heap.size wz w2 := (hbw.alloc hbw.size _).grown hg2 (by have := hbw.size; simp; omega) (fun j hj => (hown.lt j hj).1)))
            | (at_builtin; refine wpList_append_own _ rfl (.tmp 49) (.tmp 53) _ rfl wz.heap.size 5 i0 _ 1 1 Tryd.underlying57 hi0 hz0 hz1 hz2 rfl (by decide) _ _ _ rfl (hown2.alloc _) ⟨w2.heap.size, 0, none⟩ 1 1 [.int .u8 (S[k].toNat : Int)] rfl rfl (cell_one_new _ _ _) (ho S[k]) (by unfold maxLen; omega) (by omega) (by have := hbw2.size; simp; omega) ?_; intro v3 w3 hown3 hg3 hnil3; (have hbw3 : Below wz.heap.size wz w3 := (hbw2.alloc hbw2.size _).grown hg3 (by have := hbw2.size; simp; omega) (fun j hj => (hown2.lt j hj).1))))
          go_roundw
          case rel => exact ⟨k + 1, acc ++ [44] ++ [S[k]], by omega, by go_num, by simpa [bC] using hown3, hbw3, HHR⟩
          case measure => simp [intOf]; omega
        · have hb1 : (((j + 1 : Nat) : Int) == (g : Int)) = false := beq_eq_false_iff_ne.2 (by omega)
          have hb2 : (((j + 1 : Nat) : Int) == ((g + g2 : Nat) : Int)) = true := beq_iff_eq.2 (by omega)
          clear hc hc1
          generalize hz1' : ((j + 1 : Nat) : Int) = z1 at *
          generalize hz2' : ((g + g2 : Nat) : Int) = z2 at *
          clear hz1' hz2'
          go_wp2_with (first
            | (at_builtin; refine wpList_append_own _ rfl (.tmp 46) (.tmp 47) _ rfl wz.heap.size 5 i0 _ 1 1 Tryd.underlying57 hi0 hz0 hz1 hz2 rfl (by decide) _ _ _ rfl (hown.alloc _) ⟨wr.heap.size, 0, none⟩ 1 1 [.int .u8 44] rfl rfl (cell_one_new _ _ _) ho44 (by unfold maxLen; omega) (by omega) (by have := hbw.size; simp; omega) ?_; intro v2 w2 hown2 hg2 hnil2; (have hbw2 : Below wz.heap.size wz w2 := (hbw.alloc hbw.size _).grown hg2 (by have := hbw.size; simp; omega) (fun j hj => (hown.lt j hj).1)))
            | (at_builtin; refine wpList_append_own _ rfl (.tmp 49) (.tmp 53) _ rfl wz.heap.size 5 i0 _ 1 1 Tryd.underlying57 hi0 hz0 hz1 hz2 rfl (by decide) _ _ _ rfl (hown2.alloc _) ⟨w2.heap.size, 0, none⟩ 1 1 [.int .u8 (S[k].toNat : Int)] rfl rfl (cell_one_new _ _ _) (ho S[k]) (by unfold maxLen; omega) (by omega) (by have := hbw2.size; simp; omega) ?_; intro v3 w3 hown3 hg3 hnil3; (have hbw3 : Below wz.heap.size wz w3 := (hbw2.alloc hbw2.size _).grown hg3 (by have := hbw2.size; simp; omega) (fun j hj => (hown2.lt j hj).1))))
          go_roundw
          case rel => exact ⟨k + 1, acc ++ [44] ++ [S[k]], by omega, by go_num, by simpa [bC] using hown3, hbw3, HHR⟩
          case measure => simp [intOf]; omega
      · rw [if_neg hc] at hst
        have HHR : Hid ((acc ++ [S[k]]).length ≤ 2 * (k + 1) ∧ (acc ++ [S[k]]) ++ intU a g g2 n (n - (k + 1)) = G) := Lib.hid ⟨by simp; omega, by rw [← HR.out.2, hj, hst, hnj]; simp⟩
        have hb1 : (((j + 1 : Nat) : Int) == (g : Int)) = false := beq_eq_false_iff_ne.2 (by omega)
        have hb2 : (((j + 1 : Nat) : Int) == ((g + g2 : Nat) : Int)) = false := beq_eq_false_iff_ne.2 (by omega)
        clear hst hcs HST HR HSB hc
        generalize hz1' : ((j + 1 : Nat) : Int) = z1 at *
        generalize hz2' : ((g + g2 : Nat) : Int) = z2 at *
        clear hz1' hz2'
        go_wp2_with (at_builtin; refine wpList_append_own _ rfl (.tmp 49) (.tmp 53) _ rfl wz.heap.size 5 i0 _ 1 1 Tryd.underlying57 hi0 hz0 hz1 hz2 rfl (by decide) _ _ _ rfl (hown.alloc _) ⟨wr.heap.size, 0, none⟩ 1 1 [.int .u8 (S[k].toNat : Int)] rfl rfl (cell_one_new _ _ _) (ho S[k]) (by unfold maxLen; omega) (by omega) (by have := hbw.size; simp; omega) ?_; intro v3 w3 hown3 hg3 hnil3; (have hbw3 : Below wz.heap.size wz w3 := (hbw.alloc hbw.size _).grown hg3 (by have := hbw.size; simp; omega) (fun j hj => (hown.lt j hj).1)))
        go_roundw
        case rel => exact ⟨k + 1, acc ++ [S[k]], by omega, by go_num, by simpa [bC] using hown3, hbw3, HHR⟩
        case measure => simp [intOf]; omega
    · obtain rfl : k = n := by omega
      have hacc : acc = G := by
        have := HR.out.2
        rw [Nat.sub_self] at this
        simpa [intU] using this
      subst hacc
      have hne : acc ≠ [] := fun e => HNP.out e
      have hconv := back_own hown hne
      have hki : ¬ (k : Int) < (k : Int) := by omega
      clear hne hG HNP HR
      go_wp2_with fail
      go_ret
      exact ⟨rfl, up_call HBz.out.below hbw⟩
end Np
end Go.Proofs.YtehocgemgdbikaaDoor
