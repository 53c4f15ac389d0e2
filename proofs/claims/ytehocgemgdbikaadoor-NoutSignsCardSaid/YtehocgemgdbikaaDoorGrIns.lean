/- Digits in groups, put in one by one from the left: plain facts. Nothing of the program stands here. -/
import Derived.Test.YtehocgemgdbikaaDoorGrMath
import Derived.Lib.Replace
import Derived.Lib.CountLaws
namespace Go.Proofs.YtehocgemgdbikaaDoor
namespace Gr
open Ru

/-- a group starts with the first of so many last digits -/
def starts (g h k : Nat) : Bool := decide (g ≤ k) && decide ((k - g) % h = 0)
def insL (c : UInt8) (g h : Nat) : List UInt8 → List UInt8
  | [] => []
  | x :: l => (if starts g h (l.length + 1) then [c] else []) ++ x :: insL c g h l
def ins0 (c : UInt8) (g h : Nat) : List UInt8 → List UInt8
  | [] => []
  | x :: l => x :: insL c g h l
theorem insL_short (c : UInt8) (g h : Nat) : ∀ l : List UInt8, l.length < g → insL c g h l = l
  | [], _ => rfl
  | x :: l, hl => by
    have h1 : starts g h (l.length + 1) = false := by
      unfold starts
      rw [decide_eq_false (by simp at hl; omega)]; rfl
    rw [insL, h1, insL_short c g h l (by simp at hl; omega)]
    rfl
theorem mod_turn {k h : Nat} (hk : 0 < k) : (k % h = 0) ↔ (h ≤ k ∧ (k - h) % h = 0) := by
  constructor
  · intro e
    have hle := Nat.le_of_dvd hk (Nat.dvd_of_mod_eq_zero e)
    exact ⟨hle, by rw [← Nat.mod_eq_sub_mod hle]; exact e⟩
  · rintro ⟨hle, e⟩
    rw [Nat.mod_eq_sub_mod hle]; exact e
theorem insL_app (c : UInt8) {g h : Nat} (hg : 0 < g) (b : List UInt8) (hb : b.length = g) : ∀ a : List UInt8, insL c g h (a ++ b) = insL c h h a ++ ([c] ++ b)
  | [] => by
    cases b with
    | nil => simp at hb; omega
    | cons x b =>
      have h1 : starts g h (b.length + 1) = true := by
        unfold starts
        rw [decide_eq_true (by simp at hb; omega), decide_eq_true (by simp at hb; rw [hb]; simp)]; rfl
      have e : insL c g h ([] ++ x :: b) = (if starts g h (b.length + 1) = true then [c] else []) ++ x :: insL c g h b := rfl
      rw [e, h1, insL_short c g h b (by simp at hb; omega)]
      rfl
  | x :: a => by
    have h1 : starts g h ((a ++ b).length + 1) = starts h h (a.length + 1) := by
      unfold starts
      have hm := mod_turn (k := a.length + 1) (h := h) (by omega)
      have e : (a ++ b).length + 1 - g = a.length + 1 := by rw [List.length_append, hb]; omega
      rw [e, decide_eq_true (show g ≤ (a ++ b).length + 1 by rw [List.length_append]; omega), Bool.true_and, ← Bool.decide_and]
      exact decide_eq_decide.2 hm
    rw [List.cons_append, insL, h1, insL_app c hg b hb a, insL]
    simp
theorem grouped_ins (c : UInt8) (g g2 : Nat) (l : List UInt8) : g ≠ 0 → l ≠ [] → grouped c g g2 l = ins0 c g (nextG g g2) l := by
  induction g, g2, l using pcs_ind with
  | one g g2 l h =>
    intro hg hl
    rw [grouped_one h]
    cases l with
    | nil => exact absurd rfl hl
    | cons x l =>
      show _ = x :: insL c g (nextG g g2) l
      rw [insL_short c _ _ l (by simp at h; omega)]
  | more g g2 l h ih =>
    intro hg hl
    have hN := next_pos (g2 := g2) hg
    have hlen : (l.take (l.length - g)).length = l.length - g := by rw [List.length_take]; omega
    have hne : l.take (l.length - g) ≠ [] := List.length_pos_iff.1 (by omega)
    have hd : (l.drop (l.length - g)).length = g := by rw [List.length_drop]; omega
    rw [grouped_more h, ih hN hne, next_self]
    have hsplit : l = l.take (l.length - g) ++ l.drop (l.length - g) := (List.take_append_drop _ _).symm
    conv => rhs; rw [hsplit]
    generalize l.drop (l.length - g) = b at *
    generalize l.take (l.length - g) = a at *
    cases a with
    | nil => exact absurd rfl hne
    | cons x a =>
      show (x :: insL c (nextG g g2) (nextG g g2) a) ++ _ = x :: insL c g (nextG g g2) (a ++ b)
      rw [insL_app c (by omega) b hd a]
      simp
/-- what is still to be put behind the first i digits -/
def restI (c : UInt8) (g h : Nat) (l : List UInt8) (i : Nat) : List UInt8 := if i = 0 then ins0 c g h l else insL c g h (l.drop i)
theorem rest_step (c : UInt8) (g h : Nat) (l : List UInt8) (i : Nat) (hi : i < l.length) : restI c g h l i = (if (decide (0 < i) && starts g h (l.length - i)) = true then [c] else []) ++ ([l[i]] ++ restI c g h l (i + 1)) := by
  unfold restI
  rw [if_neg (show ¬ i + 1 = 0 by omega)]
  by_cases h0 : i = 0
  · subst h0
    cases l with
    | nil => simp at hi
    | cons x l => simp [ins0.eq_def]
  · rw [if_neg h0, List.drop_eq_getElem_cons hi, insL, decide_eq_true (by omega), Bool.true_and, List.length_drop]
    rw [show l.length - (i + 1) + 1 = l.length - i by omega]
    simp
theorem rest_end (c : UInt8) (g h : Nat) (l : List UInt8) (hl : l ≠ []) : restI c g h l l.length = [] := by
  unfold restI
  have := List.length_pos_iff.2 hl
  rw [if_neg (by omega), List.drop_length]; rfl
/-! ### a sign struck out -/
theorem bare_head (c : UInt8) (s : List UInt8) : bare c (c :: s) = bare c s := by unfold bare; rw [List.filter_cons_of_neg (by simp)]
theorem replaceK_bare (c : UInt8) : ∀ (n : Nat) (s : List UInt8), s.length ≤ n → ∀ k, Lib.count s [c] ≤ k → Lib.replaceK [c] [] k s = bare c s := by
  intro n
  induction n with
  | zero =>
    intro s hs k _
    obtain rfl : s = [] := List.eq_nil_of_length_eq_zero (by omega)
    cases k with
    | zero => rfl
    | succ k => rw [Lib.replaceK, if_pos (by rfl)]; rfl
  | succ n ih =>
    intro s hs k hk
    by_cases hm : c ∈ s
    · obtain ⟨p, r, rfl, hp⟩ := List.eq_append_cons_of_mem hm
      have hx : Lib.index (p ++ c :: r) [c] = (p.length : Int) := index_join (first_one c) hp
      have hd : (p ++ c :: r).drop (p.length + [c].length) = r := by
        rw [List.drop_length_add_append]; rfl
      rw [Lib.count_hit (by simp) hx, hd] at hk
      obtain ⟨k, rfl⟩ : ∃ k', k = k' + 1 := ⟨k - 1, by omega⟩
      rw [Lib.replaceK_hit _ _ _ _ _ hx, hd, ih r (by simp at hs; omega) k (by omega), bare_app, bare_self hp, bare_head]
      simp
    · have hx : Lib.index s [c] = -1 := index_no (first_one c) hm
      rw [bare_self hm]
      cases k with
      | zero => rfl
      | succ k => rw [Lib.replaceK, if_pos (by rw [hx]; rfl)]
theorem replace_bare (c : UInt8) (s : List UInt8) : Lib.replaceAll s [c] [] = bare c s := by
  unfold Lib.replaceAll Lib.replace Lib.replaceNum
  rw [if_neg (by simp), if_pos (.inl (by omega))]
  exact replaceK_bare c s.length s (Nat.le_refl _) _ (Nat.le_refl _)
/-! ### how the text grows -/
theorem ins_len (c : UInt8) (g g2 : Nat) (l : List UInt8) (hg : g ≠ 0) (hl : l ≠ []) : (ins0 c g (nextG g g2) l).length ≤ 2 * l.length := by
  rw [← grouped_ins c g g2 l hg hl]; exact grouped_le _ _ _ _
theorem grouped_none (c : UInt8) (g2 : Nat) (l : List UInt8) : grouped c 0 g2 l = l := grouped_one (.inl rfl)
end Gr
end Go.Proofs.YtehocgemgdbikaaDoor
