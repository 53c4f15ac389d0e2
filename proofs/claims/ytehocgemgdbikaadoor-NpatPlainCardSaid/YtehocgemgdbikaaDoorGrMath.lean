/- Digits in groups: plain facts on bytes. Nothing of the program stands here. And what follows from it. -/
import Derived.Test.YtehocgemgdbikaaDoorRuPlain
import Derived.Lib.Replace
import Derived.Lib.CountLaws
namespace Go.Proofs.YtehocgemgdbikaaDoor
namespace Gr
open Ru

/-- what the groups ahead of the last one have -/
def nextG (g g2 : Nat) : Nat := if g2 = 0 then g else g2
theorem next_pos {g g2 : Nat} (h : g ≠ 0) : nextG g g2 ≠ 0 := by unfold nextG; split <;> assumption
theorem next_self {n : Nat} : nextG n n = n := by unfold nextG; split <;> omega
/-- the groups -/
def pcs (g g2 : Nat) (l : List UInt8) : List (List UInt8) :=
  if g = 0 ∨ l.length ≤ g then [l] else pcs (nextG g g2) (nextG g g2) (l.take (l.length - g)) ++ [l.drop (l.length - g)]
termination_by l.length
decreasing_by
  rename_i h
  simp only [List.length_take]
  omega
theorem pcs_one {g g2 : Nat} {l : List UInt8} (h : g = 0 ∨ l.length ≤ g) : pcs g g2 l = [l] := by rw [pcs, if_pos h]
theorem pcs_more {g g2 : Nat} {l : List UInt8} (h : ¬ (g = 0 ∨ l.length ≤ g)) : pcs g g2 l = pcs (nextG g g2) (nextG g g2) (l.take (l.length - g)) ++ [l.drop (l.length - g)] := by
  conv => lhs; rw [pcs]
  rw [if_neg h]
theorem pcs_ne (g g2 : Nat) (l : List UInt8) : pcs g g2 l ≠ [] := by
  by_cases h : g = 0 ∨ l.length ≤ g
  · rw [pcs_one h]; simp
  · rw [pcs_more h]; simp
/-- induction along the groups -/
theorem pcs_ind {P : Nat → Nat → List UInt8 → Prop} (one : ∀ g g2 l, (g = 0 ∨ l.length ≤ g) → P g g2 l)
    (more : ∀ g g2 l, ¬ (g = 0 ∨ l.length ≤ g) → P (nextG g g2) (nextG g g2) (l.take (l.length - g)) → P g g2 l) : ∀ g g2 l, P g g2 l := by
  intro g g2 l
  obtain ⟨n, hn⟩ : ∃ n, l.length = n := ⟨_, rfl⟩
  induction n using Nat.strongRecOn generalizing g g2 l with
  | _ n ih =>
    by_cases h : g = 0 ∨ l.length ≤ g
    · exact one g g2 l h
    · exact more g g2 l h (ih _ (by rw [List.length_take]; omega) _ _ _ rfl)
theorem pcs_few (g g2 : Nat) (l : List UInt8) : (pcs g g2 l).length ≤ l.length + 1 := by
  induction g, g2, l using pcs_ind with
  | one g g2 l h => rw [pcs_one h]; simp
  | more g g2 l h ih =>
    rw [pcs_more h, List.length_append, List.length_singleton]
    rw [List.length_take] at ih
    omega
def grouped (c : UInt8) (g g2 : Nat) (l : List UInt8) : List UInt8 := joinL [c] (pcs g g2 l)
theorem grouped_one {c : UInt8} {g g2 : Nat} {l : List UInt8} (h : g = 0 ∨ l.length ≤ g) : grouped c g g2 l = l := by unfold grouped; rw [pcs_one h]; rfl
theorem grouped_more {c : UInt8} {g g2 : Nat} {l : List UInt8} (h : ¬ (g = 0 ∨ l.length ≤ g)) : grouped c g g2 l = grouped c (nextG g g2) (nextG g g2) (l.take (l.length - g)) ++ ([c] ++ l.drop (l.length - g)) := by
  unfold grouped
  rw [pcs_more h, join_snoc _ _ _ (pcs_ne _ _ _)]
theorem pcs_flat (g g2 : Nat) (l : List UInt8) : (pcs g g2 l).flatten = l := by
  induction g, g2, l using pcs_ind with
  | one g g2 l h => rw [pcs_one h]; simp
  | more g g2 l h ih => rw [pcs_more h, List.flatten_append, ih]; simp
theorem joinL_nil (ps : List (List UInt8)) : joinL [] ps = ps.flatten := by
  induction ps with
  | nil => rfl
  | cons _ l ih => cases l with
    | nil => simp [joinL]
    | cons q l => simpa [joinL] using ih
theorem pcs_mem (g g2 : Nat) (l : List UInt8) {p : List UInt8} (hp : p ∈ pcs g g2 l) {x : UInt8} (hx : x ∈ p) : x ∈ l := by
  rw [← pcs_flat g g2 l]; exact List.mem_flatten.2 ⟨p, hp, hx⟩
theorem pcs_cut (g g2 : Nat) (l : List UInt8) {c : UInt8} (hc : c ∉ l) : cutL [c] (grouped c g g2 l) = pcs g g2 l :=
  cut_join (first_one c) (pcs_ne _ _ _) fun _ hp h => hc (pcs_mem g g2 l hp h)
/-- without the sign -/
def bare (c : UInt8) (s : List UInt8) : List UInt8 := s.filter fun x => x != c
theorem bare_self {c : UInt8} {l : List UInt8} (hc : c ∉ l) : bare c l = l := by
  unfold bare
  rw [List.filter_eq_self]
  intro x hx
  have : x ≠ c := fun e => hc (e ▸ hx)
  simpa using this
theorem bare_app (c : UInt8) (a b : List UInt8) : bare c (a ++ b) = bare c a ++ bare c b := by unfold bare; rw [List.filter_append]
theorem bare_grouped (g g2 : Nat) (l : List UInt8) {c : UInt8} (hc : c ∉ l) : bare c (grouped c g g2 l) = l := by
  induction g, g2, l using pcs_ind with
  | one g g2 l h => rw [grouped_one h, bare_self hc]
  | more g g2 l h ih =>
    rw [grouped_more h, bare_app, bare_app, ih fun hm => hc (List.mem_of_mem_take hm), bare_self (l := l.drop _) fun hm => hc (List.mem_of_mem_drop hm)]
    simp [bare]
theorem bare_le (c : UInt8) (s : List UInt8) : (bare c s).length ≤ s.length := List.length_filter_le _ _
theorem grouped_ge (c : UInt8) (g g2 : Nat) (l : List UInt8) : l.length ≤ (grouped c g g2 l).length := by
  induction g, g2, l using pcs_ind with
  | one g g2 l h => rw [grouped_one h]; omega
  | more g g2 l h ih =>
    rw [grouped_more h]
    simp only [List.length_append, List.length_take, List.length_drop, List.length_singleton] at *
    omega
theorem grouped_le (c : UInt8) (g g2 : Nat) (l : List UInt8) : (grouped c g g2 l).length ≤ 2 * l.length := by
  induction g, g2, l using pcs_ind with
  | one g g2 l h => rw [grouped_one h]; omega
  | more g g2 l h ih =>
    rw [grouped_more h]
    simp only [List.length_append, List.length_take, List.length_drop, List.length_singleton] at *
    omega
/-- so many each -/
def wantG (g g2 n i : Nat) : Nat := if i + 1 = n then g else nextG g g2
theorem pcs_sizes (g g2 : Nat) (l : List UInt8) : g ≠ 0 → l ≠ [] → ∀ (i : Nat) (p : List UInt8), (pcs g g2 l)[i]? = some p → 0 < p.length ∧ p.length ≤ wantG g g2 (pcs g g2 l).length i ∧ (0 < i → p.length = wantG g g2 (pcs g g2 l).length i) := by
  induction g, g2, l using pcs_ind with
  | one g g2 l h =>
    intro h0 hl i p hp
    have hq := List.length_pos_iff.2 hl
    rw [pcs_one h] at hp ⊢
    have hi := (List.getElem?_eq_some_iff.1 hp).1
    rw [List.length_singleton] at hi
    obtain rfl : i = 0 := by omega
    obtain rfl : l = p := by simpa using hp
    simp [wantG]
    omega
  | more g g2 l h ih =>
    intro h0 hl i p hp
    have hN := next_pos (g2 := g2) h0
    have hlen : (l.take (l.length - g)).length = l.length - g := by rw [List.length_take]; omega
    have ih' := ih hN (List.length_pos_iff.1 (by omega))
    rw [pcs_more h] at hp ⊢
    have hi := (List.getElem?_eq_some_iff.1 hp).1
    rw [List.length_append, List.length_singleton] at *
    clear ih
    generalize pcs (nextG g g2) (nextG g g2) (l.take (l.length - g)) = q at *
    by_cases hi' : i < q.length
    · rw [List.getElem?_append_left hi'] at hp
      obtain ⟨h1, h2, h3⟩ := ih' i p hp
      have hw : wantG (nextG g g2) (nextG g g2) q.length i = nextG g g2 := by unfold wantG; rw [next_self]; split <;> rfl
      have hw' : wantG g g2 (q.length + 1) i = nextG g g2 := by unfold wantG; rw [if_neg (by omega)]
      rw [hw] at h2 h3
      rw [hw']
      exact ⟨h1, h2, h3⟩
    · obtain rfl : i = q.length := by omega
      rw [List.getElem?_append_right (Nat.le_refl _)] at hp
      obtain rfl : l.drop (l.length - g) = p := by simpa using hp
      simp [wantG]
      omega
theorem pcs_two {g g2 : Nat} {l : List UInt8} (h : 1 < (pcs g g2 l).length) : g ≠ 0 ∧ g < l.length := by
  by_cases h' : g = 0 ∨ l.length ≤ g
  · rw [pcs_one h'] at h; simp at h
  · omega
theorem pcs_single {g g2 : Nat} {l : List UInt8} (h : ¬ 1 < (pcs g g2 l).length) : g = 0 ∨ l.length ≤ g := by
  by_cases h' : g = 0 ∨ l.length ≤ g
  · exact h'
  · rw [pcs_more h', List.length_append, List.length_singleton] at h
    have := List.length_pos_iff.2 (pcs_ne (nextG g g2) (nextG g g2) (l.take (l.length - g)))
    omega
/-! ### digits -/
def Dg (c : UInt8) : Prop := 48 ≤ c.toNat ∧ c.toNat ≤ 57
instance (c : UInt8) : Decidable (Dg c) := inferInstanceAs (Decidable (_ ∧ _))
def Num (l : List UInt8) : Prop := l ≠ [] ∧ ∀ c ∈ l, Dg c
instance (l : List UInt8) : Decidable (Num l) := inferInstanceAs (Decidable (_ ∧ _))
def SzOk (g g2 : Int) : Prop := (0 ≤ g ∧ g ≤ 4) ∧ 0 ≤ g2 ∧ g2 ≤ 4
instance (g g2 : Int) : Decidable (SzOk g g2) := inferInstanceAs (Decidable (_ ∧ _))
/-- what Put says, what it tells -/
def putF (l : List UInt8) (g g2 : Int) (c : UInt8) : Nat := if Num l ∧ ¬ Dg c then (if SzOk g g2 then 0 else 1) else 3
def putT (l : List UInt8) (g g2 : Int) (c : UInt8) : List UInt8 := if putF l g g2 c = 0 then grouped c g.toNat g2.toNat l else []
def takeF (s : List UInt8) (g g2 : Int) (c : UInt8) : Nat := if Dg c then 3 else if SzOk g g2 then (if Num (bare c s) ∧ grouped c g.toNat g2.toNat (bare c s) = s then 0 else 3) else 1
def takeT (s : List UInt8) (g g2 : Int) (c : UInt8) : List UInt8 := if takeF s g g2 c = 0 then bare c s else []
theorem putF_zero {l : List UInt8} {g g2 : Int} {c : UInt8} : putF l g g2 c = 0 ↔ (Num l ∧ ¬ Dg c) ∧ SzOk g g2 := by
  unfold putF
  split
  · rename_i h
    split
    · rename_i h'; simp [h, h']
    · rename_i h'; simp [h']
  · rename_i h; simp [h]
theorem putT_zero {l : List UInt8} {g g2 : Int} {c : UInt8} (h : putF l g g2 c = 0) : putT l g g2 c = grouped c g.toNat g2.toNat l := if_pos h
theorem putT_no {l : List UInt8} {g g2 : Int} {c : UInt8} (h : putF l g g2 c ≠ 0) : putT l g g2 c = [] := if_neg h
theorem takeT_zero {l : List UInt8} {g g2 : Int} {c : UInt8} (h : takeF l g g2 c = 0) : takeT l g g2 c = bare c l := if_pos h
theorem takeT_no {l : List UInt8} {g g2 : Int} {c : UInt8} (h : takeF l g g2 c ≠ 0) : takeT l g g2 c = [] := if_neg h
theorem takeF_zero {s : List UInt8} {g g2 : Int} {c : UInt8} : takeF s g g2 c = 0 ↔ (¬ Dg c ∧ SzOk g g2) ∧ Num (bare c s) ∧ grouped c g.toNat g2.toNat (bare c s) = s := by
  unfold takeF
  split
  · rename_i h; simp [h]
  · rename_i h
    split
    · rename_i h'
      split
      · rename_i h2; simp [h, h', h2]
      · rename_i h2
        exact ⟨fun e => by omega, fun e => absurd e.2 h2⟩
    · rename_i h'; simp [h']
theorem num_free {l : List UInt8} {c : UInt8} (h : Num l) (hc : ¬ Dg c) : c ∉ l := fun hm => hc (h.2 c hm)
/-- of what Put tells Take tells what it was -/
theorem take_put {l : List UInt8} {g g2 : Int} {c : UInt8} (h : putF l g g2 c = 0) : takeF (putT l g g2 c) g g2 c = 0 ∧ takeT (putT l g g2 c) g g2 c = l := by
  obtain ⟨⟨h1, h2⟩, h3⟩ := putF_zero.1 h
  have hb := bare_grouped g.toNat g2.toNat l (num_free h1 h2)
  rw [putT_zero h]
  have hz : takeF (grouped c g.toNat g2.toNat l) g g2 c = 0 := takeF_zero.2 ⟨⟨h2, h3⟩, by rw [hb]; exact ⟨h1, rfl⟩⟩
  exact ⟨hz, by rw [takeT_zero hz, hb]⟩
/-- and the other way round -/
theorem put_take {s : List UInt8} {g g2 : Int} {c : UInt8} (h : takeF s g g2 c = 0) : putF (takeT s g g2 c) g g2 c = 0 ∧ putT (takeT s g g2 c) g g2 c = s := by
  obtain ⟨⟨h1, h2⟩, h3, h4⟩ := takeF_zero.1 h
  rw [takeT_zero h]
  have hz : putF (bare c s) g g2 c = 0 := putF_zero.2 ⟨⟨h3, h1⟩, h2⟩
  exact ⟨hz, by rw [putT_zero hz, h4]⟩
/-! ### groups by threes -/
theorem threes_len (c : UInt8) (l : List UInt8) (h0 : l ≠ []) : (grouped c 3 3 l).length = l.length + (l.length - 1) / 3 := by
  obtain ⟨n, hn⟩ : ∃ n, l.length = n := ⟨_, rfl⟩
  induction n using Nat.strongRecOn generalizing l with
  | _ n ih =>
    by_cases h : (3 : Nat) = 0 ∨ l.length ≤ 3
    · rw [grouped_one h]; have := List.length_pos_iff.2 h0; omega
    · rw [grouped_more h]
      have hl : (l.take (l.length - 3)).length = l.length - 3 := by rw [List.length_take]; omega
      have := ih _ (by rw [List.length_take]; omega) (l.take (l.length - 3)) (List.length_pos_iff.1 (by omega)) rfl
      rw [show nextG 3 3 = 3 from rfl, List.length_append, this, hl]
      simp only [List.length_append, List.length_drop, List.length_singleton]
      omega
theorem threes_tail (c : UInt8) (x l : List UInt8) (h0 : l ≠ []) : ∃ y, grouped c 3 3 (x ++ l) = y ++ grouped c 3 3 l := by
  obtain ⟨n, hn⟩ : ∃ n, l.length = n := ⟨_, rfl⟩
  induction n using Nat.strongRecOn generalizing l with
  | _ n ih =>
    by_cases h : (3 : Nat) = 0 ∨ l.length ≤ 3
    · rw [grouped_one h]
      by_cases h' : (3 : Nat) = 0 ∨ (x ++ l).length ≤ 3
      · exact ⟨x, grouped_one h'⟩
      · rw [grouped_more h']
        have hk : (x ++ l).length - 3 ≤ x.length := by rw [List.length_append]; omega
        refine ⟨grouped c (nextG 3 3) (nextG 3 3) ((x ++ l).take ((x ++ l).length - 3)) ++ ([c] ++ x.drop ((x ++ l).length - 3)), ?_⟩
        rw [List.drop_append_of_le_length hk]
        simp
    · have h' : ¬ ((3 : Nat) = 0 ∨ (x ++ l).length ≤ 3) := by rw [List.length_append]; omega
      have hl : (l.take (l.length - 3)).length = l.length - 3 := by rw [List.length_take]; omega
      obtain ⟨y, hy⟩ := ih _ (by rw [List.length_take]; omega) (l.take (l.length - 3)) (List.length_pos_iff.1 (by omega)) rfl
      rw [grouped_more h, grouped_more h', show nextG 3 3 = 3 from rfl]
      have e1 : (x ++ l).length - 3 = x.length + (l.length - 3) := by rw [List.length_append]; omega
      rw [e1, List.take_length_add_append, List.drop_length_add_append, hy]
      exact ⟨y, by simp⟩
theorem grouped_three (c : UInt8) (l : List UInt8) : grouped c 3 0 l = grouped c 3 3 l := by
  by_cases h : (3 : Nat) = 0 ∨ l.length ≤ 3
  · rw [grouped_one h, grouped_one h]
  · rw [grouped_more h, grouped_more h]; rfl
theorem fact_put : putF [49, 50, 51, 52, 53] 3 0 44 = 0 ∧ putT [49, 50, 51, 52, 53] 3 0 44 = [49, 50, 44, 51, 52, 53] := by
  have h : putF [49, 50, 51, 52, 53] 3 0 44 = 0 := by decide
  refine ⟨h, ?_⟩
  rw [putT_zero h]
  show grouped 44 3 0 [49, 50, 51, 52, 53] = _
  rw [grouped_more (by simp), grouped_one (by simp [nextG])]
  rfl
end Gr
end Go.Proofs.YtehocgemgdbikaaDoor

/- Digits in groups, put in one by one from the left: plain facts. Nothing of the program stands here. -/
namespace Go.Proofs.YtehocgemgdbikaaDoor
namespace Gr
open Ru

/-- a group starts with the first of so many last digits -/
def starts (g h k : Nat) : Bool := decide (g ≤ k) && decide ((k - g) % h = 0)
def insL (c : UInt8) (g h : Nat) : List UInt8 → List UInt8
  | [] => []
  | x :: l => (if starts g h (l.length + 1) then [c] else []) ++ x :: insL c g h l
def ins0 (c : UInt8) (g h : Nat) : List UInt8 → List UInt8
  | [] => []
  | x :: l => x :: insL c g h l
theorem insL_short (c : UInt8) (g h : Nat) : ∀ l : List UInt8, l.length < g → insL c g h l = l
  | [], _ => rfl
  | x :: l, hl => by
    have h1 : starts g h (l.length + 1) = false := by
      unfold starts
      rw [decide_eq_false (by simp at hl; omega)]; rfl
    rw [insL, h1, insL_short c g h l (by simp at hl; omega)]
    rfl
theorem mod_turn {k h : Nat} (hk : 0 < k) : (k % h = 0) ↔ (h ≤ k ∧ (k - h) % h = 0) := by
  constructor
  · intro e
    have hle := Nat.le_of_dvd hk (Nat.dvd_of_mod_eq_zero e)
    exact ⟨hle, by rw [← Nat.mod_eq_sub_mod hle]; exact e⟩
  · rintro ⟨hle, e⟩
    rw [Nat.mod_eq_sub_mod hle]; exact e
theorem insL_app (c : UInt8) {g h : Nat} (hg : 0 < g) (b : List UInt8) (hb : b.length = g) : ∀ a : List UInt8, insL c g h (a ++ b) = insL c h h a ++ ([c] ++ b)
  | [] => by
    cases b with
    | nil => simp at hb; omega
    | cons x b =>
      have h1 : starts g h (b.length + 1) = true := by
        unfold starts
        rw [decide_eq_true (by simp at hb; omega), decide_eq_true (by simp at hb; rw [hb]; simp)]; rfl
      have e : insL c g h ([] ++ x :: b) = (if starts g h (b.length + 1) = true then [c] else []) ++ x :: insL c g h b := rfl
      rw [e, h1, insL_short c g h b (by simp at hb; omega)]
      rfl
  | x :: a => by
    have h1 : starts g h ((a ++ b).length + 1) = starts h h (a.length + 1) := by
      unfold starts
      have hm := mod_turn (k := a.length + 1) (h := h) (by omega)
      have e : (a ++ b).length + 1 - g = a.length + 1 := by rw [List.length_append, hb]; omega
      rw [e, decide_eq_true (show g ≤ (a ++ b).length + 1 by rw [List.length_append]; omega), Bool.true_and, ← Bool.decide_and]
      exact decide_eq_decide.2 hm
    rw [List.cons_append, insL, h1, insL_app c hg b hb a, insL]
    simp
theorem grouped_ins (c : UInt8) (g g2 : Nat) (l : List UInt8) : g ≠ 0 → l ≠ [] → grouped c g g2 l = ins0 c g (nextG g g2) l := by
  induction g, g2, l using pcs_ind with
  | one g g2 l h =>
    intro hg hl
    rw [grouped_one h]
    cases l with
    | nil => exact absurd rfl hl
    | cons x l =>
      show _ = x :: insL c g (nextG g g2) l
      rw [insL_short c _ _ l (by simp at h; omega)]
  | more g g2 l h ih =>
    intro hg hl
    have hN := next_pos (g2 := g2) hg
    have hlen : (l.take (l.length - g)).length = l.length - g := by rw [List.length_take]; omega
    have hne : l.take (l.length - g) ≠ [] := List.length_pos_iff.1 (by omega)
    have hd : (l.drop (l.length - g)).length = g := by rw [List.length_drop]; omega
    rw [grouped_more h, ih hN hne, next_self]
    have hsplit : l = l.take (l.length - g) ++ l.drop (l.length - g) := (List.take_append_drop _ _).symm
    conv => rhs; rw [hsplit]
    generalize l.drop (l.length - g) = b at *
    generalize l.take (l.length - g) = a at *
    cases a with
    | nil => exact absurd rfl hne
    | cons x a =>
      show (x :: insL c (nextG g g2) (nextG g g2) a) ++ _ = x :: insL c g (nextG g g2) (a ++ b)
      rw [insL_app c (by omega) b hd a]
      simp
/-- what is still to be put behind the first i digits -/
def restI (c : UInt8) (g h : Nat) (l : List UInt8) (i : Nat) : List UInt8 := if i = 0 then ins0 c g h l else insL c g h (l.drop i)
theorem rest_step (c : UInt8) (g h : Nat) (l : List UInt8) (i : Nat) (hi : i < l.length) : restI c g h l i = (if (decide (0 < i) && starts g h (l.length - i)) = true then [c] else []) ++ ([l[i]] ++ restI c g h l (i + 1)) := by
  unfold restI
  rw [if_neg (show ¬ i + 1 = 0 by omega)]
  by_cases h0 : i = 0
  · subst h0
    cases l with
    | nil => simp at hi
    | cons x l => simp [ins0.eq_def]
  · rw [if_neg h0, List.drop_eq_getElem_cons hi, insL, decide_eq_true (by omega), Bool.true_and, List.length_drop]
    rw [show l.length - (i + 1) + 1 = l.length - i by omega]
    simp
theorem rest_end (c : UInt8) (g h : Nat) (l : List UInt8) (hl : l ≠ []) : restI c g h l l.length = [] := by
  unfold restI
  have := List.length_pos_iff.2 hl
  rw [if_neg (by omega), List.drop_length]; rfl
/-! ### a sign struck out -/
theorem bare_head (c : UInt8) (s : List UInt8) : bare c (c :: s) = bare c s := by unfold bare; rw [List.filter_cons_of_neg (by simp)]
theorem replaceK_bare (c : UInt8) : ∀ (n : Nat) (s : List UInt8), s.length ≤ n → ∀ k, Lib.count s [c] ≤ k → Lib.replaceK [c] [] k s = bare c s := by
  intro n
  induction n with
  | zero =>
    intro s hs k _
    obtain rfl : s = [] := List.eq_nil_of_length_eq_zero (by omega)
    cases k with
    | zero => rfl
    | succ k => rw [Lib.replaceK, if_pos (by rfl)]; rfl
  | succ n ih =>
    intro s hs k hk
    by_cases hm : c ∈ s
    · obtain ⟨p, r, rfl, hp⟩ := List.eq_append_cons_of_mem hm
      have hx : Lib.index (p ++ c :: r) [c] = (p.length : Int) := index_join (first_one c) hp
      have hd : (p ++ c :: r).drop (p.length + [c].length) = r := by
        rw [List.drop_length_add_append]; rfl
      rw [Lib.count_hit (by simp) hx, hd] at hk
      obtain ⟨k, rfl⟩ : ∃ k', k = k' + 1 := ⟨k - 1, by omega⟩
      rw [Lib.replaceK_hit _ _ _ _ _ hx, hd, ih r (by simp at hs; omega) k (by omega), bare_app, bare_self hp, bare_head]
      simp
    · have hx : Lib.index s [c] = -1 := index_no (first_one c) hm
      rw [bare_self hm]
      cases k with
      | zero => rfl
      | succ k => rw [Lib.replaceK, if_pos (by rw [hx]; rfl)]
theorem replace_bare (c : UInt8) (s : List UInt8) : Lib.replaceAll s [c] [] = bare c s := by
  unfold Lib.replaceAll Lib.replace Lib.replaceNum
  rw [if_neg (by simp), if_pos (.inl (by omega))]
  exact replaceK_bare c s.length s (Nat.le_refl _) _ (Nat.le_refl _)
/-! ### how the text grows -/
theorem ins_len (c : UInt8) (g g2 : Nat) (l : List UInt8) (hg : g ≠ 0) (hl : l ≠ []) : (ins0 c g (nextG g g2) l).length ≤ 2 * l.length := by
  rw [← grouped_ins c g g2 l hg hl]; exact grouped_le _ _ _ _
theorem grouped_none (c : UInt8) (g2 : Nat) (l : List UInt8) : grouped c 0 g2 l = l := grouped_one (.inl rfl)
end Gr
end Go.Proofs.YtehocgemgdbikaaDoor
