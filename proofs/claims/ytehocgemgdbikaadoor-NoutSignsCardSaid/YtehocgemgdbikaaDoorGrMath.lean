/- Digits in groups: plain facts on bytes. Nothing of the program stands here. -/
import Derived.Test.YtehocgemgdbikaaDoorRuPlain
namespace Go.Proofs.YtehocgemgdbikaaDoor
namespace Gr
open Ru

/-- what the groups ahead of the last one have -/
def nextG (g g2 : Nat) : Nat := if g2 = 0 then g else g2
theorem next_pos {g g2 : Nat} (h : g ≠ 0) : nextG g g2 ≠ 0 := by unfold nextG; split <;> assumption
theorem next_self {n : Nat} : nextG n n = n := by unfold nextG; split <;> omega
/-- the groups -/
def pcs (g g2 : Nat) (l : List UInt8) : List (List UInt8) :=
  if g = 0 ∨ l.length ≤ g then [l] else pcs (nextG g g2) (nextG g g2) (l.take (l.length - g)) ++ [l.drop (l.length - g)]
termination_by l.length
decreasing_by
  rename_i h
  simp only [List.length_take]
  omega
theorem pcs_one {g g2 : Nat} {l : List UInt8} (h : g = 0 ∨ l.length ≤ g) : pcs g g2 l = [l] := by rw [pcs, if_pos h]
theorem pcs_more {g g2 : Nat} {l : List UInt8} (h : ¬ (g = 0 ∨ l.length ≤ g)) : pcs g g2 l = pcs (nextG g g2) (nextG g g2) (l.take (l.length - g)) ++ [l.drop (l.length - g)] := by
  conv => lhs; rw [pcs]
  rw [if_neg h]
theorem pcs_ne (g g2 : Nat) (l : List UInt8) : pcs g g2 l ≠ [] := by
  by_cases h : g = 0 ∨ l.length ≤ g
  · rw [pcs_one h]; simp
  · rw [pcs_more h]; simp
/-- induction along the groups -/
theorem pcs_ind {P : Nat → Nat → List UInt8 → Prop} (one : ∀ g g2 l, (g = 0 ∨ l.length ≤ g) → P g g2 l)
    (more : ∀ g g2 l, ¬ (g = 0 ∨ l.length ≤ g) → P (nextG g g2) (nextG g g2) (l.take (l.length - g)) → P g g2 l) : ∀ g g2 l, P g g2 l := by
  intro g g2 l
  obtain ⟨n, hn⟩ : ∃ n, l.length = n := ⟨_, rfl⟩
  induction n using Nat.strongRecOn generalizing g g2 l with
  | _ n ih =>
    by_cases h : g = 0 ∨ l.length ≤ g
    · exact one g g2 l h
    · exact more g g2 l h (ih _ (by rw [List.length_take]; omega) _ _ _ rfl)
theorem pcs_few (g g2 : Nat) (l : List UInt8) : (pcs g g2 l).length ≤ l.length + 1 := by
  induction g, g2, l using pcs_ind with
  | one g g2 l h => rw [pcs_one h]; simp
  | more g g2 l h ih =>
    rw [pcs_more h, List.length_append, List.length_singleton]
    rw [List.length_take] at ih
    omega
def grouped (c : UInt8) (g g2 : Nat) (l : List UInt8) : List UInt8 := joinL [c] (pcs g g2 l)
theorem grouped_one {c : UInt8} {g g2 : Nat} {l : List UInt8} (h : g = 0 ∨ l.length ≤ g) : grouped c g g2 l = l := by unfold grouped; rw [pcs_one h]; rfl
theorem grouped_more {c : UInt8} {g g2 : Nat} {l : List UInt8} (h : ¬ (g = 0 ∨ l.length ≤ g)) : grouped c g g2 l = grouped c (nextG g g2) (nextG g g2) (l.take (l.length - g)) ++ ([c] ++ l.drop (l.length - g)) := by
  unfold grouped
  rw [pcs_more h, join_snoc _ _ _ (pcs_ne _ _ _)]
theorem pcs_flat (g g2 : Nat) (l : List UInt8) : (pcs g g2 l).flatten = l := by
  induction g, g2, l using pcs_ind with
  | one g g2 l h => rw [pcs_one h]; simp
  | more g g2 l h ih => rw [pcs_more h, List.flatten_append, ih]; simp
theorem joinL_nil (ps : List (List UInt8)) : joinL [] ps = ps.flatten := by
  induction ps with
  | nil => rfl
  | cons _ l ih => cases l with
    | nil => simp [joinL]
    | cons q l => simpa [joinL] using ih
theorem pcs_mem (g g2 : Nat) (l : List UInt8) {p : List UInt8} (hp : p ∈ pcs g g2 l) {x : UInt8} (hx : x ∈ p) : x ∈ l := by
  rw [← pcs_flat g g2 l]; exact List.mem_flatten.2 ⟨p, hp, hx⟩
theorem pcs_cut (g g2 : Nat) (l : List UInt8) {c : UInt8} (hc : c ∉ l) : cutL [c] (grouped c g g2 l) = pcs g g2 l :=
  cut_join (first_one c) (pcs_ne _ _ _) fun _ hp h => hc (pcs_mem g g2 l hp h)
/-- without the sign -/
def bare (c : UInt8) (s : List UInt8) : List UInt8 := s.filter fun x => x != c
theorem bare_self {c : UInt8} {l : List UInt8} (hc : c ∉ l) : bare c l = l := by
  unfold bare
  rw [List.filter_eq_self]
  intro x hx
  have : x ≠ c := fun e => hc (e ▸ hx)
  simpa using this
theorem bare_app (c : UInt8) (a b : List UInt8) : bare c (a ++ b) = bare c a ++ bare c b := by unfold bare; rw [List.filter_append]
theorem bare_grouped (g g2 : Nat) (l : List UInt8) {c : UInt8} (hc : c ∉ l) : bare c (grouped c g g2 l) = l := by
  induction g, g2, l using pcs_ind with
  | one g g2 l h => rw [grouped_one h, bare_self hc]
  | more g g2 l h ih =>
    rw [grouped_more h, bare_app, bare_app, ih fun hm => hc (List.mem_of_mem_take hm), bare_self (l := l.drop _) fun hm => hc (List.mem_of_mem_drop hm)]
    simp [bare]
theorem bare_le (c : UInt8) (s : List UInt8) : (bare c s).length ≤ s.length := List.length_filter_le _ _
theorem grouped_ge (c : UInt8) (g g2 : Nat) (l : List UInt8) : l.length ≤ (grouped c g g2 l).length := by
  induction g, g2, l using pcs_ind with
  | one g g2 l h => rw [grouped_one h]; omega
  | more g g2 l h ih =>
    rw [grouped_more h]
    simp only [List.length_append, List.length_take, List.length_drop, List.length_singleton] at *
    omega
theorem grouped_le (c : UInt8) (g g2 : Nat) (l : List UInt8) : (grouped c g g2 l).length ≤ 2 * l.length := by
  induction g, g2, l using pcs_ind with
  | one g g2 l h => rw [grouped_one h]; omega
  | more g g2 l h ih =>
    rw [grouped_more h]
    simp only [List.length_append, List.length_take, List.length_drop, List.length_singleton] at *
    omega
/-- so many each -/
def wantG (g g2 n i : Nat) : Nat := if i + 1 = n then g else nextG g g2
theorem pcs_sizes (g g2 : Nat) (l : List UInt8) : g ≠ 0 → l ≠ [] → ∀ (i : Nat) (p : List UInt8), (pcs g g2 l)[i]? = some p → 0 < p.length ∧ p.length ≤ wantG g g2 (pcs g g2 l).length i ∧ (0 < i → p.length = wantG g g2 (pcs g g2 l).length i) := by
  induction g, g2, l using pcs_ind with
  | one g g2 l h =>
    intro h0 hl i p hp
    have hq := List.length_pos_iff.2 hl
    rw [pcs_one h] at hp ⊢
    have hi := (List.getElem?_eq_some_iff.1 hp).1
    rw [List.length_singleton] at hi
    obtain rfl : i = 0 := by omega
    obtain rfl : l = p := by simpa using hp
    simp [wantG]
    omega
  | more g g2 l h ih =>
    intro h0 hl i p hp
    have hN := next_pos (g2 := g2) h0
    have hlen : (l.take (l.length - g)).length = l.length - g := by rw [List.length_take]; omega
    have ih' := ih hN (List.length_pos_iff.1 (by omega))
    rw [pcs_more h] at hp ⊢
    have hi := (List.getElem?_eq_some_iff.1 hp).1
    rw [List.length_append, List.length_singleton] at *
    clear ih
    generalize pcs (nextG g g2) (nextG g g2) (l.take (l.length - g)) = q at *
    by_cases hi' : i < q.length
    · rw [List.getElem?_append_left hi'] at hp
      obtain ⟨h1, h2, h3⟩ := ih' i p hp
      have hw : wantG (nextG g g2) (nextG g g2) q.length i = nextG g g2 := by unfold wantG; rw [next_self]; split <;> rfl
      have hw' : wantG g g2 (q.length + 1) i = nextG g g2 := by unfold wantG; rw [if_neg (by omega)]
      rw [hw] at h2 h3
      rw [hw']
      exact ⟨h1, h2, h3⟩
    · obtain rfl : i = q.length := by omega
      rw [List.getElem?_append_right (Nat.le_refl _)] at hp
      obtain rfl : l.drop (l.length - g) = p := by simpa using hp
      simp [wantG]
      omega
theorem pcs_two {g g2 : Nat} {l : List UInt8} (h : 1 < (pcs g g2 l).length) : g ≠ 0 ∧ g < l.length := by
  by_cases h' : g = 0 ∨ l.length ≤ g
  · rw [pcs_one h'] at h; simp at h
  · omega
theorem pcs_single {g g2 : Nat} {l : List UInt8} (h : ¬ 1 < (pcs g g2 l).length) : g = 0 ∨ l.length ≤ g := by
  by_cases h' : g = 0 ∨ l.length ≤ g
  · exact h'
  · rw [pcs_more h', List.length_append, List.length_singleton] at h
    have := List.length_pos_iff.2 (pcs_ne (nextG g g2) (nextG g g2) (l.take (l.length - g)))
    omega
/-! ### digits -/
def Dg (c : UInt8) : Prop := 48 ≤ c.toNat ∧ c.toNat ≤ 57
instance (c : UInt8) : Decidable (Dg c) := inferInstanceAs (Decidable (_ ∧ _))
def Num (l : List UInt8) : Prop := l ≠ [] ∧ ∀ c ∈ l, Dg c
instance (l : List UInt8) : Decidable (Num l) := inferInstanceAs (Decidable (_ ∧ _))
def SzOk (g g2 : Int) : Prop := (0 ≤ g ∧ g ≤ 4) ∧ 0 ≤ g2 ∧ g2 ≤ 4
instance (g g2 : Int) : Decidable (SzOk g g2) := inferInstanceAs (Decidable (_ ∧ _))
/-- what Put says, what it tells -/
def putF (l : List UInt8) (g g2 : Int) (c : UInt8) : Nat := if Num l ∧ ¬ Dg c then (if SzOk g g2 then 0 else 1) else 3
def putT (l : List UInt8) (g g2 : Int) (c : UInt8) : List UInt8 := if putF l g g2 c = 0 then grouped c g.toNat g2.toNat l else []
def takeF (s : List UInt8) (g g2 : Int) (c : UInt8) : Nat := if Dg c then 3 else if SzOk g g2 then (if Num (bare c s) ∧ grouped c g.toNat g2.toNat (bare c s) = s then 0 else 3) else 1
def takeT (s : List UInt8) (g g2 : Int) (c : UInt8) : List UInt8 := if takeF s g g2 c = 0 then bare c s else []
theorem putF_zero {l : List UInt8} {g g2 : Int} {c : UInt8} : putF l g g2 c = 0 ↔ (Num l ∧ ¬ Dg c) ∧ SzOk g g2 := by
  unfold putF
  split
  · rename_i h
    split
    · rename_i h'; simp [h, h']
    · rename_i h'; simp [h']
  · rename_i h; simp [h]
theorem putT_zero {l : List UInt8} {g g2 : Int} {c : UInt8} (h : putF l g g2 c = 0) : putT l g g2 c = grouped c g.toNat g2.toNat l := if_pos h
theorem putT_no {l : List UInt8} {g g2 : Int} {c : UInt8} (h : putF l g g2 c ≠ 0) : putT l g g2 c = [] := if_neg h
theorem takeT_zero {l : List UInt8} {g g2 : Int} {c : UInt8} (h : takeF l g g2 c = 0) : takeT l g g2 c = bare c l := if_pos h
theorem takeT_no {l : List UInt8} {g g2 : Int} {c : UInt8} (h : takeF l g g2 c ≠ 0) : takeT l g g2 c = [] := if_neg h
theorem takeF_zero {s : List UInt8} {g g2 : Int} {c : UInt8} : takeF s g g2 c = 0 ↔ (¬ Dg c ∧ SzOk g g2) ∧ Num (bare c s) ∧ grouped c g.toNat g2.toNat (bare c s) = s := by
  unfold takeF
  split
  · rename_i h; simp [h]
  · rename_i h
    split
    · rename_i h'
      split
      · rename_i h2; simp [h, h', h2]
      · rename_i h2
        exact ⟨fun e => by omega, fun e => absurd e.2 h2⟩
    · rename_i h'; simp [h']
theorem num_free {l : List UInt8} {c : UInt8} (h : Num l) (hc : ¬ Dg c) : c ∉ l := fun hm => hc (h.2 c hm)
/-- of what Put tells Take tells what it was -/
theorem take_put {l : List UInt8} {g g2 : Int} {c : UInt8} (h : putF l g g2 c = 0) : takeF (putT l g g2 c) g g2 c = 0 ∧ takeT (putT l g g2 c) g g2 c = l := by
  obtain ⟨⟨h1, h2⟩, h3⟩ := putF_zero.1 h
  have hb := bare_grouped g.toNat g2.toNat l (num_free h1 h2)
  rw [putT_zero h]
  have hz : takeF (grouped c g.toNat g2.toNat l) g g2 c = 0 := takeF_zero.2 ⟨⟨h2, h3⟩, by rw [hb]; exact ⟨h1, rfl⟩⟩
  exact ⟨hz, by rw [takeT_zero hz, hb]⟩
/-- and the other way round -/
theorem put_take {s : List UInt8} {g g2 : Int} {c : UInt8} (h : takeF s g g2 c = 0) : putF (takeT s g g2 c) g g2 c = 0 ∧ putT (takeT s g g2 c) g g2 c = s := by
  obtain ⟨⟨h1, h2⟩, h3, h4⟩ := takeF_zero.1 h
  rw [takeT_zero h]
  have hz : putF (bare c s) g g2 c = 0 := putF_zero.2 ⟨⟨h3, h1⟩, h2⟩
  exact ⟨hz, by rw [putT_zero hz, h4]⟩
/-! ### groups by threes -/
theorem threes_len (c : UInt8) (l : List UInt8) (h0 : l ≠ []) : (grouped c 3 3 l).length = l.length + (l.length - 1) / 3 := by
  obtain ⟨n, hn⟩ : ∃ n, l.length = n := ⟨_, rfl⟩
  induction n using Nat.strongRecOn generalizing l with
  | _ n ih =>
    by_cases h : (3 : Nat) = 0 ∨ l.length ≤ 3
    · rw [grouped_one h]; have := List.length_pos_iff.2 h0; omega
    · rw [grouped_more h]
      have hl : (l.take (l.length - 3)).length = l.length - 3 := by rw [List.length_take]; omega
      have := ih _ (by rw [List.length_take]; omega) (l.take (l.length - 3)) (List.length_pos_iff.1 (by omega)) rfl
      rw [show nextG 3 3 = 3 from rfl, List.length_append, this, hl]
      simp only [List.length_append, List.length_drop, List.length_singleton]
      omega
theorem threes_tail (c : UInt8) (x l : List UInt8) (h0 : l ≠ []) : ∃ y, grouped c 3 3 (x ++ l) = y ++ grouped c 3 3 l := by
  obtain ⟨n, hn⟩ : ∃ n, l.length = n := ⟨_, rfl⟩
  induction n using Nat.strongRecOn generalizing l with
  | _ n ih =>
    by_cases h : (3 : Nat) = 0 ∨ l.length ≤ 3
    · rw [grouped_one h]
      by_cases h' : (3 : Nat) = 0 ∨ (x ++ l).length ≤ 3
      · exact ⟨x, grouped_one h'⟩
      · rw [grouped_more h']
        have hk : (x ++ l).length - 3 ≤ x.length := by rw [List.length_append]; omega
        refine ⟨grouped c (nextG 3 3) (nextG 3 3) ((x ++ l).take ((x ++ l).length - 3)) ++ ([c] ++ x.drop ((x ++ l).length - 3)), ?_⟩
        rw [List.drop_append_of_le_length hk]
        simp
    · have h' : ¬ ((3 : Nat) = 0 ∨ (x ++ l).length ≤ 3) := by rw [List.length_append]; omega
      have hl : (l.take (l.length - 3)).length = l.length - 3 := by rw [List.length_take]; omega
      obtain ⟨y, hy⟩ := ih _ (by rw [List.length_take]; omega) (l.take (l.length - 3)) (List.length_pos_iff.1 (by omega)) rfl
      rw [grouped_more h, grouped_more h', show nextG 3 3 = 3 from rfl]
      have e1 : (x ++ l).length - 3 = x.length + (l.length - 3) := by rw [List.length_append]; omega
      rw [e1, List.take_length_add_append, List.drop_length_add_append, hy]
      exact ⟨y, by simp⟩
theorem grouped_three (c : UInt8) (l : List UInt8) : grouped c 3 0 l = grouped c 3 3 l := by
  by_cases h : (3 : Nat) = 0 ∨ l.length ≤ 3
  · rw [grouped_one h, grouped_one h]
  · rw [grouped_more h, grouped_more h]; rfl
theorem fact_put : putF [49, 50, 51, 52, 53] 3 0 44 = 0 ∧ putT [49, 50, 51, 52, 53] 3 0 44 = [49, 50, 44, 51, 52, 53] := by
  have h : putF [49, 50, 51, 52, 53] 3 0 44 = 0 := by decide
  refine ⟨h, ?_⟩
  rw [putT_zero h]
  show grouped 44 3 0 [49, 50, 51, 52, 53] = _
  rw [grouped_more (by simp), grouped_one (by simp [nextG])]
  rfl
end Gr
end Go.Proofs.YtehocgemgdbikaaDoor
