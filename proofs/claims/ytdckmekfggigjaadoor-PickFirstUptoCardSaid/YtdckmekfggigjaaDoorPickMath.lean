/- Plain facts on negotiation: the first fault of some tags; the first place of a tag; which one is picked; which ones are of a kind. -/
import Derived.Test.YtdckmekfggigjaaDoorChainMath
namespace Go.Proofs.YtdckmekfggigjaaDoor

/-- the fault of a tag -/
abbrev faultB (t : TagB) : Nat := P.fault (tagT t.lang t.script t.region t.vars)
/-- the first fault of some tags -/
def faultsB : List TagB → Nat
  | [] => 0
  | t :: r => if faultB t = 0 then faultsB r else faultB t
theorem faults_cons (t : TagB) (r : List TagB) : faultsB (t :: r) = if faultB t = 0 then faultsB r else faultB t := rfl
theorem faults_zero : ∀ {l : List TagB}, faultsB l = 0 ↔ ∀ t ∈ l, RightB t
  | [] => by simp [faultsB]
  | t :: r => by
    rw [faults_cons, List.forall_mem_cons]
    by_cases h : faultB t = 0
    · rw [if_pos h, faults_zero]
      exact ⟨fun h' => ⟨h, h'⟩, fun h' => h'.2⟩
    · rw [if_neg h]
      exact ⟨fun h' => absurd h' h, fun h' => absurd h'.1 h⟩
theorem faults_append : ∀ (a b : List TagB), faultsB (a ++ b) = if faultsB a = 0 then faultsB b else faultsB a
  | [], b => by simp [faultsB]
  | t :: r, b => by
    rw [List.cons_append, faults_cons, faults_cons, faults_append r b]
    by_cases h : faultB t = 0 <;> simp [h]
theorem faults_at : ∀ (l : List TagB) (k : Nat) (t : TagB), l[k]? = some t → (∀ u ∈ l.take k, RightB u) → faultB t ≠ 0 → faultsB l = faultB t
  | [], k, t, h, _, _ => by simp at h
  | u :: r, 0, t, h, _, hf => by
    simp at h; subst h
    rw [faults_cons, if_neg hf]
  | u :: r, k + 1, t, h, hr, hf => by
    simp at h
    rw [List.take_succ_cons, List.forall_mem_cons] at hr
    have h0 : faultB u = 0 := hr.1
    rw [faults_cons, if_pos h0]
    exact faults_at r k t h hr.2 hf

theorem findSome_at {α β : Type} (f : α → Option β) : ∀ (l : List α) (k : Nat) (x : α) (b : β), l[k]? = some x → (∀ y ∈ l.take k, f y = none) → f x = some b → l.findSome? f = some b
  | [], k, x, b, h, _, _ => by simp at h
  | y :: r, 0, x, b, h, _, hb => by
    simp at h; subst h
    rw [List.findSome?_cons, hb]
  | y :: r, k + 1, x, b, h, hn, hb => by
    simp at h
    rw [List.take_succ_cons, List.forall_mem_cons] at hn
    rw [List.findSome?_cons, hn.1]
    exact findSome_at f r k x b h hn.2 hb

/-- the first place of a tag -/
def idxB : List TagB → TagB → Option Nat
  | [], _ => none
  | x :: r, t => if x = t then some 0 else (idxB r t).map (· + 1)
theorem idx_cons (x : TagB) (r : List TagB) (t : TagB) : idxB (x :: r) t = if x = t then some 0 else (idxB r t).map (· + 1) := rfl
theorem idx_snoc : ∀ (l : List TagB) (x t : TagB), idxB (l ++ [x]) t = (idxB l t).or (if x = t then some l.length else none)
  | [], x, t => by simp [idxB]
  | y :: r, x, t => by
    rw [List.cons_append, idx_cons, idx_cons, idx_snoc r x t]
    by_cases h : y = t
    · simp [h]
    · rw [if_neg h, if_neg h]
      by_cases hx : x = t <;> cases idxB r t <;> simp [hx]
theorem idx_some : ∀ {l : List TagB} {t : TagB} {i : Nat}, idxB l t = some i → l[i]? = some t
  | [], t, i, h => by simp [idxB] at h
  | y :: r, t, i, h => by
    rw [idx_cons] at h
    by_cases hy : y = t
    · rw [if_pos hy] at h
      injection h with h; subst h; subst hy; rfl
    · rw [if_neg hy] at h
      obtain ⟨j, hj, rfl⟩ := Option.map_eq_some_iff.1 h
      simpa using idx_some hj
theorem idx_lt {l : List TagB} {t : TagB} {i : Nat} (h : idxB l t = some i) : i < l.length := (List.getElem?_eq_some_iff.1 (idx_some h)).1
theorem idx_none : ∀ {l : List TagB} {t : TagB}, idxB l t = none ↔ t ∉ l
  | [], t => by simp [idxB]
  | y :: r, t => by
    rw [idx_cons, List.mem_cons]
    by_cases hy : y = t
    · rw [if_pos hy]; simp [hy]
    · rw [if_neg hy, Option.map_eq_none_iff, idx_none]
      simp [Ne.symm hy]
theorem idx_le : ∀ {l : List TagB} {t : TagB} {i j : Nat}, idxB l t = some i → l[j]? = some t → i ≤ j
  | [], t, i, j, h, _ => by simp [idxB] at h
  | y :: r, t, i, j, h, hj => by
    rw [idx_cons] at h
    by_cases hy : y = t
    · rw [if_pos hy] at h
      injection h with h; omega
    · rw [if_neg hy] at h
      obtain ⟨i', hi, rfl⟩ := Option.map_eq_some_iff.1 h
      rcases j with _ | j
      · simp at hj; exact absurd hj hy
      · simp at hj
        have := idx_le hi hj
        omega
/-- the first place from one on -/
theorem idx_from (l : List TagB) (t : TagB) (j : Nat) (x : TagB) (h : l[j]? = some x) : (idxB (l.drop j) t).map (· + j) = if x = t then some j else (idxB (l.drop (j + 1)) t).map (· + (j + 1)) := by
  obtain ⟨hj, rfl⟩ := List.getElem?_eq_some_iff.1 h
  rw [List.drop_eq_getElem_cons hj, idx_cons]
  by_cases hx : l[j] = t
  · simp [hx]
  · rw [if_neg hx, if_neg hx, Option.map_map]
    congr 1
    funext a
    simp; omega

/-- which one is had -/
def pickB (ws hs : List TagB) : Option Nat := ws.findSome? fun w => (chainB w).findSome? (idxB hs)
theorem pick_none {ws hs : List TagB} : pickB ws hs = none ↔ ∀ w ∈ ws, ∀ s ∈ chainB w, idxB hs s = none := by
  simp [pickB, List.findSome?_eq_none_iff]
theorem pick_at {ws hs : List TagB} {k j : Nat} {w s : TagB} {i : Nat} (hk : ws[k]? = some w) (hn : ∀ v ∈ ws.take k, ∀ s ∈ chainB v, idxB hs s = none) (hj : (chainB w)[j]? = some s) (hm : ∀ s ∈ (chainB w).take j, idxB hs s = none) (hi : idxB hs s = some i) : pickB ws hs = some i :=
  findSome_at _ ws k w i hk (fun v hv => List.findSome?_eq_none_iff.2 (hn v hv)) (findSome_at _ _ j s i hj hm hi)
theorem pick_lt {ws hs : List TagB} {i : Nat} (h : pickB ws hs = some i) : i < hs.length := by
  obtain ⟨w, _, hw⟩ := List.exists_of_findSome?_eq_some h
  obtain ⟨s, _, hs⟩ := List.exists_of_findSome?_eq_some hw
  exact idx_lt hs
theorem pick_append (ws vs hs : List TagB) : pickB (ws ++ vs) hs = (pickB ws hs).or (pickB vs hs) := by
  unfold pickB; rw [List.findSome?_append]

/-- those that are of a kind -/
def allB (u : TagB) (l : List TagB) : List Nat := (l.zipIdx.filter fun p => decide (u ∈ chainB p.1)).map (·.2)
theorem all_nil (u : TagB) : allB u [] = [] := rfl
theorem all_snoc (u : TagB) (l : List TagB) (x : TagB) : allB u (l ++ [x]) = allB u l ++ if u ∈ chainB x then [l.length] else [] := by
  unfold allB
  rw [List.zipIdx_append, List.filter_append, List.map_append]
  congr 1
  by_cases h : u ∈ chainB x <;> simp [h]
theorem mem_all {u : TagB} {l : List TagB} {i : Nat} : i ∈ allB u l ↔ ∃ t, l[i]? = some t ∧ u ∈ chainB t := by
  unfold allB
  simp only [List.mem_map, List.mem_filter, decide_eq_true_eq, Prod.exists, List.mem_zipIdx_iff_getElem?]
  constructor
  · rintro ⟨t, j, ⟨h1, h2⟩, rfl⟩; exact ⟨t, h1, h2⟩
  · rintro ⟨t, h1, h2⟩; exact ⟨t, i, ⟨h1, h2⟩, rfl⟩
theorem all_length (u : TagB) (l : List TagB) : (allB u l).length ≤ l.length := by
  unfold allB
  rw [List.length_map]
  refine Nat.le_trans (List.length_filter_le _ _) ?_
  simp
end Go.Proofs.YtdckmekfggigjaaDoor
