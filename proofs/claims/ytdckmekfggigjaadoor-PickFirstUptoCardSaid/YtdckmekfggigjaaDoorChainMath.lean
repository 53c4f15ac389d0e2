/- Plain facts on fallback chains: a tag without its last part; the chain of a tag; the chain of one in a chain is its end; two that are each in the other's chain are the same; the parts along a chain. -/
import Derived.Test.YtdckmekfggigjaaDoorHeld
namespace Go.Proofs.YtdckmekfggigjaaDoor

def empB : ByteArray := ⟨#[]⟩
/-- a tag without its last part -/
def shortB (t : TagB) : Option TagB :=
  if t.vars ≠ [] then some ⟨t.lang, t.script, t.region, t.vars.dropLast⟩
  else if t.region ≠ empB then some ⟨t.lang, t.script, empB, []⟩
  else if t.script ≠ empB then some ⟨t.lang, empB, empB, []⟩
  else none
/-- how many parts there are besides the language -/
def sizeB (t : TagB) : Nat := t.vars.length + ((if t.region = empB then 0 else 1) + (if t.script = empB then 0 else 1))
def chainF : Nat → TagB → List TagB
  | 0, t => [t]
  | k + 1, t => t :: (match shortB t with | none => [] | some u => chainF k u)
/-- the chain of a tag -/
def chainB (t : TagB) : List TagB := chainF (sizeB t) t

theorem short_cases (t : TagB) :
    (t.vars ≠ [] ∧ shortB t = some ⟨t.lang, t.script, t.region, t.vars.dropLast⟩) ∨
    (t.vars = [] ∧ t.region ≠ empB ∧ shortB t = some ⟨t.lang, t.script, empB, []⟩) ∨
    (t.vars = [] ∧ t.region = empB ∧ t.script ≠ empB ∧ shortB t = some ⟨t.lang, empB, empB, []⟩) ∨
    (t.vars = [] ∧ t.region = empB ∧ t.script = empB ∧ shortB t = none) := by
  unfold shortB
  by_cases h1 : t.vars = [] <;> by_cases h2 : t.region = empB <;> by_cases h3 : t.script = empB <;> simp [h1, h2, h3]
theorem size_some {t u : TagB} (h : shortB t = some u) : sizeB t = sizeB u + 1 := by
  rcases short_cases t with ⟨h1, h2⟩ | ⟨h1, h2, h3⟩ | ⟨h1, h2, h3, h4⟩ | ⟨h1, h2, h3, h4⟩
  · rw [h2] at h; injection h with h; subst h
    have : 0 < t.vars.length := List.length_pos_iff.2 h1
    simp [sizeB]; omega
  · rw [h3] at h; injection h with h; subst h
    simp [sizeB, h1, h2]; omega
  · rw [h4] at h; injection h with h; subst h
    simp [sizeB, h1, h2, h3]
  · rw [h4] at h; cases h
theorem size_none {t : TagB} (h : shortB t = none) : sizeB t = 0 := by
  rcases short_cases t with ⟨h1, h2⟩ | ⟨h1, h2, h3⟩ | ⟨h1, h2, h3, h4⟩ | ⟨h1, h2, h3, h4⟩
  · rw [h2] at h; cases h
  · rw [h3] at h; cases h
  · rw [h4] at h; cases h
  · simp [sizeB, h1, h2, h3]
theorem chain_none {t : TagB} (h : shortB t = none) : chainB t = [t] := by
  unfold chainB; rw [size_none h]; rfl
theorem chain_some {t u : TagB} (h : shortB t = some u) : chainB t = t :: chainB u := by
  unfold chainB; rw [size_some h]; unfold chainF; rw [h]; cases sizeB u <;> rfl
theorem chain_ind {p : TagB → Prop} (h0 : ∀ t, shortB t = none → p t) (h1 : ∀ t u, shortB t = some u → p u → p t) : ∀ t, p t := by
  have : ∀ (k : Nat) (t : TagB), sizeB t = k → p t := by
    intro k
    induction k with
    | zero =>
      intro t ht
      cases hs : shortB t with
      | none => exact h0 t hs
      | some u => have := size_some hs; omega
    | succ k ih =>
      intro t ht
      cases hs : shortB t with
      | none => exact h0 t hs
      | some u => exact h1 t u hs (ih u (by have := size_some hs; omega))
  exact fun t => this _ t rfl
theorem chain_head (t : TagB) : ∃ r, chainB t = t :: r := by
  cases hs : shortB t with
  | none => exact ⟨[], chain_none hs⟩
  | some u => exact ⟨_, chain_some hs⟩
theorem chain_len (t : TagB) : (chainB t).length = sizeB t + 1 := by
  refine chain_ind (p := fun t => (chainB t).length = sizeB t + 1) (fun t h => ?_) (fun t u h ih => ?_) t
  · rw [chain_none h, size_none h]; rfl
  · rw [chain_some h, size_some h, List.length_cons, ih]
/-- the chain of one in a chain is its end -/
theorem chain_drop (t : TagB) : ∀ (i : Nat) (u : TagB), (chainB t)[i]? = some u → chainB u = (chainB t).drop i := by
  refine chain_ind (p := fun t => ∀ (i : Nat) (u : TagB), (chainB t)[i]? = some u → chainB u = (chainB t).drop i) (fun t h i u hu => ?_) (fun t v h ih i u hu => ?_) t
  · rw [chain_none h] at hu
    rcases i with _ | i
    · simp at hu; subst hu; simp
    · simp at hu
  · rcases i with _ | i
    · obtain ⟨r, hr⟩ := chain_head t
      rw [hr] at hu; simp at hu; subst hu; simp
    · rw [chain_some h] at hu ⊢
      simp only [List.getElem?_cons_succ] at hu
      rw [List.drop_succ_cons]
      exact ih i u hu
theorem chain_trans {a b c : TagB} (h : b ∈ chainB a) (h' : c ∈ chainB b) : c ∈ chainB a := by
  obtain ⟨i, hi⟩ := List.mem_iff_getElem?.1 h
  rw [chain_drop a i b hi] at h'
  exact List.mem_of_mem_drop h'
theorem chain_self (a : TagB) : a ∈ chainB a := by obtain ⟨r, hr⟩ := chain_head a; rw [hr]; simp
theorem chain_anti {a b : TagB} (h : b ∈ chainB a) (h' : a ∈ chainB b) : a = b := by
  obtain ⟨i, hi⟩ := List.mem_iff_getElem?.1 h
  obtain ⟨j, hj⟩ := List.mem_iff_getElem?.1 h'
  have h1 := congrArg List.length (chain_drop a i b hi)
  have h2 := congrArg List.length (chain_drop b j a hj)
  rw [List.length_drop, chain_len, chain_len] at h1
  rw [List.length_drop, chain_len, chain_len] at h2
  have hi0 : i = 0 := by omega
  subst hi0
  obtain ⟨r, hr⟩ := chain_head a
  rw [hr] at hi
  simpa using hi

/-- a right tag -/
def RightB (t : TagB) : Prop := P.fault (tagT t.lang t.script t.region t.vars) = 0
theorem vfault_ahead : ∀ (l seen : List P.Bs) (x : P.Bs), P.vfault seen (l ++ [x]) = none → P.vfault seen l = none
  | [], _, _, _ => rfl
  | v :: r, seen, x, h => by
    rw [List.cons_append] at h
    unfold P.vfault at h ⊢
    split at h
    · cases h
    · rename_i h1
      rw [if_neg h1]
      split at h
      · cases h
      · rename_i h2
        rw [if_neg h2]
        exact vfault_ahead r _ x h
theorem vars_zero {l : List P.Bs} : P.vars l = 0 ↔ P.vfault [] l = none ∧ l.length ≤ 3 := by
  unfold P.vars
  have hne := P.vfault_ne [] l
  cases h : P.vfault [] l with
  | none => simp
  | some e =>
    simp
    rintro rfl
    exact hne h
theorem right_fields (t : TagB) : RightB t ↔ P.langB t.lang.data.toList = true ∧ (t.script = empB ∨ P.scriptB t.script.data.toList = true) ∧ (t.region = empB ∨ P.regionB t.region.data.toList = true) ∧ P.vfault [] (bs t.vars) = none ∧ t.vars.length ≤ 3 := by
  have e : ∀ s : ByteArray, s.data.toList = [] ↔ s = empB := fun s => by
    constructor
    · intro h; exact ba_ext (by rw [h]; rfl)
    · rintro rfl; rfl
  have hb : (bs t.vars).length = t.vars.length := by simp [bs]
  unfold RightB P.fault tagT
  dsimp only
  rw [← hb]
  by_cases h1 : P.langB t.lang.data.toList = true <;> by_cases h2 : P.scriptB t.script.data.toList = true <;> by_cases h3 : P.regionB t.region.data.toList = true <;> by_cases h4 : t.script = empB <;> by_cases h5 : t.region = empB <;>
    simp [h1, h2, h3, h4, h5, e, vars_zero]
theorem right_short {t u : TagB} (hr : RightB t) (h : shortB t = some u) : RightB u := by
  rw [right_fields] at hr ⊢
  obtain ⟨r1, r2, r3, r4, r5⟩ := hr
  rcases short_cases t with ⟨h1, h2⟩ | ⟨h1, h2, h3⟩ | ⟨h1, h2, h3, h4⟩ | ⟨h1, h2, h3, h4⟩
  · rw [h2] at h; injection h with h; subst h
    refine ⟨r1, r2, r3, ?_, by simp; omega⟩
    have e : bs t.vars = bs t.vars.dropLast ++ [(t.vars.getLast h1).data.toList] := by
      conv => lhs; rw [← List.dropLast_concat_getLast h1]
      simp [bs]
    rw [e] at r4
    exact vfault_ahead _ _ _ r4
  · rw [h3] at h; injection h with h; subst h
    exact ⟨r1, r2, .inl rfl, rfl, by simp⟩
  · rw [h4] at h; injection h with h; subst h
    exact ⟨r1, .inl rfl, .inl rfl, rfl, by simp⟩
  · rw [h4] at h; cases h
theorem right_chain {t : TagB} (hr : RightB t) : ∀ u ∈ chainB t, RightB u := by
  revert hr
  refine chain_ind (p := fun t => RightB t → ∀ u ∈ chainB t, RightB u) (fun t h hr u hu => ?_) (fun t v h ih hr u hu => ?_) t
  · rw [chain_none h] at hu; simp at hu; subst hu; exact hr
  · rw [chain_some h] at hu
    rcases List.mem_cons.1 hu with rfl | hu
    · exact hr
    · exact ih (right_short hr h) u hu

/-- the parts of a tag -/
abbrev partsT (t : TagB) : List ByteArray := partsOf t.lang t.script t.region t.vars
theorem full_iff (p : ByteArray) : full p = true ↔ p ≠ empB := by
  unfold full
  rw [toList_data]
  constructor
  · rintro h rfl; simp [empB] at h
  · intro h; simp; intro h'; exact h (ba_ext (by rw [show p.data.toList = [] from by simp [h']]; rfl))
theorem full_var {t : TagB} (hr : RightB t) : ∀ v ∈ t.vars, full v = true := by
  rw [right_fields] at hr
  intro v hv
  have h := P.vfault_all _ _ hr.2.2.2.1 v.data.toList (List.mem_map.2 ⟨v, hv, rfl⟩)
  have h2 := (P.variant_facts h).2.2.1
  rw [full_iff]
  rintro rfl
  simp [empB] at h2
theorem full_lang {t : TagB} (hr : RightB t) : full t.lang = true := by
  rw [right_fields] at hr
  have h2 := (P.lang_facts hr.1).2.2.1
  rw [full_iff]
  intro h
  rw [h] at h2
  simp [empB] at h2
theorem full_emp : full empB = false := by kernel_rfl
theorem parts_short {t u : TagB} (hr : RightB t) (h : shortB t = some u) : partsT u = (partsT t).dropLast := by
  have hv := full_var hr
  rcases short_cases t with ⟨h1, h2⟩ | ⟨h1, h2, h3⟩ | ⟨h1, h2, h3, h4⟩ | ⟨h1, h2, h3, h4⟩
  · rw [h2] at h; injection h with h; subst h
    have e : allOf t.lang t.script t.region t.vars = allOf t.lang t.script t.region t.vars.dropLast ++ [t.vars.getLast h1] := by
      unfold allOf
      rw [List.append_assoc, List.dropLast_concat_getLast h1]
    show partsOf _ _ _ _ = _
    unfold partsT partsOf
    rw [e, List.filter_append]
    simp [hv _ (List.getLast_mem h1)]
  · rw [h3] at h; injection h with h; subst h
    have hf := (full_iff _).2 h2
    unfold partsT partsOf allOf
    simp only [h1, List.append_nil]
    rw [show [t.lang, t.script, t.region] = [t.lang, t.script] ++ [t.region] from rfl, List.filter_append, show [t.lang, t.script, empB] = [t.lang, t.script] ++ [empB] from rfl, List.filter_append]
    simp [hf, full_emp]
  · rw [h4] at h; injection h with h; subst h
    have hf := (full_iff _).2 h3
    unfold partsT partsOf allOf
    simp only [h1, h2, List.append_nil]
    simp [hf, full_emp, full_lang hr]
  · rw [h4] at h; cases h
theorem parts_none {t : TagB} (hr : RightB t) (h : shortB t = none) : partsT t = [t.lang] := by
  rcases short_cases t with ⟨h1, h2⟩ | ⟨h1, h2, h3⟩ | ⟨h1, h2, h3, h4⟩ | ⟨h1, h2, h3, h4⟩
  · rw [h2] at h; cases h
  · rw [h3] at h; cases h
  · rw [h4] at h; cases h
  · unfold partsT partsOf allOf
    simp [h1, h2, h3, full_emp, full_lang hr]
theorem parts_size {t : TagB} : RightB t → (partsT t).length = sizeB t + 1 := by
  refine chain_ind (p := fun t => RightB t → (partsT t).length = sizeB t + 1) (fun t h hr => ?_) (fun t u h ih hr => ?_) t
  · rw [parts_none hr h, size_none h]; rfl
  · have h1 := ih (right_short hr h)
    have h2 : 0 < (partsT t).length := List.length_pos_of_mem (a := t.lang) (by unfold partsT partsOf allOf; simp [full_lang hr])
    rw [parts_short hr h, List.length_dropLast] at h1
    rw [size_some h]; omega
theorem lang_short {t u : TagB} (h : shortB t = some u) : u.lang = t.lang := by
  rcases short_cases t with ⟨h1, h2⟩ | ⟨h1, h2, h3⟩ | ⟨h1, h2, h3, h4⟩ | ⟨h1, h2, h3, h4⟩
  · rw [h2] at h; injection h with h; subst h; rfl
  · rw [h3] at h; injection h with h; subst h; rfl
  · rw [h4] at h; injection h with h; subst h; rfl
  · rw [h4] at h; cases h
theorem few_right {t : TagB} (hr : RightB t) : t.vars.length ≤ 3 := by rw [right_fields] at hr; exact hr.2.2.2.2
theorem size_few {t : TagB} (hr : RightB t) : sizeB t ≤ 5 := by
  have := few_right hr
  unfold sizeB
  split <;> split <;> omega
/-- each in a chain but the first has the parts of the one ahead without the last -/
theorem chain_step (t : TagB) : ∀ (i : Nat) (u v : TagB), (chainB t)[i]? = some u → (chainB t)[i + 1]? = some v → shortB u = some v := by
  refine chain_ind (p := fun t => ∀ (i : Nat) (u v : TagB), (chainB t)[i]? = some u → (chainB t)[i + 1]? = some v → shortB u = some v) (fun t h i u v hu hv => ?_) (fun t x h ih i u v hu hv => ?_) t
  · rw [chain_none h] at hv; simp at hv
  · rw [chain_some h] at hu hv
    rcases i with _ | i
    · simp at hu hv
      obtain ⟨r, hr⟩ := chain_head x
      rw [hr] at hv; simp at hv
      subst hu; subst hv; exact h
    · simp only [List.getElem?_cons_succ] at hu hv
      exact ih i u v hu hv
/-- the last one of a chain is the language alone -/
theorem chain_last (t : TagB) : ∀ u, (chainB t)[sizeB t]? = some u → shortB u = none ∧ u.lang = t.lang := by
  refine chain_ind (p := fun t => ∀ u, (chainB t)[sizeB t]? = some u → shortB u = none ∧ u.lang = t.lang) (fun t h u hu => ?_) (fun t x h ih u hu => ?_) t
  · rw [chain_none h, size_none h] at hu; simp at hu; subst hu; exact ⟨h, rfl⟩
  · rw [chain_some h, size_some h] at hu
    simp only [List.getElem?_cons_succ] at hu
    obtain ⟨h1, h2⟩ := ih u hu
    exact ⟨h1, h2.trans (lang_short h)⟩
instance decTag : DecidableEq TagB := fun t u => decidable_of_iff (t.lang = u.lang ∧ t.script = u.script ∧ t.region = u.region ∧ t.vars = u.vars) (by
  cases t; cases u; simp)
/-- the text of a tag -/
abbrev textT (t : TagB) : ByteArray := textOf t.lang t.script t.region t.vars
theorem text_none {t : TagB} (hr : RightB t) (h : shortB t = none) : textT t = t.lang := by
  have := parts_none hr h
  unfold partsT at this
  unfold textT textOf
  rw [this]
  exact ba_ext (by simp [bs, Lib.join])
theorem text_same {t u : TagB} (hr : RightB t) (hu : RightB u) : ((textT t).toList == (textT u).toList) = decide (t = u) := by
  rw [same_iff hr hu, Bool.eq_iff_iff]
  unfold SameTag
  cases t; cases u
  simp
  constructor
  · rintro ⟨⟨⟨rfl, rfl⟩, rfl⟩, rfl⟩; exact ⟨rfl, rfl, rfl, rfl⟩
  · rintro ⟨rfl, rfl, rfl, rfl⟩; exact ⟨⟨⟨rfl, rfl⟩, rfl⟩, rfl⟩
end Go.Proofs.YtdckmekfggigjaaDoor
