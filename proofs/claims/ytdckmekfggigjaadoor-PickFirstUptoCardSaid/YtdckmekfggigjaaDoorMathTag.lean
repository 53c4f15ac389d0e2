/- Plain facts on right tags: what their parts are; a right tag is found of its text, however the letters are written; what is found of a text has that text, but for the case of letters. Nothing of the program stands here. -/
import Derived.Test.YtdckmekfggigjaaDoorMath
namespace Go.Proofs.YtdckmekfggigjaaDoor
namespace P

theorem of256 (f : UInt8 → Bool) (h : ∀ n, n < 256 → f (UInt8.ofNat n) = true) (c : UInt8) : f c = true := by
  have := h c.toNat c.toNat_lt
  rwa [UInt8.ofNat_toNat] at this
theorem lowc_lowc (c : UInt8) : lowc (lowc c) = lowc c := by
  have := of256 (fun c => lowc (lowc c) == lowc c) (by decide +kernel) c; simpa using this
theorem lowc_uppc (c : UInt8) : lowc (uppc c) = lowc c := by
  have := of256 (fun c => lowc (uppc c) == lowc c) (by decide +kernel) c; simpa using this
theorem uppc_lowc (c : UInt8) : uppc (lowc c) = uppc c := by
  have := of256 (fun c => uppc (lowc c) == uppc c) (by decide +kernel) c; simpa using this
theorem lowc_dash (c : UInt8) : lowc c = 45 ↔ c = 45 := by
  have := of256 (fun c => (lowc c == 45) == (c == 45)) (by decide +kernel) c
  constructor
  · intro h; rw [h] at this; simpa using this
  · rintro rfl; decide
theorem low_facts (c : UInt8) (h : low c = true) : lowc c = c ∧ c ≠ 45 := by
  have := of256 (fun c => !low c || (lowc c == c && c != 45)) (by decide +kernel) c
  rw [h] at this; simpa using this
theorem upp_facts (c : UInt8) (h : upp c = true) : uppc c = c ∧ c ≠ 45 := by
  have := of256 (fun c => !upp c || (uppc c == c && c != 45)) (by decide +kernel) c
  rw [h] at this; simpa using this
theorem dig_facts (c : UInt8) (h : dig c = true) : uppc c = c ∧ lowc c = c ∧ c ≠ 45 := by
  have := of256 (fun c => !dig c || (uppc c == c && (lowc c == c && c != 45))) (by decide +kernel) c
  rw [h] at this; simpa using this

abbrev lo (p : Bs) : Bs := p.map lowc
abbrev up (p : Bs) : Bs := p.map uppc
theorem lo_lo (p : Bs) : lo (lo p) = lo p := by simp [lo, lowc_lowc]
theorem lo_up (p : Bs) : lo (up p) = lo p := by simp [lo, up, lowc_uppc]
theorem up_lo (p : Bs) : up (lo p) = up p := by simp [lo, up, uppc_lowc]
theorem up_of_lo {p q : Bs} (h : lo p = lo q) : up p = up q := by rw [← up_lo p, h, up_lo]
theorem map_same {f : UInt8 → UInt8} {p : Bs} (h : ∀ c ∈ p, f c = c) : p.map f = p := by
  rw [List.map_congr_left h]; simp
theorem dashless_lo {p q : Bs} (h : lo p = lo q) (hq : Dashless q) : Dashless p := by
  intro c hc e
  subst e
  have h1 : (45 : UInt8) ∈ lo p := List.mem_map.2 ⟨45, hc, by decide⟩
  rw [h] at h1
  obtain ⟨d, hd, hd2⟩ := List.mem_map.1 h1
  exact hq d hd ((lowc_dash d).1 hd2)

/-! what a right part is -/
theorem lang_facts {p : Bs} (h : langB p = true) : lo p = p ∧ Dashless p ∧ 2 ≤ p.length ∧ p.length ≤ 3 := by
  unfold langB fillsB at h
  simp at h
  refine ⟨map_same fun c hc => (low_facts c (h.2 c hc)).1, fun c hc => (low_facts c (h.2 c hc)).2, h.1.1, h.1.2⟩
theorem variant_facts {p : Bs} (h : variantB p = true) : lo p = p ∧ Dashless p ∧ 5 ≤ p.length ∧ p.length ≤ 8 := by
  unfold variantB fillsB at h
  simp at h
  have hc : ∀ c ∈ p, lowc c = c ∧ c ≠ 45 := fun c hc => by
    have := h.2 c hc
    unfold lowdig at this
    rcases Bool.or_eq_true_iff.1 this with h1 | h1
    · exact low_facts c h1
    · exact (dig_facts c h1).2
  exact ⟨map_same fun c h => (hc c h).1, fun c h => (hc c h).2, h.1.1, h.1.2⟩
theorem region_facts {p : Bs} (h : regionB p = true) : up p = p ∧ Dashless p ∧ (p.length = 2 ∨ p.length = 3) := by
  unfold regionB fillsB at h
  simp at h
  have hc : ∀ c ∈ p, uppc c = c ∧ c ≠ 45 := fun c hc => by
    rcases h with h | h
    · exact upp_facts c (h.2 c hc)
    · have := dig_facts c (h.2 c hc); exact ⟨this.1, this.2.2⟩
  exact ⟨map_same fun c h => (hc c h).1, fun c h => (hc c h).2, by omega⟩
theorem script_facts {p : Bs} (h : scriptB p = true) : up (p.take 1) ++ lo (p.drop 1) = p ∧ Dashless p ∧ p.length = 4 := by
  unfold scriptB fillsB at h
  simp only [Bool.and_eq_true, decide_eq_true_eq, List.all_eq_true] at h
  obtain ⟨⟨h4, h1⟩, _, h3⟩ := h
  refine ⟨?_, ?_, h4⟩
  · rw [show up (p.take 1) = p.take 1 from map_same fun c hc => (upp_facts c (h1 c hc)).1, show lo (p.drop 1) = p.drop 1 from map_same fun c hc => (low_facts c (h3 c hc)).1]
    exact List.take_append_drop 1 p
  · intro c hc
    rw [← List.take_append_drop 1 p] at hc
    rcases List.mem_append.1 hc with hc | hc
    · exact (upp_facts c (h1 c hc)).2
    · exact (low_facts c (h3 c hc)).2

theorem vfault_all : ∀ (l seen : List Bs), vfault seen l = none → ∀ v ∈ l, variantB v = true
  | [], _, _, v, hv => by simp at hv
  | a :: r, seen, h, v, hv => by
    unfold vfault at h
    by_cases h1 : variantB a = false
    · rw [if_pos h1] at h; cases h
    · rw [if_neg h1] at h
      by_cases h2 : seen.contains a = true
      · rw [if_pos h2] at h; cases h
      · rw [if_neg h2] at h
        rcases List.mem_cons.1 hv with rfl | hv
        · simpa using h1
        · exact vfault_all r _ h v hv

theorem vfault_ne : ∀ (seen l : List Bs), vfault seen l ≠ some 0
  | _, [] => by simp [vfault]
  | seen, a :: r => by
    unfold vfault
    split
    · simp
    · split
      · simp
      · exact vfault_ne _ r

structure Right (t : Tg) : Prop where
  lang : langB t.lang = true
  script : t.script = [] ∨ scriptB t.script = true
  region : t.region = [] ∨ regionB t.region = true
  vars : ∀ v ∈ t.vars, variantB v = true
  few : t.vars.length ≤ 3
theorem right_of {t : Tg} (h : fault t = 0) : Right t := by
  unfold fault at h
  by_cases h1 : langB t.lang = false
  · rw [if_pos h1] at h; omega
  rw [if_neg h1] at h
  by_cases h2 : t.script ≠ [] ∧ scriptB t.script = false
  · rw [if_pos h2] at h; omega
  rw [if_neg h2] at h
  by_cases h3 : t.region ≠ [] ∧ regionB t.region = false
  · rw [if_pos h3] at h; omega
  rw [if_neg h3] at h
  unfold P.vars at h
  cases hv : vfault [] t.vars with
  | some e =>
    rw [hv] at h
    have h' : e = 0 := h
    subst h'
    exact absurd hv (vfault_ne [] t.vars)
  | none =>
    rw [hv] at h
    have hle : t.vars.length ≤ 3 := by
      rcases Nat.lt_or_ge 3 t.vars.length with h4 | h4
      · simp [h4] at h
      · exact h4
    refine ⟨by simpa using h1, ?_, ?_, vfault_all _ _ hv, hle⟩
    · by_cases hs : t.script = []
      · exact .inl hs
      · right; cases hb : scriptB t.script
        · exact absurd ⟨hs, hb⟩ h2
        · rfl
    · by_cases hs : t.region = []
      · exact .inl hs
      · right; cases hb : regionB t.region
        · exact absurd ⟨hs, hb⟩ h3
        · rfl

def opt (p : Bs) : List Bs := if p = [] then [] else [p]
theorem filter_opt (p : Bs) (r : List Bs) : (p :: r).filter (fun p => !p.isEmpty) = opt p ++ r.filter (fun p => !p.isEmpty) := by
  cases p with
  | nil => simp [opt]
  | cons c l => simp [opt]
theorem ne_of_len {p : Bs} {n : Nat} (h : n + 1 ≤ p.length) : p ≠ [] := by rintro rfl; simp at h
theorem filter_vars {l : List Bs} (h : ∀ v ∈ l, variantB v = true) : l.filter (fun p => !p.isEmpty) = l := by
  rw [List.filter_eq_self]
  intro v hv
  have := ne_of_len (variant_facts (h v hv)).2.2.1
  simpa using this
theorem parts_right {t : Tg} (h : Right t) : parts t = t.lang :: (opt t.script ++ (opt t.region ++ t.vars)) := by
  unfold parts
  have hl : t.lang ≠ [] := ne_of_len (lang_facts h.lang).2.2.1
  show (t.lang :: t.script :: t.region :: t.vars).filter _ = _
  rw [filter_opt, filter_opt, filter_opt, filter_vars h.vars]
  simp [opt, hl]
theorem parts_dashless {t : Tg} (h : Right t) : ∀ p ∈ parts t, Dashless p := by
  rw [parts_right h]
  intro p hp
  rcases List.mem_cons.1 hp with rfl | hp
  · exact (lang_facts h.lang).2.1
  rcases List.mem_append.1 hp with hp | hp
  · unfold opt at hp
    split at hp
    · cases hp
    · rename_i hne
      rcases List.mem_cons.1 hp with rfl | hp
      · exact (script_facts (h.script.resolve_left hne)).2.1
      · cases hp
  rcases List.mem_append.1 hp with hp | hp
  · unfold opt at hp
    split at hp
    · cases hp
    · rename_i hne
      rcases List.mem_cons.1 hp with rfl | hp
      · exact (region_facts (h.region.resolve_left hne)).2.1
      · cases hp
  · exact (variant_facts (h.vars p hp)).2.1
theorem parts_few {t : Tg} (h : Right t) : (opt t.script ++ (opt t.region ++ t.vars)).length ≤ 5 := by
  have h1 : ∀ p : Bs, (opt p).length ≤ 1 := fun p => by unfold opt; split <;> simp
  have := h1 t.script
  have := h1 t.region
  have := h.few
  simp only [List.length_append]; omega

/-! from parts that are the same but for the case of letters -/
abbrev los (l : List Bs) : List Bs := l.map lo
theorem lo_length {p q : Bs} (h : lo p = lo q) : p.length = q.length := by
  have := congrArg List.length h; simpa using this
theorem script_back {x S : Bs} (hx : lo x = lo S) (hS : scriptB S = true) : up (x.take 1) ++ lo (x.drop 1) = S := by
  have h1 : lo (x.take 1) = lo (S.take 1) := by unfold lo; rw [List.map_take, List.map_take]; exact congrArg (List.take 1) hx
  have h2 : lo (x.drop 1) = lo (S.drop 1) := by unfold lo; rw [List.map_drop, List.map_drop]; exact congrArg (List.drop 1) hx
  rw [up_of_lo h1, h2]
  exact (script_facts hS).1
theorem headed {r : List Bs} {p : Bs} {l : List Bs} (h : los r = los (p :: l)) : ∃ x r', r = x :: r' ∧ lo x = lo p ∧ los r' = los l := by
  cases r with
  | nil => simp [los] at h
  | cons x r' =>
    simp only [los, List.map_cons, List.cons.injEq] at h
    exact ⟨x, r', rfl, h.1, h.2⟩
theorem isScr_no {r l : List Bs} (h : los r = los l) (hl : ∀ p ∈ l, p.length ≠ 4) : isScr r = false := by
  cases r with
  | nil => rfl
  | cons x r' =>
    cases l with
    | nil => simp [los] at h
    | cons p l =>
      simp only [los, List.map_cons, List.cons.injEq] at h
      have := lo_length h.1
      have := hl p (by simp)
      simp [isScr]; omega
theorem isReg_no {r l : List Bs} (h : los r = los l) (hl : ∀ p ∈ l, 5 ≤ p.length) : isReg r = false := by
  cases r with
  | nil => rfl
  | cons x r' =>
    cases l with
    | nil => simp [los] at h
    | cons p l =>
      simp only [los, List.map_cons, List.cons.injEq] at h
      have := lo_length h.1
      have := hl p (by simp)
      simp [isReg]; omega
theorem scrOf_no {r : List Bs} (h : isScr r = false) : scrOf r = [] := by
  cases r with
  | nil => rfl
  | cons x r' => have : x.length ≠ 4 := by simpa [isScr] using h
                 simp [scrOf, this]
theorem regOf_no {r : List Bs} (h : isReg r = false) : regOf r = [] := by
  cases r with
  | nil => rfl
  | cons x r' => have h' : isReg [x] = false := h
                 simp [regOf, h']
theorem step_scr {r l : List Bs} {S : Bs} (hS : S = [] ∨ scriptB S = true) (hl : ∀ p ∈ l, p.length ≠ 4) (h : los r = los (opt S ++ l)) : scrOf r = S ∧ los (restS r) = los l := by
  rcases hS with rfl | hS
  · have h' : los r = los l := h
    have hn := isScr_no h' hl
    exact ⟨scrOf_no hn, by unfold restS; rw [hn]; exact h'⟩
  · have hne : S ≠ [] := ne_of_len (n := 3) (by rw [(script_facts hS).2.2]; omega)
    have ho : opt S = [S] := by simp [opt, hne]
    rw [ho] at h
    obtain ⟨x, r', rfl, hx, hr⟩ := headed h
    have h4 : x.length = 4 := by rw [lo_length hx, (script_facts hS).2.2]
    refine ⟨?_, ?_⟩
    · show (if x.length = 4 then _ else _) = S
      rw [if_pos h4]; exact script_back hx hS
    · have : isScr (x :: r') = true := by simp [isScr, h4]
      unfold restS; rw [this]; exact hr
theorem step_reg {r l : List Bs} {R : Bs} (hR : R = [] ∨ regionB R = true) (hl : ∀ p ∈ l, 5 ≤ p.length) (h : los r = los (opt R ++ l)) : regOf r = R ∧ los (offIf (isReg r) r) = los l := by
  rcases hR with rfl | hR
  · have h' : los r = los l := h
    have hn := isReg_no h' hl
    exact ⟨regOf_no hn, by rw [hn]; exact h'⟩
  · have hlen := (region_facts hR).2.2
    have hne : R ≠ [] := ne_of_len (n := 1) (by omega)
    have ho : opt R = [R] := by simp [opt, hne]
    rw [ho] at h
    obtain ⟨x, r', rfl, hx, hr⟩ := headed h
    have h23 : isReg (x :: r') = true := by have := lo_length hx; simp [isReg]; omega
    have h1 : isReg [x] = true := h23
    refine ⟨?_, ?_⟩
    · show (if isReg [x] then _ else _) = R
      rw [if_pos h1]
      rw [show x.map uppc = up x from rfl, up_of_lo hx]
      exact (region_facts hR).1
    · rw [h23]; exact hr
theorem asg_back {t : Tg} (h : Right t) {x : Bs} {r : List Bs} (e : los (x :: r) = los (parts t)) : asg x r = t := by
  rw [parts_right h] at e
  simp only [los, List.map_cons, List.cons.injEq] at e
  obtain ⟨e1, e2⟩ := e
  have hv5 : ∀ p ∈ t.vars, 5 ≤ p.length := fun p hp => (variant_facts (h.vars p hp)).2.2.1
  have hl4 : ∀ p ∈ opt t.region ++ t.vars, p.length ≠ 4 := fun p hp => by
    rcases List.mem_append.1 hp with hp | hp
    · unfold opt at hp
      split at hp
      · cases hp
      · rename_i hne
        rcases List.mem_cons.1 hp with rfl | hp
        · have := (region_facts (h.region.resolve_left hne)).2.2; omega
        · cases hp
    · have := hv5 p hp; omega
  obtain ⟨s1, s2⟩ := step_scr h.script hl4 e2
  obtain ⟨r1, r2⟩ := step_reg h.region hv5 s2
  have hx : lo x = t.lang := e1.trans (lang_facts h.lang).1
  have hvs : los (restR r) = t.vars := r2.trans (by
    have : ∀ v ∈ t.vars, lo v = v := fun v hv => (variant_facts (h.vars v hv)).1
    unfold los; rw [List.map_congr_left this]; simp)
  obtain ⟨tl, ts, tr, tv⟩ := t
  show (⟨lo x, scrOf r, regOf (restS r), los (restR r)⟩ : Tg) = _
  rw [hx, s1, r1, hvs]

theorem scr_keeps (r : List Bs) : los (opt (scrOf r) ++ restS r) = los r := by
  cases r with
  | nil => simp [scrOf, restS, isScr, offIf, opt]
  | cons x r' =>
    by_cases h4 : x.length = 4
    · have e : scrOf (x :: r') = up (x.take 1) ++ lo (x.drop 1) := if_pos h4
      have hi : isScr (x :: r') = true := by simp [isScr, h4]
      have hne : scrOf (x :: r') ≠ [] := by
        rw [e]; exact ne_of_len (n := 3) (by simp; omega)
      unfold opt restS
      rw [if_neg hne, hi, e]
      show lo (up (x.take 1) ++ lo (x.drop 1)) :: los r' = _
      have : lo (up (x.take 1) ++ lo (x.drop 1)) = lo x := by
        unfold lo; rw [List.map_append]
        show lo (up (x.take 1)) ++ lo (lo (x.drop 1)) = _
        rw [lo_up, lo_lo]
        unfold lo; rw [← List.map_append, List.take_append_drop]
      rw [this]; rfl
    · have hi : isScr (x :: r') = false := by simp [isScr, h4]
      unfold restS; rw [scrOf_no hi, hi]; rfl
theorem reg_keeps (r : List Bs) : los (opt (regOf r) ++ offIf (isReg r) r) = los r := by
  cases r with
  | nil => simp [regOf, isReg, offIf, opt]
  | cons x r' =>
    cases hi : isReg (x :: r')
    · rw [regOf_no hi]; rfl
    · have h1 : isReg [x] = true := hi
      have e : regOf (x :: r') = up x := if_pos h1
      have hlen : x.length = 2 ∨ x.length = 3 := by simpa [isReg] using h1
      have hne : regOf (x :: r') ≠ [] := by rw [e]; exact ne_of_len (n := 1) (by simp; omega)
      unfold opt
      rw [if_neg hne, e]
      show lo (up x) :: los r' = _
      rw [lo_up]; rfl
theorem parts_asg {x : Bs} {r : List Bs} (h : Right (asg x r)) : los (parts (asg x r)) = los (x :: r) := by
  rw [parts_right h]
  show lo (lo x) :: los (opt (scrOf r) ++ (opt (regOf (restS r)) ++ los (restR r))) = lo x :: los r
  rw [lo_lo]
  congr 1
  have h1 := scr_keeps r
  have h2 := reg_keeps (restS r)
  have h3 : los (los (restR r)) = los (restR r) := by simp [los, lo, lowc_lowc]
  unfold los at h1 h2 h3 ⊢
  rw [List.map_append] at h1 h2 ⊢
  rw [List.map_append, h3]
  rw [← h1, ← h2]
  rfl

/-! what is found of a text -/
theorem glue_lo {q : Bs} {r : List Bs} : lo (glue (q :: r)) = glue (los (q :: r)) := (glue_map lowc (by decide) r q).symm
theorem los_dashless {l m : List Bs} (h : los l = los m) (hm : ∀ p ∈ m, Dashless p) : ∀ p ∈ los l, Dashless p := by
  rw [h]
  intro p hp
  obtain ⟨q, hq, rfl⟩ := List.mem_map.1 hp
  exact dashless_lo (lo_lo q) (hm q hq)
theorem los_self_dashless {l : List Bs} (hl : ∀ p ∈ l, Dashless p) : ∀ p ∈ los l, Dashless p := los_dashless rfl hl
theorem parse_back {t : Tg} (h0 : fault t = 0) {l : Bs} (e : lo l = lo (glue (parts t))) : parse l = some t := by
  have h := right_of h0
  obtain ⟨q, r, hp, hd, hg⟩ := pieces_spec l
  have hpr := parts_right h
  have hdt := parts_dashless h
  rw [← hg] at e
  have hfew := parts_few h
  have e2 : los (q :: r) = los (parts t) := by
    rw [hpr] at e hdt ⊢
    rw [glue_lo, glue_lo] at e
    exact glue_inj (los_self_dashless hd) (los_self_dashless hdt) e
  have hlen : r.length ≤ 5 := by
    have := congrArg List.length e2
    rw [hpr] at this
    simp only [los, List.length_map, List.length_cons] at this
    omega
  have ha := asg_back h e2
  unfold parse
  rw [hp]
  show (if 5 < r.length then none else if fault (asg q r) = 0 then some (asg q r) else none) = some t
  rw [if_neg (by omega), ha, if_pos h0]
theorem parse_sound {t : Tg} {l : Bs} (e : parse l = some t) : fault t = 0 ∧ lo (glue (parts t)) = lo l := by
  obtain ⟨q, r, hp, hd, hg⟩ := pieces_spec l
  unfold parse at e
  rw [hp] at e
  have e' : (if 5 < r.length then none else if fault (asg q r) = 0 then some (asg q r) else none) = some t := e
  by_cases h5 : 5 < r.length
  · rw [if_pos h5] at e'; cases e'
  · rw [if_neg h5] at e'
    by_cases h0 : fault (asg q r) = 0
    · rw [if_pos h0] at e'
      injection e' with e'
      subst e'
      refine ⟨h0, ?_⟩
      have hR := right_of h0
      have hpa := parts_asg hR
      rw [← hg]
      rw [parts_right hR] at hpa ⊢
      rw [glue_lo, glue_lo]
      exact congrArg glue hpa
    · rw [if_neg h0] at e'; cases e'
theorem text_inj {t u : Tg} (ht : fault t = 0) (hu : fault u = 0) (e : glue (parts t) = glue (parts u)) : t = u := by
  have h1 := parse_back ht (l := glue (parts t)) rfl
  have h2 := parse_back hu (l := glue (parts t)) (congrArg lo e)
  rw [h1] at h2
  injection h2
end P
end Go.Proofs.YtdckmekfggigjaaDoor
