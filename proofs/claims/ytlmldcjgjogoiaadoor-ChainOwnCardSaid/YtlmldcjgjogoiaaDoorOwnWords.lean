/- Words for the law ChainOwn: where the writing stands; the copy of one tag; the end of a row. -/
import Derived.Test.YtlmldcjgjogoiaaDoorChainShortWalk
import Derived.Test.YtlmldcjgjogoiaaDoorOwnCopy
namespace Go.Proofs.YtlmldcjgjogoiaaDoor
open Go.RowKit Go.Maps
attribute [local go_sem ↓] Go.wp_at_zero Go.wp_at_succ

/-- a tag's variants lie in block b -/
def VarIn (x : TagX) (b : Nat) : Prop := ∃ a : Addr, x.A = some a ∧ a.block = b
/-- where the writing stands: the row xs of the first chain, those from i on as they were told; the second chain ys as it was told; what lay ahead as it was -/
structure Writing (w0 wr : World) (base base2 : Nat) (v v2 : Value) (i : Nat) (xs ys : List TagX) : Prop where
  row : wr.ownsRow base 24 4 v xs.length (rowC xs)
  rest : ∀ m x, xs[m]? = some x → i ≤ m → x.t.vars.length ≤ x.c ∧ wr.ownsRow base 9 1 x.vs x.t.vars.length (sv x.t.vars)
  apart : xs.Pairwise Apart
  first : ∀ x ∈ xs, ∀ b, VarIn x b → base ≤ b ∧ b < base2
  second : OwnTags wr base2 v2 ys
  below : Below w0.heap.size w0 wr
  old : w0.heap.size ≤ base
theorem apart_at {xs : List TagX} (h : xs.Pairwise Apart) {i m : Nat} {x y : TagX} (hx : xs[i]? = some x) (hy : xs[m]? = some y) (him : i < m) : Apart x y := by
  obtain ⟨hi, rfl⟩ := List.getElem?_eq_some_iff.1 hx
  obtain ⟨hm, rfl⟩ := List.getElem?_eq_some_iff.1 hy
  exact List.pairwise_iff_getElem.1 h i m hi hm him
section
variable {w0 wr : World} {base base2 : Nat} {v v2 : Value} {i : Nat} {xs ys : List TagX}
theorem Writing.next (h : Writing w0 wr base base2 v v2 i xs ys) : Writing w0 wr base base2 v v2 (i + 1) xs ys := ⟨h.row, fun m x hx hm => h.rest m x hx (by omega), h.apart, h.first, h.second, h.below, h.old⟩
theorem Writing.later {wy : World} (h : Writing w0 wr base base2 v v2 i xs ys) (hb : Below wr.heap.size wr wy) : Writing w0 wy base base2 v v2 i xs ys :=
  ⟨own_later h.row hb, fun m x hx hm => ⟨(h.rest m x hx hm).1, own_later (h.rest m x hx hm).2 hb⟩, h.apart, h.first, h.second.later hb, up_call h.below hb, h.old⟩
/-- a text is written into the variants of number i -/
theorem Writing.write {x : TagX} {g j : Nat} {us : List Value} {u : Value} (h : Writing w0 wr base base2 v v2 (i + 1) xs ys) (hx : xs[i]? = some x) (hA : x.A = some ⟨g, 0, none⟩)
    (hown : wr.ownsRow base 9 1 x.vs x.t.vars.length us) :
    Writing w0 (wr.setCell ⟨g, j, none⟩ u) base base2 v v2 (i + 1) xs ys ∧ (wr.setCell ⟨g, j, none⟩ u).ownsRow base 9 1 x.vs x.t.vars.length (us.set j u) := by
  have hxm := List.mem_of_getElem? hx
  have hb := h.first x hxm g ⟨_, hA, rfl⟩
  have hvs : x.vs = .slice (some ⟨g, 0, none⟩) x.t.vars.length x.c := by simp [TagX.vs, hA]
  have hrow : v.ownBlock ≠ some g := by
    have := own_types h.row hown (by decide)
    rcases this with h0 | h0
    · rw [h0]; simp
    · rw [hvs] at h0; simpa [Value.ownBlock] using h0
  have hfar : ∀ k, (∀ b, k = some b → base2 ≤ b) → k ≠ some g := fun k hk he => by have := hk g he; omega
  refine ⟨⟨own_set h.row hrow, fun m y hy hm => ⟨(h.rest m y hy hm).1, own_set (h.rest m y hy hm).2 ?_⟩, h.apart, h.first, ⟨own_set h.second.row (hfar _ fun b hb' => (h.second.row.lt b hb').1), fun y hy => ⟨(h.second.vars y hy).1, own_set (h.second.vars y hy).2 (hfar _ fun b hb' => ((h.second.vars y hy).2.lt b hb').1)⟩, h.second.apart⟩, h.below.setCell (show w0.heap.size ≤ g by have := h.old; omega) _, h.old⟩, ?_⟩
  · have ha := apart_at h.apart hx hy (by omega)
    intro he
    cases hyA : y.A with
    | none => simp [TagX.vs, hyA, Value.ownBlock] at he
    | some b =>
      have := ha _ b hA hyA
      simp [TagX.vs, hyA, Value.ownBlock] at he
      exact this he.symm
  · rw [hvs] at hown ⊢
    exact (hown.stored j u).1
end
/-- the end of the first chain that is not yet written into -/
theorem Writing.tail {w0 wr : World} {base base2 : Nat} {v2 : Value} {m n c : Nat} {ad : Addr} {xs ys : List TagX} (h : Writing w0 wr base base2 (.slice (some ad) n c) v2 m xs ys) (hl : xs.length = n) (hm : m ≤ n) (hc : n ≤ c) :
    TagsAt wr wr.heap.size (if c = m then some ad else some (ad.add (m * 4))) (n - m) (xs.drop m) := by
  have hrow := h.row
  rw [hl] at hrow
  have hr := Reads.of_own hrow
  have hvars : ∀ x ∈ xs.drop m, x.t.vars.length ≤ x.c ∧ Reads wr wr.heap.size 1 x.A x.t.vars.length (sv x.t.vars) := fun x hx => by
    obtain ⟨k, hk⟩ := List.mem_iff_getElem?.1 hx
    rw [List.getElem?_drop] at hk
    have := h.rest _ x hk (by omega)
    exact ⟨this.1, Reads.of_own this.2⟩
  by_cases hmn : m < n
  · rw [if_neg (by omega)]
    refine ⟨by rw [List.length_drop, hl], ⟨by rw [rowC_length, List.length_drop, hl], fun _ => ?_⟩, hvars⟩
    obtain ⟨ad', e, hb, hcell⟩ := hr.2 (by omega)
    injection e with e; subst e
    refine ⟨_, rfl, by rw [block_of_add]; exact hb, fun i u hu => ?_⟩
    rw [add_of_add]
    rw [← rowC_drop, List.getElem?_drop] at hu
    exact hcell _ u hu
  · have hx : xs.drop m = [] := List.drop_eq_nil_of_le (by omega)
    rw [hx, show n - m = 0 from by omega]
    exact ⟨rfl, ⟨rfl, fun h => absurd h (by omega)⟩, fun x hx => by cases hx⟩
/-- what a chain of the call's own lays ahead of the writing -/
theorem writing_start {w0 w3 w4 : World} {v v2 : Value} {xs ys : List TagX} (h : OwnTags w3 w0.heap.size v xs) (h' : OwnTags w4 w3.heap.size v2 ys) (hb : Below w0.heap.size w0 w3) (hb' : Below w3.heap.size w3 w4) : Writing w0 w4 w0.heap.size w3.heap.size v v2 0 xs ys :=
  ⟨own_later h.row hb', fun m x hx _ => ⟨(h.vars x (List.mem_of_getElem? hx)).1, own_later (h.vars x (List.mem_of_getElem? hx)).2 hb'⟩, h.apart, fun x hx b ⟨a, ha, hab⟩ => by
    have := (h.vars x hx).2.lt b (by simp [TagX.vs, ha, Value.ownBlock, hab])
    exact this, h', up_call hb hb', Nat.le_refl _⟩
/-- the copy of one tag -/
def CopyOne (w : World) (t : TagB) (e : Ending) (w' : World) : Prop :=
  ∃ (g cc : Nat) (A1 : Option Addr) (c1 : Nat), e = .returned (.slice (some ⟨g, 0, none⟩) 1 cc) ∧ 1 ≤ cc ∧ w'.cell? ⟨g, 0, none⟩ = some (.string t.lang) ∧ w'.cell? ⟨g, 1, none⟩ = some (.string t.script) ∧ w'.cell? ⟨g, 2, none⟩ = some (.string t.region) ∧ w'.cell? ⟨g, 3, none⟩ = some (.slice A1 t.vars.length c1) ∧
    t.vars.length ≤ c1 ∧ Reads w' w'.heap.size 1 A1 t.vars.length (sv t.vars) ∧ Below w.heap.size w w'
theorem copy_one (t : TagB) (A : Option Addr) (c : Nat) (w : World) (h : Reads w w.heap.size 1 A t.vars.length (sv t.vars)) (hc : t.vars.length ≤ c) (hroom : t.vars.length * 16 ≤ 140737488355328) :
    Calls Tryd.prog 19 #[.slice (some ⟨w.heap.size, 0, none⟩) 1 1] (w.alloc (.cells #[.string t.lang, .string t.script, .string t.region, .slice A t.vars.length c] 24)) (CopyOne (w.alloc (.cells #[.string t.lang, .string t.script, .string t.region, .slice A t.vars.length c] 24)) t) := by
  have hX : TagsAt (w.alloc (.cells (TagX.cells ⟨t, A, c⟩).toArray 24)) (w.alloc (.cells (TagX.cells ⟨t, A, c⟩).toArray 24)).heap.size (some ⟨w.heap.size, 0, none⟩) 1 [⟨t, A, c⟩] := by
    refine ⟨rfl, ?_, fun x hx => ?_⟩
    · have := Reads.of_own (own_lit4 w (TagX.cells ⟨t, A, c⟩) 24 (base := 0) (Nat.zero_le _) rfl)
      simpa [rowC] using this
    · simp at hx; subst hx
      exact ⟨hc, (h.alloc (Nat.le_refl _) _).more (by simp)⟩
  refine (ownCopy_any _ 1 1 [⟨t, A, c⟩] _ hX (by omega) (fun x hx => by simp at hx; subst hx; exact hroom)).mono fun e w' ⟨v, ys, he, hys, hO, hb⟩ => ?_
  obtain ⟨z, rfl⟩ : ∃ z, ys = [z] := by
    rcases ys with _ | ⟨z, _ | ⟨z', r⟩⟩
    · simp at hys
    · exact ⟨z, rfl⟩
    · simp at hys
  obtain ⟨t', A1, c1⟩ := z
  simp at hys
  subst hys
  obtain ⟨Av, cv, rfl, hcv, _⟩ := hO.tags
  obtain ⟨g, rfl, _, hcl⟩ := hO.cellsAt (by simp) rfl
  obtain ⟨x0, x1, x2, x3, xr⟩ := hcl 0 _ rfl
  refine ⟨g, cv, A1, c1, he, by simpa using hcv, by simpa using x0, by simpa using x1, by simpa using x2, by simpa using x3, (hO.vars _ (List.mem_singleton.2 rfl)).1, xr, hb⟩
/-- the end of a row of tags, where it may be empty -/
theorem TagsAt.rest {w : World} {B n c j : Nat} {ad : Addr} {xs : List TagX} (h : TagsAt w B (some ad) n xs) (hj : j ≤ n) (hc : n ≤ c) : TagsAt w B (if c = j then some ad else some (ad.add (j * 4))) (n - j) (xs.drop j) := by
  by_cases hjn : j < n
  · rw [if_neg (by omega)]; exact h.drop hjn
  · have hx : xs.drop j = [] := List.drop_eq_nil_of_le (by rw [h.len]; omega)
    rw [hx, show n - j = 0 from by omega]
    exact ⟨rfl, ⟨rfl, fun h => absurd h (by omega)⟩, fun x hx => by cases hx⟩
end Go.Proofs.YtlmldcjgjogoiaaDoor
