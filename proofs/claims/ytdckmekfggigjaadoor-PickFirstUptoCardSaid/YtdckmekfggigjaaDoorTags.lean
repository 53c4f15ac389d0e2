/- Words for rows of tags in memory: what a row holds; a row of the call's own, whose tags have variants of their own, each apart. -/
import Derived.Test.YtdckmekfggigjaaDoorChain
namespace Go.Proofs.YtdckmekfggigjaaDoor
open Go.RowKit Go.Maps

/-- a tag in a row: what it is, where its variants lie -/
structure TagX where
  t : TagB
  A : Option Addr
  c : Nat
abbrev TagX.vs (x : TagX) : Value := .slice x.A x.t.vars.length x.c
abbrev TagX.cells (x : TagX) : List Value := [.string x.t.lang, .string x.t.script, .string x.t.region, x.vs]
def rowC (xs : List TagX) : List Value := xs.flatMap TagX.cells
theorem rowC_nil : rowC [] = [] := rfl
theorem rowC_cons (x : TagX) (xs : List TagX) : rowC (x :: xs) = x.cells ++ rowC xs := rfl
theorem rowC_append (xs ys : List TagX) : rowC (xs ++ ys) = rowC xs ++ rowC ys := by simp [rowC]
theorem rowC_snoc (xs : List TagX) (x : TagX) : rowC (xs ++ [x]) = rowC xs ++ x.cells := by rw [rowC_append, rowC_cons, rowC_nil, List.append_nil]
theorem rowC_length (xs : List TagX) : (rowC xs).length = xs.length * 4 := by
  induction xs with
  | nil => rfl
  | cons x xs ih => rw [rowC_cons, List.length_append, ih, List.length_cons]; simp; omega
theorem rowC_get : ∀ (xs : List TagX) (i : Nat) (x : TagX), xs[i]? = some x → ∀ j, j < 4 → (rowC xs)[i * 4 + j]? = x.cells[j]?
  | [], i, x, h, j, hj => by simp at h
  | y :: ys, 0, x, h, j, hj => by
    simp at h; subst h
    rw [rowC_cons, List.getElem?_append_left (by simp; omega)]; simp
  | y :: ys, i + 1, x, h, j, hj => by
    simp at h
    rw [rowC_cons, List.getElem?_append_right (by simp; omega)]
    have e : (i + 1) * 4 + j - y.cells.length = i * 4 + j := by simp; omega
    rw [e]
    exact rowC_get ys i x h j hj
theorem rowC_take : ∀ (xs : List TagX) (i : Nat), (rowC xs).take (i * 4) = rowC (xs.take i)
  | [], i => by simp [rowC]
  | y :: ys, 0 => by simp [rowC]
  | y :: ys, i + 1 => by
    rw [List.take_succ_cons, rowC_cons, rowC_cons, ← rowC_take ys i, List.take_append]
    simp [show (i + 1) * 4 = i * 4 + 4 from by omega]
theorem rowC_drop : ∀ (xs : List TagX) (i : Nat), (rowC xs).drop (i * 4) = rowC (xs.drop i)
  | [], i => by simp [rowC]
  | y :: ys, 0 => by simp
  | y :: ys, i + 1 => by
    rw [List.drop_succ_cons, rowC_cons, ← rowC_drop ys i, List.drop_append]
    simp [show (i + 1) * 4 = i * 4 + 4 from by omega]
theorem rowC_one (xs : List TagX) : ∀ u ∈ rowC xs, u.oneCell' = true := by
  intro u hu
  obtain ⟨x, _, hx⟩ := List.mem_flatMap.1 hu
  simp [TagX.cells] at hx
  rcases hx with rfl | rfl | rfl | rfl <;> rfl

/-- a row of tags that may be read -/
structure TagsAt (w : World) (B : Nat) (A : Option Addr) (n : Nat) (xs : List TagX) : Prop where
  len : xs.length = n
  row : Reads w B 4 A n (rowC xs)
  vars : ∀ x ∈ xs, x.t.vars.length ≤ x.c ∧ Reads w B 1 x.A x.t.vars.length (sv x.t.vars)
section
variable {w w' : World} {B B' n : Nat} {A : Option Addr} {xs : List TagX}
theorem TagsAt.below (h : TagsAt w B A n xs) (hb : Below B w w') : TagsAt w' B A n xs := ⟨h.len, h.row.below hb, fun x hx => ⟨(h.vars x hx).1, (h.vars x hx).2.below hb⟩⟩
theorem TagsAt.more (h : TagsAt w B A n xs) (hB : B ≤ B') : TagsAt w B' A n xs := ⟨h.len, h.row.more hB, fun x hx => ⟨(h.vars x hx).1, (h.vars x hx).2.more hB⟩⟩
theorem TagsAt.later (h : TagsAt w w.heap.size A n xs) (hb : Below w.heap.size w w') : TagsAt w' w'.heap.size A n xs := (h.below hb).more hb.size
theorem TagsAt.drewN (h : TagsAt w B A n xs) (d : Nat) : TagsAt (w.drewN d) B A n xs := ⟨h.len, h.row.drewN d, h.vars⟩
theorem TagsAt.alloc (h : TagsAt w w.heap.size A n xs) (o : Obj) : TagsAt (w.alloc o) (w.alloc o).heap.size A n xs := h.later ((Below.refl _ _).alloc (Nat.le_refl _) o)
/-- the tag at a place -/
theorem TagsAt.at_ (h : TagsAt w B A n xs) {i : Nat} {x : TagX} (hx : xs[i]? = some x) : ∃ ad, A = some ad ∧ ad.block < B ∧
    w.cell? (ad.add (i * 4)) = some (.string x.t.lang) ∧ w.cell? (ad.add (i * 4 + 1)) = some (.string x.t.script) ∧ w.cell? (ad.add (i * 4 + 2)) = some (.string x.t.region) ∧ w.cell? (ad.add (i * 4 + 3)) = some x.vs ∧
    x.t.vars.length ≤ x.c ∧ Reads w B 1 x.A x.t.vars.length (sv x.t.vars) := by
  have hi : i < xs.length := (List.getElem?_eq_some_iff.1 hx).1
  obtain ⟨ad, e, hb, hc⟩ := h.row.2 (by have := h.len; omega)
  have hv := h.vars x (List.mem_of_getElem? hx)
  exact ⟨ad, e, hb, hc (i * 4) _ (by have := rowC_get xs i x hx 0 (by omega); simpa using this), hc (i * 4 + 1) _ (by have := rowC_get xs i x hx 1 (by omega); simpa using this), hc (i * 4 + 2) _ (by have := rowC_get xs i x hx 2 (by omega); simpa using this), hc (i * 4 + 3) _ (by have := rowC_get xs i x hx 3 (by omega); simpa using this), hv.1, hv.2⟩
end

/-- x's variants lie not in y's block -/
def Apart (x y : TagX) : Prop := ∀ a b : Addr, x.A = some a → y.A = some b → a.block ≠ b.block
/-- a row of tags of the call's own -/
structure OwnTags (w : World) (base : Nat) (v : Value) (xs : List TagX) : Prop where
  row : w.ownsRow base 29 4 v xs.length (rowC xs)
  vars : ∀ x ∈ xs, x.t.vars.length ≤ x.c ∧ w.ownsRow base 9 1 x.vs x.t.vars.length (sv x.t.vars)
  apart : xs.Pairwise Apart

theorem below_grown {w w' : World} (hb : Below w.heap.size w w') (row : Option Nat) : w.grownBy w' row := ⟨hb.os, hb.tape, hb.output, hb.size, fun k hk _ => hb.block k hk⟩
theorem own_later {w w' : World} {base : Nat} {e : TypeId} {size n : Nat} {v : Value} {xs : List Value} (h : w.ownsRow base e size v n xs) (hb : Below w.heap.size w w') : w'.ownsRow base e size v n xs :=
  h.kept (below_grown hb none) (by cases hv : v.ownBlock <;> simp)
theorem own_types {w : World} {b b' : Nat} {e e' : TypeId} {s s' n n' : Nat} {v v' : Value} {xs xs' : List Value} (h : w.ownsRow b e s v n xs) (h' : w.ownsRow b' e' s' v' n' xs') (hne : e ≠ e') : v.ownBlock = none ∨ v.ownBlock ≠ v'.ownBlock := by
  rcases h.2 with ⟨rfl, _⟩ | ⟨g, cap, cur, rfl, _, hg, _⟩
  · exact .inl rfl
  · right
    rcases h'.2 with ⟨rfl, _⟩ | ⟨g', cap', cur', rfl, _, hg', _⟩
    · simp [Value.ownBlock]
    · intro he
      have : g = g' := by simpa [Value.ownBlock] using he
      subst this
      rw [hg] at hg'
      injection hg' with hg'
      injection hg' with _ ht
      exact hne ht
theorem own_lit4 (w : World) (cs : List Value) (t : TypeId) {base : Nat} (hb : base ≤ w.heap.size) (h4 : cs.length = 4) :
    (w.alloc (.cells cs.toArray t)).ownsRow base t 4 (.slice (some ⟨w.heap.size, 0, none⟩) 1 1) 1 cs :=
  ⟨by omega, .inr ⟨w.heap.size, 1, cs.toArray, rfl, hb, heap_alloc_new w _, Nat.le_refl _, by unfold maxLen; omega, by simp; omega, List.take_of_length_le (by simp; omega)⟩⟩
theorem own4_form {w : World} {base : Nat} {t : TypeId} {v : Value} {n : Nat} {xs : List Value} (h : w.ownsRow base t 4 v n xs) :
    ∃ A c, v = .slice A n c ∧ n ≤ c ∧ Reads w w.heap.size 4 A n xs ∧ (0 < n → ∃ g, A = some ⟨g, 0, none⟩) := by
  rcases h.2 with ⟨rfl, rfl⟩ | ⟨g, cap, cur, rfl, _, _, hc, _⟩
  · exact ⟨none, 0, rfl, Nat.le_refl _, Reads.of_own h, fun h => absurd h (by omega)⟩
  · exact ⟨_, _, rfl, hc, Reads.of_own h, fun _ => ⟨g, rfl⟩⟩
section
variable {w w' : World} {base : Nat} {v v' : Value} {xs : List TagX} {x : TagX}
theorem OwnTags.later (h : OwnTags w base v xs) (hb : Below w.heap.size w w') : OwnTags w' base v xs := ⟨own_later h.row hb, fun x hx => ⟨(h.vars x hx).1, own_later (h.vars x hx).2 hb⟩, h.apart⟩
theorem OwnTags.base_ {base' : Nat} (h : OwnTags w base v xs) (hb : base' ≤ base) : OwnTags w base' v xs := ⟨own_base h.row hb, fun x hx => ⟨(h.vars x hx).1, own_base (h.vars x hx).2 hb⟩, h.apart⟩
theorem OwnTags.alloc (h : OwnTags w base v xs) (o : Obj) : OwnTags (w.alloc o) base v xs := h.later ((Below.refl _ _).alloc (Nat.le_refl _) o)
theorem OwnTags.one (w : World) (hb : base ≤ w.heap.size) (hc : x.t.vars.length ≤ x.c) (hx : w.ownsRow base 9 1 x.vs x.t.vars.length (sv x.t.vars)) :
    OwnTags (w.alloc (.cells x.cells.toArray 29)) base (.slice (some ⟨w.heap.size, 0, none⟩) 1 1) [x] :=
  ⟨by have := own_lit4 w x.cells 29 hb rfl; simpa [rowC] using this, fun y hy => by simp at hy; subst hy; exact ⟨hc, hx.alloc _⟩, List.pairwise_singleton _ _⟩
theorem OwnTags.snoc (h : OwnTags w base v xs) (hc : x.t.vars.length ≤ x.c) (hx : w.ownsRow base 9 1 x.vs x.t.vars.length (sv x.t.vars)) (ha : ∀ y ∈ xs, Apart y x)
    (hr : w'.ownsRow base 29 4 v' (xs.length + 1) (rowC xs ++ x.cells)) (hg : w.grownBy w' v.ownBlock) : OwnTags w' base v' (xs ++ [x]) := by
  refine ⟨by rw [rowC_snoc]; simpa using hr, fun y hy => ?_, ?_⟩
  · rcases List.mem_append.1 hy with hy | hy
    · exact ⟨(h.vars y hy).1, (h.vars y hy).2.kept hg (own_types (h.vars y hy).2 h.row (by decide))⟩
    · simp at hy; subst hy
      exact ⟨hc, hx.kept hg (own_types hx h.row (by decide))⟩
  · rw [List.pairwise_append]
    exact ⟨h.apart, List.pairwise_singleton _ _, fun y hy z hz => by simp at hz; subst hz; exact ha y hy⟩
/-- what lies in a world lies not in a block that is made later -/
theorem OwnTags.apart_new (h : OwnTags w base v xs) (hx : w'.ownsRow w.heap.size 9 1 x.vs x.t.vars.length (sv x.t.vars)) : ∀ y ∈ xs, Apart y x := by
  intro y hy a b hya hxb
  have h1 := (h.vars y hy).2.lt a.block (by simp [Value.ownBlock, TagX.vs, hya])
  have h2 := hx.lt b.block (by simp [Value.ownBlock, TagX.vs, hxb])
  omega
theorem OwnTags.tags (h : OwnTags w base v xs) : ∃ A c, v = .slice A xs.length c ∧ xs.length ≤ c ∧ TagsAt w w.heap.size A xs.length xs := by
  obtain ⟨A, c, rfl, hc, hr, _⟩ := own4_form h.row
  exact ⟨A, c, rfl, hc, rfl, hr, fun x hx => ⟨(h.vars x hx).1, Reads.of_own (h.vars x hx).2⟩⟩
end
end Go.Proofs.YtdckmekfggigjaaDoor
