/- Words for rules that a call makes anew: a row of relations of its own, each with ranges of its own; a row of parts of its own, each with relations of its own, no two in one block. -/
import Derived.Test.YtkhnjlkamleldaaGreatDoorRuSizes
namespace Go.Proofs.YtkhnjlkamleldaaGreatDoor
namespace Ru
open Go.RowKit Go.Maps D

theorem own_base {w : World} {base base' : Nat} {e : TypeId} {size n : Nat} {v : Value} {xs : List Value} (h : w.ownsRow base e size v n xs) (hb : base' ≤ base) : w.ownsRow base' e size v n xs := by
  refine ⟨h.1, ?_⟩
  rcases h.2 with hn | ⟨g, cap, cur, e1, hbb, rest⟩
  · exact .inl hn
  · exact .inr ⟨g, cap, cur, e1, Nat.le_trans hb hbb, rest⟩
theorem own_types {w : World} {b b' : Nat} {e e' : TypeId} {s s' n n' : Nat} {v v' : Value} {xs xs' : List Value} (h : w.ownsRow b e s v n xs) (h' : w.ownsRow b' e' s' v' n' xs') (hne : e ≠ e') : v.ownBlock = none ∨ v.ownBlock ≠ v'.ownBlock := by
  rcases h.2 with ⟨rfl, _⟩ | ⟨g, cap, cur, rfl, _, hg, _⟩
  · exact .inl rfl
  · right
    rcases h'.2 with ⟨rfl, _⟩ | ⟨g', cap', cur', rfl, _, hg', _⟩
    · simp [Value.ownBlock]
    · intro he
      have : g = g' := by simpa [Value.ownBlock] using he
      subst this
      rw [hg] at hg'
      injection hg' with hg'
      injection hg' with _ ht
      exact hne ht
theorem own_lit (w : World) (cs : List Value) (t : TypeId) {base k : Nat} (hb : base ≤ w.heap.size) (hk : cs.length = k) : (w.alloc (.cells cs.toArray t)).ownsRow base t k (.slice (some ⟨w.heap.size, 0, none⟩) 1 1) 1 cs :=
  ⟨by omega, .inr ⟨w.heap.size, 1, cs.toArray, rfl, hb, heap_alloc_new w _, Nat.le_refl _, by unfold maxLen; omega, by simp; omega, List.take_of_length_le (by simp; omega)⟩⟩
theorem own_shape {w : World} {base k : Nat} {t : TypeId} {v : Value} {n : Nat} {xs : List Value} (h : w.ownsRow base t k v n xs) :
    ∃ A c, v = .slice A n c ∧ n ≤ c ∧ c ≤ maxLen ∧ Reads w w.heap.size k A n xs ∧ (0 < n → ∃ g, A = some ⟨g, 0, none⟩) := by
  rcases h.2 with ⟨rfl, rfl⟩ | ⟨g, cap, cur, rfl, _, _, hc, hm, _⟩
  · exact ⟨none, 0, rfl, Nat.le_refl _, Nat.zero_le _, Reads.of_own h, fun h => absurd h (by omega)⟩
  · exact ⟨_, _, rfl, hc, hm, Reads.of_own h, fun _ => ⟨g, rfl⟩⟩
theorem relC_snoc (xs : List RelX) (x : RelX) : relC (xs ++ [x]) = relC xs ++ x.cells := by simp [relC]
theorem rgC_snoc (rs : List (Int × Int)) (r : Int × Int) : rgC (rs ++ [r]) = rgC rs ++ rgCell r := by simp [rgC]
theorem partC_snoc (ps : List PartX) (p : PartX) : partC (ps ++ [p]) = partC ps ++ [p.val] := by simp [partC]

/-- a row of relations of the call's own -/
structure OwnRels (w : World) (base : Nat) (v : Value) (xs : List RelX) : Prop where
  row : w.ownsRow base 45 4 v xs.length (relC xs)
  rgs : ∀ x ∈ xs, x.v.rs.length ≤ x.c ∧ w.ownsRow base 46 2 x.rgs x.v.rs.length (rgC x.v.rs)
/-- x's row lies not in y's block -/
def Apart (x y : PartX) : Prop := ∀ a b : Addr, x.A = some a → y.A = some b → a.block ≠ b.block
/-- a rule of the call's own -/
structure OwnRule (w : World) (base : Nat) (v : Value) (ps : List PartX) : Prop where
  row : w.ownsRow base 47 1 v ps.length (partC ps)
  parts : ∀ p ∈ ps, p.xs.length ≤ p.c ∧ OwnRels w base p.val p.xs
  apart : ps.Pairwise Apart
section
variable {w w' : World} {base : Nat} {v v' : Value} {xs : List RelX} {x : RelX} {ps : List PartX} {p : PartX}
theorem OwnRels.later (h : OwnRels w base v xs) (hb : Below w.heap.size w w') : OwnRels w' base v xs := ⟨own_later h.row hb, fun x hx => ⟨(h.rgs x hx).1, own_later (h.rgs x hx).2 hb⟩⟩
theorem OwnRels.base_ {base' : Nat} (h : OwnRels w base v xs) (hb : base' ≤ base) : OwnRels w base' v xs := ⟨own_base h.row hb, fun x hx => ⟨(h.rgs x hx).1, own_base (h.rgs x hx).2 hb⟩⟩
theorem OwnRels.kept {row : Option Nat} (h : OwnRels w base v xs) (hg : w.grownBy w' row) (h1 : v.ownBlock = none ∨ v.ownBlock ≠ row) (h2 : ∀ x ∈ xs, x.rgs.ownBlock = none ∨ x.rgs.ownBlock ≠ row) : OwnRels w' base v xs :=
  ⟨h.row.kept hg h1, fun x hx => ⟨(h.rgs x hx).1, (h.rgs x hx).2.kept hg (h2 x hx)⟩⟩
theorem OwnRels.snoc (h : OwnRels w base v xs) (hc : x.v.rs.length ≤ x.c) (hx : w.ownsRow base 46 2 x.rgs x.v.rs.length (rgC x.v.rs))
    (hr : w'.ownsRow base 45 4 v' (xs.length + 1) (relC xs ++ x.cells)) (hg : w.grownBy w' v.ownBlock) : OwnRels w' base v' (xs ++ [x]) := by
  refine ⟨by rw [relC_snoc]; simpa using hr, fun y hy => ?_⟩
  rcases List.mem_append.1 hy with hy | hy
  · exact ⟨(h.rgs y hy).1, (h.rgs y hy).2.kept hg (own_types (h.rgs y hy).2 h.row (by decide))⟩
  · simp at hy; subst hy
    exact ⟨hc, hx.kept hg (own_types hx h.row (by decide))⟩
theorem OwnRels.rels (h : OwnRels w base v xs) : ∃ A c, v = .slice A xs.length c ∧ xs.length ≤ c ∧ RelsAt w w.heap.size A xs.length xs := by
  obtain ⟨A, c, rfl, hc, _, hr, _⟩ := own_shape h.row
  exact ⟨A, c, rfl, hc, rfl, hr, fun x hx => ⟨(h.rgs x hx).1, Reads.of_own (h.rgs x hx).2⟩⟩
theorem OwnRule.later (h : OwnRule w base v ps) (hb : Below w.heap.size w w') : OwnRule w' base v ps := ⟨own_later h.row hb, fun x hx => ⟨(h.parts x hx).1, (h.parts x hx).2.later hb⟩, h.apart⟩
theorem OwnRule.base_ {base' : Nat} (h : OwnRule w base v ps) (hb : base' ≤ base) : OwnRule w base' v ps := ⟨own_base h.row hb, fun x hx => ⟨(h.parts x hx).1, (h.parts x hx).2.base_ hb⟩, h.apart⟩
theorem OwnRule.snoc (h : OwnRule w base v ps) (hc : p.xs.length ≤ p.c) (hx : OwnRels w base p.val p.xs) (ha : ∀ q ∈ ps, Apart q p)
    (hr : w'.ownsRow base 47 1 v' (ps.length + 1) (partC ps ++ [p.val])) (hg : w.grownBy w' v.ownBlock) : OwnRule w' base v' (ps ++ [p]) := by
  have hk : ∀ q : PartX, OwnRels w base q.val q.xs → OwnRels w' base q.val q.xs := fun q hq =>
    hq.kept hg (own_types hq.row h.row (by decide)) (fun x hx => own_types (hq.rgs x hx).2 h.row (by decide))
  refine ⟨by rw [partC_snoc]; simpa using hr, fun q hq => ?_, ?_⟩
  · rcases List.mem_append.1 hq with hq | hq
    · exact ⟨(h.parts q hq).1, hk q (h.parts q hq).2⟩
    · simp at hq; subst hq
      exact ⟨hc, hk _ hx⟩
  · rw [List.pairwise_append]
    exact ⟨h.apart, List.pairwise_singleton _ _, fun y hy z hz => by simp at hz; subst hz; exact ha y hy⟩
theorem OwnRule.apart_new (h : OwnRule w base v ps) (hx : w'.ownsRow w.heap.size 45 4 p.val p.xs.length (relC p.xs)) : ∀ q ∈ ps, Apart q p := by
  intro y hy a b hya hxb
  have h1 := (h.parts y hy).2.row.lt a.block (by simp [Value.ownBlock, PartX.val, hya])
  have h2 := hx.lt b.block (by simp [Value.ownBlock, PartX.val, hxb])
  omega
theorem OwnRule.rule (h : OwnRule w base v ps) : ∃ A c, v = .slice A ps.length c ∧ ps.length ≤ c ∧ c ≤ maxLen ∧ RuleAt w w.heap.size A ps.length ps := by
  obtain ⟨A, c, rfl, hc, hm, hr, _⟩ := own_shape h.row
  refine ⟨A, c, rfl, hc, hm, rfl, hr, fun p hp => ⟨(h.parts p hp).1, ?_⟩⟩
  obtain ⟨A', c', e, _, hr'⟩ := (h.parts p hp).2.rels
  injection e with e1 _ e2
  rw [e1]
  exact hr'
end
end Ru
end Go.Proofs.YtkhnjlkamleldaaGreatDoor
