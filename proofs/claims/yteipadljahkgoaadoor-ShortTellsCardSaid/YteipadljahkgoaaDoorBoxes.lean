/- Boxes of a call's own, each newer than the next, of whatever cells: what they hold, whatever is called; a cell of one is written. -/
import Derived.Test.YteipadljahkgoaaDoorProg
import Derived.Below
import Derived.WalkKit
import Derived.Lib.Hide
import Derived.BigQuiet
import Derived.Deep.Draws
import Derived.Deep.RegionHeld3
namespace Go.Proofs.YteipadljahkgoaaDoor
namespace D
open Go.RowKit

theorem bel_alloc {w wx : World} (h : Below w.heap.size w wx) (o : Obj) : Below w.heap.size w (wx.alloc o) := h.alloc h.size o
theorem bel_call {w wx wy : World} (h : Below w.heap.size w wx) (hb : Below wx.heap.size wx wy) : Below w.heap.size w wy := h.trans (hb.mono h.size)
def TrueB (w : World) (e : Ending) (w' : World) : Prop := e = .returned (.bool true) ∧ Below w.heap.size w w'
/-- one box and what it holds -/
def OneB (W : World) (p : Nat) : List Value → Prop → Prop
  | [a], Q => W.cell? ⟨p, 0, none⟩ = some a ∧ Q
  | [a, b], Q => W.cell? ⟨p, 0, none⟩ = some a ∧ W.cell? ⟨p, 1, none⟩ = some b ∧ Q
  | [a, b, c], Q => W.cell? ⟨p, 0, none⟩ = some a ∧ W.cell? ⟨p, 1, none⟩ = some b ∧ W.cell? ⟨p, 2, none⟩ = some c ∧ Q
  | [a, b, c, d], Q => W.cell? ⟨p, 0, none⟩ = some a ∧ W.cell? ⟨p, 1, none⟩ = some b ∧ W.cell? ⟨p, 2, none⟩ = some c ∧ W.cell? ⟨p, 3, none⟩ = some d ∧ Q
  | [a, b, c, d, e], Q => W.cell? ⟨p, 0, none⟩ = some a ∧ W.cell? ⟨p, 1, none⟩ = some b ∧ W.cell? ⟨p, 2, none⟩ = some c ∧ W.cell? ⟨p, 3, none⟩ = some d ∧ W.cell? ⟨p, 4, none⟩ = some e ∧ Q
  | [a, b, c, d, e, f, g], Q => W.cell? ⟨p, 0, none⟩ = some a ∧ W.cell? ⟨p, 1, none⟩ = some b ∧ W.cell? ⟨p, 2, none⟩ = some c ∧ W.cell? ⟨p, 3, none⟩ = some d ∧ W.cell? ⟨p, 4, none⟩ = some e ∧ W.cell? ⟨p, 5, none⟩ = some f ∧ W.cell? ⟨p, 6, none⟩ = some g ∧ Q
  | _, Q => Q
def CellsB (W : World) : List (Nat × List Value) → Prop
  | [] => True
  | (p, vs) :: l => OneB W p vs (CellsB W l)
def HasB (W : World) (p : Nat) (vs : List Value) : Prop := ∀ (i : Nat) (v : Value), vs[i]? = some v → W.cell? ⟨p, i, none⟩ = some v ∧ W.frozen? ⟨p, i, none⟩ = false
def MemB (W : World) (lo : Nat) : List (Nat × List Value) → Nat → Prop
  | [], _ => True
  | (p, vs) :: l, hi => (p < hi ∧ lo ≤ p ∧ HasB W p vs) ∧ MemB W lo l p
theorem HasB.cells {W : World} {p : Nat} {Q : Prop} (q : Q) : ∀ {vs : List Value}, HasB W p vs → OneB W p vs Q
  | [], _ => q
  | [_], h => ⟨(h 0 _ rfl).1, q⟩
  | [_, _], h => ⟨(h 0 _ rfl).1, (h 1 _ rfl).1, q⟩
  | [_, _, _], h => ⟨(h 0 _ rfl).1, (h 1 _ rfl).1, (h 2 _ rfl).1, q⟩
  | [_, _, _, _], h => ⟨(h 0 _ rfl).1, (h 1 _ rfl).1, (h 2 _ rfl).1, (h 3 _ rfl).1, q⟩
  | [_, _, _, _, _], h => ⟨(h 0 _ rfl).1, (h 1 _ rfl).1, (h 2 _ rfl).1, (h 3 _ rfl).1, (h 4 _ rfl).1, q⟩
  | [_, _, _, _, _, _], _ => q
  | [_, _, _, _, _, _, _], h => ⟨(h 0 _ rfl).1, (h 1 _ rfl).1, (h 2 _ rfl).1, (h 3 _ rfl).1, (h 4 _ rfl).1, (h 5 _ rfl).1, (h 6 _ rfl).1, q⟩
  | _ :: _ :: _ :: _ :: _ :: _ :: _ :: _ :: _, _ => q
theorem MemB.cells {W : World} {lo : Nat} : ∀ {l : List (Nat × List Value)} {hi : Nat}, MemB W lo l hi → CellsB W l
  | [], _, _ => trivial
  | (_, _) :: _, _, h => h.1.2.2.cells (MemB.cells h.2)
theorem MemB.more {W : World} {lo : Nat} : ∀ {l : List (Nat × List Value)} {hi hi' : Nat}, MemB W lo l hi → hi ≤ hi' → MemB W lo l hi'
  | [], _, _, _, _ => trivial
  | (_, _) :: _, _, _, h, hh => ⟨⟨Nat.lt_of_lt_of_le h.1.1 hh, h.1.2⟩, h.2⟩
theorem HasB.call {W W' : World} {p B : Nat} {vs : List Value} (hb : Below B W W') (hp : p < B) (h : HasB W p vs) : HasB W' p vs := fun i v hi =>
  ⟨(hb.cell (p := ⟨p, i, none⟩) hp).trans (h i v hi).1, (hb.frozen (p := ⟨p, i, none⟩) hp).trans (h i v hi).2⟩
theorem MemB.call {W W' : World} {lo B : Nat} (hb : Below B W W') : ∀ {l : List (Nat × List Value)} {hi : Nat}, MemB W lo l hi → hi ≤ B → MemB W' lo l hi
  | [], _, _, _ => trivial
  | (p, _) :: _, _, ⟨⟨h1, h2, h3⟩, h7⟩, hh =>
    have hp : p < B := Nat.lt_of_lt_of_le h1 hh
    ⟨⟨h1, h2, h3.call hb hp⟩, MemB.call hb h7 (Nat.le_of_lt hp)⟩
theorem HasB.set {W : World} {p i : Nat} {vs : List Value} (h : HasB W p vs) (u : Value) : HasB (W.setCell ⟨p, i, none⟩ u) p (vs.set i u) := fun j v hj => by
  rw [World.frozen?_setCell]
  by_cases hij : i = j
  · subst hij
    rw [List.getElem?_set_self'] at hj
    cases hg : vs[i]? with
    | none => rw [hg] at hj; cases hj
    | some x =>
      rw [hg] at hj
      obtain rfl : u = v := by simpa using hj
      exact ⟨World.cell?_setCell_same' _ _ _ (by rw [(h i x hg).1]; rfl), (h i x hg).2⟩
  · rw [List.getElem?_set_ne hij] at hj
    rw [World.cell?_setCell_other (a := ⟨p, i, none⟩) (b := ⟨p, j, none⟩) (h := by simp)]
    exact h j v hj
theorem HasB.far {W : World} {p q i : Nat} {vs : List Value} (h : HasB W p vs) (hpq : q ≠ p) (u : Value) : HasB (W.setCell ⟨q, i, none⟩ u) p vs := fun j v hj => by
  rw [World.frozen?_setCell, World.cell?_setCell_far _ _ _ _ (by simp [hpq])]
  exact h j v hj
theorem MemB.lt {W : World} {lo : Nat} : ∀ {l : List (Nat × List Value)} {hi : Nat} {j p : Nat} {vs : List Value}, MemB W lo l hi → l[j]? = some (p, vs) → p < hi ∧ lo ≤ p ∧ HasB W p vs
  | [], _, _, _, _, _, h => by simp at h
  | (_, _) :: _, _, 0, _, _, h, hj => by
    simp only [List.getElem?_cons_zero, Option.some.injEq, Prod.mk.injEq] at hj
    obtain ⟨rfl, rfl⟩ := hj
    exact h.1
  | (_, _) :: _, _, j + 1, _, _, h, hj => by
    rw [List.getElem?_cons_succ] at hj
    have := MemB.lt h.2 hj
    exact ⟨Nat.lt_trans this.1 h.1.1, this.2⟩
theorem MemB.set {W : World} {lo : Nat} (u : Value) : ∀ {l : List (Nat × List Value)} {hi : Nat} {j p i : Nat} {vs : List Value}, MemB W lo l hi → l[j]? = some (p, vs) → MemB (W.setCell ⟨p, i, none⟩ u) lo (l.set j (p, vs.set i u)) hi
  | [], _, _, _, _, _, _, h => by simp at h
  | (_, _) :: _, _, 0, _, _, _, h, hj => by
    simp only [List.getElem?_cons_zero, Option.some.injEq, Prod.mk.injEq] at hj
    obtain ⟨rfl, rfl⟩ := hj
    exact ⟨⟨h.1.1, h.1.2.1, h.1.2.2.set u⟩, h.2.call ((Below.refl _ W).setCell (Nat.le_refl _) u) (Nat.le_refl _)⟩
  | (_, _) :: _, _, j + 1, _, _, _, h, hj => by
    rw [List.getElem?_cons_succ] at hj
    have := h.2.lt hj
    exact ⟨⟨h.1.1, h.1.2.1, h.1.2.2.far (by omega) u⟩, MemB.set u h.2 hj⟩
/-- the world behind some calls: nothing that lay there has turned, the boxes hold what they held -/
structure Bs (w W : World) (l : List (Nat × List Value)) : Prop where
  below : Below w.heap.size w W
  mem : MemB W w.heap.size l W.heap.size
section
variable {w W W' : World} {l : List (Nat × List Value)}
theorem Bs.start (w : World) : Bs w w [] := ⟨Below.refl _ _, trivial⟩
theorem Bs.call (h : Bs w W l) (hb : Below W.heap.size W W') : Bs w W' l := ⟨bel_call h.below hb, (h.mem.call hb (Nat.le_refl _)).more hb.size⟩
theorem Bs.alloc (h : Bs w W l) (vs : List Value) (t : TypeId) : Bs w (W.alloc (.cells vs.toArray t)) ((W.heap.size, vs) :: l) :=
  have hb := (Below.refl W.heap.size W).alloc (Nat.le_refl _) (.cells vs.toArray t)
  ⟨bel_alloc h.below _, ⟨by simp, h.below.size, fun i v hi => ⟨by rw [World.cell?_alloc_new]; simpa using hi, by simp⟩⟩, h.mem.call hb (Nat.le_refl _)⟩
theorem Bs.drewN (h : Bs w W l) (n : Nat) : Bs w (W.drewN n) l := h.call ⟨rfl, rfl, rfl, by simp, fun _ _ => by simp⟩
theorem Bs.drew (h : Bs w W l) : Bs w W.drew l := h.call (Below.refl _ _).drew
theorem Bs.cells (h : Bs w W l) : CellsB W l := h.mem.cells
theorem Bs.set (h : Bs w W l) {j p i : Nat} {vs : List Value} (hj : l[j]? = some (p, vs)) (u : Value) : Bs w (W.setCell ⟨p, i, none⟩ u) (l.set j (p, vs.set i u)) :=
  ⟨h.below.setCell (h.mem.lt hj).2.1 u, by simpa using h.mem.set u hj⟩
theorem Bs.free (h : Bs w W l) {j p i : Nat} {vs : List Value} {v : Value} (hj : l[j]? = some (p, vs)) (hi : vs[i]? = some v) : W.frozen? ⟨p, i, none⟩ = false := ((h.mem.lt hj).2.2 i v hi).2
theorem Bs.cell (h : Bs w W l) {j p i : Nat} {vs : List Value} {v : Value} (hj : l[j]? = some (p, vs)) (hi : vs[i]? = some v) : W.cell? ⟨p, i, none⟩ = some v := ((h.mem.lt hj).2.2 i v hi).1
end
theorem bs_one (w : World) (vs : List Value) (t : TypeId) : Bs w (w.alloc (.cells vs.toArray t)) [(w.heap.size, vs)] := (Bs.start w).alloc vs t
theorem bs_two (w : World) (vs us : List Value) (t u : TypeId) : Bs w ((w.alloc (.cells vs.toArray t)).alloc (.cells us.toArray u)) [(w.heap.size + 1, us), (w.heap.size, vs)] := by
  have := (bs_one w vs t).alloc us u
  rwa [World.size_alloc] at this
theorem Bs.tail {w W : World} {l : List (Nat × List Value)} {p : Nat} {vs : List Value} (h : Bs w W ((p, vs) :: l)) : Bs w W l := ⟨h.below, MemB.more h.mem.2 (Nat.le_of_lt h.mem.1.1)⟩
/-- both cells of a box written -/
theorem Bs.put2 {w W : World} {l : List (Nat × List Value)} {p : Nat} {u v : Value} (h : Bs w W ((p, [u, v]) :: l)) (a b : Value) : Bs w ((W.setCell ⟨p, 0, none⟩ a).setCell ⟨p, 1, none⟩ b) ((p, [a, b]) :: l) :=
  (h.set (j := 0) (i := 0) rfl a).set (j := 0) (i := 1) rfl b
theorem Bs.put2b {w W : World} {l : List (Nat × List Value)} {p : Nat} {q : Nat × List Value} {u v : Value} (h : Bs w W (q :: (p, [u, v]) :: l)) (a b : Value) : Bs w ((W.setCell ⟨p, 0, none⟩ a).setCell ⟨p, 1, none⟩ b) (q :: (p, [a, b]) :: l) :=
  (h.set (j := 1) (i := 0) rfl a).set (j := 1) (i := 1) rfl b
/-- both cells of the newest box may be written -/
theorem Bs.open2 {w W : World} {l : List (Nat × List Value)} {p : Nat} {u v : Value} (h : Bs w W ((p, [u, v]) :: l)) : W.frozen? ⟨p, 0, none⟩ = false ∧ W.frozen? ⟨p, 1, none⟩ = false :=
  ⟨h.free (j := 0) (i := 0) rfl rfl, h.free (j := 0) (i := 1) rfl rfl⟩
theorem Bs.open2b {w W : World} {l : List (Nat × List Value)} {p : Nat} {q : Nat × List Value} {u v : Value} (h : Bs w W (q :: (p, [u, v]) :: l)) : W.frozen? ⟨p, 0, none⟩ = false ∧ W.frozen? ⟨p, 1, none⟩ = false :=
  ⟨h.free (j := 1) (i := 0) rfl rfl, h.free (j := 1) (i := 1) rfl rfl⟩
end D
end Go.Proofs.YteipadljahkgoaaDoor
