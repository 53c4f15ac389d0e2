/- Words for a rule of the call's own that is written into, relation by relation, each after its ranges. -/
import Derived.Test.YtkhnjlkamleldaaDoorRuLawKit
namespace Go.Proofs.YtkhnjlkamleldaaDoor
namespace Ru
open Go.RowKit Go.Maps D

/-- a block of cells that may be written into -/
def Sz (W : World) (g : Nat) (t : TypeId) (n : Nat) : Prop := ∃ cur : Array Value, W.heap[g]? = some (.cells cur t (0, 0)) ∧ n ≤ cur.size
section
variable {W : World} {g n : Nat} {t : TypeId}
theorem Sz.lt (h : Sz W g t n) : g < W.heap.size := by
  obtain ⟨cur, h1, _⟩ := h
  exact Blk.lt h1
theorem Sz.cell (h : Sz W g t n) {i : Nat} (hi : i < n) : ∃ u, W.cell? ⟨g, i, none⟩ = some u := by
  obtain ⟨cur, h1, h2⟩ := h
  exact ⟨cur[i]'(by omega), (Blk.cell h1 i).trans (Array.getElem?_eq_getElem (by omega))⟩
theorem Sz.frozen (h : Sz W g t n) (i : Nat) : W.frozen? ⟨g, i, none⟩ = false := by
  obtain ⟨cur, h1, _⟩ := h
  exact Blk.frozen h1 i
theorem Sz.set_ (h : Sz W g t n) (k i : Nat) (u : Value) : Sz (W.setCell ⟨k, i, none⟩ u) g t n := by
  obtain ⟨cur, h1, h2⟩ := h
  by_cases hk : g = k
  · subst hk
    exact ⟨_, Blk.set_ h1 i u, by simpa using h2⟩
  · exact ⟨cur, Blk.far h1 hk u, h2⟩
theorem Sz.ne_ {g' n' : Nat} {t' : TypeId} (h : Sz W g t n) (h' : Sz W g' t' n') (hne : t ≠ t') : g ≠ g' := by
  obtain ⟨cur, h1, _⟩ := h
  obtain ⟨cur', h1', _⟩ := h'
  exact Blk.ne_ h1 h1' hne
theorem Sz.of_own {base size m : Nat} {A : Option Addr} {c : Nat} {xs : List Value} (h : W.ownsRow base t size (.slice A m c) m xs) (hm : 0 < m) : ∃ g, A = some ⟨g, 0, none⟩ ∧ base ≤ g ∧ Sz W g t (m * size) := by
  rcases h.2 with ⟨_, h0⟩ | ⟨g, cap, cur, e, hb, hg, hc, _, hcs, _⟩
  · omega
  · injection e with e1 _ _
    exact ⟨g, e1, hb, cur, hg, by rw [hcs]; exact Nat.mul_le_mul_right _ hc⟩
end
/-- the rule while it is written into: what lies behind (i, k) is as it was -/
structure Wipe (W : World) (B : Nat) (A : Option Addr) (ps : List PartX) (i k : Nat) : Prop where
  parts : ∀ (j : Nat) (p : PartX), ps[j]? = some p → ∃ g, A = some ⟨g, 0, none⟩ ∧ W.cell? ⟨g, j, none⟩ = some p.val ∧ Sz W g 36 0
  rows : ∀ p ∈ ps, 0 < p.xs.length → ∃ g, p.A = some ⟨g, 0, none⟩ ∧ B ≤ g ∧ Sz W g 40 (p.xs.length * 4)
  rgs : ∀ p ∈ ps, ∀ x ∈ p.xs, 0 < x.v.rs.length → ∃ g, x.A = some ⟨g, 0, none⟩ ∧ B ≤ g ∧ Sz W g 41 (x.v.rs.length * 2)
  cont : ∀ (j : Nat) (p : PartX) (q : Nat) (x : RelX) (g : Nat), ps[j]? = some p → p.xs[q]? = some x → p.A = some ⟨g, 0, none⟩ → (i < j ∨ (j = i ∧ k ≤ q)) → W.cell? ⟨g, q * 4 + 3, none⟩ = some x.rgs
section
variable {W : World} {B i k : Nat} {A : Option Addr} {ps : List PartX}
theorem Wipe.start {c : Nat} (h : OwnRule W B (.slice A ps.length c) ps) : Wipe W B A ps 0 0 := by
  refine ⟨fun j p hp => ?_, fun p hp h0 => ?_, fun p hp x hx h0 => ?_, fun j p q x g hp hx hA _ => ?_⟩
  · have hj : j < ps.length := (List.getElem?_eq_some_iff.1 hp).1
    obtain ⟨g, e, _, cur, hg, _⟩ := Sz.of_own h.row (by omega)
    refine ⟨g, e, ?_, cur, hg, Nat.zero_le _⟩
    have := h.row.cells (g := g) (by rw [e]; rfl) j p.val (by simp [partC, hp])
    rwa [show (⟨g, 0, none⟩ : Addr).add j = ⟨g, j, none⟩ from by unfold Addr.add; split <;> simp_all] at this
  · obtain ⟨g, e, hb, hs⟩ := Sz.of_own (h.parts p hp).2.row h0
    exact ⟨g, e, hb, hs⟩
  · obtain ⟨g, e, hb, hs⟩ := Sz.of_own ((h.parts p hp).2.rgs x hx).2 h0
    exact ⟨g, e, hb, hs⟩
  · have hr := (h.parts p (List.mem_of_getElem? hp)).2.row
    have := hr.cells (g := g) (by show (Value.slice p.A _ _).ownBlock = _; rw [hA]; rfl) (q * 4 + 3) x.rgs (by
      have := flat_get RelX.cells (k := 4) (fun _ => rfl) p.xs q x hx 3 (by omega)
      simpa [relC] using this)
    rwa [show (⟨g, 0, none⟩ : Addr).add (q * 4 + 3) = ⟨g, q * 4 + 3, none⟩ from by unfold Addr.add; split <;> simp_all] at this
theorem Wipe.next (h : Wipe W B A ps i k) : Wipe W B A ps i (k + 1) := ⟨h.parts, h.rows, h.rgs, fun j p q x g hp hx hA hj => h.cont j p q x g hp hx hA (by omega)⟩
theorem Wipe.row (h : Wipe W B A ps i k) : Wipe W B A ps (i + 1) 0 := ⟨h.parts, h.rows, h.rgs, fun j p q x g hp hx hA hj => h.cont j p q x g hp hx hA (by omega)⟩
/-- a range is written -/
theorem Wipe.setRg (h : Wipe W B A ps i k) {g n : Nat} (hg : Sz W g 41 n) (o : Nat) (u : Value) : Wipe (W.setCell ⟨g, o, none⟩ u) B A ps i k := by
  refine ⟨fun j p hp => ?_, fun p hp h0 => ?_, fun p hp x hx h0 => ?_, fun j p q x g' hp hx hA hj => ?_⟩
  · obtain ⟨g', e, hc, hs⟩ := h.parts j p hp
    refine ⟨g', e, ?_, hs.set_ _ _ _⟩
    rw [World.cell?_setCell_far _ _ _ _ (hg.ne_ hs (by decide))]
    exact hc
  · obtain ⟨g', e, hb, hs⟩ := h.rows p hp h0
    exact ⟨g', e, hb, hs.set_ _ _ _⟩
  · obtain ⟨g', e, hb, hs⟩ := h.rgs p hp x hx h0
    exact ⟨g', e, hb, hs.set_ _ _ _⟩
  · have hq : q < p.xs.length := (List.getElem?_eq_some_iff.1 hx).1
    obtain ⟨g2, e, _, hs⟩ := h.rows p (List.mem_of_getElem? hp) (by omega)
    rw [hA] at e
    injection e with e
    injection e with e
    subst e
    rw [World.cell?_setCell_far _ _ _ _ (hg.ne_ hs (by decide))]
    exact h.cont j p q x g' hp hx hA hj
/-- a relation is written -/
theorem Wipe.setRel (h : Wipe W B A ps i (k + 1)) (hap : ps.Pairwise Apart) {p0 : PartX} {g : Nat} (hp0 : ps[i]? = some p0) (hA0 : p0.A = some ⟨g, 0, none⟩) (hg : Sz W g 40 (p0.xs.length * 4)) {d : Nat} (hd : d < 4) (u : Value) : Wipe (W.setCell ⟨g, k * 4 + d, none⟩ u) B A ps i (k + 1) := by
  refine ⟨fun j p hp => ?_, fun p hp h0 => ?_, fun p hp x hx h0 => ?_, fun j p q x g' hp hx hA hj => ?_⟩
  · obtain ⟨g', e, hc, hs⟩ := h.parts j p hp
    refine ⟨g', e, ?_, hs.set_ _ _ _⟩
    rw [World.cell?_setCell_far _ _ _ _ (hg.ne_ hs (by decide))]
    exact hc
  · obtain ⟨g', e, hb, hs⟩ := h.rows p hp h0
    exact ⟨g', e, hb, hs.set_ _ _ _⟩
  · obtain ⟨g', e, hb, hs⟩ := h.rgs p hp x hx h0
    exact ⟨g', e, hb, hs.set_ _ _ _⟩
  · have hc := h.cont j p q x g' hp hx hA hj
    rcases hj with hj | ⟨rfl, hq⟩
    · have hne : g ≠ g' := by
        have hi : i < ps.length := (List.getElem?_eq_some_iff.1 hp0).1
        have hjl : j < ps.length := (List.getElem?_eq_some_iff.1 hp).1
        have := List.pairwise_iff_getElem.1 hap i j hi hjl hj
        have e1 : ps[i] = p0 := (List.getElem?_eq_some_iff.1 hp0).2
        have e2 : ps[j] = p := (List.getElem?_eq_some_iff.1 hp).2
        rw [e1, e2] at this
        exact this ⟨g, 0, none⟩ ⟨g', 0, none⟩ hA0 hA
      rw [World.cell?_setCell_far _ _ _ _ hne]
      exact hc
    · rw [hp0] at hp
      injection hp with hp
      subst hp
      rw [hA0] at hA
      injection hA with hA
      injection hA with hA
      subst hA
      rw [World.cell?_setCell_other (a := ⟨g, k * 4 + d, none⟩) (b := ⟨g, q * 4 + 3, none⟩) (h := by simp)]
      exact hc
end
end Ru
end Go.Proofs.YtkhnjlkamleldaaDoor
