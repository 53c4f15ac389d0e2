/- All patterns that a text could be that of, one behind the other. Nothing of the program stands here. -/
import Derived.Test.YtonbjfepckolnaaDoorNpMath
namespace Go.Proofs.YtonbjfepckolnaaDoor
namespace Np

def Dom (a b m g g2 : Nat) : Prop := (1 ≤ a ∧ a ≤ 9) ∧ (b ≤ m ∧ m ≤ 6) ∧ g ≤ 4 ∧ g2 ≤ 4
def code (a b m g g2 : Nat) : Nat := (((a * 7 + b) * 7 + m) * 5 + g) * 5 + g2
/-- none so far -/
def NoneYet (H : Nat → Nat → Nat → Nat → Nat → Prop) (N : Nat) : Prop := ∀ a b m g g2, Dom a b m g g2 → code a b m g g2 < N → ¬ H a b m g g2
variable {H : Nat → Nat → Nat → Nat → Nat → Prop}
theorem code_inj {a b m g g2 a' b' m' g' g2' : Nat} (h : Dom a b m g g2) (h' : Dom a' b' m' g' g2') (e : code a b m g g2 = code a' b' m' g' g2') : a = a' ∧ b = b' ∧ m = m' ∧ g = g' ∧ g2 = g2' := by
  obtain ⟨⟨_, _⟩, ⟨_, _⟩, _, _⟩ := h
  obtain ⟨⟨_, _⟩, ⟨_, _⟩, _, _⟩ := h'
  unfold code at e
  have e2 : g2 = g2' := by omega
  subst e2
  have e1 : ((a * 7 + b) * 7 + m) * 5 + g = ((a' * 7 + b') * 7 + m') * 5 + g' := by omega
  have e3 : g = g' := by omega
  subst e3
  have e4 : (a * 7 + b) * 7 + m = (a' * 7 + b') * 7 + m' := by omega
  have e5 : m = m' := by omega
  subst e5
  have e6 : a * 7 + b = a' * 7 + b' := by omega
  have e7 : b = b' := by omega
  subst e7
  exact ⟨by omega, rfl, rfl, rfl, rfl⟩
theorem NoneYet.next {a b m g g2 : Nat} (h : NoneYet H (code a b m g g2)) (hd : Dom a b m g g2) (hn : ¬ H a b m g g2) : NoneYet H (code a b m g (g2 + 1)) := by
  intro a' b' m' g' g2' hd' hlt
  by_cases e : code a' b' m' g' g2' < code a b m g g2
  · exact h _ _ _ _ _ hd' e
  · have e2 : code a b m g (g2 + 1) = code a b m g g2 + 1 := by unfold code; omega
    obtain ⟨rfl, rfl, rfl, rfl, rfl⟩ := code_inj hd' hd (by omega)
    exact hn
theorem NoneYet.up {N M : Nat} (h : NoneYet H N) (e : M ≤ N) : NoneYet H M := fun a b m g g2 hd hlt => h a b m g g2 hd (by omega)
theorem NoneYet.g5 {a b m g : Nat} (h : NoneYet H (code a b m g 5)) : NoneYet H (code a b m (g + 1) 0) := h.up (by unfold code; omega)
theorem NoneYet.m5 {a b m : Nat} (h : NoneYet H (code a b m 5 0)) : NoneYet H (code a b (m + 1) 0 0) := h.up (by unfold code; omega)
theorem NoneYet.b7 {a b : Nat} (h : NoneYet H (code a b 7 0 0)) : NoneYet H (code a (b + 1) 0 0 0) := h.up (by unfold code; omega)
theorem NoneYet.a7 {a : Nat} (h : NoneYet H (code a 7 0 0 0)) : NoneYet H (code (a + 1) 0 0 0 0) := h.up (by unfold code; omega)
theorem NoneYet.from_ {a b : Nat} (h : NoneYet H (code a b 0 0 0)) (hb : b ≤ 6) : NoneYet H (code a b b 0 0) := by
  intro a' b' m' g' g2' hd hlt
  by_cases e : code a' b' m' g' g2' < code a b 0 0 0
  · exact h _ _ _ _ _ hd e
  · exfalso
    obtain ⟨⟨_, _⟩, ⟨_, _⟩, _, _⟩ := hd
    unfold code at e hlt
    have e1 : a' * 7 + b' = a * 7 + b := by omega
    have e2 : b' = b := by omega
    omega
theorem NoneYet.start : NoneYet H (code 1 0 0 0 0) := by
  intro a' b' m' g' g2' hd hlt
  obtain ⟨⟨_, _⟩, _⟩ := hd
  unfold code at hlt
  omega
/-- a pattern with these sizes, between these ends -/
def patQ (s : List UInt8) (i t a b m g g2 : Nat) : PatV := ⟨s.take i, s.drop t, a, b, m, g, g2⟩
def Hit (s : List UInt8) (i t : Nat) (a b m g g2 : Nat) : Prop := patF (patQ s i t a b m g g2) = 0 ∧ patT (patQ s i t a b m g g2) = s
theorem none_all {s : List UInt8} {i t : Nat} (he : Ends s i t) (h : NoneYet (Hit s i t) (code 10 0 0 0 0)) : patO s = none := by
  refine patO_none.2 fun p hp hs => ?_
  obtain ⟨_, _, _, e1, e2⟩ := he.near hp hs
  obtain ⟨_, ⟨⟨a1, a9⟩, ⟨m0, m6⟩, ⟨b0, bm⟩, ⟨g0, g4⟩, k0, k4⟩, _⟩ := patF_zero.1 hp
  have hq : patQ s i t p.a.toNat p.b.toNat p.m.toNat p.g.toNat p.g2.toNat = p := by
    unfold patQ
    rw [← e1, ← e2, show (p.a.toNat : Int) = p.a by omega, show (p.b.toNat : Int) = p.b by omega, show (p.m.toNat : Int) = p.m by omega, show (p.g.toNat : Int) = p.g by omega, show (p.g2.toNat : Int) = p.g2 by omega]
  refine h p.a.toNat p.b.toNat p.m.toNat p.g.toNat p.g2.toNat ⟨⟨by omega, by omega⟩, ⟨by omega, by omega⟩, by omega, by omega⟩ (by unfold code; omega) ?_
  unfold Hit
  rw [hq]
  exact ⟨hp, hs⟩
theorem far_none {s : List UInt8} {i t : Nat} (he : Ends s i t) (h : 5 < i ∨ 5 < s.length - t ∨ 40 < t - i) : patO s = none := by
  refine patO_none.2 fun p hp hs => ?_
  obtain ⟨h1, h2, h3, _, _⟩ := he.near hp hs
  omega
theorem hit_some {s : List UInt8} {i t a b m g g2 : Nat} (h : Hit s i t a b m g g2) : patO s = some (patQ s i t a b m g g2) := patO_some.2 h
end Np
end Go.Proofs.YtonbjfepckolnaaDoor
