/- Plural rules as plain facts: what five texts, each empty or a rule's, tell of a number. -/
import Derived.Test.YteedhnpdffnfjaaDoorRuOfMath
namespace Go.Proofs.YteedhnpdffnfjaaDoor
namespace Ru
open Go.RowKit Go.Maps D

/-- a text that is empty, or a rule's -/
def RightT (t : List UInt8) : Prop := t = [] ∨ IsRule t (ruleOfL t)
/-- is there a rule, that holds? -/
noncomputable def hitB (I V W F T : Int) (t : List UInt8) : Bool := !t.isEmpty && ruleH (ruleOfL t) I V W F T
def firstB : List Bool → Nat
  | [] => 0
  | b :: l => if b then 0 else firstB l + 1
def kindL : Nat → List UInt8
  | 0 => [122, 101, 114, 111]
  | 1 => [111, 110, 101]
  | 2 => [116, 119, 111]
  | 3 => [102, 101, 119]
  | 4 => [109, 97, 110, 121]
  | _ => [111, 116, 104, 101, 114]
noncomputable def kindS (ts : List (List UInt8)) (I V W F T : Int) : List UInt8 := kindL (firstB (ts.map (hitB I V W F T)))
theorem hit_nil (I V W F T : Int) : hitB I V W F T [] = false := rfl
theorem hit_of {t : List UInt8} (h : t ≠ []) (I V W F T : Int) : hitB I V W F T t = ruleH (ruleOfL t) I V W F T := by
  cases t with
  | nil => exact absurd rfl h
  | cons c l => rfl
section
variable {w W : World} {base : Nat} {v : Value} {xs : List RelX} {ps : List PartX}
theorem OwnRels.set (h : OwnRels w base v xs) {g : Nat} (hg : g < base) (i : Nat) (u : Value) : OwnRels (w.setCell ⟨g, i, none⟩ u) base v xs := ⟨own_set h.row hg i u, fun x hx => ⟨(h.rgs x hx).1, own_set (h.rgs x hx).2 hg i u⟩⟩
theorem OwnRule.set (h : OwnRule w base v ps) {g : Nat} (hg : g < base) (i : Nat) (u : Value) : OwnRule (w.setCell ⟨g, i, none⟩ u) base v ps := ⟨own_set h.row hg i u, fun p hp => ⟨(h.parts p hp).1, (h.parts p hp).2.set hg i u⟩, h.apart⟩
/-- a text's rule, in a row of one's own; or none, of no text -/
def SlotAt (w : World) (base : Nat) (t : List UInt8) (v : Value) : Prop :=
  (t = [] ∧ v = .slice none 0 0) ∨ (t ≠ [] ∧ t.length ≤ 1073741824 ∧ IsRule t (ruleOfL t) ∧ ∃ (ps : List PartX) (ad : Addr) (c : Nat), ruleV ps = ruleOfL t ∧ v = .slice (some ad) ps.length c ∧ OwnRule w base (.slice (some ad) ps.length c) ps)
theorem SlotAt.later {t : List UInt8} (h : SlotAt w base t v) (hb : Below w.heap.size w W) : SlotAt W base t v := by
  rcases h with h | ⟨h0, hs, h1, ps, ad, c, h2, h3, h4⟩
  · exact .inl h
  · exact .inr ⟨h0, hs, h1, ps, ad, c, h2, h3, h4.later hb⟩
theorem SlotAt.set {t : List UInt8} (h : SlotAt w base t v) {g : Nat} (hg : g < base) (i : Nat) (u : Value) : SlotAt (w.setCell ⟨g, i, none⟩ u) base t v := by
  rcases h with h | ⟨h0, hs, h1, ps, ad, c, h2, h3, h4⟩
  · exact .inl h
  · exact .inr ⟨h0, hs, h1, ps, ad, c, h2, h3, h4.set hg i u⟩
theorem SlotAt.base_ {t : List UInt8} {base' : Nat} (h : SlotAt w base t v) (hb : base' ≤ base) : SlotAt w base' t v := by
  rcases h with h | ⟨h0, hs, h1, ps, ad, c, h2, h3, h4⟩
  · exact .inl h
  · exact .inr ⟨h0, hs, h1, ps, ad, c, h2, h3, h4.base_ hb⟩
end
theorem slot_new {W : World} {base : Nat} {t : List UInt8} {ps : List PartX} {A : Option Addr} {c : Nat} (h0 : t ≠ []) (hs : t.length ≤ 1073741824) (h1 : IsRule t (ruleOfL t)) (h2 : ruleV ps = ruleOfL t) (ho : OwnRule W base (.slice A ps.length c) ps) : SlotAt W base t (.slice A ps.length c) := by
  have hA := own_rule_at ho
  have hne : ps ≠ [] := fun e => by
    subst e
    have := (ruleF_zero.1 h1.1).1.1
    rw [← h2] at this
    exact this rfl
  obtain ⟨p, l, rfl⟩ := List.exists_cons_of_ne_nil hne
  obtain ⟨ad, e, _⟩ := hA.at_ (i := 0) (p := p) rfl
  subst e
  exact .inr ⟨h0, hs, h1, _, ad, c, h2, rfl, ho⟩
/-- does the rule of a place hold? -/
theorem slot_holds {w : World} {base : Nat} {t : List UInt8} {v : Value} (h : SlotAt w base t v) (h0 : t ≠ []) (I V W F T : Int) (hI : I64 I) (hV : I64 V) (hW : I64 W) (hF : I64 F) (hT : I64 T) :
    (∃ (ad : Addr) (n c : Nat), v = .slice (some ad) n c) ∧ ∀ w', Below w.heap.size w w' → Calls Tryd.prog 25 #[v, .agg #[.int .i64 I, .int .i64 V, .int .i64 W, .int .i64 F, .int .i64 T]] w' (HoldsYes w' (hitB I V W F T t)) := by
  rcases h with ⟨h, _⟩ | ⟨_, hs, h1, ps, ad, c, h2, rfl, h4⟩
  · exact absurd h h0
  · refine ⟨⟨ad, _, c, rfl⟩, fun w' hb => ?_⟩
    obtain ⟨f1, f2, f3⟩ := few_of hs h2
    have ht := (ruleF_zero.1 h1.1).2
    have hh := holds_any (some ad) ps.length c ps I V W F T w' ((own_rule_at h4).later hb) (by unfold maxLen; omega) f2.few f3 (by rw [h2]; omega) hI hV hW hF hT
    rw [h2] at hh
    rw [hit_of h0]
    exact holds_yes hh h1.1
end Ru
end Go.Proofs.YteedhnpdffnfjaaDoor
