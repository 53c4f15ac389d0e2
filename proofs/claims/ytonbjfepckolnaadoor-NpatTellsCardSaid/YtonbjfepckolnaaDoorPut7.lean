/- Boxes of seven cells, written whole. -/
import Derived.Test.YtonbjfepckolnaaDoorBoxes
namespace Go.Proofs.YtonbjfepckolnaaDoor
namespace D
abbrev put7 (W : World) (p : Nat) (a b c d e f g : Value) : World := ((((((W.setCell ⟨p, 0, none⟩ a).setCell ⟨p, 1, none⟩ b).setCell ⟨p, 2, none⟩ c).setCell ⟨p, 3, none⟩ d).setCell ⟨p, 4, none⟩ e).setCell ⟨p, 5, none⟩ f).setCell ⟨p, 6, none⟩ g
theorem Bs.put7 {w W : World} {l : List (Nat × List Value)} {p : Nat} {v0 v1 v2 v3 v4 v5 v6 : Value} (h : Bs w W ((p, [v0, v1, v2, v3, v4, v5, v6]) :: l)) (a b c d e f g : Value) : Bs w (D.put7 W p a b c d e f g) ((p, [a, b, c, d, e, f, g]) :: l) :=
  ((((((h.set (j := 0) (i := 0) rfl a).set (j := 0) (i := 1) rfl b).set (j := 0) (i := 2) rfl c).set (j := 0) (i := 3) rfl d).set (j := 0) (i := 4) rfl e).set (j := 0) (i := 5) rfl f).set (j := 0) (i := 6) rfl g
theorem Bs.put7b {w W : World} {l : List (Nat × List Value)} {p q : Nat} {us : List Value} {v0 v1 v2 v3 v4 v5 v6 : Value} (h : Bs w W ((q, us) :: (p, [v0, v1, v2, v3, v4, v5, v6]) :: l)) (a b c d e f g : Value) : Bs w (D.put7 W p a b c d e f g) ((q, us) :: (p, [a, b, c, d, e, f, g]) :: l) :=
  ((((((h.set (j := 1) (i := 0) rfl a).set (j := 1) (i := 1) rfl b).set (j := 1) (i := 2) rfl c).set (j := 1) (i := 3) rfl d).set (j := 1) (i := 4) rfl e).set (j := 1) (i := 5) rfl f).set (j := 1) (i := 6) rfl g
end D
end Go.Proofs.YtonbjfepckolnaaDoor
