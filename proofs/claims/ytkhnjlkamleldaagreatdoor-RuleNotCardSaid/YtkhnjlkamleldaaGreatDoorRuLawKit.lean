/- What the walks of the laws on rules share. -/
import Derived.Test.YtkhnjlkamleldaaGreatDoorRuFact
import Derived.Test.YtkhnjlkamleldaaGreatDoorRuEnv
namespace Go.Proofs.YtkhnjlkamleldaaGreatDoor
namespace Ru
open Go.RowKit Go.Maps D

/-- how long the text of a right rule of the second form is -/
theorem back_size {ps : List PartX} (hz : ∀ p ∈ ps, p.xs.length ≤ 1048576 ∧ ∀ x ∈ p.xs, x.v.rs.length ≤ 1048576) (h0 : ruleF (ruleV ps) = 0) : (str (ruleT (ruleV ps))).size ≤ 1073741824 := by
  obtain ⟨hok, h20⟩ := ruleF_zero.1 h0
  have h1 := rule_size hok 1048576 fun p hp x hx => by
    obtain ⟨q, hq, rfl⟩ := List.mem_map.1 hp
    obtain ⟨y, hy, rfl⟩ := List.mem_map.1 hx
    exact (hz q hq).2 y hy
  have h2 : total (ruleV ps) * (60 + 40 * 1048576 + 9) ≤ 20 * (60 + 40 * 1048576 + 9) := Nat.mul_le_mul_right _ h20
  rw [ba_size, str_data]
  omega
def TextYes (w : World) (t : ByteArray) (e : Ending) (w' : World) : Prop := e = .returned (.tuple #[.string t, .nilIface]) ∧ Below w.heap.size w w'
def TextNo (w : World) (e : Ending) (w' : World) : Prop := ∃ z : Nat, e = .returned (.tuple #[.string ⟨#[]⟩, .iface 26 (.int .i64 z)]) ∧ Below w.heap.size w w'
theorem text_yes {args : Array Value} {w : World} {r : List (List RelV)} (h : Calls Tryz.prog 9 args w (GivesT w r)) (h0 : ruleF r = 0) : Calls Tryz.prog 9 args w (TextYes w (str (ruleT r))) :=
  h.mono fun e w' ⟨he, hb⟩ => ⟨by rw [he, h0]; unfold textS; rw [if_pos h0]; rfl, hb⟩
theorem text_no {args : Array Value} {w : World} {r : List (List RelV)} (h : Calls Tryz.prog 9 args w (GivesT w r)) (h0 : ruleF r ≠ 0) : Calls Tryz.prog 9 args w (TextNo w) :=
  h.mono fun e w' ⟨he, hb⟩ => by
    obtain ⟨z, hz⟩ := errV_ne h0
    exact ⟨z, by rw [he, hz]; unfold textS; rw [if_neg h0], hb⟩
def HoldsYes (w : World) (b : Bool) (e : Ending) (w' : World) : Prop := e = .returned (.tuple #[.bool b, .nilIface]) ∧ Below w.heap.size w w'
def HoldsNo (w : World) (e : Ending) (w' : World) : Prop := ∃ z : Nat, e = .returned (.tuple #[.bool false, .iface 26 (.int .i64 z)]) ∧ Below w.heap.size w w'
theorem holds_yes {args : Array Value} {w : World} {r : List (List RelV)} {I V W F T : Int} (h : Calls Tryz.prog 14 args w (GivesH w (holdsB r I V W F T) (ruleF r))) (h0 : ruleF r = 0) : Calls Tryz.prog 14 args w (HoldsYes w (ruleH r I V W F T)) :=
  h.mono fun e w' ⟨he, hb⟩ => ⟨by rw [he, h0]; unfold holdsB; rw [if_pos h0]; rfl, hb⟩
theorem holds_no {args : Array Value} {w : World} {r : List (List RelV)} {I V W F T : Int} (h : Calls Tryz.prog 14 args w (GivesH w (holdsB r I V W F T) (ruleF r))) (h0 : ruleF r ≠ 0) : Calls Tryz.prog 14 args w (HoldsNo w) :=
  h.mono fun e w' ⟨he, hb⟩ => by
    obtain ⟨z, hz⟩ := errV_ne h0
    exact ⟨z, by rw [he, hz]; unfold holdsB; rw [if_neg h0], hb⟩
theorem own_rule_at {W : World} {base : Nat} {A : Option Addr} {c : Nat} {ps : List PartX} (ho : OwnRule W base (.slice A ps.length c) ps) : RuleAt W W.heap.size A ps.length ps := by
  obtain ⟨A', c', e, _, _, hR⟩ := ho.rule
  injection e with e1 _ e2
  subst e1; subst e2
  exact hR
end Ru
end Go.Proofs.YtkhnjlkamleldaaGreatDoor
