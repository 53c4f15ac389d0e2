/- Rules of constant texts, as the laws read them. And what follows from it. -/
import Derived.Test.YteedhnpdffnfjaaDoorRuParseRule
import Derived.Test.YteedhnpdffnfjaaDoorRuEnv
namespace Go.Proofs.YteedhnpdffnfjaaDoor
namespace Ru
open Go.RowKit Go.Maps D

theorem dg_small (n : Nat) (h : n < 10) : dg (n : Int) = [UInt8.ofNat (48 + n)] := by
  unfold dg
  rw [Int.toNat_natCast, Lib.decDigits_one h]
theorem is_one : IsRule [110, 32, 61, 32, 49] [[⟨110, 0, false, [(1, 1)]⟩]] := by
  refine ⟨ruleF_zero.2 ⟨by decide, by decide⟩, ?_⟩
  have h1 : dg 1 = [49] := dg_small 1 (by omega)
  simp [ruleT, partT, relT, words, rgsT, rgT, joinL, opT, notT, h1]
theorem is_ruled : IsRule [105, 32, 61, 32, 49, 32, 97, 110, 100, 32, 118, 32, 61, 32, 48] [[⟨105, 0, false, [(1, 1)]⟩, ⟨118, 0, false, [(0, 0)]⟩]] := by
  refine ⟨ruleF_zero.2 ⟨by decide, by decide⟩, ?_⟩
  have h1 : dg 1 = [49] := dg_small 1 (by omega)
  have h0 : dg 0 = [48] := dg_small 0 (by omega)
  simp [ruleT, partT, relT, words, rgsT, rgT, joinL, opT, notT, h1, h0]
def FactOne (w : World) (e : Ending) (w' : World) : Prop := ∃ (A : Option Addr) (c : Nat), e = .returned (.tuple #[.slice A 1 c, .nilIface]) ∧ Below w.heap.size w w'
theorem parseOne_any (w : World) (hE : Env w) : Calls Tryd.prog 24 #[.string ⟨#[110, 32, 61, 32, 49]⟩] w (FactOne w) :=
  (parse_yes ⟨#[110, 32, 61, 32, 49]⟩ _ w (by decide) hE is_one).mono fun e w' ⟨ps, A, c, hv, he, hc, ho, hb⟩ => by
    have hl := congrArg List.length hv
    simp [ruleV] at hl
    rw [hl] at he
    exact ⟨A, c, he, hb⟩
/-- the first part of a rule that was read -/
theorem first_part {W : World} {base : Nat} {A : Option Addr} {c : Nat} {ps : List PartX} {l : List RelV} (hv : ruleV ps = [l]) (ho : OwnRule W base (.slice A ps.length c) ps) : ps.length = 1 ∧ ∃ ad B d, A = some ad ∧ W.cell? ad = some (.slice B l.length d) := by
  have hl := congrArg List.length hv
  simp [ruleV] at hl
  obtain ⟨A', c', e, _, _, hR⟩ := ho.rule
  injection e with e1 _ e2
  subst e1; subst e2
  match ps, hl with
  | [p], _ =>
    obtain ⟨ad, ea, _, hcell, _, _⟩ := hR.at_ (i := 0) (p := p) rfl
    have hp : p.xs.length = l.length := by
      have : relsV p.xs = l := by simpa [ruleV] using hv
      rw [← this]; simp [relsV]
    refine ⟨rfl, ad, p.A, p.c, ea, ?_⟩
    have e0 : ad.add 0 = ad := by unfold Addr.add; simp
    rw [e0] at hcell
    rw [← hp]
    exact hcell
end Ru
end Go.Proofs.YteedhnpdffnfjaaDoor

/- What the walks of the laws on rules share. -/
namespace Go.Proofs.YteedhnpdffnfjaaDoor
namespace Ru
open Go.RowKit Go.Maps D

/-- how long the text of a right rule of the second form is -/
theorem back_size {ps : List PartX} (hz : ∀ p ∈ ps, p.xs.length ≤ 1048576 ∧ ∀ x ∈ p.xs, x.v.rs.length ≤ 1048576) (h0 : ruleF (ruleV ps) = 0) : (str (ruleT (ruleV ps))).size ≤ 1073741824 := by
  obtain ⟨hok, h20⟩ := ruleF_zero.1 h0
  have h1 := rule_size hok 1048576 fun p hp x hx => by
    obtain ⟨q, hq, rfl⟩ := List.mem_map.1 hp
    obtain ⟨y, hy, rfl⟩ := List.mem_map.1 hx
    exact (hz q hq).2 y hy
  have h2 : total (ruleV ps) * (60 + 40 * 1048576 + 9) ≤ 20 * (60 + 40 * 1048576 + 9) := Nat.mul_le_mul_right _ h20
  rw [ba_size, str_data]
  omega
def TextYes (w : World) (t : ByteArray) (e : Ending) (w' : World) : Prop := e = .returned (.tuple #[.string t, .nilIface]) ∧ Below w.heap.size w w'
def TextNo (w : World) (e : Ending) (w' : World) : Prop := ∃ z : Nat, e = .returned (.tuple #[.string ⟨#[]⟩, .iface 30 (.int .i64 z)]) ∧ Below w.heap.size w w'
theorem text_yes {args : Array Value} {w : World} {r : List (List RelV)} (h : Calls Tryd.prog 34 args w (GivesT w r)) (h0 : ruleF r = 0) : Calls Tryd.prog 34 args w (TextYes w (str (ruleT r))) :=
  h.mono fun e w' ⟨he, hb⟩ => ⟨by rw [he, h0]; unfold textS; rw [if_pos h0]; rfl, hb⟩
theorem text_no {args : Array Value} {w : World} {r : List (List RelV)} (h : Calls Tryd.prog 34 args w (GivesT w r)) (h0 : ruleF r ≠ 0) : Calls Tryd.prog 34 args w (TextNo w) :=
  h.mono fun e w' ⟨he, hb⟩ => by
    obtain ⟨z, hz⟩ := errV_ne h0
    exact ⟨z, by rw [he, hz]; unfold textS; rw [if_neg h0], hb⟩
def HoldsYes (w : World) (b : Bool) (e : Ending) (w' : World) : Prop := e = .returned (.tuple #[.bool b, .nilIface]) ∧ Below w.heap.size w w'
def HoldsNo (w : World) (e : Ending) (w' : World) : Prop := ∃ z : Nat, e = .returned (.tuple #[.bool false, .iface 30 (.int .i64 z)]) ∧ Below w.heap.size w w'
theorem holds_yes {args : Array Value} {w : World} {r : List (List RelV)} {I V W F T : Int} (h : Calls Tryd.prog 25 args w (GivesH w (holdsB r I V W F T) (ruleF r))) (h0 : ruleF r = 0) : Calls Tryd.prog 25 args w (HoldsYes w (ruleH r I V W F T)) :=
  h.mono fun e w' ⟨he, hb⟩ => ⟨by rw [he, h0]; unfold holdsB; rw [if_pos h0]; rfl, hb⟩
theorem holds_no {args : Array Value} {w : World} {r : List (List RelV)} {I V W F T : Int} (h : Calls Tryd.prog 25 args w (GivesH w (holdsB r I V W F T) (ruleF r))) (h0 : ruleF r ≠ 0) : Calls Tryd.prog 25 args w (HoldsNo w) :=
  h.mono fun e w' ⟨he, hb⟩ => by
    obtain ⟨z, hz⟩ := errV_ne h0
    exact ⟨z, by rw [he, hz]; unfold holdsB; rw [if_neg h0], hb⟩
theorem own_rule_at {W : World} {base : Nat} {A : Option Addr} {c : Nat} {ps : List PartX} (ho : OwnRule W base (.slice A ps.length c) ps) : RuleAt W W.heap.size A ps.length ps := by
  obtain ⟨A', c', e, _, _, hR⟩ := ho.rule
  injection e with e1 _ e2
  subst e1; subst e2
  exact hR
end Ru
end Go.Proofs.YteedhnpdffnfjaaDoor
