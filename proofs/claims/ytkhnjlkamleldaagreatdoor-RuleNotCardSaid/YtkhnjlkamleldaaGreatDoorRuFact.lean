/- Rules of constant texts, as the laws read them. -/
import Derived.Test.YtkhnjlkamleldaaGreatDoorRuParseRule
namespace Go.Proofs.YtkhnjlkamleldaaGreatDoor
namespace Ru
open Go.RowKit Go.Maps D

theorem dg_small (n : Nat) (h : n < 10) : dg (n : Int) = [UInt8.ofNat (48 + n)] := by
  unfold dg
  rw [Int.toNat_natCast, Lib.decDigits_one h]
theorem is_one : IsRule [110, 32, 61, 32, 49] [[⟨110, 0, false, [(1, 1)]⟩]] := by
  refine ⟨ruleF_zero.2 ⟨by decide, by decide⟩, ?_⟩
  have h1 : dg 1 = [49] := dg_small 1 (by omega)
  simp [ruleT, partT, relT, words, rgsT, rgT, joinL, opT, notT, h1]
theorem is_ruled : IsRule [105, 32, 61, 32, 49, 32, 97, 110, 100, 32, 118, 32, 61, 32, 48] [[⟨105, 0, false, [(1, 1)]⟩, ⟨118, 0, false, [(0, 0)]⟩]] := by
  refine ⟨ruleF_zero.2 ⟨by decide, by decide⟩, ?_⟩
  have h1 : dg 1 = [49] := dg_small 1 (by omega)
  have h0 : dg 0 = [48] := dg_small 0 (by omega)
  simp [ruleT, partT, relT, words, rgsT, rgT, joinL, opT, notT, h1, h0]
def FactOne (w : World) (e : Ending) (w' : World) : Prop := ∃ (A : Option Addr) (c : Nat), e = .returned (.tuple #[.slice A 1 c, .nilIface]) ∧ Below w.heap.size w w'
theorem parseOne_any (w : World) (hE : Env w) : Calls Tryz.prog 12 #[.string ⟨#[110, 32, 61, 32, 49]⟩] w (FactOne w) :=
  (parse_yes ⟨#[110, 32, 61, 32, 49]⟩ _ w (by decide) hE is_one).mono fun e w' ⟨ps, A, c, hv, he, hc, ho, hb⟩ => by
    have hl := congrArg List.length hv
    simp [ruleV] at hl
    rw [hl] at he
    exact ⟨A, c, he, hb⟩
/-- the first part of a rule that was read -/
theorem first_part {W : World} {base : Nat} {A : Option Addr} {c : Nat} {ps : List PartX} {l : List RelV} (hv : ruleV ps = [l]) (ho : OwnRule W base (.slice A ps.length c) ps) : ps.length = 1 ∧ ∃ ad B d, A = some ad ∧ W.cell? ad = some (.slice B l.length d) := by
  have hl := congrArg List.length hv
  simp [ruleV] at hl
  obtain ⟨A', c', e, _, _, hR⟩ := ho.rule
  injection e with e1 _ e2
  subst e1; subst e2
  match ps, hl with
  | [p], _ =>
    obtain ⟨ad, ea, _, hcell, _, _⟩ := hR.at_ (i := 0) (p := p) rfl
    have hp : p.xs.length = l.length := by
      have : relsV p.xs = l := by simpa [ruleV] using hv
      rw [← this]; simp [relsV]
    refine ⟨rfl, ad, p.A, p.c, ea, ?_⟩
    have e0 : ad.add 0 = ad := by unfold Addr.add; simp
    rw [e0] at hcell
    rw [← hp]
    exact hcell
end Ru
end Go.Proofs.YtkhnjlkamleldaaGreatDoor
