/- What all walks over rules share: what a call returns, how many relations a rule has. -/
import Derived.Test.YtkhnjlkamleldaaGreatDoorProg
import Derived.Test.YtkhnjlkamleldaaGreatDoorBoxes
import Derived.Test.YtkhnjlkamleldaaGreatDoorRuRows
import Derived.WalkKit
import Derived.WalkSpells
import Derived.Outline
import Derived.IntWalk
import Derived.RegionTactic
import Derived.Deep.QuietTactic
import Derived.Deep.RegionHeld3
import Derived.Deep.DeepCutAuto
import Derived.Deep.DrawnRows
namespace Go.Proofs.YtkhnjlkamleldaaGreatDoor
namespace Ru
open Go.RowKit D

theorem ret_b {a b : Bool} (h : a = b) : Ending.returned (.bool a) = .returned (.bool b) := by rw [h]
theorem val_b {a b : Bool} (h : a = b) : Value.bool a = .bool b := by rw [h]
def GivesB (w : World) (b : Bool) (e : Ending) (w' : World) : Prop := e = .returned (.bool b) ∧ Below w.heap.size w w'
/-- rows of a size that a call bears -/
def Few (ps : List PartX) : Prop := ∀ p ∈ ps, p.xs.length ≤ maxLen ∧ ∀ x ∈ p.xs, x.v.rs.length ≤ maxLen
def GivesI (w : World) (z : Nat) (e : Ending) (w' : World) : Prop := e = .returned (.int .i64 z) ∧ Below w.heap.size w w'
theorem total_nil : total [] = 0 := rfl
theorem total_snoc (l : List (List RelV)) (p : List RelV) : total (l ++ [p]) = total l + p.length := by simp [total]
theorem total_take (l : List (List RelV)) (i : Nat) (h : i < l.length) : total (l.take (i + 1)) = total (l.take i) + l[i].length := by
  rw [List.take_succ_eq_append_getElem h, total_snoc]
theorem total_le : ∀ (l : List (List RelV)) (i : Nat), total (l.take i) ≤ total l
  | [], i => by simp [total]
  | p :: l, 0 => by simp [total]
  | p :: l, i + 1 => by have := total_le l i; simp [total] at *; omega
theorem fault_bad {r : List (List RelV)} (h : ¬ ruleOk r) : ruleF r = 3 := by unfold ruleF; rw [if_neg h]
theorem fault_ok {r : List (List RelV)} (h : ruleOk r) : ruleF r = if 20 < total r then 4 else 0 := by unfold ruleF; rw [if_pos h]
theorem ret_i {a b : Nat} (h : a = b) : Ending.returned (.int .i64 (a : Int)) = .returned (.int .i64 (b : Int)) := by rw [h]
theorem opV_steps (op I V W F T : Int) : (if op = 116 then T else if op = 102 then F else if op = 119 then W else if op = 118 then V else I) = opV op I V W F T := by
  unfold opV
  (repeat' split) <;> omega
theorem any_take (rs : List (Int × Int)) (m : Int) (k : Nat) (h : k < rs.length) : (rs.take (k + 1)).any (inRg m) = ((rs.take k).any (inRg m) || inRg m rs[k]) := by
  rw [List.take_succ_eq_append_getElem h, List.any_append]
  simp

theorem part_take (xs : List RelV) (I V W F T : Int) (k : Nat) (h : k < xs.length) : partH (xs.take (k + 1)) I V W F T = (partH (xs.take k) I V W F T && relH xs[k] I V W F T) := by
  unfold partH
  rw [List.take_succ_eq_append_getElem h, List.all_append]
  simp
theorem rule_take (r : List (List RelV)) (I V W F T : Int) (k : Nat) (h : k < r.length) : ruleH (r.take (k + 1)) I V W F T = (ruleH (r.take k) I V W F T || partH r[k] I V W F T) := by
  unfold ruleH
  rw [List.take_succ_eq_append_getElem h, List.any_append]
  simp
theorem rule_true {r : List (List RelV)} {p : List RelV} {I V W F T : Int} (hm : p ∈ r) (h : partH p I V W F T = true) : ruleH r I V W F T = true := List.any_eq_true.2 ⟨p, hm, h⟩
end Ru
end Go.Proofs.YtkhnjlkamleldaaGreatDoor
