/- What split of relations tells; readRel of a text that is one, and of one that is none. -/
import Derived.Test.YtkhnjlkamleldaaDoorRuReadRel
namespace Go.Proofs.YtkhnjlkamleldaaDoor
namespace Ru
open Go.RowKit Go.Maps D

theorem OwnRels.nil (w : World) (base : Nat) : OwnRels w base (.slice none 0 0) [] := ⟨World.ownsRow_nil _ _ _ _, fun x hx => (by cases hx)⟩
theorem OwnRule.nil (w : World) (base : Nat) : OwnRule w base (.slice none 0 0) [] := ⟨World.ownsRow_nil _ _ _ _, fun x hx => (by cases hx), List.Pairwise.nil⟩
def SplitRelP (w : World) (o : Option (List RelV)) (e : Ending) (w' : World) : Prop :=
  ((o = none ∧ e = .returned (.tuple #[.slice none 0 0, .bool false])) ∨ ∃ (xs : List RelX) (A : Option Addr) (c : Nat), o = some (relsV xs) ∧ e = .returned (.tuple #[.slice A xs.length c, .bool true]) ∧ xs.length ≤ c ∧ OwnRels w' w.heap.size (.slice A xs.length c) xs) ∧ Below w.heap.size w w'
def SplitPartP (w : World) (o : Option (List (List RelV))) (e : Ending) (w' : World) : Prop :=
  ((o = none ∧ e = .returned (.tuple #[.slice none 0 0, .bool false])) ∨ ∃ (ps : List PartX) (A : Option Addr) (c : Nat), o = some (ruleV ps) ∧ e = .returned (.tuple #[.slice A ps.length c, .bool true]) ∧ ps.length ≤ c ∧ OwnRule w' w.heap.size (.slice A ps.length c) ps) ∧ Below w.heap.size w w'
def RelNone (w : World) (e : Ending) (w' : World) : Prop := ∃ (a m : Int) (b : Bool) (A : Option Addr) (n c : Nat), e = .returned (.tuple #[.agg #[.int .u8 a, .int .i64 m, .bool b, .slice A n c], .bool false]) ∧ Below w.heap.size w w'
def RelSome (w : World) (x : RelV) (e : Ending) (w' : World) : Prop := ∃ (A : Option Addr) (c : Nat), e = .returned (.tuple #[.agg #[.int .u8 x.op, .int .i64 x.mod, .bool x.nt, .slice A x.rs.length c], .bool true]) ∧ x.rs.length ≤ c ∧ w'.ownsRow w.heap.size 41 2 (.slice A x.rs.length c) x.rs.length (rgC x.rs) ∧ Below w.heap.size w w'
theorem rel_none {args : Array Value} {w : World} (h : Calls Tryd.prog 15 args w (ReadRelP w none)) : Calls Tryd.prog 15 args w (RelNone w) :=
  h.mono fun e w' ⟨hd, hb⟩ => by
    rcases hd with ⟨_, a, m, b, A, n, c, he⟩ | ⟨x, A, c, h1, _⟩
    · exact ⟨a, m, b, A, n, c, he, hb⟩
    · cases h1
theorem rel_some {args : Array Value} {w : World} {x : RelV} (h : Calls Tryd.prog 15 args w (ReadRelP w (some x))) : Calls Tryd.prog 15 args w (RelSome w x) :=
  h.mono fun e w' ⟨hd, hb⟩ => by
    rcases hd with ⟨h1, _⟩ | ⟨y, A, c, h1, he, hc, ho⟩
    · cases h1
    · injection h1 with h1; subst h1; exact ⟨A, c, he, hc, ho, hb⟩
end Ru
end Go.Proofs.YtkhnjlkamleldaaDoor
