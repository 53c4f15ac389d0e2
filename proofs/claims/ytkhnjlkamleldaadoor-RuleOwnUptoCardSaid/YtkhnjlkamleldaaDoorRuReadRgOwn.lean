/- What split of ranges tells; readRange of a text that is one, and of one that is none. -/
import Derived.Test.YtkhnjlkamleldaaDoorRuReadRg
import Derived.Test.YtkhnjlkamleldaaDoorRuOwn
import Derived.Test.YtkhnjlkamleldaaDoorRuSplitMath
namespace Go.Proofs.YtkhnjlkamleldaaDoor
namespace Ru
open Go.RowKit Go.Maps D

theorem rg_info : (Tryd.prog.info? 41).map (fun i => (i.zero, i.size, i.bytes)) = some (some (.agg #[.int .i64 0, .int .i64 0]), 2, 16) := by kernel_rfl
theorem rel_info : (Tryd.prog.info? 40).map (fun i => (i.zero, i.size, i.bytes)) = some (some (.agg #[.int .u8 0, .int .i64 0, .bool false, .slice none 0 0]), 4, 48) := by kernel_rfl
theorem part_info : (Tryd.prog.info? 36).map (fun i => (i.zero, i.size, i.bytes)) = some (some (.slice none 0 0), 1, 24) := by kernel_rfl
def SplitRgP (w : World) (o : Option (List (Int × Int))) (e : Ending) (w' : World) : Prop :=
  ((o = none ∧ e = .returned (.tuple #[.slice none 0 0, .bool false])) ∨ ∃ (rs : List (Int × Int)) (A : Option Addr) (c : Nat), o = some rs ∧ e = .returned (.tuple #[.slice A rs.length c, .bool true]) ∧ rs.length ≤ c ∧ w'.ownsRow w.heap.size 41 2 (.slice A rs.length c) rs.length (rgC rs)) ∧ Below w.heap.size w w'
def RgNone (w : World) (e : Ending) (w' : World) : Prop := ∃ a b : Int, e = .returned (.tuple #[.agg #[.int .i64 a, .int .i64 b], .bool false]) ∧ Below w.heap.size w w'
theorem rg_none {args : Array Value} {w : World} (h : Calls Tryd.prog 30 args w (RgPost w none)) : Calls Tryd.prog 30 args w (RgNone w) :=
  h.mono fun e w' ⟨a, b, ok, he, hd, hb⟩ => by
    rcases hd with ⟨h1, _⟩ | ⟨_, rfl⟩
    · cases h1
    · exact ⟨a, b, he, hb⟩
theorem rg_some {args : Array Value} {w : World} {x : Int × Int} (h : Calls Tryd.prog 30 args w (RgPost w (some x))) : Calls Tryd.prog 30 args w (Gives w (.tuple #[.agg #[.int .i64 x.1, .int .i64 x.2], .bool true])) :=
  h.mono fun e w' ⟨a, b, ok, he, hd, hb⟩ => by
    rcases hd with ⟨h1, rfl⟩ | ⟨h1, _⟩
    · injection h1 with h1; subst h1; exact ⟨he, hb⟩
    · cases h1
end Ru
end Go.Proofs.YtkhnjlkamleldaaDoor
