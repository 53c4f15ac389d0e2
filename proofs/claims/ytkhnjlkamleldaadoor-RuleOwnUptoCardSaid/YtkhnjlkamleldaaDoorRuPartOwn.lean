/- The program's reading of a part; what lay in memory stays as it was. -/
import Derived.Test.YtkhnjlkamleldaaDoorRuSplitRel
namespace Go.Proofs.YtkhnjlkamleldaaDoor
namespace Ru
open Go.RowKit Go.Maps D

def PartNone (w : World) (e : Ending) (w' : World) : Prop := e = .returned (.tuple #[.slice none 0 0, .bool false]) ∧ Below w.heap.size w w'
def PartSome (w : World) (x : List RelV) (e : Ending) (w' : World) : Prop := ∃ (xs : List RelX) (A : Option Addr) (c : Nat), relsV xs = x ∧ e = .returned (.tuple #[.slice A xs.length c, .bool true]) ∧ xs.length ≤ c ∧ OwnRels w' w.heap.size (.slice A xs.length c) xs ∧ Below w.heap.size w w'
theorem rels_none {f : FuncId} {args : Array Value} {w : World} (h : Calls Tryd.prog f args w (SplitRelP w none)) : Calls Tryd.prog f args w (PartNone w) :=
  h.mono fun e w' ⟨hd, hb⟩ => by
    rcases hd with ⟨_, he⟩ | ⟨xs, A, c, h1, _⟩
    · exact ⟨he, hb⟩
    · cases h1
theorem rels_some {f : FuncId} {args : Array Value} {w : World} {x : List RelV} (h : Calls Tryd.prog f args w (SplitRelP w (some x))) : Calls Tryd.prog f args w (PartSome w x) :=
  h.mono fun e w' ⟨hd, hb⟩ => by
    rcases hd with ⟨h1, _⟩ | ⟨xs, A, c, h1, he, hc, ho⟩
    · cases h1
    · injection h1 with h1; exact ⟨xs, A, c, h1.symm, he, hc, ho, hb⟩
set_option maxHeartbeats 2000000 in
theorem parse1_any (s : ByteArray) (w : World) (hs : s.size < 4294967280) (hE : Env w) : Calls Tryd.prog 13 #[.string s] w (SplitRelP w (partP s.data.toList)) := by
  have HC := splitRel_any s w hs hE
  clear hs hE
  cases ho : partP s.data.toList with
  | none =>
    rw [ho] at HC
    have HN := Lib.hid (rels_none HC)
    clear HC ho
    go_enter Tryd.func13, Tryd.ntmps13
    go_wp2_with (go_at_call 14; (with_reducible refine (HN.out).mono ?_); rintro e w2 ⟨rfl, hb2⟩; dsimp only)
    exact bodyPost_ret (v := .tuple #[.slice none 0 0, .bool false]) (by simp [results, Tryd.results13, go_sem]) rfl ⟨.inl ⟨rfl, rfl⟩, hb2⟩
  | some x =>
    rw [ho] at HC
    have HN := Lib.hid (rels_some HC)
    clear HC ho
    go_enter Tryd.func13, Tryd.ntmps13
    go_wp2_with (go_at_call 14; (with_reducible refine (HN.out).mono ?_); rintro e w2 ⟨xs, A, c, hx, rfl, hc, ho, hb2⟩; dsimp only)
    exact bodyPost_ret (v := .tuple #[.slice A xs.length c, .bool true]) (by simp [results, Tryd.results13, go_sem]) rfl ⟨.inr ⟨xs, A, c, by rw [hx], rfl, hc, ho⟩, hb2⟩
theorem part_none {args : Array Value} {w : World} (h : Calls Tryd.prog 13 args w (SplitRelP w none)) : Calls Tryd.prog 13 args w (PartNone w) := rels_none h
theorem part_some {args : Array Value} {w : World} {x : List RelV} (h : Calls Tryd.prog 13 args w (SplitRelP w (some x))) : Calls Tryd.prog 13 args w (PartSome w x) := rels_some h
end Ru
end Go.Proofs.YtkhnjlkamleldaaDoor
