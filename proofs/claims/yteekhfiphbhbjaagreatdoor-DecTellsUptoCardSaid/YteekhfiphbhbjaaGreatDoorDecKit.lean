/- What the laws on decimals share: boxes that hold numbers, whatever is called; a number put into a box of its own; the fact that each law asks first. -/
import Derived.Test.YteekhfiphbhbjaaGreatDoorDecAdd
namespace Go.Proofs.YteekhfiphbhbjaaGreatDoor
namespace D
open Go.RowKit

/-- boxes and the numbers that they hold -/
def Mem (W : World) : List (Nat × Int × Int) → Prop
  | [] => True
  | (p, a, b) :: l => (p < W.heap.size ∧ W.cell? ⟨p, 0, none⟩ = some (.int .i64 a) ∧ W.cell? ⟨p, 1, none⟩ = some (.int .i64 b)) ∧ Mem W l
def Cells (W : World) : List (Nat × Int × Int) → Prop
  | [] => True
  | (p, a, b) :: l => W.cell? ⟨p, 0, none⟩ = some (.int .i64 a) ∧ W.cell? ⟨p, 1, none⟩ = some (.int .i64 b) ∧ Cells W l
theorem Mem.cells {W : World} : ∀ {l : List (Nat × Int × Int)}, Mem W l → Cells W l
  | [], _ => trivial
  | (_, _, _) :: _, h => ⟨h.1.2.1, h.1.2.2, Mem.cells h.2⟩
theorem Mem.call {W W' : World} (hb : Below W.heap.size W W') : ∀ {l : List (Nat × Int × Int)}, Mem W l → Mem W' l
  | [], _ => trivial
  | (_, _, _) :: _, h => ⟨⟨Nat.lt_of_lt_of_le h.1.1 hb.size, (hb.cell h.1.1).trans h.1.2.1, (hb.cell h.1.1).trans h.1.2.2⟩, Mem.call hb h.2⟩
/-- the world behind some calls: nothing that lay there has turned, the boxes hold what they held -/
structure At (w W : World) (l : List (Nat × Int × Int)) : Prop where
  below : Below w.heap.size w W
  mem : Mem W l
theorem At.call {w W W' : World} {l : List (Nat × Int × Int)} (h : At w W l) (hb : Below W.heap.size W W') : At w W' l := ⟨up_call h.below hb, h.mem.call hb⟩
theorem At.alloc {w W : World} {l : List (Nat × Int × Int)} (h : At w W l) (a b : Int) : At w (W.alloc (box a b)) ((W.heap.size, a, b) :: l) :=
  ⟨up_alloc h.below _, ⟨by simp, by simp, by simp⟩, h.mem.call ((Below.refl _ _).alloc (Nat.le_refl _) _)⟩
theorem At.start (w : World) : At w w [] := ⟨Below.refl _ _, trivial⟩
theorem at_one (w : World) (a s : Int) : At w (w.alloc (box a s)) [(w.heap.size, a, s)] := (At.start w).alloc a s
theorem at_two (w : World) (a s b t : Int) : At w ((w.alloc (box a s)).alloc (box b t)) [(w.heap.size + 1, b, t), (w.heap.size, a, s)] := by
  have := (at_one w a s).alloc b t
  simpa using this
theorem at_three (w : World) (a s b t c r : Int) : At w (((w.alloc (box a s)).alloc (box b t)).alloc (box c r)) [(w.heap.size + 2, c, r), (w.heap.size + 1, b, t), (w.heap.size, a, s)] := by
  have := (at_two w a s b t).alloc c r
  simpa using this
def TrueBelow (w : World) (e : Ending) (w' : World) : Prop := e = .returned (.bool true) ∧ Below w.heap.size w w'
/-- whatever Round gives -/
def Some2 (w : World) (e : Ending) (w' : World) : Prop := ∃ (p q : Int) (ev : Value), e = .returned (.tuple #[.agg #[.int .i64 p, .int .i64 q], ev]) ∧ Below w.heap.size w w'
theorem round_some (c s t way : Int) (w : World) : Calls Tryz.prog 16 #[.agg #[.int .i64 c, .int .i64 s], .int .i64 t, .int .i64 way] w (Some2 w) := by
  refine (round_any c s t way w).mono fun e w' ⟨he, hb⟩ => ?_
  by_cases h : roundF c s t way = 0
  · exact ⟨_, _, _, by rw [he, roundV_ok h], hb⟩
  · exact ⟨_, _, _, by rw [he, roundV_no h], hb⟩
theorem add_some (c s d t : Int) (w : World) : Calls Tryz.prog 18 #[.agg #[.int .i64 c, .int .i64 s], .agg #[.int .i64 d, .int .i64 t]] w (Some2 w) := by
  refine (add_any c s d t w).mono fun e w' ⟨he, hb⟩ => ?_
  by_cases h : addF c s d t = 0
  · exact ⟨_, _, _, by rw [he, addV_ok h], hb⟩
  · exact ⟨_, _, _, by rw [he, addV_one (addF_one h)], hb⟩
theorem half_round : roundV 25 1 0 5 = .tuple #[.agg #[.int .i64 2, .int .i64 0], .nilIface] := by
  have h : roundF 25 1 0 5 = 0 := by decide +kernel
  rw [roundV_ok h]
  have : rc 25 1 0 5 = 2 := by decide +kernel
  rw [this]
theorem half_any (w : World) : Calls Tryz.prog 4 #[] w (TrueBelow w) := by
  have CR := Lib.hid fun W => round_any 25 1 0 5 W
  simp only [half_round] at CR
  go_enter Tryz.func4, Tryz.ntmps4
  go_upto_region 2 with (first
    | (go_at_call 16; (with_reducible refine (CR.out _).mono ?_); rintro e w1 ⟨rfl, hb1⟩; dsimp only))
  have H := Lib.hid (((At.start w).call hb1).alloc 2 0)
  clear hb1
  obtain ⟨x0, x1, -⟩ := H.out.mem.cells
  generalize w1.alloc (box 2 0) = w2 at *
  go_wp2_with fail
  go_ret
  exact ⟨rfl, H.out.below⟩
end D
end Go.Proofs.YteekhfiphbhbjaaGreatDoor
