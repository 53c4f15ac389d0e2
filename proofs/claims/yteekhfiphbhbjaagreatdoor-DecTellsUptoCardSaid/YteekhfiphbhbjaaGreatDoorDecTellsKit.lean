/- What the law DecTells asks, told plainly: boxes that stay apart, a text's number or none, both orders alike, rounding and sums as the reference has them. -/
import Derived.Test.YteekhfiphbhbjaaGreatDoorDecKit
import Derived.Test.YteekhfiphbhbjaaGreatDoorDecLess
import Derived.Test.YteekhfiphbhbjaaGreatDoorDecParse
import Derived.Test.YteekhfiphbhbjaaGreatDoorDecRefDecOf
import Derived.Test.YteekhfiphbhbjaaGreatDoorDecRefRound
import Derived.Test.YteekhfiphbhbjaaGreatDoorDecRefAddOf
import Derived.Test.YteekhfiphbhbjaaGreatDoorDecTold
namespace Go.Proofs.YteekhfiphbhbjaaGreatDoor
namespace D
open Go.RowKit

set_option maxHeartbeats 2000000 in
theorem error_same (k : Nat) (w : World) (hg : ErrType w) : Calls Tryz.prog 6 #[errV k, .int .i64 (k : Int)] w (TrueBelow w) := by
  have HT := Lib.hid (told_any k w hg)
  clear hg
  generalize errV k = ev at *
  generalize (k : Int) = z at *
  go_enter Tryz.func6, Tryz.ntmps6
  go_wp2_with (go_at_call 19; (with_reducible refine HT.out.mono ?_); rintro e w' ⟨rfl, hb⟩)
  go_ret
  exact ⟨rfl, hb⟩

/-- boxes of the call's own, each newer than the next: what they hold; none is frozen -/
def MemF (W : World) (lo : Nat) : List (Nat × Int × Int) → Nat → Prop
  | [], _ => True
  | (p, a, b) :: l, hi => (p < hi ∧ lo ≤ p ∧ W.cell? ⟨p, 0, none⟩ = some (.int .i64 a) ∧ W.cell? ⟨p, 1, none⟩ = some (.int .i64 b) ∧ W.frozen? ⟨p, 0, none⟩ = false ∧ W.frozen? ⟨p, 1, none⟩ = false) ∧ MemF W lo l p
theorem MemF.more {W : World} {lo : Nat} : ∀ {l : List (Nat × Int × Int)} {hi hi' : Nat}, MemF W lo l hi → hi ≤ hi' → MemF W lo l hi'
  | [], _, _, _, _ => trivial
  | (_, _, _) :: _, _, _, h, hh => ⟨⟨Nat.lt_of_lt_of_le h.1.1 hh, h.1.2⟩, h.2⟩
theorem MemF.call {W W' : World} {lo B : Nat} (hb : Below B W W') : ∀ {l : List (Nat × Int × Int)} {hi : Nat}, MemF W lo l hi → hi ≤ B → MemF W' lo l hi
  | [], _, _, _ => trivial
  | (p, _, _) :: _, _, ⟨⟨h1, h2, h3, h4, h5, h6⟩, h7⟩, hh =>
    have hp : p < B := Nat.lt_of_lt_of_le h1 hh
    ⟨⟨h1, h2, (hb.cell (p := ⟨p, 0, none⟩) hp).trans h3, (hb.cell (p := ⟨p, 1, none⟩) hp).trans h4, (hb.frozen (p := ⟨p, 0, none⟩) hp).trans h5, (hb.frozen (p := ⟨p, 1, none⟩) hp).trans h6⟩, MemF.call hb h7 (Nat.le_of_lt hp)⟩
theorem MemF.cells {W : World} {lo : Nat} : ∀ {l : List (Nat × Int × Int)} {hi : Nat}, MemF W lo l hi → Cells W l
  | [], _, _ => trivial
  | (_, _, _) :: _, _, h => ⟨h.1.2.2.1, h.1.2.2.2.1, MemF.cells h.2⟩
structure Bx (w W : World) (l : List (Nat × Int × Int)) : Prop where
  below : Below w.heap.size w W
  mem : MemF W w.heap.size l W.heap.size
section
variable {w W W' : World} {l : List (Nat × Int × Int)}
theorem Bx.start (w : World) : Bx w w [] := ⟨Below.refl _ _, trivial⟩
theorem Bx.call (h : Bx w W l) (hb : Below W.heap.size W W') : Bx w W' l := ⟨up_call h.below hb, (h.mem.call hb (Nat.le_refl _)).more hb.size⟩
theorem Bx.alloc (h : Bx w W l) (a b : Int) : Bx w (W.alloc (box a b)) ((W.heap.size, a, b) :: l) :=
  have hb := (Below.refl W.heap.size W).alloc (Nat.le_refl _) (box a b)
  ⟨up_alloc h.below _, ⟨by simp, h.below.size, by simp, by simp, by simp, by simp⟩, h.mem.call hb (Nat.le_refl _)⟩
theorem Bx.drewN (h : Bx w W l) (n : Nat) : Bx w (W.drewN n) l := h.call ⟨rfl, rfl, rfl, by simp, fun _ _ => by simp⟩
theorem Bx.drew (h : Bx w W l) : Bx w W.drew l := h.call (Below.refl _ _).drew
theorem Bx.cells (h : Bx w W l) : Cells W l := h.mem.cells
/-- the second newest is written -/
theorem Bx.store {r : Nat} {x y : Int} {p : Nat} {a b : Int} (h : Bx w W ((r, x, y) :: (p, a, b) :: l)) (u v : Int) : Bx w ((W.setCell ⟨p, 0, none⟩ (.int .i64 u)).setCell ⟨p, 1, none⟩ (.int .i64 v)) ((r, x, y) :: (p, u, v) :: l) := by
  obtain ⟨hb, ⟨r1, r2, r3, r4, r5, r6⟩, ⟨p1, p2, p3, p4, p5, p6⟩, hl⟩ := h
  have hpl : Below p W ((W.setCell ⟨p, 0, none⟩ (.int .i64 u)).setCell ⟨p, 1, none⟩ (.int .i64 v)) := ((Below.refl p W).setCell (Nat.le_refl _) _).setCell (Nat.le_refl _) _
  obtain ⟨z0, z1⟩ := stored (wx := W) (g := p) p3 p4 (.int .i64 u) (.int .i64 v)
  have far : ∀ o (t : Value), W.cell? ⟨r, o, none⟩ = some t → ((W.setCell ⟨p, 0, none⟩ (.int .i64 u)).setCell ⟨p, 1, none⟩ (.int .i64 v)).cell? ⟨r, o, none⟩ = some t := fun o t ht => by
    rw [World.cell?_setCell_far _ _ _ _ (by simp; omega), World.cell?_setCell_far _ _ _ _ (by simp; omega)]; exact ht
  refine ⟨up_set (up_set hb p2 _) p2 _, ⟨by simpa using r1, r2, far _ _ r3, far _ _ r4, ?_, ?_⟩, ⟨p1, p2, z0, z1, ?_, ?_⟩, hl.call hpl (Nat.le_refl _)⟩
  all_goals (rw [World.frozen?_setCell, World.frozen?_setCell]; assumption)
theorem Bx.free2 {r : Nat} {x y : Int} {p : Nat} {a b : Int} (h : Bx w W ((r, x, y) :: (p, a, b) :: l)) : W.frozen? ⟨p, 0, none⟩ = false ∧ W.frozen? ⟨p, 1, none⟩ = false := ⟨h.mem.2.1.2.2.2.2.1, h.mem.2.1.2.2.2.2.2⟩
end
theorem bx_two (w : World) (a s b t : Int) : Bx w ((w.alloc (box a s)).alloc (box b t)) [(w.heap.size + 1, b, t), (w.heap.size, a, s)] := by
  have := ((Bx.start w).alloc a s).alloc b t
  simpa using this

/-- what both read of a text -/
theorem text_both (T : ByteArray) (w : World) (ht : T.size ≤ 1048576) (hS : Strc w) : ∃ (x k : Int) (b : Bool) (f : Nat), (b = true ∧ f = 0 ∨ b = false ∧ f = 3) ∧
    (∀ W, Below w.heap.size w W → Calls Tryz.prog 8 #[.string T] W (Gives W (.tuple #[.agg #[.int .i64 x, .int .i64 k], .bool b]))) ∧
    (∀ W, Below w.heap.size w W → Calls Tryz.prog 9 #[.string T] W (Gives W (.tuple #[.agg #[.int .i64 x, .int .i64 k], errV f]))) := by
  by_cases hx : ∃ x k, IsText T x k
  · obtain ⟨x, k, hx⟩ := hx
    refine ⟨x, k, true, 0, .inl ⟨rfl, rfl⟩, fun W _ => ?_, fun W hW => parse_yes hx W (by omega) (hS.later hW)⟩
    refine (refDecOf_any T W ht).mono fun e w' ⟨hb, h⟩ => ?_
    rcases h with ⟨c, d, h, he⟩ | ⟨h, _⟩
    · obtain ⟨e1, e2⟩ := is_one h hx
      subst e1; subst e2
      exact ⟨he, hb⟩
    · exact absurd hx (h x k)
  · have hn : NoText T := fun x k h => hx ⟨x, k, h⟩
    refine ⟨0, 0, false, 3, .inr ⟨rfl, rfl⟩, fun W _ => ?_, fun W hW => parse_no hn W (by omega) (hS.later hW)⟩
    refine (refDecOf_any T W ht).mono fun e w' ⟨hb, h⟩ => ?_
    rcases h with ⟨c, d, h, _⟩ | ⟨_, he⟩
    · exact absurd h (hn c d)
    · exact ⟨he, hb⟩
/-- what both make of a right number, a right scale and way -/
theorem round_both {a s t way : Int} (h : Right a s) (h2 : 0 ≤ t ∧ t ≤ 9) (h3 : 1 ≤ way ∧ way ≤ 5) : ∃ (p q : Int) (b : Bool) (f : Nat), (b = true ∧ f = 0 ∨ b = false ∧ f = 1 ∧ p = 0 ∧ q = 0) ∧
    (∀ W, Calls Tryz.prog 15 #[.agg #[.int .i64 a, .int .i64 s], .int .i64 t, .int .i64 way] W (Gives W (.tuple #[.agg #[.int .i64 p, .int .i64 q], .bool b]))) ∧
    (∀ W, Calls Tryz.prog 16 #[.agg #[.int .i64 a, .int .i64 s], .int .i64 t, .int .i64 way] W (Gives W (.tuple #[.agg #[.int .i64 p, .int .i64 q], errV f]))) := by
  by_cases hts : t < s
  · have hF : roundF a s t way = 0 := roundF_zero.2 ⟨h, h2, h3, fewer_room h hts⟩
    refine ⟨rc a s t way, t, true, 0, .inl ⟨rfl, rfl⟩, fun W => ?_, fun W => ?_⟩
    · have := refRound_few a s t way W h h2.1 hts h3.1 h3.2
      rwa [← rc_fewer (by omega) h.2.1] at this
    · have := round_any a s t way W
      rwa [roundV_ok hF] at this
  · have hst : s ≤ t := by omega
    by_cases hf : -1000000000000000 ≤ a * ten (t - s) ∧ a * ten (t - s) ≤ 1000000000000000
    · have hF : roundF a s t way = 0 := roundF_zero.2 ⟨h, h2, h3, by rw [rc_more hst h2.2]; exact hf⟩
      refine ⟨rc a s t way, t, true, 0, .inl ⟨rfl, rfl⟩, fun W => ?_, fun W => ?_⟩
      · have := refRound_more a s t way W h hst h2.2
        rw [if_pos hf] at this
        rwa [rc_more hst h2.2]
      · have := round_any a s t way W
        rwa [roundV_ok hF] at this
    · have hF : roundF a s t way = 1 := by
        unfold roundF
        rw [if_neg (by simpa using h), if_neg (by simpa using h2), if_neg (by simpa using h3), if_pos (by rw [rc_more hst h2.2]; exact hf)]
      refine ⟨0, 0, false, 1, .inr ⟨rfl, rfl, rfl, rfl⟩, fun W => ?_, fun W => ?_⟩
      · have := refRound_more a s t way W h hst h2.2
        rwa [if_neg hf] at this
      · have := round_any a s t way W
        rwa [roundV_one hF] at this
/-- what both make of two right numbers' sum -/
theorem add_both {a s b t : Int} (h : Right a s) (h' : Right b t) : ∃ (p q : Int) (r : Bool) (f : Nat), (r = true ∧ f = 0 ∨ r = false ∧ f = 1 ∧ p = 0 ∧ q = 0) ∧
    (∀ W, Calls Tryz.prog 17 #[.agg #[.int .i64 a, .int .i64 s], .agg #[.int .i64 b, .int .i64 t]] W (Gives W (.tuple #[.agg #[.int .i64 p, .int .i64 q], .bool r]))) ∧
    (∀ W, Calls Tryz.prog 18 #[.agg #[.int .i64 a, .int .i64 s], .agg #[.int .i64 b, .int .i64 t]] W (Gives W (.tuple #[.agg #[.int .i64 p, .int .i64 q], errV f]))) := by
  have hR : ∀ W, Calls Tryz.prog 17 #[.agg #[.int .i64 a, .int .i64 s], .agg #[.int .i64 b, .int .i64 t]] W
      (Gives W (if -1000000000000000 ≤ sumC a s b t ∧ sumC a s b t ≤ 1000000000000000 then .tuple #[.agg #[.int .i64 (sumC a s b t), .int .i64 (sumS s t)], .bool true] else .tuple #[.agg #[.int .i64 0, .int .i64 0], .bool false])) := fun W => by
    by_cases hst : s < t
    · exact refAdd_lt a s b t W h h' hst
    · exact refAdd_ge a s b t W h h' hst
  by_cases hf : -1000000000000000 ≤ sumC a s b t ∧ sumC a s b t ≤ 1000000000000000
  · refine ⟨sumC a s b t, sumS s t, true, 0, .inl ⟨rfl, rfl⟩, fun W => ?_, fun W => ?_⟩
    · have := hR W
      rwa [if_pos hf] at this
    · have := add_any a s b t W
      rwa [addV_ok (addF_zero.2 ⟨h, h', hf⟩)] at this
  · have hF : addF a s b t ≠ 0 := fun e => hf (addF_zero.1 e).2.2
    refine ⟨0, 0, false, 1, .inr ⟨rfl, rfl, rfl, rfl⟩, fun W => ?_, fun W => ?_⟩
    · have := hR W
      rwa [if_neg hf] at this
    · have := add_any a s b t W
      rwa [addV_one (addF_one hF)] at this
end D
end Go.Proofs.YteekhfiphbhbjaaGreatDoor
