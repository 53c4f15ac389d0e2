/- Where the reference's reading of a decimal's text stands: the result's box, the box of the number so far, the pieces; plain words for the walk. -/
import Derived.Test.YteekhfiphbhbjaaGreatDoorDecRefOf
namespace Go.Proofs.YteekhfiphbhbjaaGreatDoor
namespace D
open Go.RowKit Go.Maps

theorem Res.far {w wx : World} (h : Res w wx) {b o : Nat} (hb : w.heap.size < b) (v : Value) : Res w (wx.setCell ⟨b, o, none⟩ v) :=
  ⟨up_set h.below (by omega) v, by simpa using h.lt, by rw [World.cell?_setCell_far _ _ _ _ (by simp; omega)]; exact h.r0, by rw [World.cell?_setCell_far _ _ _ _ (by simp; omega)]; exact h.r1,
    by rw [World.frozen?_setCell]; exact h.f0, by rw [World.frozen?_setCell]; exact h.f1⟩
/-- the boxes, the pieces' row -/
structure DB (w W3 wx : World) (g gd : Nat) (m sc : Int) : Prop where
  res : Res w wx
  d0 : wx.cell? ⟨gd, 0, none⟩ = some (.int .i64 m)
  d1 : wx.cell? ⟨gd, 1, none⟩ = some (.int .i64 sc)
  g0 : wx.frozen? ⟨gd, 0, none⟩ = false
  g1 : wx.frozen? ⟨gd, 1, none⟩ = false
  row : ∀ j : Nat, wx.cell? ⟨g, j, none⟩ = W3.cell? ⟨g, j, none⟩
  gg : w.heap.size < g
  lt : g < gd
  gl : gd < wx.heap.size
section
variable {w W3 wx wy : World} {g gd : Nat} {m sc : Int}
theorem DB.call (h : DB w W3 wx g gd m sc) (hb : Below wx.heap.size wx wy) : DB w W3 wy g gd m sc :=
  have hg : g < wx.heap.size := Nat.lt_trans h.lt h.gl
  ⟨h.res.call hb, (hb.cell h.gl).trans h.d0, (hb.cell h.gl).trans h.d1, (hb.frozen h.gl).trans h.g0, (hb.frozen h.gl).trans h.g1, fun j => (hb.cell (p := ⟨g, j, none⟩) hg).trans (h.row j), h.gg, h.lt, Nat.lt_of_lt_of_le h.gl hb.size⟩
theorem DB.drewN (h : DB w W3 wx g gd m sc) (n : Nat) : DB w W3 (wx.drewN n) g gd m sc := h.call ⟨rfl, rfl, rfl, by simp, fun _ _ => by simp⟩
theorem DB.drew (h : DB w W3 wx g gd m sc) : DB w W3 wx.drew g gd m sc := h.call (Below.refl _ _).drew
theorem DB.set0 (h : DB w W3 wx g gd m sc) (v : Int) : DB w W3 (wx.setCell ⟨gd, 0, none⟩ (.int .i64 v)) g gd v sc :=
  have h1 := h.gg
  have h2 := h.lt
  ⟨h.res.far (by omega) _, World.cell?_setCell_same' _ _ _ (by rw [h.d0]; rfl), by rw [World.cell?_setCell_other (a := ⟨gd, 0, none⟩) (b := ⟨gd, 1, none⟩) (h := by simp)]; exact h.d1, by rw [World.frozen?_setCell]; exact h.g0, by rw [World.frozen?_setCell]; exact h.g1,
    fun j => by rw [World.cell?_setCell_far _ _ _ _ (by simp; omega)]; exact h.row j, h.gg, h.lt, by simpa using h.gl⟩
theorem DB.set1 (h : DB w W3 wx g gd m sc) (v : Int) : DB w W3 (wx.setCell ⟨gd, 1, none⟩ (.int .i64 v)) g gd m v :=
  have h1 := h.gg
  have h2 := h.lt
  ⟨h.res.far (by omega) _, by rw [World.cell?_setCell_other (a := ⟨gd, 1, none⟩) (b := ⟨gd, 0, none⟩) (h := by simp)]; exact h.d0, World.cell?_setCell_same' _ _ _ (by rw [h.d1]; rfl), by rw [World.frozen?_setCell]; exact h.g0, by rw [World.frozen?_setCell]; exact h.g1,
    fun j => by rw [World.cell?_setCell_far _ _ _ _ (by simp; omega)]; exact h.row j, h.gg, h.lt, by simpa using h.gl⟩
theorem DB.new {w W3 : World} {g : Nat} (hr : Res w W3) (h1 : w.heap.size < g) (h2 : g < W3.heap.size) {wx : World} (hb : Below W3.heap.size W3 wx) (m : Int) : DB w W3 (wx.alloc (box m 0)) g wx.heap.size m 0 :=
  have hs := hb.size
  have hb' := (Below.refl wx.heap.size wx).alloc (Nat.le_refl _) (box m 0)
  ⟨(hr.call hb).alloc _, by simp, by simp, by simp, by simp, fun j => (hb'.cell (p := ⟨g, j, none⟩) (by show g < _; omega)).trans (hb.cell (p := ⟨g, j, none⟩) h2), h1, by omega, by simp⟩
end
theorem own_row {w : World} {base : Nat} {v : Value} {xs : List Value} (h : w.ownsRow base 9 1 v xs.length xs) (h0 : xs ≠ []) : ∃ g c, v = .slice (some ⟨g, 0, none⟩) xs.length c ∧ base ≤ g ∧ xs.length ≤ c ∧ g < w.heap.size ∧ ∀ (j : Nat) u, xs[j]? = some u → w.cell? ⟨g, j, none⟩ = some u := by
  rcases h.2 with ⟨_, he⟩ | ⟨g, cap, cur, rfl, hb, hg, hc, _⟩
  · exact absurd (List.eq_nil_of_length_eq_zero he) h0
  · refine ⟨g, cap, rfl, hb, hc, (Array.getElem?_eq_some_iff.1 hg).1, fun j u hj => ?_⟩
    have := h.cells (g := g) rfl j u hj
    unfold Addr.add at this
    by_cases h0 : j = 0
    · subst h0; simpa using this
    · simpa [h0] using this
/-- the number, or none -/
def OfPost (w : World) (s : ByteArray) (e : Ending) (w' : World) : Prop :=
  Below w.heap.size w w' ∧ ((∃ c k, IsText s c k ∧ e = .returned (.tuple #[.agg #[.int .i64 c, .int .i64 k], .bool true])) ∨ (NoText s ∧ e = .returned (.tuple #[.agg #[.int .i64 0, .int .i64 0], .bool false])))
theorem of_none {w w' : World} {s : ByteArray} (h : NoText s) {e : Ending} (he : e = .returned (.tuple #[.agg #[.int .i64 0, .int .i64 0], .bool false])) (hb : Below w.heap.size w w') : OfPost w s e w' := ⟨hb, .inr ⟨h, he⟩⟩
theorem of_some {w w' : World} {s : ByteArray} {c k : Int} (h : IsText s c k) {e : Ending} (he : e = .returned (.tuple #[.agg #[.int .i64 c, .int .i64 k], .bool true])) (hb : Below w.heap.size w w') : OfPost w s e w' := ⟨hb, .inl ⟨c, k, h, he⟩⟩
end D
end Go.Proofs.YteekhfiphbhbjaaGreatDoor
