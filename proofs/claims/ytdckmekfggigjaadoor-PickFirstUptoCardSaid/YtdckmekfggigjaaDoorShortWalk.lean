/- Words for the walks of the laws on tags: true and memory below; two boxes of tags; what is known of a right tag. -/
import Derived.Test.YtdckmekfggigjaaDoorShort
namespace Go.Proofs.YtdckmekfggigjaaDoor
open Go.RowKit
attribute [local go_sem ↓] Go.wp_at_zero Go.wp_at_succ

def TrueBelow (w : World) (e : Ending) (w' : World) : Prop := e = .returned (.bool true) ∧ Below w.heap.size w w'

/-- two boxes of tags that lie above what lay in memory -/
structure Two (w wx : World) (cs cs' : Array Value) : Prop where
  below : Below w.heap.size w wx
  one : Blk wx w.heap.size 29 cs
  two : Blk wx (w.heap.size + 1) 29 cs'
section
variable {w wx wy : World} {cs cs' : Array Value}
theorem Two.start (w : World) (cs cs' : Array Value) : Two w ((w.alloc (.cells cs 29)).alloc (.cells cs' 29)) cs cs' :=
  ⟨((Below.refl _ _).alloc (Nat.le_refl _) _).alloc (by simp) _, (Blk.new _ _ _).alloc _, by have := Blk.new (w.alloc (.cells cs 29)) 29 cs'; simpa using this⟩
theorem Two.sz (h : Two w wx cs cs') : w.heap.size + 1 < wx.heap.size := h.two.lt
theorem Two.later (h : Two w wx cs cs') (hb : Below wx.heap.size wx wy) : Two w wy cs cs' :=
  ⟨h.below.trans (hb.mono (by have := h.sz; omega)), h.one.below hb (by have := h.sz; omega), h.two.below hb (by have := h.sz; omega)⟩
theorem Two.alloc (h : Two w wx cs cs') (o : Obj) : Two w (wx.alloc o) cs cs' := ⟨h.below.alloc (by have := h.sz; omega) _, h.one.alloc _, h.two.alloc _⟩
theorem Two.drewN (h : Two w wx cs cs') (d : Nat) : Two w (wx.drewN d) cs cs' := ⟨below_drewN h.below d, h.one, h.two⟩
theorem Two.drew (h : Two w wx cs cs') : Two w wx.drew cs cs' := ⟨below_drewN h.below 1, h.one, h.two⟩
theorem Two.all {a0 a1 a2 a3 b0 b1 b2 b3 : Value} (h : Two w wx #[a0, a1, a2, a3] #[b0, b1, b2, b3]) : Two w wx #[a0, a1, a2, a3] #[b0, b1, b2, b3] ∧
    wx.cell? ⟨w.heap.size, 0, none⟩ = some a0 ∧ wx.cell? ⟨w.heap.size, 1, none⟩ = some a1 ∧ wx.cell? ⟨w.heap.size, 2, none⟩ = some a2 ∧ wx.cell? ⟨w.heap.size, 3, none⟩ = some a3 ∧
    wx.cell? ⟨w.heap.size + 1, 0, none⟩ = some b0 ∧ wx.cell? ⟨w.heap.size + 1, 1, none⟩ = some b1 ∧ wx.cell? ⟨w.heap.size + 1, 2, none⟩ = some b2 ∧ wx.cell? ⟨w.heap.size + 1, 3, none⟩ = some b3 :=
  ⟨h, h.one.cell 0, h.one.cell 1, h.one.cell 2, h.one.cell 3, h.two.cell 0, h.two.cell 1, h.two.cell 2, h.two.cell 3⟩
theorem Two.cells {a0 a1 a2 a3 b0 b1 b2 b3 : Value} (h : Two w wx #[a0, a1, a2, a3] #[b0, b1, b2, b3]) :
    wx.cell? ⟨w.heap.size, 0, none⟩ = some a0 ∧ wx.cell? ⟨w.heap.size, 1, none⟩ = some a1 ∧ wx.cell? ⟨w.heap.size, 2, none⟩ = some a2 ∧ wx.cell? ⟨w.heap.size, 3, none⟩ = some a3 ∧
    wx.cell? ⟨w.heap.size + 1, 0, none⟩ = some b0 ∧ wx.cell? ⟨w.heap.size + 1, 1, none⟩ = some b1 ∧ wx.cell? ⟨w.heap.size + 1, 2, none⟩ = some b2 ∧ wx.cell? ⟨w.heap.size + 1, 3, none⟩ = some b3 :=
  ⟨h.one.cell 0, h.one.cell 1, h.one.cell 2, h.one.cell 3, h.two.cell 0, h.two.cell 1, h.two.cell 2, h.two.cell 3⟩
end

abbrev TextCall (L S R : ByteArray) (A : Option Addr) (n c : Nat) (T : ByteArray) (W : World) : Prop :=
  Calls Tryd.prog 24 #[.agg #[.string L, .string S, .string R, .slice A n c]] W fun e w' => e = .returned (.string T) ∧ Below W.heap.size W w'
/-- what is known of a right tag -/
structure Known (L S R : ByteArray) (n : Nat) (vs : List ByteArray) : Prop where
  few : Few n
  short : Short (Lib.join (bs (partsOf L S R vs)) [45])
  size : (textOf L S R vs).size + 1 = (partsOf L S R vs).length + Lib.lens (bs (partsOf L S R vs))
  len : (partsOf L S R vs).length ≤ 6
  lens : Lib.lens (bs (partsOf L S R vs)) ≤ 1000
theorem known {L S R : ByteArray} {n : Nat} {vs : List ByteArray} (h : P.fault (tagT L S R vs) = 0) (hl : vs.length = n) : Known L S R n vs := by
  obtain ⟨q, r, h1, h2, h3, h4⟩ := parts_pos h
  have hf := (P.right_of h).few
  have hvl : (tagT L S R vs).vars.length = vs.length := by simp [tagT, bs]
  have hpl : (partsOf L S R vs).length = r.length + 1 := by
    have : (bs (partsOf L S R vs)).length = r.length + 1 := by rw [h1]; rfl
    simpa [bs] using this
  have hsz : (Lib.join (bs (partsOf L S R vs)) [45]).length = (textOf L S R vs).size := by unfold textOf; rw [← size_list]
  refine ⟨by unfold Few; omega, by unfold Short; omega, by rw [h1]; omega, by omega, by rw [h1]; exact h4⟩
end Go.Proofs.YtdckmekfggigjaaDoor
