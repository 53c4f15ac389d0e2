/- The answer of Round; two boxes that hold numbers. Nothing of the program stands here. -/
import Derived.Test.YtehocgemgdbikaaDoorDecWord
import Derived.Deep.RegionHeld3
import Derived.Deep.DeepCutAuto
import Derived.Deep.DrawnRows
namespace Go.Proofs.YtehocgemgdbikaaDoor
namespace D
open Go.RowKit

/-- the answer of Round -/
def roundV (c s t way : Int) : Value := .tuple #[if roundF c s t way = 0 then decV (rc c s t way) t else decV 0 0, errV (roundF c s t way)]
theorem roundV_ok {c s t way : Int} (h : roundF c s t way = 0) : roundV c s t way = .tuple #[.agg #[.int .i64 (rc c s t way), .int .i64 t], .nilIface] := by unfold roundV; rw [h]; rfl
theorem roundV_one {c s t way : Int} (h : roundF c s t way = 1) : roundV c s t way = .tuple #[.agg #[.int .i64 0, .int .i64 0], .iface 54 (.int .i64 1)] := by unfold roundV; rw [h]; rfl
theorem roundV_three {c s t way : Int} (h : roundF c s t way = 3) : roundV c s t way = .tuple #[.agg #[.int .i64 0, .int .i64 0], .iface 54 (.int .i64 3)] := by unfold roundV; rw [h]; rfl

theorem roundV_no {c s t way : Int} (h : roundF c s t way ≠ 0) : roundV c s t way = .tuple #[.agg #[.int .i64 0, .int .i64 0], .iface 54 (.int .i64 (roundF c s t way))] := by
  unfold roundV errV
  rw [if_neg h, if_neg h]; rfl
/-- the two boxes of Round, behind its first call -/
structure Boxes (w wx : World) (c s d t : Int) : Prop where
  below : Below w.heap.size w wx
  c0 : wx.cell? ⟨w.heap.size, 0, none⟩ = some (.int .i64 c)
  c1 : wx.cell? ⟨w.heap.size, 1, none⟩ = some (.int .i64 s)
  r0 : wx.cell? ⟨w.heap.size + 1, 0, none⟩ = some (.int .i64 d)
  r1 : wx.cell? ⟨w.heap.size + 1, 1, none⟩ = some (.int .i64 t)
  f0 : wx.frozen? ⟨w.heap.size + 1, 0, none⟩ = false
  f1 : wx.frozen? ⟨w.heap.size + 1, 1, none⟩ = false
theorem Boxes.new (w : World) (c s d t : Int) : Boxes w ((w.alloc (box c s)).alloc (box d t)) c s d t :=
  ⟨up_alloc (up_alloc (Below.refl _ _) _) _, by simp, by simp, by simp, by simp, by simp, by simp⟩
theorem lt_two (w : World) (x y : Obj) : w.heap.size + 1 < ((w.alloc x).alloc y).heap.size := by simp
theorem Boxes.call {w wx wy : World} {c s d t : Int} (h : Boxes w wx c s d t) (hx : w.heap.size + 1 < wx.heap.size) (hb : Below wx.heap.size wx wy) : Boxes w wy c s d t :=
  ⟨up_call h.below hb, (hb.cell (by show w.heap.size < _; omega)).trans h.c0, (hb.cell (by show w.heap.size < _; omega)).trans h.c1, (hb.cell hx).trans h.r0, (hb.cell hx).trans h.r1, (hb.frozen hx).trans h.f0, (hb.frozen hx).trans h.f1⟩
theorem dn_zero (w : World) : ∃ n, w.drewN n = w := ⟨0, rfl⟩
theorem dn_drew {w wx : World} (h : ∃ n, w.drewN n = wx) : ∃ n, w.drewN n = wx.drew := by
  obtain ⟨n, rfl⟩ := h
  exact ⟨n + 1, rfl⟩
theorem dn_drewN {w wx : World} (h : ∃ n, w.drewN n = wx) (d : Nat) : ∃ n, w.drewN n = wx.drewN d := by
  obtain ⟨n, rfl⟩ := h
  exact ⟨n + d, by rw [World.drewN_drewN]⟩
theorem stored {wx : World} {g : Nat} {x y : Value} (h0 : wx.cell? ⟨g, 0, none⟩ = some x) (h1 : wx.cell? ⟨g, 1, none⟩ = some y) (a b : Value) :
    ((wx.setCell ⟨g, 0, none⟩ a).setCell ⟨g, 1, none⟩ b).cell? ⟨g, 0, none⟩ = some a ∧ ((wx.setCell ⟨g, 0, none⟩ a).setCell ⟨g, 1, none⟩ b).cell? ⟨g, 1, none⟩ = some b := by
  have e0 : (wx.setCell ⟨g, 0, none⟩ a).cell? ⟨g, 0, none⟩ = some a := World.cell?_setCell_same' _ _ _ (by rw [h0]; rfl)
  have e1 : (wx.setCell ⟨g, 0, none⟩ a).cell? ⟨g, 1, none⟩ = some y := by rw [World.cell?_setCell_other (a := ⟨g, 0, none⟩) (b := ⟨g, 1, none⟩) (h := by simp)]; exact h1
  exact ⟨by rw [World.cell?_setCell_other (a := ⟨g, 1, none⟩) (b := ⟨g, 0, none⟩) (h := by simp)]; exact e0, World.cell?_setCell_same' _ _ _ (by rw [e1]; rfl)⟩
theorem kept {wx : World} {g o : Nat} {x : Value} (h : wx.cell? ⟨g, o, none⟩ = some x) (a b : Value) : ((wx.setCell ⟨g + 1, 0, none⟩ a).setCell ⟨g + 1, 1, none⟩ b).cell? ⟨g, o, none⟩ = some x := by
  rw [World.cell?_setCell_far _ _ _ _ (by simp), World.cell?_setCell_far _ _ _ _ (by simp)]; exact h
theorem up_set {w wx : World} (h : Below w.heap.size w wx) {b o : Nat} (hb : w.heap.size ≤ b) (v : Value) : Below w.heap.size w (wx.setCell ⟨b, o, none⟩ v) := h.setCell hb v
end D
end Go.Proofs.YtehocgemgdbikaaDoor
