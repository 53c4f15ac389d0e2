/- The number that plain.Told gives of an error that a number's function told; that S.Error and S.Told return true of it. -/
import Derived.Test.YtkhnjlkamleldaaGreatDoorAsHit
import Derived.Test.YtkhnjlkamleldaaGreatDoorErrV
import Derived.Test.YtkhnjlkamleldaaGreatDoorGives
import Derived.Lib.Hide
import Derived.WalkSpells
import Derived.Outline
import Derived.IntWalk
import Derived.Deep.RegionHeld3
import Derived.Deep.DeepCutAuto
import Derived.Deep.DrawnRows
namespace Go.Proofs.YtkhnjlkamleldaaGreatDoor
namespace D
open Go.RowKit
attribute [local go_sem ↓] Go.wp_at_zero Go.wp_at_succ

def ErrType (w : World) : Prop := w.cell? ⟨0, 0, none⟩ = some (.iface 119 (.agg #[.pointer (some ⟨9, 30, none⟩)]))
theorem errType_later {w W : World} (h : ErrType w) (hb : Below w.heap.size w W) : ErrType W := by
  unfold ErrType
  rw [hb.cell (World.block_lt_of_cell? w _ h)]
  exact h
theorem asWorld_get (w : World) (t : Addr) (k : Int) {v : Value} (ht : w.cell? t = some v) : (asWorld w t k).cell? t = some (.int .i64 k) := by
  have htl : t.block < w.heap.size := World.block_lt_of_cell? w _ ht
  unfold asWorld
  refine World.cell?_setCell_same _ _ _ (u := v) ?_
  rw [World.cell?_alloc_lt _ _ t (by simp; omega), World.cell?_alloc_lt _ _ t (by simp; omega), World.cell?_alloc_lt _ _ t (by simp; omega), World.cell?_alloc_lt _ _ t htl]
  exact ht
theorem asWorld_below {B : Nat} (w : World) (t : Addr) (k : Int) (hB : B ≤ t.block) (hw : B ≤ w.heap.size) : Below B w (asWorld w t k) := by
  unfold asWorld
  exact (((((Below.refl _ _).alloc hw _).alloc (by simp; omega) _).alloc (by simp; omega) _).alloc (by simp; omega) _).setCell (by omega) _

set_option maxHeartbeats 2000000 in
set_option maxRecDepth 100000 in
theorem told_any (k : Nat) (w : World) (hg : ErrType w) : Calls Tryz.prog 25 #[errV k] w fun e w' => e = .returned (.int .i64 k) ∧ Below w.heap.size w w' := by
  cases k with
  | zero =>
    rw [errV_zero]
    clear hg
    go_enter Tryz.func25, Tryz.ntmps25
    go_wp2_with fail
    go_ret
    exact ⟨rfl, Below.refl _ _⟩
  | succ k =>
    rw [errV_succ]
    have hlt := World.block_lt_of_cell? w _ hg
    have hgA : (w.alloc (.cells #[.int .i64 0] 26)).cell? ⟨0, 0, none⟩ = some (.iface 119 (.agg #[.pointer (some ⟨9, 30, none⟩)])) := by rw [World.cell?_alloc_lt _ _ _ hlt]; exact hg
    have htA : (w.alloc (.cells #[.int .i64 0] 26)).cell? ⟨w.heap.size, 0, none⟩ = some (.int .i64 0) := by simp
    have hfA : (w.alloc (.cells #[.int .i64 0] 26)).frozen? ⟨w.heap.size, 0, none⟩ = false := by simp
    have HA := Lib.hid (as_hit ((k + 1 : Nat) : Int) ⟨w.heap.size, 0, none⟩ (.int .i64 0) _ hgA htA hfA)
    have hc := asWorld_get (w.alloc (.cells #[.int .i64 0] 26)) ⟨w.heap.size, 0, none⟩ ((k + 1 : Nat) : Int) htA
    have hb := ((Below.refl w.heap.size w).alloc (Nat.le_refl _) (.cells #[.int .i64 0] 26)).trans (asWorld_below (w.alloc (.cells #[.int .i64 0] 26)) ⟨w.heap.size, 0, none⟩ ((k + 1 : Nat) : Int) (Nat.le_refl _) (by simp))
    clear hg hgA htA hfA
    generalize ((k + 1 : Nat) : Int) = z at *
    generalize asWorld (w.alloc (.cells #[.int .i64 0] 26)) ⟨w.heap.size, 0, none⟩ z = wa at *
    go_enter Tryz.func25, Tryz.ntmps25
    go_wp2_with (go_at_call 45; (with_reducible refine HA.out.mono ?_); rintro e w' ⟨rfl, rfl⟩)
    go_ret
    exact ⟨rfl, hb⟩
end D
end Go.Proofs.YtkhnjlkamleldaaGreatDoor
