/- The program's join of relations; what lay in memory stays as it was. -/
import Derived.Test.YtkhnjlkamleldaaDoorRuRelTextW
namespace Go.Proofs.YtkhnjlkamleldaaDoor
namespace Ru
open Go.RowKit D

set_option maxHeartbeats 4000000 in
set_option maxRecDepth 100000 in
theorem joinRel_any (A : Option Addr) (n c : Nat) (xs : List RelX) (w : World) (hr : RelsAt w w.heap.size A n xs) (hn : n ≤ 1073741826) (hz : ∀ x ∈ xs, x.v.rs.length ≤ 1073741826) (hok : ∀ x ∈ xs, relOk x.v) (hE : Env w) (hj : (joinL [32, 97, 110, 100, 32] (xs.map (fun x => relT x.v))).length ≤ 140737488355328) :
    Calls Tryd.prog 19 #[.slice A n c, .string ⟨#[32, 97, 110, 100, 32]⟩, .func (.func 20) #[] #[]] w (Gives w (.string (str (joinL [32, 97, 110, 100, 32] (xs.map (fun x => relT x.v)))))) := by
  have HR := Lib.hid hr
  have HL : Hid (xs.length = n) := Lib.hid hr.len
  have HO := Lib.hid hok
  have HZ := Lib.hid hz
  have HEN := Lib.hid hE
  have HJ := Lib.hid hj
  have hmk := run_make_row' (P := Tryd.prog) 62 9 (.string ByteArray.empty) 16 Tryd.underlying62 strInfo rfl .i64 .i64 n (by omega) (by omega)
  clear hr hE hj hz hok
  go_enter Tryd.func19, Tryd.ntmps19
  go_wp2_with fail
  have hb0 : Below w.heap.size w (w.alloc (.cells (madeCells #[.string ByteArray.empty] n) 9)) := (Below.refl _ _).alloc (Nat.le_refl _) _
  have hk0 : Blk (w.alloc (.cells (madeCells #[.string ByteArray.empty] n) 9)) w.heap.size 9 (Lib.cellsOf [] n) := by rw [Lib.cellsOf_nil]; exact Blk.new w _ _
  generalize w.alloc (.cells (madeCells #[.string ByteArray.empty] n) 9) = w1 at *
  clear hmk
  go_loopw [15] (fun i wr => ∃ k : Nat, k ≤ n ∧ i = .int .i64 k ∧ Below w.heap.size w wr ∧ Blk wr w.heap.size 9 (Lib.cellsOf ((xs.take k).map fun x => str ((fun x => relT x.v) x)) n)) (fun i _ => n - (intOf i).toNat)
  case atStart => exact ⟨0, Nat.zero_le _, rfl, hb0, by simpa using hk0⟩
  case round =>
    obtain ⟨k, hk, rfl, hb, hblk⟩ := hrel
    clear hb0 hk0
    by_cases hlt : k < n
    · have hkr : k < xs.length := by have := HL.out; omega
      have hki : (k : Int) < (n : Int) := by omega
      have hki2 : (k : Int) < ((n : Nat) : Int) := hki
      obtain ⟨ad, rfl, hadb, y0, y1, y2, y3, hrc, hrg⟩ := ((HR.out.below hb).more hb.size).at_ (List.getElem?_eq_getElem hkr)
      rw [← add_of_add, add_pos _ _ (by omega)] at y1 y2 y3
      have HB0 : Hid (Bs wr _ [_]) := Lib.hid (bs_one wr [.int .u8 xs[k].v.op, .int .i64 xs[k].v.mod, .bool xs[k].v.nt, .slice xs[k].A xs[k].v.rs.length xs[k].c] 40)
      obtain ⟨z0, z1, z2, z3, -⟩ := HB0.out.cells
      have HDL : Hid (((xs.take k).map fun x => str ((fun x => relT x.v) x)).length = k) := Lib.hid (by simp; have := HL.out; omega)
      have HK : Hid ((xs.take (k + 1)).map (fun x => str ((fun x => relT x.v) x)) = (xs.take k).map (fun x => str ((fun x => relT x.v) x)) ++ [str ((fun x => relT x.v) xs[k])]) := Lib.hid (by rw [List.take_succ_eq_append_getElem hkr, List.map_append]; rfl)
      have hnext : (Lib.cellsOf ((xs.take k).map fun x => str ((fun x => relT x.v) x)) n)[k]? = some (.string ByteArray.empty) := by
        have := Lib.cellsOf_next (done := (xs.take k).map fun x => str ((fun x => relT x.v) x)) (N := n) (by rw [HDL.out]; exact hlt)
        rwa [HDL.out] at this
      have HSET : Hid ((Lib.cellsOf ((xs.take k).map fun x => str ((fun x => relT x.v) x)) n).setIfInBounds k (.string (str ((fun x => relT x.v) xs[k]))) = Lib.cellsOf ((xs.take (k + 1)).map (fun x => str ((fun x => relT x.v) x))) n) := Lib.hid (by
        have := Lib.cellsOf_set (done := (xs.take k).map fun x => str ((fun x => relT x.v) x)) (N := n) (by rw [HDL.out]; exact hlt) (str ((fun x => relT x.v) xs[k]))
        rw [HDL.out] at this
        rw [HK.out, this])
      have CC := Lib.hid (relText_any xs[k].v.op xs[k].v.mod xs[k].v.nt xs[k].A xs[k].v.rs.length xs[k].c xs[k].v.rs _ ((hrg.below HB0.out.below).more HB0.out.below.size) rfl (HZ.out _ (List.getElem_mem hkr)) (HO.out _ (List.getElem_mem hkr)) (HEN.out.later (bel_call hb HB0.out.below)))
      have HBL := Lib.hid (hblk.alloc (.cells #[.int .u8 xs[k].v.op, .int .i64 xs[k].v.mod, .bool xs[k].v.nt, .slice xs[k].A xs[k].v.rs.length xs[k].c] 40))
      clear hrc hrg
      generalize Lib.cellsOf ((xs.take k).map fun x => str ((fun x => relT x.v) x)) n = cs at *
      generalize str ((fun x => relT x.v) xs[k]) = tx at *
      go_wp2_with (go_at_call 20; (with_reducible refine (CC.out).mono ?_); rintro e w2 ⟨rfl, hb2⟩; (have hblk2 := HBL.out.below hb2 HBL.out.lt); (have hold : w2.cell? ⟨w.heap.size, k, none⟩ = some (.string ByteArray.empty) := (hblk2.cell k).trans hnext); (have hfr : w2.frozen? ⟨w.heap.size, k, none⟩ = false := hblk2.frozen k))
      go_roundw
      case rel => exact ⟨k + 1, by omega, by go_num, (bel_call hb (bel_call HB0.out.below hb2)).setCell (Nat.le_refl _) _, by rw [← HSET.out]; exact hblk2.set_ k _⟩
      case measure => simp [intOf]; omega
    · have hki : ¬ ((k : Int) < (n : Int)) := by omega
      obtain rfl : k = n := by omega
      have HALL : Hid (xs.take k = xs) := Lib.hid (List.take_of_length_le (by have := HL.out; omega))
      rw [HALL.out] at hblk
      have CJ := Lib.hid (join_any [32, 97, 110, 100, 32] (xs.map (fun x => relT x.v)) w.heap.size k _ (by rw [List.length_map]; exact HL.out.symm) (fun j p hp => by
        rw [hblk.cell j]
        have e : k = (xs.map fun x => str ((fun x => relT x.v) x)).length := by rw [List.length_map]; exact HL.out.symm
        conv => lhs; rw [e]
        rw [Lib.cellsOf_full]
        simp only [List.getElem?_map, List.map_map, List.getElem?_toArray] at hp ⊢
        cases hx : xs[j]? with
        | none => rw [hx] at hp; cases hp
        | some x => rw [hx] at hp; injection hp with hp; subst hp; rfl) hblk.lt (by omega) HJ.out)
      clear hlt hk
      go_wp2_with (go_at_call 33; (with_reducible refine (CJ.out).mono ?_); rintro e w2 ⟨rfl, hb2⟩)
      go_ret
      exact ⟨rfl, bel_call hb hb2⟩
end Ru
end Go.Proofs.YtkhnjlkamleldaaDoor
