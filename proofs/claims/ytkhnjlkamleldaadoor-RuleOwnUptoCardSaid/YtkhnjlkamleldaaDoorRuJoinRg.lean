/- The program's join of ranges; what lay in memory stays as it was. -/
import Derived.Test.YtkhnjlkamleldaaDoorRuText
namespace Go.Proofs.YtkhnjlkamleldaaDoor
namespace Ru
open Go.RowKit D

theorem strInfo : (Tryd.prog.info? 9).map (fun i => (i.zero, i.size, i.bytes)) = some (some (.string ByteArray.empty), 1, 16) := by kernel_rfl
set_option maxHeartbeats 4000000 in
set_option maxRecDepth 100000 in
theorem joinRg_any (A : Option Addr) (n c : Nat) (rs : List (Int × Int)) (w : World) (hr : RgsAt w w.heap.size A n rs) (hn : n ≤ 1073741826) (hl : rs.length = n) (hok : ∀ r ∈ rs, rgOk r) (hE : Env w) (hj : (joinL [44] (rs.map rgT)).length ≤ 140737488355328) :
    Calls Tryd.prog 35 #[.slice A n c, .string ⟨#[44]⟩, .func (.func 36) #[] #[]] w (Gives w (.string (str (joinL [44] (rs.map rgT))))) := by
  have HR := Lib.hid hr
  have HL : Hid (rs.length = n) := Lib.hid hl
  have HO := Lib.hid hok
  have HEN := Lib.hid hE
  have HJ := Lib.hid hj
  have hmk := run_make_row' (P := Tryd.prog) 62 9 (.string ByteArray.empty) 16 Tryd.underlying62 strInfo rfl .i64 .i64 n (by omega) (by omega)
  clear hr hE hj hl hok
  go_enter Tryd.func35, Tryd.ntmps35
  go_wp2_with fail
  have hb0 : Below w.heap.size w (w.alloc (.cells (madeCells #[.string ByteArray.empty] n) 9)) := (Below.refl _ _).alloc (Nat.le_refl _) _
  have hk0 : Blk (w.alloc (.cells (madeCells #[.string ByteArray.empty] n) 9)) w.heap.size 9 (Lib.cellsOf [] n) := by rw [Lib.cellsOf_nil]; exact Blk.new w _ _
  generalize w.alloc (.cells (madeCells #[.string ByteArray.empty] n) 9) = w1 at *
  clear hmk
  go_loopw [15] (fun i wr => ∃ k : Nat, k ≤ n ∧ i = .int .i64 k ∧ Below w.heap.size w wr ∧ Blk wr w.heap.size 9 (Lib.cellsOf ((rs.take k).map fun x => str (rgT x)) n)) (fun i _ => n - (intOf i).toNat)
  case atStart => exact ⟨0, Nat.zero_le _, rfl, hb0, by simpa using hk0⟩
  case round =>
    obtain ⟨k, hk, rfl, hb, hblk⟩ := hrel
    clear hb0 hk0
    by_cases hlt : k < n
    · have hkr : k < rs.length := by have := HL.out; omega
      have hki : (k : Int) < (n : Int) := by omega
      have hki2 : (k : Int) < ((n : Nat) : Int) := hki
      obtain ⟨ad, rfl, hadb, x0, x1⟩ := rg_at ((HR.out.below hb).more hb.size) hkr
      rw [← add_of_add, add_pos _ _ (by omega)] at x1
      have HB0 : Hid (Bs wr _ [_]) := Lib.hid (bs_one wr [.int .i64 rs[k].1, .int .i64 rs[k].2] 41)
      obtain ⟨z0, z1, -⟩ := HB0.out.cells
      have HDL : Hid (((rs.take k).map fun x => str (rgT x)).length = k) := Lib.hid (by simp; have := HL.out; omega)
      have HK : Hid ((rs.take (k + 1)).map (fun x => str (rgT x)) = (rs.take k).map (fun x => str (rgT x)) ++ [str (rgT rs[k])]) := Lib.hid (by rw [List.take_succ_eq_append_getElem hkr, List.map_append]; rfl)
      have hnext : (Lib.cellsOf ((rs.take k).map fun x => str (rgT x)) n)[k]? = some (.string ByteArray.empty) := by
        have := Lib.cellsOf_next (done := (rs.take k).map fun x => str (rgT x)) (N := n) (by rw [HDL.out]; exact hlt)
        rwa [HDL.out] at this
      have HSET : Hid ((Lib.cellsOf ((rs.take k).map fun x => str (rgT x)) n).setIfInBounds k (.string (str (rgT rs[k]))) = Lib.cellsOf ((rs.take (k + 1)).map (fun x => str (rgT x))) n) := Lib.hid (by
        have := Lib.cellsOf_set (done := (rs.take k).map fun x => str (rgT x)) (N := n) (by rw [HDL.out]; exact hlt) (str (rgT rs[k]))
        rw [HDL.out] at this
        rw [HK.out, this])
      have CC := Lib.hid (rangeText_any rs[k].1 rs[k].2 _ (HO.out _ (List.getElem_mem hkr)) (HEN.out.later (bel_call hb HB0.out.below)))
      have HBL := Lib.hid (hblk.alloc (.cells #[.int .i64 rs[k].1, .int .i64 rs[k].2] 41))
      generalize Lib.cellsOf ((rs.take k).map fun x => str (rgT x)) n = cs at *
      generalize str (rgT rs[k]) = tx at *
      go_wp2_with (go_at_call 36; (with_reducible refine (CC.out).mono ?_); rintro e w2 ⟨rfl, hb2⟩; (have hblk2 := HBL.out.below hb2 HBL.out.lt); (have hold : w2.cell? ⟨w.heap.size, k, none⟩ = some (.string ByteArray.empty) := (hblk2.cell k).trans hnext); (have hfr : w2.frozen? ⟨w.heap.size, k, none⟩ = false := hblk2.frozen k))
      go_roundw
      case rel => exact ⟨k + 1, by omega, by go_num, (bel_call hb (bel_call HB0.out.below hb2)).setCell (Nat.le_refl _) _, by rw [← HSET.out]; exact hblk2.set_ k _⟩
      case measure => simp [intOf]; omega
    · have hki : ¬ ((k : Int) < (n : Int)) := by omega
      obtain rfl : k = n := by omega
      have HALL : Hid (rs.take k = rs) := Lib.hid (List.take_of_length_le (by have := HL.out; omega))
      rw [HALL.out] at hblk
      have CJ := Lib.hid (join_any [44] (rs.map rgT) w.heap.size k _ (by rw [List.length_map]; exact HL.out.symm) (fun j p hp => by
        rw [hblk.cell j]
        have e : k = (rs.map fun x => str (rgT x)).length := by rw [List.length_map]; exact HL.out.symm
        conv => lhs; rw [e]
        rw [Lib.cellsOf_full]
        simp only [List.getElem?_map, List.map_map, List.getElem?_toArray] at hp ⊢
        cases hx : rs[j]? with
        | none => rw [hx] at hp; cases hp
        | some x => rw [hx] at hp; injection hp with hp; subst hp; rfl) hblk.lt (by omega) HJ.out)
      clear hlt hk
      go_wp2_with (go_at_call 33; (with_reducible refine (CJ.out).mono ?_); rintro e w2 ⟨rfl, hb2⟩)
      go_ret
      exact ⟨rfl, bel_call hb hb2⟩
end Ru
end Go.Proofs.YtkhnjlkamleldaaDoor
