/- The program's join of parts; what lay in memory stays as it was. -/
import Derived.Test.YtkhnjlkamleldaaDoorRuPartText
namespace Go.Proofs.YtkhnjlkamleldaaDoor
namespace Ru
open Go.RowKit D

set_option maxHeartbeats 4000000 in
set_option maxRecDepth 100000 in
theorem joinPart_any (A : Option Addr) (n c : Nat) (ps : List PartX) (w : World) (hr : RuleAt w w.heap.size A n ps) (hn : n ≤ 1073741826) (hz : ∀ p ∈ ps, p.xs.length ≤ 20 ∧ ∀ x ∈ p.xs, x.v.rs.length ≤ 1073741826) (hok : ∀ p ∈ ps, partOk (relsV p.xs)) (hE : Env w) (hj : (joinL [32, 111, 114, 32] (ps.map (fun p => partT (relsV p.xs)))).length ≤ 140737488355328) :
    Calls Tryd.prog 17 #[.slice A n c, .string ⟨#[32, 111, 114, 32]⟩, .func (.func 18) #[] #[]] w (Gives w (.string (str (joinL [32, 111, 114, 32] (ps.map (fun p => partT (relsV p.xs))))))) := by
  have HR := Lib.hid hr
  have HL : Hid (ps.length = n) := Lib.hid hr.len
  have HO := Lib.hid hok
  have HZ := Lib.hid hz
  have HEN := Lib.hid hE
  have HJ := Lib.hid hj
  have hmk := run_make_row' (P := Tryd.prog) 62 9 (.string ByteArray.empty) 16 Tryd.underlying62 strInfo rfl .i64 .i64 n (by omega) (by omega)
  clear hr hE hj hz hok
  go_enter Tryd.func17, Tryd.ntmps17
  go_wp2_with fail
  have hb0 : Below w.heap.size w (w.alloc (.cells (madeCells #[.string ByteArray.empty] n) 9)) := (Below.refl _ _).alloc (Nat.le_refl _) _
  have hk0 : Blk (w.alloc (.cells (madeCells #[.string ByteArray.empty] n) 9)) w.heap.size 9 (Lib.cellsOf [] n) := by rw [Lib.cellsOf_nil]; exact Blk.new w _ _
  generalize w.alloc (.cells (madeCells #[.string ByteArray.empty] n) 9) = w1 at *
  clear hmk
  go_loopw [15] (fun i wr => ∃ k : Nat, k ≤ n ∧ i = .int .i64 k ∧ Below w.heap.size w wr ∧ Blk wr w.heap.size 9 (Lib.cellsOf ((ps.take k).map fun x => str ((fun p => partT (relsV p.xs)) x)) n)) (fun i _ => n - (intOf i).toNat)
  case atStart => exact ⟨0, Nat.zero_le _, rfl, hb0, by simpa using hk0⟩
  case round =>
    obtain ⟨k, hk, rfl, hb, hblk⟩ := hrel
    clear hb0 hk0
    by_cases hlt : k < n
    · have hkr : k < ps.length := by have := HL.out; omega
      have hki : (k : Int) < (n : Int) := by omega
      have hki2 : (k : Int) < ((n : Nat) : Int) := hki
      obtain ⟨ad, rfl, hadb, y0, hpc, hpr⟩ := ((HR.out.below hb).more hb.size).at_ (List.getElem?_eq_getElem hkr)
      have HDL : Hid (((ps.take k).map fun x => str ((fun p => partT (relsV p.xs)) x)).length = k) := Lib.hid (by simp; have := HL.out; omega)
      have HK : Hid ((ps.take (k + 1)).map (fun x => str ((fun p => partT (relsV p.xs)) x)) = (ps.take k).map (fun x => str ((fun p => partT (relsV p.xs)) x)) ++ [str ((fun p => partT (relsV p.xs)) ps[k])]) := Lib.hid (by rw [List.take_succ_eq_append_getElem hkr, List.map_append]; rfl)
      have hnext : (Lib.cellsOf ((ps.take k).map fun x => str ((fun p => partT (relsV p.xs)) x)) n)[k]? = some (.string ByteArray.empty) := by
        have := Lib.cellsOf_next (done := (ps.take k).map fun x => str ((fun p => partT (relsV p.xs)) x)) (N := n) (by rw [HDL.out]; exact hlt)
        rwa [HDL.out] at this
      have HSET : Hid ((Lib.cellsOf ((ps.take k).map fun x => str ((fun p => partT (relsV p.xs)) x)) n).setIfInBounds k (.string (str ((fun p => partT (relsV p.xs)) ps[k]))) = Lib.cellsOf ((ps.take (k + 1)).map (fun x => str ((fun p => partT (relsV p.xs)) x))) n) := Lib.hid (by
        have := Lib.cellsOf_set (done := (ps.take k).map fun x => str ((fun p => partT (relsV p.xs)) x)) (N := n) (by rw [HDL.out]; exact hlt) (str ((fun p => partT (relsV p.xs)) ps[k]))
        rw [HDL.out] at this
        rw [HK.out, this])
      have CC := Lib.hid (partText_any ps[k].A ps[k].xs.length ps[k].c ps[k].xs _ hpr (HZ.out _ (List.getElem_mem hkr)).1 (HZ.out _ (List.getElem_mem hkr)).2 (HO.out _ (List.getElem_mem hkr)) (HEN.out.later hb))
      clear hpc hpr
      generalize Lib.cellsOf ((ps.take k).map fun x => str ((fun p => partT (relsV p.xs)) x)) n = cs at *
      generalize str ((fun p => partT (relsV p.xs)) ps[k]) = tx at *
      go_wp2_with (go_at_call 18; (with_reducible refine (CC.out).mono ?_); rintro e w2 ⟨rfl, hb2⟩; (have hblk2 := hblk.below hb2 hblk.lt); (have hold : w2.cell? ⟨w.heap.size, k, none⟩ = some (.string ByteArray.empty) := (hblk2.cell k).trans hnext); (have hfr : w2.frozen? ⟨w.heap.size, k, none⟩ = false := hblk2.frozen k))
      go_roundw
      case rel => exact ⟨k + 1, by omega, by go_num, (bel_call hb (hb2)).setCell (Nat.le_refl _) _, by rw [← HSET.out]; exact hblk2.set_ k _⟩
      case measure => simp [intOf]; omega
    · have hki : ¬ ((k : Int) < (n : Int)) := by omega
      obtain rfl : k = n := by omega
      have HALL : Hid (ps.take k = ps) := Lib.hid (List.take_of_length_le (by have := HL.out; omega))
      rw [HALL.out] at hblk
      have CJ := Lib.hid (join_any [32, 111, 114, 32] (ps.map (fun p => partT (relsV p.xs))) w.heap.size k _ (by rw [List.length_map]; exact HL.out.symm) (fun j p hp => by
        rw [hblk.cell j]
        have e : k = (ps.map fun x => str ((fun p => partT (relsV p.xs)) x)).length := by rw [List.length_map]; exact HL.out.symm
        conv => lhs; rw [e]
        rw [Lib.cellsOf_full]
        simp only [List.getElem?_map, List.map_map, List.getElem?_toArray] at hp ⊢
        cases hx : ps[j]? with
        | none => rw [hx] at hp; cases hp
        | some x => rw [hx] at hp; injection hp with hp; subst hp; rfl) hblk.lt (by omega) HJ.out)
      clear hlt hk
      go_wp2_with (go_at_call 33; (with_reducible refine (CJ.out).mono ?_); rintro e w2 ⟨rfl, hb2⟩)
      go_ret
      exact ⟨rfl, bel_call hb hb2⟩
end Ru
end Go.Proofs.YtkhnjlkamleldaaDoor
