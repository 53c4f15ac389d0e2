/- strings.SplitN at "-", seven pieces at most, of a text of whatever length: the pieces, in a block of the call's own. (The shelf's law asks for a text shorter than 2^32 - 15; at a separator of one byte nothing asks for that.) -/
import Derived.Test.YtdckmekfggigjaaDoorText
import Derived.Lib.SplitLaws
import Derived.Lib.IndexBytes
import Derived.Lib.CutLaws
import Derived.Deep.OwnRows
import Derived.IntWalk
namespace Go.Proofs.YtdckmekfggigjaaDoor
open Go.RowKit

def dash : ByteArray := ⟨#[45]⟩
theorem dash_index (x : ByteArray) : Lib.indexByte x.data.toList 45 = Lib.indexB x dash := (Lib.index_one x.data.toList 45).symm
theorem index_dash (x : ByteArray) (W : World) : Calls Tryd.prog 68 #[.string x, .string ⟨#[45]⟩] W fun e w' => e = .returned (.int .i64 (Lib.indexB x dash)) ∧ w' = W := by
  have := Tryd.strings_Index_one x 45 W
  rw [dash_index] at this
  exact this

set_option maxHeartbeats 4000000 in
set_option maxRecDepth 100000 in
theorem genSplit_any (s : ByteArray) (w : World) (hs : s.size ≤ 140737488355328) (N : Nat) (hN : N = min 7 (s.size + 1)) :
    Calls Tryd.prog 50 #[.string s, .string ⟨#[45]⟩, .int .i64 0, .int .i64 7] w fun e w' =>
      e = .returned (.slice (some ⟨w.heap.size, 0, none⟩) (Lib.splitB dash 0 (N - 1) s).length N) ∧ w' = w.alloc (.cells (Lib.cellsOf (Lib.splitB dash 0 (N - 1) s) N) 9) := by
  have hN7 : N ≤ 7 := by omega
  have hN1 : 1 ≤ N := by omega
  have hmin : min (7 : Int) ((s.size : Int) + 1) = (N : Int) := by omega
  have hmk := run_make_row' (P := Tryd.prog) 27 9 (.string ByteArray.empty) 16 Tryd.underlying27 str_info rfl .i64 .i64 N (by omega) (by omega)
  have hws : IntKind.i64.wrap ((s.size : Int) + 1) = (s.size : Int) + 1 := by rw [IntKind.wrap_i64]; omega
  have hNs : N ≤ s.size + 1 := by omega
  clear hN
  go_enter Tryd.func50, Tryd.ntmps50
  go_wp2_with fail
  clear hmk hws
  go_loopw [0, 10] (fun s0 s10 wr => ∃ (done : List ByteArray) (rest : ByteArray), s0 = .string rest ∧ s10 = .int .i64 done.length ∧ done.length ≤ N - 1 ∧ rest.size ≤ s.size ∧ wr = w.alloc (.cells (Lib.cellsOf done N) 9) ∧
      Hid (done ++ Lib.splitB dash 0 (N - 1 - done.length) rest = Lib.splitB dash 0 (N - 1) s)) (fun _ s10 _ => 10 - (intOf s10).toNat)
  case atStart => exact ⟨[], s, rfl, rfl, Nat.zero_le _, Nat.le_refl _, by rw [Lib.cellsOf_nil], Lib.hid rfl⟩
  case round =>
    obtain ⟨done, rest, rfl, rfl, hd, hrs, rfl, HS⟩ := hrel
    have hnext : (Lib.cellsOf done N)[done.length]? = some (.string ByteArray.empty) := Lib.cellsOf_next (by omega)
    have fin : Lib.splitB dash 0 (N - 1 - done.length) rest = [rest] → (Lib.splitB dash 0 (N - 1) s).length = done.length + 1 ∧ (Lib.cellsOf done N).setIfInBounds done.length (.string rest) = Lib.cellsOf (Lib.splitB dash 0 (N - 1) s) N := fun h => by
      have e := HS.out
      rw [h] at e
      rw [← e]
      exact ⟨by simp, Lib.cellsOf_set (by omega) rest⟩
    have FIN := Lib.hid fin; clear fin
    have hd7 : done.length ≤ 7 := by omega
    have hsz : rest.size ≤ 140737488355328 := by omega
    by_cases hlt : done.length < N - 1
    · have hltz : (done.length : Int) < (N : Int) - 1 := by omega
      rcases Lib.indexB_cases rest dash with hix | ⟨i, hix, hroom⟩
      · have HIX := Lib.hid hix; clear hix
        go_wp2_with (go_at_call 68; (with_reducible refine (index_dash rest _).mono ?_); rintro e w' ⟨rfl, rfl⟩; rw [HIX.out])
        go_ret
        obtain ⟨f1, f2⟩ := FIN.out (Lib.splitB_miss dash 0 _ rest HIX.out)
        rw [f1, ← f2]
        exact ⟨rfl, rfl⟩
      · have HIX := Lib.hid hix; clear hix
        have hroom1 : i + 1 ≤ rest.size := hroom
        clear hroom
        have c0 : ¬ ((i : Int) < 0) := by omega
        have c1 : (0 : Int) ≤ (i : Int) := by omega
        have c2 : (i : Int) ≤ (rest.size : Int) := by omega
        have c4 : (i : Int) + 1 ≤ (rest.size : Int) := by omega
        go_wp2_with (go_at_call 68; (with_reducible refine (index_dash rest _).mono ?_); rintro e w' ⟨rfl, rfl⟩; rw [HIX.out])
        go_roundw
        case rel =>
          refine ⟨done ++ [rest.extract 0 (i + 0)], rest.extract (i + dash.size) rest.size, rfl, by simp, by simp; omega, by rw [ByteArray.size_extract]; omega, by rw [← Lib.cellsOf_set (by omega)]; rfl, Lib.hid ?_⟩
          rw [← HS.out, show N - 1 - done.length = (N - 1 - (done.length + 1)) + 1 by omega, Lib.splitB_hit dash 0 _ rest i HIX.out]
          simp
        case measure => simp [intOf]; omega
    · have hltz : ¬ ((done.length : Int) < (N : Int) - 1) := by omega
      go_wp2_with fail
      go_ret
      obtain ⟨f1, f2⟩ := FIN.out (by rw [show N - 1 - done.length = 0 by omega]; rfl)
      rw [f1, ← f2]
      exact ⟨rfl, rfl⟩

set_option maxHeartbeats 1000000 in
theorem splitN_any (s : ByteArray) (w : World) (hs : s.size ≤ 140737488355328) :
    Calls Tryd.prog 37 #[.string s, .string ⟨#[45]⟩, .int .i64 7] w fun e w' =>
      e = .returned (.slice (some ⟨w.heap.size, 0, none⟩) (Lib.splitB dash 0 (min 7 (s.size + 1) - 1) s).length (min 7 (s.size + 1))) ∧ w' = w.alloc (.cells (Lib.cellsOf (Lib.splitB dash 0 (min 7 (s.size + 1) - 1) s) (min 7 (s.size + 1))) 9) := by
  have HG := Lib.hid (genSplit_any s w hs _ rfl)
  generalize min 7 (s.size + 1) = N at *
  go_enter Tryd.func37, Tryd.ntmps37
  go_wp2_with (go_at_call 50; (with_reducible refine HG.out.mono ?_); rintro e w' ⟨rfl, rfl⟩)
  go_ret
  exact ⟨rfl, rfl⟩
end Go.Proofs.YtdckmekfggigjaaDoor
