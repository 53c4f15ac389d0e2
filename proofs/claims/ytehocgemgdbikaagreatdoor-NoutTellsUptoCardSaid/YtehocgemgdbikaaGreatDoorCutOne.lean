/- strings.Cut at one byte, of a text of any length; what lay in memory stays as it was. -/
import Derived.Test.YtehocgemgdbikaaGreatDoorGround
import Derived.Test.YtehocgemgdbikaaGreatDoorShelf
import Derived.Test.YtehocgemgdbikaaGreatDoorDecFacts
import Derived.RegionTactic
import Derived.Lib.CutLaws
import Derived.Lib.IndexBytes
namespace Go.Proofs.YtehocgemgdbikaaGreatDoor
namespace D
open Go.RowKit

def sepB (c : UInt8) : ByteArray := ⟨#[c]⟩
theorem index_sep (c : UInt8) (x : ByteArray) (W : World) : Calls Tryz.prog 81 #[.string x, .string ⟨#[c]⟩] W fun e w' => e = .returned (.int .i64 (Lib.indexB x (sepB c))) ∧ w' = W := by
  have := Tryz.stringslite_Index_one x c W
  rw [show Lib.indexByte x.data.toList c = Lib.indexB x (sepB c) from (Lib.index_one x.data.toList c).symm] at this
  exact this
set_option maxHeartbeats 2000000 in
set_option maxRecDepth 100000 in
theorem cutlite_sep (c : UInt8) (s : ByteArray) (w : World) (hs : s.size ≤ 140737488355328) :
    Calls Tryz.prog 52 #[.string s, .string ⟨#[c]⟩] w fun e w' => e = .returned (.tuple #[.string (str (Lib.cut s.data.toList [c]).1), .string (str (Lib.cut s.data.toList [c]).2.1), .bool (Lib.cut s.data.toList [c]).2.2]) ∧ ∃ n, w' = w.drewN n := by
  rcases Lib.indexB_cases s (sepB c) with hix | ⟨i, hix, hroom⟩
  · obtain ⟨e1, e2, e3⟩ := Lib.cutB_miss s (sepB c) hix
    have f1 : str (Lib.cut s.data.toList [c]).1 = _ := e1
    have f2 : str (Lib.cut s.data.toList [c]).2.1 = _ := e2
    have f3 : (Lib.cut s.data.toList [c]).2.2 = _ := e3
    rw [f1, f2, f3]
    clear e1 e2 e3 f1 f2 f3
    have HIX := Lib.hid hix; clear hix
    go_enter Tryz.func52, Tryz.ntmps52
    go_wp2_with (go_at_call 81; (with_reducible refine (index_sep c s _).mono ?_); rintro e w' ⟨rfl, rfl⟩; rw [HIX.out])
    go_ret3
    exact ⟨rfl, 0, rfl⟩
  · obtain ⟨e1, e2, e3⟩ := Lib.cutB_hit s (sepB c) i hix
    have f1 : str (Lib.cut s.data.toList [c]).1 = _ := e1
    have f2 : str (Lib.cut s.data.toList [c]).2.1 = _ := e2
    have f3 : (Lib.cut s.data.toList [c]).2.2 = _ := e3
    rw [f1, f2, f3]
    clear e1 e2 e3 f1 f2 f3
    have HIX := Lib.hid hix; clear hix
    have hroom1 : i + 1 ≤ s.size := hroom
    clear hroom
    have c1 : (0 : Int) ≤ (i : Int) := by omega
    have c2 : (i : Int) ≤ (s.size : Int) := by omega
    have c3 : (0 : Int) ≤ (i : Int) + 1 := by omega
    have c4 : (i : Int) + 1 ≤ (s.size : Int) := by omega
    have c5 : IntKind.i64.wrap ((i : Int) + 1) = (i : Int) + 1 := by rw [IntKind.wrap_i64]; omega
    go_enter Tryz.func52, Tryz.ntmps52
    go_wp2_with (go_at_call 81; (with_reducible refine (index_sep c s _).mono ?_); rintro e w' ⟨rfl, rfl⟩; rw [HIX.out])
    go_region
    go_wp2
    go_ret3
    exact ⟨rfl, 1, rfl⟩
theorem cut_sep (c : UInt8) (s : ByteArray) (w : World) (hs : s.size ≤ 140737488355328) :
    Calls Tryz.prog 30 #[.string s, .string ⟨#[c]⟩] w fun e w' => e = .returned (.tuple #[.string (str (Lib.cut s.data.toList [c]).1), .string (str (Lib.cut s.data.toList [c]).2.1), .bool (Lib.cut s.data.toList [c]).2.2]) ∧ ∃ n, w' = w.drewN n := by
  have HC := Lib.hid (cutlite_sep c s w hs)
  generalize (str (Lib.cut s.data.toList [c]).1) = a at *
  generalize (str (Lib.cut s.data.toList [c]).2.1) = b at *
  generalize (Lib.cut s.data.toList [c]).2.2 = bb at *
  go_enter Tryz.func30, Tryz.ntmps30
  go_wp2_with (go_at_call 52; (with_reducible refine HC.out.mono ?_); rintro e w' ⟨rfl, n, rfl⟩; dsimp only)
  go_ret3
  exact ⟨rfl, n, rfl⟩
theorem cut_sep_size (c : UInt8) (s : ByteArray) : (str (Lib.cut s.data.toList [c]).1).size + (str (Lib.cut s.data.toList [c]).2.1).size ≤ s.size := by
  rw [ba_size, ba_size, ba_size, str_data, str_data]
  unfold Lib.cut
  split
  · simp only [List.length_take, List.length_drop]; omega
  · simp
end D
end Go.Proofs.YtehocgemgdbikaaGreatDoor
