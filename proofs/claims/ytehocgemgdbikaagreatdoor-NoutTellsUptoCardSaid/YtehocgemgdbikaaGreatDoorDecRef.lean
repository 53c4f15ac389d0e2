/- The reference's Ten and Size: a power of ten, a number without its sign. -/
import Derived.Test.YtehocgemgdbikaaGreatDoorDecSize
namespace Go.Proofs.YtehocgemgdbikaaGreatDoor
namespace D
open Go.RowKit

theorem refTen_any (n : Int) (w : World) (h0 : 0 ≤ n) (h9 : n ≤ 9) : Calls Tryz.prog 44 #[.int .i64 n] w fun e w' => e = .returned (.int .i64 (ten n)) ∧ w = w' := by
  go_enter Tryz.func44, Tryz.ntmps44
  go_wp2_with fail
  go_loopw [3, 4] (fun p i wr => ∃ k : Nat, (k : Int) ≤ n ∧ i = .int .i64 k ∧ p = .int .i64 (ten k) ∧ w = wr) (fun _ i _ => n.toNat - (intOf i).toNat)
  case atStart => exact ⟨0, h0, rfl, rfl, rfl⟩
  case round =>
    obtain ⟨k, hk, rfl, rfl, rfl⟩ := hrel
    by_cases hlt : (k : Int) < n
    · have b0 := ten_pos (k : Int)
      have b1 := ten_le_nine (a := (k : Int)) (by omega) (by omega)
      have e1 := ten_next k
      go_wp2_with fail
      go_roundw
      case rel => exact ⟨k + 1, by omega, by go_num, by rw [e1], trivial⟩
      case measure => simp [intOf]; omega
    · obtain rfl : (k : Int) = n := by omega
      go_wp2_with fail
      go_ret
      exact ⟨rfl, rfl⟩
end D
end Go.Proofs.YtehocgemgdbikaaGreatDoor
