/- The reference's Only: it returns whether a text is made of some bytes alone, so many; the world is as it was but for draws. -/
import Derived.Test.YtdckmekfggigjaaDoorFills
import Derived.Test.YtdckmekfggigjaaDoorWords
namespace Go.Proofs.YtdckmekfggigjaaDoor
open Go.RowKit

def amongB (l : P.Bs) (c : UInt8) : Bool := l.contains c
theorem among_snoc (of : ByteArray) (k : Nat) (hk : k < of.size) (c : UInt8) : amongB (of.data.toList.take (k + 1)) c = (amongB (of.data.toList.take k) c || ((c.toNat : Int) == (of[k].toNat : Int))) := by
  rw [take_snoc of k hk]
  unfold amongB
  rw [Bool.eq_iff_iff]
  simp [← UInt8.toNat_inj, Int.natCast_inj]
theorem among_all (of : ByteArray) (k : Nat) (hk : of.size ≤ k) (c : UInt8) : amongB (of.data.toList.take k) c = amongB of.data.toList c := by
  rw [List.take_of_length_le (by simpa using hk)]

set_option maxHeartbeats 1000000 in
theorem only_any (s of : ByteArray) (lo hi : Nat) (w : World) (hs : s.size ≤ maxLen) (ho : of.size ≤ maxLen) :
    Calls Tryd.prog 31 #[.string s, .string of, .int .i64 lo, .int .i64 hi] w fun e w' => e = .returned (.bool (P.fillsB (amongB of.data.toList) s.data.toList lo hi)) ∧ ∃ d, w.drewN d = w' := by
  unfold maxLen at hs ho
  have hsl : s.data.toList.length = s.size := by simp
  have HL := Lib.hid hsl; clear hsl
  go_enter Tryd.func31, Tryd.ntmps31
  go_wp2_with fail
  go_loopw [9] (fun i wr => ∃ k d : Nat, k ≤ s.size ∧ i = .int .i64 k ∧ w.drewN d = wr ∧ Hid ((s.data.toList.take k).all (amongB of.data.toList) = true)) (fun i _ => s.size - (intOf i).toNat)
  case atStart => exact ⟨0, 0, Nat.zero_le _, rfl, rfl, Lib.hid rfl⟩
  case round =>
    obtain ⟨k, d, hk, rfl, rfl, hall⟩ := hrel
    by_cases hlt : k < s.size
    · have hki : (k : Int) < (s.size : Int) := by omega
      go_wp2_with fail
      go_loopw [10, 11] (fun b j wr => ∃ m e : Nat, m ≤ of.size ∧ j = .int .i64 m ∧ w.drewN e = wr ∧ b = .bool (amongB (of.data.toList.take m) s[k])) (fun _ j _ => of.size - (intOf j).toNat)
      case atStart => exact ⟨0, d, Nat.zero_le _, rfl, rfl, rfl⟩
      case round =>
        obtain ⟨m, e, hm, rfl, rfl, rfl⟩ := hrel
        by_cases hmt : m < of.size
        · have hmi : (m : Int) < (of.size : Int) := by omega
          have hsn := among_snoc of m hmt s[k]
          cases hb : amongB (of.data.toList.take m) s[k]
          all_goals
            rw [hb] at hsn
            have HSN := Lib.hid hsn; clear hsn hb
            go_wp2_with fail
            go_quiet (fail)
            go_wp2_with fail
            go_roundw
            case rel => exact ⟨m + 1, e + nq, by omega, by go_num, rfl, by rw [HSN.out]; simp⟩
            case measure => simp [intOf]; omega
        · have HM := Lib.hid (among_all of m (by omega) s[k])
          cases hc : amongB of.data.toList s[k]
          all_goals
            rw [HM.out, hc]
            have HC := Lib.hid hc; clear hc HM
            go_wp2_with fail
            first
              | (go_ret
                 exact ⟨ret_bool (by unfold P.fillsB; rw [all_snoc_f _ s k hlt HC.out]; simp), e, rfl⟩)
              | (go_roundw
                 case rel => exact ⟨k + 1, e, by omega, by go_num, rfl, Lib.hid (all_snoc_t _ s k hlt hall.out HC.out)⟩
                 case measure => simp [intOf]; omega)
    · have hfin : s.data.toList.all (amongB of.data.toList) = true := by have := hall.out; rw [List.take_of_length_le (by have := HL.out; omega)] at this; exact this
      have HF := Lib.hid hfin; clear hfin
      by_cases h1 : lo ≤ s.size
      · have h1i : (lo : Int) ≤ (s.size : Int) := by omega
        by_cases h2 : s.size ≤ hi
        · have h2i : (s.size : Int) ≤ (hi : Int) := by omega
          go_wp2_with fail
          go_ret
          exact ⟨ret_bool (by unfold P.fillsB; rw [HF.out, HL.out, decide_eq_true h1, decide_eq_true h2]; rfl), d, rfl⟩
        · have h2i : ¬ (s.size : Int) ≤ (hi : Int) := by omega
          go_wp2_with fail
          go_ret
          exact ⟨ret_bool (by unfold P.fillsB; rw [HL.out, decide_eq_false h2]; simp), d, rfl⟩
      · have h1i : ¬ (lo : Int) ≤ (s.size : Int) := by omega
        go_wp2_with fail
        go_ret
        exact ⟨ret_bool (by unfold P.fillsB; rw [HL.out, decide_eq_false h1]; simp), d, rfl⟩
end Go.Proofs.YtdckmekfggigjaaDoor
