/- The reference's Only: it returns whether a text is made of some bytes alone, so many; the world is as it was but for draws. -/
import Derived.Test.YtehocgemgdbikaaGreatDoorGround
import Derived.Test.YtehocgemgdbikaaGreatDoorDecFacts
import Derived.Lib.Hide
import Derived.WalkSpells
import Derived.Outline
import Derived.IntWalk
import Derived.Laws.IdiomStrings
import Derived.Deep.DeepCutAuto
import Derived.Deep.Draws
namespace Go.Proofs.YtehocgemgdbikaaGreatDoor
namespace D
open Go.RowKit

/-- so many bytes, each of a set -/
def fillsB (p : UInt8 → Bool) (l : List UInt8) (lo hi : Nat) : Bool := decide (lo ≤ l.length) && decide (l.length ≤ hi) && l.all p
theorem all_snoc_t (p : UInt8 → Bool) (s : ByteArray) (k : Nat) (h : k < s.size) (ha : (s.data.toList.take k).all p = true) (hp : p s[k] = true) : (s.data.toList.take (k + 1)).all p = true := by
  rw [take_snoc s k h, List.all_append, ha]; simp [hp]
theorem all_snoc_f (p : UInt8 → Bool) (s : ByteArray) (k : Nat) (h : k < s.size) (hp : p s[k] = false) : s.data.toList.all p = false := by
  rw [List.all_eq_false]
  exact ⟨s[k], List.getElem_mem (by simpa using h), by simp [hp]⟩
def amongB (l : List UInt8) (c : UInt8) : Bool := l.contains c
theorem among_snoc (of : ByteArray) (k : Nat) (hk : k < of.size) (c : UInt8) : amongB (of.data.toList.take (k + 1)) c = (amongB (of.data.toList.take k) c || ((c.toNat : Int) == (of[k].toNat : Int))) := by
  rw [take_snoc of k hk]
  unfold amongB
  rw [Bool.eq_iff_iff]
  simp [← UInt8.toNat_inj, Int.natCast_inj]
theorem among_all (of : ByteArray) (k : Nat) (hk : of.size ≤ k) (c : UInt8) : amongB (of.data.toList.take k) c = amongB of.data.toList c := by
  rw [List.take_of_length_le (by simpa using hk)]

set_option maxHeartbeats 1000000 in
theorem refOnly_any (s of : ByteArray) (lo hi : Nat) (w : World) (hs : s.size ≤ maxLen) (ho : of.size ≤ maxLen) :
    Calls Tryz.prog 17 #[.string s, .string of, .int .i64 lo, .int .i64 hi] w fun e w' => e = .returned (.bool (fillsB (amongB of.data.toList) s.data.toList lo hi)) ∧ ∃ d, w.drewN d = w' := by
  unfold maxLen at hs ho
  have hsl : s.data.toList.length = s.size := by simp
  have HL := Lib.hid hsl; clear hsl
  go_enter Tryz.func17, Tryz.ntmps17
  go_wp2_with fail
  go_loopw [9] (fun i wr => ∃ k d : Nat, k ≤ s.size ∧ i = .int .i64 k ∧ w.drewN d = wr ∧ Hid ((s.data.toList.take k).all (amongB of.data.toList) = true)) (fun i _ => s.size - (intOf i).toNat)
  case atStart => exact ⟨0, 0, Nat.zero_le _, rfl, rfl, Lib.hid rfl⟩
  case round =>
    obtain ⟨k, d, hk, rfl, rfl, hall⟩ := hrel
    by_cases hlt : k < s.size
    · have hki : (k : Int) < (s.size : Int) := by omega
      go_wp2_with fail
      go_loopw [10, 11] (fun b j wr => ∃ m e : Nat, m ≤ of.size ∧ j = .int .i64 m ∧ w.drewN e = wr ∧ b = .bool (amongB (of.data.toList.take m) s[k])) (fun _ j _ => of.size - (intOf j).toNat)
      case atStart => exact ⟨0, d, Nat.zero_le _, rfl, rfl, rfl⟩
      case round =>
        obtain ⟨m, e, hm, rfl, rfl, rfl⟩ := hrel
        by_cases hmt : m < of.size
        · have hmi : (m : Int) < (of.size : Int) := by omega
          have hsn := among_snoc of m hmt s[k]
          cases hb : amongB (of.data.toList.take m) s[k]
          all_goals
            rw [hb] at hsn
            have HSN := Lib.hid hsn; clear hsn hb
            go_wp2_with fail
            go_quiet (fail)
            go_wp2_with fail
            go_roundw
            case rel => exact ⟨m + 1, e + nq, by omega, by go_num, rfl, by rw [HSN.out]; simp⟩
            case measure => simp [intOf]; omega
        · have HM := Lib.hid (among_all of m (by omega) s[k])
          cases hc : amongB of.data.toList s[k]
          all_goals
            rw [HM.out, hc]
            have HC := Lib.hid hc; clear hc HM
            go_wp2_with fail
            first
              | (go_ret
                 exact ⟨ret_bool (by unfold fillsB; rw [all_snoc_f _ s k hlt HC.out]; simp), e, rfl⟩)
              | (go_roundw
                 case rel => exact ⟨k + 1, e, by omega, by go_num, rfl, Lib.hid (all_snoc_t _ s k hlt hall.out HC.out)⟩
                 case measure => simp [intOf]; omega)
    · have hfin : s.data.toList.all (amongB of.data.toList) = true := by have := hall.out; rw [List.take_of_length_le (by have := HL.out; omega)] at this; exact this
      have HF := Lib.hid hfin; clear hfin
      by_cases h1 : lo ≤ s.size
      · have h1i : (lo : Int) ≤ (s.size : Int) := by omega
        by_cases h2 : s.size ≤ hi
        · have h2i : (s.size : Int) ≤ (hi : Int) := by omega
          go_wp2_with fail
          go_ret
          exact ⟨ret_bool (by unfold fillsB; rw [HF.out, HL.out, decide_eq_true h1, decide_eq_true h2]; rfl), d, rfl⟩
        · have h2i : ¬ (s.size : Int) ≤ (hi : Int) := by omega
          go_wp2_with fail
          go_ret
          exact ⟨ret_bool (by unfold fillsB; rw [HL.out, decide_eq_false h2]; simp), d, rfl⟩
      · have h1i : ¬ (lo : Int) ≤ (s.size : Int) := by omega
        go_wp2_with fail
        go_ret
        exact ⟨ret_bool (by unfold fillsB; rw [HL.out, decide_eq_false h1]; simp), d, rfl⟩
/-- digits alone, so many -/
theorem among_dig (c : UInt8) : amongB [48, 49, 50, 51, 52, 53, 54, 55, 56, 57] c = true ↔ 48 ≤ c.toNat ∧ c.toNat ≤ 57 := by
  unfold amongB
  constructor
  · intro h
    simp at h
    rcases h with rfl | rfl | rfl | rfl | rfl | rfl | rfl | rfl | rfl | rfl <;> decide
  · rintro ⟨h0, h1⟩
    have : c = UInt8.ofNat c.toNat := by simp
    rw [this]
    generalize c.toNat = n at *
    rcases (show n = 48 ∨ n = 49 ∨ n = 50 ∨ n = 51 ∨ n = 52 ∨ n = 53 ∨ n = 54 ∨ n = 55 ∨ n = 56 ∨ n = 57 by omega) with rfl | rfl | rfl | rfl | rfl | rfl | rfl | rfl | rfl | rfl <;> decide
theorem fills_dig (s : ByteArray) : fillsB (amongB [48, 49, 50, 51, 52, 53, 54, 55, 56, 57]) s.data.toList 1 9 = true ↔ 1 ≤ s.size ∧ s.size ≤ 9 ∧ Digs s.data.toList := by
  unfold fillsB
  rw [Bool.and_eq_true, Bool.and_eq_true, decide_eq_true_iff, decide_eq_true_iff, List.all_eq_true, ← ba_size]
  constructor
  · rintro ⟨⟨h0, h1⟩, h2⟩
    exact ⟨h0, h1, fun c hc => (among_dig c).1 (h2 c hc)⟩
  · rintro ⟨h0, h1, h2⟩
    exact ⟨⟨h0, h1⟩, fun c hc => (among_dig c).2 (h2 c hc)⟩
end D
end Go.Proofs.YtehocgemgdbikaaGreatDoor
