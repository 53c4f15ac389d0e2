/- Whether a text begins with a sign; the number that the reference reads of a text, plain facts. -/
import Derived.Test.YteekhfiphbhbjaaGreatDoorDecRefCut
import Derived.Test.YteekhfiphbhbjaaGreatDoorDecRefTextOf
import Derived.Test.YteekhfiphbhbjaaGreatDoorDecRefOps
import Derived.Test.YteekhfiphbhbjaaGreatDoorDecRefOnly
namespace Go.Proofs.YteekhfiphbhbjaaGreatDoor
namespace D
open Go.RowKit

/-- does a text begin with a sign -/
def neg (s : ByteArray) : Bool := decide (s.data.toList.take 1 = [45])
theorem first_one (s : ByteArray) : (s.extract 0 1).toList = s.data.toList.take 1 := by
  rw [ByteArray.toList_eq, extract_td]; rfl
theorem refStarts_any (s : ByteArray) (w : World) (hs : s.size ≤ 140737488355328) : Calls Tryz.prog 22 #[.string s, .string ⟨#[45]⟩] w fun e w' => e = .returned (.bool (neg s)) ∧ w = w' := by
  by_cases h1 : 1 ≤ s.size
  · have h1i : (1 : Int) ≤ (s.size : Int) := by omega
    have hx := first_one s
    cases hn : neg s
    · have hb : ((s.extract 0 1).toList == [45]) = false := by rw [hx]; unfold neg at hn; simpa using hn
      clear hx hn
      go_enter Tryz.func22, Tryz.ntmps22
      go_wp2_with fail
      go_ret
      exact ⟨rfl, rfl⟩
    · have hb : ((s.extract 0 1).toList == [45]) = true := by rw [hx]; unfold neg at hn; simpa using hn
      clear hx hn
      go_enter Tryz.func22, Tryz.ntmps22
      go_wp2_with fail
      go_ret
      exact ⟨rfl, rfl⟩
  · have h1i : ¬ ((1 : Int) ≤ (s.size : Int)) := by omega
    have hn : neg s = false := by
      have : s.data.toList = [] := List.eq_nil_of_length_eq_zero (by rw [← ba_size]; omega)
      unfold neg; rw [this]; rfl
    rw [hn]
    clear hn
    go_enter Tryz.func22, Tryz.ntmps22
    go_wp2_with fail
    go_ret
    exact ⟨rfl, rfl⟩
/-- the text behind the sign -/
def bareB (s : ByteArray) : ByteArray := if neg s then s.extract 1 s.size else s
theorem bareB_data (s : ByteArray) : (bareB s).data.toList = bare s.data.toList := by
  unfold bareB bare
  by_cases h : s.data.toList.take 1 = [45]
  · have hn : neg s = true := by unfold neg; simpa using h
    rw [if_pos hn, if_pos h, extract_td, List.take_of_length_le (by rw [← ba_size]; exact Nat.le_refl _)]
  · have hn : ¬ neg s = true := by unfold neg; simpa using h
    rw [if_neg hn, if_neg h]
theorem bareB_size (s : ByteArray) : (bareB s).size ≤ s.size := by
  unfold bareB
  split
  · rw [ByteArray.size_extract]; omega
  · exact Nat.le_refl _

/-- the coefficient, its sign given to it -/
def signed (b : Bool) (m : Int) : Int := if b then 0 - m else m
theorem signed_text {s : ByteArray} {c k : Int} (h : IsText s c k) : signed (neg s) c.natAbs = c := by
  have hs := text_sign c k.toNat
  rw [← h.2] at hs
  unfold signed neg
  by_cases hc : c < 0
  · rw [decide_eq_true (hs.2 hc), if_pos rfl]; omega
  · rw [decide_eq_false (fun h' => hc (hs.1 h')), if_neg (by simp)]; omega
theorem bs_one {l : List ByteArray} {p : List UInt8} (h : bs l = [p]) : ∃ x, l = [x] ∧ x.data.toList = p := by
  unfold bs at h
  rcases l with _ | ⟨x, _ | ⟨y, r⟩⟩
  · simp at h
  · exact ⟨x, rfl, by simpa using h⟩
  · simp at h
theorem bs_two {l : List ByteArray} {p q : List UInt8} (h : bs l = [p, q]) : ∃ x y, l = [x, y] ∧ x.data.toList = p ∧ y.data.toList = q := by
  unfold bs at h
  rcases l with _ | ⟨x, _ | ⟨y, _ | ⟨z, r⟩⟩⟩
  · simp at h
  · simp at h
  · rw [List.map_cons, List.map_cons, List.map_nil] at h
    injection h with h1 h2
    injection h2 with h2 _
    exact ⟨x, y, rfl, h1, h2⟩
  · simp at h
/-- what the reference finds where the text is a number's: its digits in one piece, or in two -/
theorem found {s : ByteArray} {c k : Int} (h : IsText s c k) {l : List ByteArray} (hl : Pieces (bareB s).data.toList (bs l)) :
    (∃ x, l = [x] ∧ k = 0 ∧ IsNum x.data.toList c.natAbs) ∨
    (∃ x y, l = [x, y] ∧ (y.size : Int) = k ∧ 1 ≤ y.size ∧ y.size ≤ 9 ∧ IsNum x.data.toList (c.natAbs / 10 ^ y.size) ∧ Digs y.data.toList ∧ addD ((c.natAbs / 10 ^ y.size : Nat) : Int) y.data.toList = c.natAbs ∧ c.natAbs / 10 ^ y.size ≤ 1000000000000000 / 10 ^ y.size) := by
  obtain ⟨⟨k0, k9, c0, c1⟩, e⟩ := h
  rw [bareB_data, e] at hl
  rcases text_pieces hl with ⟨hk, hp⟩ | ⟨hk, hp⟩
  · left
    obtain ⟨x, hx, e1⟩ := bs_one hp
    exact ⟨x, hx, by omega, by omega, e1.symm⟩
  · right
    obtain ⟨x, y, hx, e1, e2⟩ := bs_two hp
    have hz : y.size = k.toNat := by rw [ba_size, e2, low_length]
    refine ⟨x, y, hx, by omega, by omega, by omega, ?_, ?_, ?_, ?_⟩
    · rw [hz, e1]; exact whole_num _ c0 c1
    · rw [e2]; exact low_digs _ _
    · rw [hz, e2]; exact addD_low _ _
    · rw [hz]; exact Nat.div_le_div_right (by omega)
end D
end Go.Proofs.YteekhfiphbhbjaaGreatDoor
