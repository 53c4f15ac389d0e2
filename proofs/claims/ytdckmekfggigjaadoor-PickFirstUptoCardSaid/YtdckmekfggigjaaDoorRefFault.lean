/- The reference's fault of a tag: it is the number that the plain check finds; the world behind it has grown, and what lay in memory stays as it was. -/
import Derived.Test.YtdckmekfggigjaaDoorIn
import Derived.Test.YtdckmekfggigjaaDoorHeld
import Derived.Deep.DeepCutAuto
namespace Go.Proofs.YtdckmekfggigjaaDoor
open Go.RowKit

theorem all_bytes (p q : UInt8 → Bool) (h : (List.range 256).all (fun n => p (UInt8.ofNat n) == q (UInt8.ofNat n)) = true) : p = q := by
  funext c
  have := List.all_eq_true.1 h c.toNat (List.mem_range.2 c.toNat_lt)
  simpa using this
abbrev lowT : ByteArray := ⟨#[97, 98, 99, 100, 101, 102, 103, 104, 105, 106, 107, 108, 109, 110, 111, 112, 113, 114, 115, 116, 117, 118, 119, 120, 121, 122]⟩
abbrev uppT : ByteArray := ⟨#[65, 66, 67, 68, 69, 70, 71, 72, 73, 74, 75, 76, 77, 78, 79, 80, 81, 82, 83, 84, 85, 86, 87, 88, 89, 90]⟩
abbrev digT : ByteArray := ⟨#[48, 49, 50, 51, 52, 53, 54, 55, 56, 57]⟩
abbrev lowdigT : ByteArray := ⟨#[97, 98, 99, 100, 101, 102, 103, 104, 105, 106, 107, 108, 109, 110, 111, 112, 113, 114, 115, 116, 117, 118, 119, 120, 121, 122, 48, 49, 50, 51, 52, 53, 54, 55, 56, 57]⟩
theorem among_low : amongB lowT.data.toList = P.low := all_bytes _ _ (by kernel_rfl)
theorem among_upp : amongB uppT.data.toList = P.upp := all_bytes _ _ (by kernel_rfl)
theorem among_dig : amongB digT.data.toList = P.dig := all_bytes _ _ (by kernel_rfl)
theorem among_lowdig : amongB lowdigT.data.toList = P.lowdig := all_bytes _ _ (by kernel_rfl)

def Gives (w : World) (b : Bool) (e : Ending) (w' : World) : Prop := e = .returned (.bool b) ∧ ∃ d, w.drewN d = w'
theorem only_low (s : ByteArray) (lo hi : Nat) {a b : Int} (ha : a = lo) (hb : b = hi) (w : World) (hs : s.size ≤ maxLen) : Calls Tryd.prog 31 #[.string s, .string lowT, .int .i64 a, .int .i64 b] w (Gives w (P.fillsB P.low s.data.toList lo hi)) := by
  subst ha; subst hb; have := only_any s lowT lo hi w hs (by decide); rw [among_low] at this; exact this
theorem only_upp (s : ByteArray) (lo hi : Nat) {a b : Int} (ha : a = lo) (hb : b = hi) (w : World) (hs : s.size ≤ maxLen) : Calls Tryd.prog 31 #[.string s, .string uppT, .int .i64 a, .int .i64 b] w (Gives w (P.fillsB P.upp s.data.toList lo hi)) := by
  subst ha; subst hb; have := only_any s uppT lo hi w hs (by decide); rw [among_upp] at this; exact this
theorem only_dig (s : ByteArray) (lo hi : Nat) {a b : Int} (ha : a = lo) (hb : b = hi) (w : World) (hs : s.size ≤ maxLen) : Calls Tryd.prog 31 #[.string s, .string digT, .int .i64 a, .int .i64 b] w (Gives w (P.fillsB P.dig s.data.toList lo hi)) := by
  subst ha; subst hb; have := only_any s digT lo hi w hs (by decide); rw [among_dig] at this; exact this
theorem only_lowdig (s : ByteArray) (lo hi : Nat) {a b : Int} (ha : a = lo) (hb : b = hi) (w : World) (hs : s.size ≤ maxLen) : Calls Tryd.prog 31 #[.string s, .string lowdigT, .int .i64 a, .int .i64 b] w (Gives w (P.fillsB P.lowdig s.data.toList lo hi)) := by
  subst ha; subst hb; have := only_any s lowdigT lo hi w hs (by decide); rw [among_lowdig] at this; exact this

/-- a script, a region that may stand: none, or a right one -/
def scriptOk (s : ByteArray) : Bool := s.toList.isEmpty || P.scriptB s.data.toList
def regionOk (s : ByteArray) : Bool := s.toList.isEmpty || P.regionB s.data.toList
theorem extract_list (s : ByteArray) (a b : Nat) : (s.extract a b).data.toList = (s.data.toList.drop a).take (b - a) := by
  simp [ByteArray.data_extract, List.extract_eq_take_drop, Array.toList_extract]
theorem script_not {s : ByteArray} (h0 : ¬ s.toList = []) (h : s.size ≠ 4) : scriptOk s = false := by
  unfold scriptOk P.scriptB
  rw [decide_eq_false (by rw [size_list]; exact h)]
  cases hl : s.toList with
  | nil => exact absurd hl h0
  | cons a l => rfl
theorem script_four {s : ByteArray} (h : s.size = 4) : scriptOk s = (P.fillsB P.upp (s.extract 0 1).data.toList 1 1 && P.fillsB P.low (s.extract 1 s.size).data.toList 3 3) := by
  have hl : s.data.toList.length = 4 := by rw [size_list]; exact h
  have h0 : s.toList.isEmpty = false := by rw [toList_data]; cases hd : s.data.toList with
    | nil => rw [hd] at hl; cases hl
    | cons a l => rfl
  unfold scriptOk P.scriptB
  rw [h0, decide_eq_true hl, extract_list, extract_list, h]
  have e1 : (s.data.toList.drop 1).take (4 - 1) = s.data.toList.drop 1 := List.take_of_length_le (by simp [hl])
  have e2 : (s.data.toList.drop 0).take (1 - 0) = s.data.toList.take 1 := by simp
  rw [e1, e2]
  have e3 : P.fillsB P.upp (s.data.toList.take 1) 1 1 = (s.data.toList.take 1).all P.upp := by
    unfold P.fillsB; rw [List.length_take, hl]; rfl
  rw [e3]; rfl
end Go.Proofs.YtdckmekfggigjaaDoor
