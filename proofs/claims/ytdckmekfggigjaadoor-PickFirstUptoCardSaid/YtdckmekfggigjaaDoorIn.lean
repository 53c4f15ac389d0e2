/- The reference's In: it returns whether a text is among some; the world is as it was but for draws. And its error of a tag: that is the fault that the plain check finds. -/
import Derived.Test.YtdckmekfggigjaaDoorOnly
import Derived.Test.YtdckmekfggigjaaDoorSame
import Derived.Deep.DeepCutAuto
namespace Go.Proofs.YtdckmekfggigjaaDoor
open Go.RowKit

theorem data_inj {a b : ByteArray} (h : a.data.toList = b.data.toList) : a = b := ByteArray.ext (Array.ext' h)
def inB (xs : List ByteArray) (s : ByteArray) : Bool := (bs xs).contains s.data.toList
theorem in_iff (xs : List ByteArray) (s : ByteArray) : inB xs s = true ↔ s ∈ xs := by
  unfold inB bs
  rw [List.contains_iff_mem, List.mem_map]
  exact ⟨fun ⟨v, hv, he⟩ => data_inj he ▸ hv, fun h => ⟨s, h, rfl⟩⟩
theorem in_no {xs : List ByteArray} {s : ByteArray} (h : s ∉ xs) : inB xs s = false := by
  cases hb : inB xs s
  · rfl
  · exact absurd ((in_iff xs s).1 hb) h

theorem notin_snoc {xs : List ByteArray} {s : ByteArray} {k : Nat} (hk : k < xs.length) (h : s ∉ xs.take k) (hne : xs[k] ≠ s) : s ∉ xs.take (k + 1) := by
  rw [List.take_succ_eq_append_getElem hk, List.mem_append, List.mem_singleton]
  rintro (h1 | h1)
  · exact h h1
  · exact hne h1.symm

set_option maxHeartbeats 1000000 in
theorem in_any (A : Option Addr) (n c : Nat) (xs : List ByteArray) (s : ByteArray) (w : World) (B : Nat) (h : Reads w B 1 A n (sv xs)) (hn : n < maxLen) :
    Calls Tryd.prog 32 #[.slice A n c, .string s] w fun e w' => e = .returned (.bool (inB xs s)) ∧ ∃ d, w.drewN d = w' := by
  have hl := h.len
  unfold maxLen at hn
  have HL := Lib.hid hl; clear hl
  go_enter Tryd.func32, Tryd.ntmps32
  go_wp2_with fail
  go_loopw [5] (fun i wr => ∃ k d : Nat, k ≤ n ∧ i = .int .i64 k ∧ w.drewN d = wr ∧ Hid (s ∉ xs.take k)) (fun i _ => n - (intOf i).toNat)
  case atStart => exact ⟨0, 0, Nat.zero_le _, rfl, rfl, Lib.hid (by simp)⟩
  case round =>
    obtain ⟨k, d, hk, rfl, rfl, ht⟩ := hrel
    by_cases hlt : k < n
    · have hkx : k < xs.length := by have := HL.out; omega
      obtain ⟨ad, rfl, hadb, hcell⟩ := h.str hlt hkx
      clear h
      go_wp2_with fail
      · have he : xs[k] = s := by
          have := (by assumption : (xs[k].toList == s.toList) = true)
          rw [str_beq] at this
          simpa using this
        go_ret
        exact ⟨ret_bool (((in_iff _ _).2 (by rw [← he]; exact List.getElem_mem hkx)).symm), d, rfl⟩
      · have hne : xs[k] ≠ s := by
          have := (by assumption : (xs[k].toList == s.toList) = false)
          rw [str_beq] at this
          simpa using this
        go_roundw
        case rel => exact ⟨k + 1, d, by omega, by go_num, rfl, Lib.hid (notin_snoc hkx ht.out hne)⟩
        case measure => simp [intOf]; omega
    · clear h
      go_wp2_with fail
      go_ret
      exact ⟨ret_bool (by have e1 := HL.out; have e3 := ht.out; rw [List.take_of_length_le (by omega)] at e3; exact (in_no e3).symm), d, rfl⟩
end Go.Proofs.YtdckmekfggigjaaDoor
