/- Runes that begin with a high byte: all their bytes are high; from the left and from the right. Nothing of the program stands here. -/
import Derived.Laws.RangeAny
import Derived.Lib.SpaceU
import Derived.Lib.IndexAny
namespace Go.Proofs.YtonbjfepckolnaaDoor
namespace Hi

theorem get_bang (s : ByteArray) (j : Nat) (h : j < s.size) : s.get! j = s[j] := get_at s j h
set_option maxHeartbeats 2000000 in
/-- the bytes of a rune that begins high -/
theorem decode_span (s : ByteArray) (pos : Nat) (h : pos < s.size) (ha : 128 ≤ (s[pos]'h).toNat) : ∀ k, k < (Utf8.decode s pos).2 → pos + k < s.size ∧ 128 ≤ (s.get! (pos + k)).toNat := by
  have hn : ¬ (s[pos]'h).toNat < 128 := by omega
  have h0 : (s.get! (pos + 0)) = s[pos] := get_at s pos h
  intro k hk
  have hk0 : 128 ≤ (s.get! (pos + 0)).toNat := by rw [h0]; exact ha
  unfold Utf8.decode at hk
  simp only [h0, hn, if_false] at hk
  rcases k with _ | k
  · exact ⟨h, hk0⟩
  · repeat' split at hk
    all_goals simp only [Bool.and_eq_true, decide_eq_true_eq, beq_iff_eq] at *
    all_goals (rcases k with _ | _ | _ | k)
    all_goals first
      | (exfalso; omega)
      | (refine ⟨?_, ?_⟩ <;> (try simp only [Nat.reduceAdd, Nat.zero_add]) <;> omega)
theorem lastStart_lt (l : List UInt8) (h : l ≠ []) : Lib.lastStart l < l.length := by
  have : 0 < l.length := List.length_pos_iff.2 h
  unfold Lib.lastStart
  simp only
  repeat' split
  all_goals omega
/-- the bytes of the last rune, where the last byte is high -/
theorem last_span (l : List UInt8) (h : l ≠ []) (hb : 128 ≤ (l.getD (l.length - 1) 0).toNat) :
    128 ≤ (Lib.decodeLastL l).1 ∧ (Lib.decodeLastL l).1 ≤ 2147483647 ∧ 1 ≤ (Lib.decodeLastL l).2 ∧ (Lib.decodeLastL l).2 ≤ l.length ∧ ∀ j, l.length - (Lib.decodeLastL l).2 ≤ j → j < l.length → 128 ≤ (l.getD j 0).toNat := by
  have hlt := lastStart_lt l h
  have hlen : 0 < l.length := List.length_pos_iff.2 h
  unfold Lib.decodeLastL
  rw [if_neg h, if_neg (by omega)]
  generalize Lib.lastStart l = p at *
  have hone : 128 ≤ (Utf8.runeError, 1).1 ∧ (Utf8.runeError, 1).1 ≤ 2147483647 ∧ 1 ≤ (Utf8.runeError, 1).2 ∧ (Utf8.runeError, 1).2 ≤ l.length ∧ ∀ j, l.length - (Utf8.runeError, 1).2 ≤ j → j < l.length → 128 ≤ (l.getD j 0).toNat := by
    refine ⟨by decide, by decide, by decide, hlen, fun j h1 h2 => ?_⟩
    have : j = l.length - 1 := by simp only at h1; omega
    rw [this]; exact hb
  simp only
  split
  · rename_i hw
    have hsz : (⟨(l.drop p).toArray⟩ : ByteArray).size = l.length - p := by
      show (l.drop p).toArray.size = _
      simp
    have hp : 0 < (⟨(l.drop p).toArray⟩ : ByteArray).size := by omega
    have hget : ∀ k, (hk : k < (⟨(l.drop p).toArray⟩ : ByteArray).size) → (⟨(l.drop p).toArray⟩ : ByteArray)[k] = l.getD (p + k) 0 := by
      intro k hk
      show (l.drop p).toArray[k]'_ = _
      have hk2 : p + k < l.length := by omega
      simp [List.getD, List.getElem?_eq_getElem hk2]
    by_cases hhi : 128 ≤ ((⟨(l.drop p).toArray⟩ : ByteArray)[0]'hp).toNat
    · obtain ⟨d1, d2⟩ := decode_high _ 0 hp hhi
      have d3 := decode_le (⟨(l.drop p).toArray⟩ : ByteArray) 0
      have d4 := decode_span _ 0 hp hhi
      refine ⟨d1, d3, d2, by unfold Lib.decodeL at hw ⊢; omega, fun j h1 h2 => ?_⟩
      unfold Lib.decodeL at hw h1
      obtain ⟨e1, e2⟩ := d4 (j - p) (by omega)
      rw [Nat.zero_add] at e1 e2
      rw [get_bang _ _ e1, hget _ e1, show p + (j - p) = j by omega] at e2
      exact e2
    · have d := decode_ascii _ 0 hp (by omega)
      unfold Lib.decodeL at hw
      rw [d] at hw
      simp only at hw
      rw [hget 0 hp, Nat.add_zero, show p = l.length - 1 by omega] at hhi
      exact absurd hb hhi
  · exact hone
theorem last_low (l : List UInt8) (h : l ≠ []) (hb : (l.getD (l.length - 1) 0).toNat < 128) : Lib.decodeLastL l = ((l.getD (l.length - 1) 0).toNat, 1) := by
  unfold Lib.decodeLastL
  rw [if_neg h, if_pos hb]
end Hi
end Go.Proofs.YtonbjfepckolnaaDoor
