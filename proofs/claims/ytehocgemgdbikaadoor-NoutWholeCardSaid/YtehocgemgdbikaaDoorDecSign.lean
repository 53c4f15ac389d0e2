/- A number's text: its sign, its digits: plain facts. Nothing of the program stands here. -/
import Derived.Test.YtehocgemgdbikaaDoorDecWord
namespace Go.Proofs.YtehocgemgdbikaaDoor
namespace D
open Go.RowKit

/-- the sign -/
def sgn (c : Int) : List UInt8 := if c < 0 then [45] else []
theorem text_nought (c : Int) : text c 0 = sgn c ++ Lib.decDigits c.natAbs := by
  unfold text sgn
  simp
theorem text_more (c : Int) {k : Nat} (hk : 0 < k) : ∃ p, pad (k + 1) c.natAbs = p ++ low k c.natAbs ∧ text c k = sgn c ++ p ++ 46 :: low k c.natAbs := by
  refine ⟨Lib.decDigits (c.natAbs / 10 ^ k), pad_split k c.natAbs, ?_⟩
  unfold text sgn
  rw [if_neg (show ¬ k = 0 by omega), List.append_assoc]
theorem digits_size {c : Int} (h0 : -1000000000000000 ≤ c) (h1 : c ≤ 1000000000000000) : 0 < (str (Lib.decDigits c.natAbs)).size ∧ (str (Lib.decDigits c.natAbs)).size ≤ 16 := by
  rw [ba_size, str_data, Lib.decDigits_length]
  exact ⟨Lib.nDigits_pos _, nDigits_le (by decide) (by omega)⟩
theorem text_end {c : Int} {k : Nat} (hk : 0 < k) {E Sg : ByteArray} (hE : E.data.toList = pad (k + 1) c.natAbs) (hs : Sg = str (sgn c)) :
    Sg ++ E.extract 0 (E.size - k) ++ ⟨#[46]⟩ ++ E.extract (E.size - k) E.size = str (text c k) := by
  obtain ⟨p, e1, e2⟩ := text_more c hk
  have hl : (low k c.natAbs).length = k := low_length _ _
  have hz : E.size = p.length + k := by rw [ba_size, hE, e1, List.length_append, hl]
  apply ba_ext
  rw [str_data, e2, hs]
  simp only [ByteArray.data_append, Array.toList_append, ByteArray.data_extract, Array.toList_extract, List.extract_eq_take_drop]
  rw [hE, e1, hz, Nat.add_sub_cancel]
  simp [List.take_of_length_le (Nat.le_of_eq hl)]
end D
end Go.Proofs.YtehocgemgdbikaaDoor
