/- The reference's texts in small and in great letters: each returns the text turned letter by letter; what lay in memory stays as it was. -/
import Derived.Test.YtiehjepemnlgfaaDoorLower
namespace Go.Proofs.YtiehjepemnlgfaaDoor
open Go.RowKit

set_option maxHeartbeats 1000000 in
theorem refLower_any (s : ByteArray) (w : World) (hs : s.size ≤ maxLen) : Calls Tryd.prog 6 #[.string s] w fun e w' => e = .returned (.string ⟨(s.data.toList.map P.lowc).toArray⟩) ∧ Below w.heap.size w w' := by
  unfold maxLen at hs
  have hl : s.data.toList.length = s.size := by simp
  have HL := Lib.hid hl; clear hl
  go_enter Tryd.func6, Tryd.ntmps6
  go_wp2_with (refine wpList_bytes_of_string _ rfl (.tmp 5) 9 38 5 rfl s rfl Tryd.underlying9 Tryd.underlying38 Tryd.underlying5 ?_; intro cap w1 hown hbel hlt)
  go_loopw [4] (fun i wr => ∃ k : Nat, k ≤ s.size ∧ i = .int .i64 k ∧ OwnBytes wr w.heap.size (P.turned P.lowc k s.data.toList) ∧ Below w.heap.size w wr ∧ w.heap.size < wr.heap.size) (fun i _ => s.size - (intOf i).toNat)
  case atStart => exact ⟨0, Nat.zero_le _, rfl, by rw [P.turned_zero]; exact hown, hbel, hlt⟩
  case round =>
    clear hown hbel hlt
    obtain ⟨k, hk, rfl, hown, hbel, hlt⟩ := hrel
    by_cases hks : k < s.size
    · have hkl : k < s.data.toList.length := by rw [HL.out]; exact hks
      have hc := hown k (by rw [P.turned_length]; exact hkl)
      rw [P.turned_at P.lowc k _ hkl] at hc
      have hsame := P.turned_same P.lowc k _ hkl
      have hsucc := P.turned_succ P.lowc k _ hkl
      have HS := Lib.hid hsame; clear hsame
      have HC := Lib.hid hsucc; clear hsucc
      obtain ⟨hcell, hfro⟩ := hc
      generalize s.data.toList[k] = x at *
      have hx := x.toNat_lt
      by_cases h1 : (65 : Int) ≤ x.toNat
      · by_cases h2 : (x.toNat : Int) ≤ 90
        · have HT : Hid (P.upp x = true) := Lib.hid (by unfold P.upp; simp; omega)
          have hy := P.lowc_yes HT.out
          have HY := Lib.hid hy; clear hy
          go_wp2_with fail
          go_roundw
          case rel => exact ⟨k + 1, by omega, by go_num, by rw [HC.out]; exact hown.set_ (by rw [P.turned_length]; exact hkl) _ _ (by rw [HY.out]; omega), hbel.setCell (by simp) _, by simpa [World.setCell] using hlt⟩
          case measure => simp [intOf]; omega
        · have HT : Hid (P.upp x = false) := Lib.hid (by unfold P.upp; simp; omega)
          go_wp2_with fail
          go_roundw
          case rel => exact ⟨k + 1, by omega, by go_num, by rw [HS.out (P.lowc_no HT.out)]; exact hown, hbel, hlt⟩
          case measure => simp [intOf]; omega
      · have HT : Hid (P.upp x = false) := Lib.hid (by unfold P.upp; simp; omega)
        go_wp2_with fail
        go_roundw
        case rel => exact ⟨k + 1, by omega, by go_num, by rw [HS.out (P.lowc_no HT.out)]; exact hown, hbel, hlt⟩
        case measure => simp [intOf]; omega
    · have hkn := P.turned_all P.lowc k s.data.toList (by rw [HL.out]; omega)
      have hlen := P.turned_length P.lowc k s.data.toList
      rw [HL.out] at hlen
      have hback := hown.back (P := Tryd.prog) (cap := cap) 38 9 5 Tryd.underlying38 Tryd.underlying5 Tryd.underlying9
      rw [hlen, hkn] at hback
      clear hlen hkn
      go_wp2_with fail
      go_ret
      exact ⟨rfl, hbel⟩

set_option maxHeartbeats 1000000 in
theorem refUpper_any (s : ByteArray) (w : World) (hs : s.size ≤ maxLen) : Calls Tryd.prog 9 #[.string s] w fun e w' => e = .returned (.string ⟨(s.data.toList.map P.uppc).toArray⟩) ∧ Below w.heap.size w w' := by
  unfold maxLen at hs
  have hl : s.data.toList.length = s.size := by simp
  have HL := Lib.hid hl; clear hl
  go_enter Tryd.func9, Tryd.ntmps9
  go_wp2_with (refine wpList_bytes_of_string _ rfl (.tmp 5) 9 38 5 rfl s rfl Tryd.underlying9 Tryd.underlying38 Tryd.underlying5 ?_; intro cap w1 hown hbel hlt)
  go_loopw [4] (fun i wr => ∃ k : Nat, k ≤ s.size ∧ i = .int .i64 k ∧ OwnBytes wr w.heap.size (P.turned P.uppc k s.data.toList) ∧ Below w.heap.size w wr ∧ w.heap.size < wr.heap.size) (fun i _ => s.size - (intOf i).toNat)
  case atStart => exact ⟨0, Nat.zero_le _, rfl, by rw [P.turned_zero]; exact hown, hbel, hlt⟩
  case round =>
    clear hown hbel hlt
    obtain ⟨k, hk, rfl, hown, hbel, hlt⟩ := hrel
    by_cases hks : k < s.size
    · have hkl : k < s.data.toList.length := by rw [HL.out]; exact hks
      have hc := hown k (by rw [P.turned_length]; exact hkl)
      rw [P.turned_at P.uppc k _ hkl] at hc
      have hsame := P.turned_same P.uppc k _ hkl
      have hsucc := P.turned_succ P.uppc k _ hkl
      have HS := Lib.hid hsame; clear hsame
      have HC := Lib.hid hsucc; clear hsucc
      obtain ⟨hcell, hfro⟩ := hc
      generalize s.data.toList[k] = x at *
      have hx := x.toNat_lt
      by_cases h1 : (97 : Int) ≤ x.toNat
      · by_cases h2 : (x.toNat : Int) ≤ 122
        · have HT : Hid (P.low x = true) := Lib.hid (by unfold P.low; simp; omega)
          have hy := P.uppc_yes HT.out
          have HY := Lib.hid hy; clear hy
          go_wp2_with fail
          go_roundw
          case rel => exact ⟨k + 1, by omega, by go_num, by rw [HC.out]; exact hown.set_ (by rw [P.turned_length]; exact hkl) _ _ (by rw [HY.out]; omega), hbel.setCell (by simp) _, by simpa [World.setCell] using hlt⟩
          case measure => simp [intOf]; omega
        · have HT : Hid (P.low x = false) := Lib.hid (by unfold P.low; simp; omega)
          go_wp2_with fail
          go_roundw
          case rel => exact ⟨k + 1, by omega, by go_num, by rw [HS.out (P.uppc_no HT.out)]; exact hown, hbel, hlt⟩
          case measure => simp [intOf]; omega
      · have HT : Hid (P.low x = false) := Lib.hid (by unfold P.low; simp; omega)
        go_wp2_with fail
        go_roundw
        case rel => exact ⟨k + 1, by omega, by go_num, by rw [HS.out (P.uppc_no HT.out)]; exact hown, hbel, hlt⟩
        case measure => simp [intOf]; omega
    · have hkn := P.turned_all P.uppc k s.data.toList (by rw [HL.out]; omega)
      have hlen := P.turned_length P.uppc k s.data.toList
      rw [HL.out] at hlen
      have hback := hown.back (P := Tryd.prog) (cap := cap) 38 9 5 Tryd.underlying38 Tryd.underlying5 Tryd.underlying9
      rw [hlen, hkn] at hback
      clear hlen hkn
      go_wp2_with fail
      go_ret
      exact ⟨rfl, hbel⟩

end Go.Proofs.YtiehjepemnlgfaaDoor
