/- Texts in small and in great letters, as the program and the reference make them: each returns the text turned letter by letter; what lay in memory stays as it was. -/
import Derived.Test.YtdckmekfggigjaaDoorFills
import Derived.Test.YtdckmekfggigjaaDoorBytes
namespace Go.Proofs.YtdckmekfggigjaaDoor
open Go.RowKit

set_option maxHeartbeats 1000000 in
theorem lower_any (s : ByteArray) (w : World) (hs : s.size ≤ maxLen) : Calls Tryd.prog 51 #[.string s] w fun e w' => e = .returned (.string ⟨(s.data.toList.map P.lowc).toArray⟩) ∧ Below w.heap.size w w' := by
  unfold maxLen at hs
  have hl : s.data.toList.length = s.size := by simp
  have HL := Lib.hid hl; clear hl
  go_enter Tryd.func51, Tryd.ntmps51
  go_wp2_with (refine wpList_bytes_of_string _ rfl (.tmp 6) 9 82 5 rfl s rfl Tryd.underlying9 Tryd.underlying82 Tryd.underlying5 ?_; intro cap w1 hown hbel hlt)
  go_loopw [10] (fun i wr => ∃ k : Nat, k ≤ s.size ∧ i = .int .i64 k ∧ OwnBytes wr w.heap.size (P.turned P.lowc k s.data.toList) ∧ Below w.heap.size w wr ∧ w.heap.size < wr.heap.size) (fun i _ => s.size - (intOf i).toNat)
  case atStart => exact ⟨0, Nat.zero_le _, rfl, by rw [P.turned_zero]; exact hown, hbel, hlt⟩
  case round =>
    clear hown hbel hlt
    obtain ⟨k, hk, rfl, hown, hbel, hlt⟩ := hrel
    by_cases hks : k < s.size
    · have hkl : k < s.data.toList.length := by rw [HL.out]; exact hks
      have hc := hown k (by rw [P.turned_length]; exact hkl)
      rw [P.turned_at P.lowc k _ hkl] at hc
      have hsame := P.turned_same P.lowc k _ hkl
      have hsucc := P.turned_succ P.lowc k _ hkl
      have HS := Lib.hid hsame; clear hsame
      have HC := Lib.hid hsucc; clear hsucc
      obtain ⟨hcell, hfro⟩ := hc
      generalize s.data.toList[k] = x at *
      cases ht : P.upp x
      · have HT := Lib.hid ht; clear ht
        go_wp2_with (go_at_call 63; refine (upp_any x _).mono ?_; rintro e w' ⟨rfl, rfl⟩; rw [HT.out])
        go_roundw
        case rel => exact ⟨k + 1, by omega, by go_num, by rw [HS.out (P.lowc_no HT.out)]; exact hown, hbel, hlt⟩
        case measure => simp [intOf]; omega
      · have HT := Lib.hid ht; clear ht
        have hb : 65 ≤ x.toNat ∧ x.toNat ≤ 90 := by have := HT.out; unfold P.upp at this; simpa using this
        obtain ⟨hb1, hb2⟩ := hb
        have hy := P.lowc_yes HT.out
        have HY := Lib.hid hy; clear hy
        go_wp2_with (go_at_call 63; refine (upp_any x _).mono ?_; rintro e w' ⟨rfl, rfl⟩; rw [HT.out])
        go_roundw
        case rel => exact ⟨k + 1, by omega, by go_num, by rw [HC.out]; exact hown.set_ (by rw [P.turned_length]; exact hkl) _ _ (by rw [HY.out]; omega), hbel.setCell (by simp) _, by simpa [World.setCell] using hlt⟩
        case measure => simp [intOf]; omega
    · have hkn := P.turned_all P.lowc k s.data.toList (by rw [HL.out]; omega)
      have hlen := P.turned_length P.lowc k s.data.toList
      rw [HL.out] at hlen
      have hback := hown.back (P := Tryd.prog) (cap := cap) 82 9 5 Tryd.underlying82 Tryd.underlying5 Tryd.underlying9
      rw [hlen, hkn] at hback
      clear hlen hkn
      go_wp2_with fail
      go_ret
      exact ⟨rfl, hbel⟩

set_option maxHeartbeats 1000000 in
theorem upper_any (s : ByteArray) (w : World) (hs : s.size ≤ maxLen) : Calls Tryd.prog 52 #[.string s] w fun e w' => e = .returned (.string ⟨(s.data.toList.map P.uppc).toArray⟩) ∧ Below w.heap.size w w' := by
  unfold maxLen at hs
  have hl : s.data.toList.length = s.size := by simp
  have HL := Lib.hid hl; clear hl
  go_enter Tryd.func52, Tryd.ntmps52
  go_wp2_with (refine wpList_bytes_of_string _ rfl (.tmp 6) 9 82 5 rfl s rfl Tryd.underlying9 Tryd.underlying82 Tryd.underlying5 ?_; intro cap w1 hown hbel hlt)
  go_loopw [10] (fun i wr => ∃ k : Nat, k ≤ s.size ∧ i = .int .i64 k ∧ OwnBytes wr w.heap.size (P.turned P.uppc k s.data.toList) ∧ Below w.heap.size w wr ∧ w.heap.size < wr.heap.size) (fun i _ => s.size - (intOf i).toNat)
  case atStart => exact ⟨0, Nat.zero_le _, rfl, by rw [P.turned_zero]; exact hown, hbel, hlt⟩
  case round =>
    clear hown hbel hlt
    obtain ⟨k, hk, rfl, hown, hbel, hlt⟩ := hrel
    by_cases hks : k < s.size
    · have hkl : k < s.data.toList.length := by rw [HL.out]; exact hks
      have hc := hown k (by rw [P.turned_length]; exact hkl)
      rw [P.turned_at P.uppc k _ hkl] at hc
      have hsame := P.turned_same P.uppc k _ hkl
      have hsucc := P.turned_succ P.uppc k _ hkl
      have HS := Lib.hid hsame; clear hsame
      have HC := Lib.hid hsucc; clear hsucc
      obtain ⟨hcell, hfro⟩ := hc
      generalize s.data.toList[k] = x at *
      cases ht : P.low x
      · have HT := Lib.hid ht; clear ht
        go_wp2_with (go_at_call 61; refine (low_any x _).mono ?_; rintro e w' ⟨rfl, rfl⟩; rw [HT.out])
        go_roundw
        case rel => exact ⟨k + 1, by omega, by go_num, by rw [HS.out (P.uppc_no HT.out)]; exact hown, hbel, hlt⟩
        case measure => simp [intOf]; omega
      · have HT := Lib.hid ht; clear ht
        have hb : 97 ≤ x.toNat ∧ x.toNat ≤ 122 := by have := HT.out; unfold P.low at this; simpa using this
        obtain ⟨hb1, hb2⟩ := hb
        have hy := P.uppc_yes HT.out
        have HY := Lib.hid hy; clear hy
        go_wp2_with (go_at_call 61; refine (low_any x _).mono ?_; rintro e w' ⟨rfl, rfl⟩; rw [HT.out])
        go_roundw
        case rel => exact ⟨k + 1, by omega, by go_num, by rw [HC.out]; exact hown.set_ (by rw [P.turned_length]; exact hkl) _ _ (by rw [HY.out]; omega), hbel.setCell (by simp) _, by simpa [World.setCell] using hlt⟩
        case measure => simp [intOf]; omega
    · have hkn := P.turned_all P.uppc k s.data.toList (by rw [HL.out]; omega)
      have hlen := P.turned_length P.uppc k s.data.toList
      rw [HL.out] at hlen
      have hback := hown.back (P := Tryd.prog) (cap := cap) 82 9 5 Tryd.underlying82 Tryd.underlying5 Tryd.underlying9
      rw [hlen, hkn] at hback
      clear hlen hkn
      go_wp2_with fail
      go_ret
      exact ⟨rfl, hbel⟩

end Go.Proofs.YtdckmekfggigjaaDoor
