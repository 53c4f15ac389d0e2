/- The reference's Joined and its text of a tag: the parts that are there, joined; what lay in memory stays as it was. -/
import Derived.Test.YtdckmekfggigjaaDoorRefParts
import Derived.Test.YtdckmekfggigjaaDoorHeld
namespace Go.Proofs.YtdckmekfggigjaaDoor
open Go.RowKit

theorem ba_app (a : List UInt8) (b : ByteArray) : (⟨a.toArray⟩ : ByteArray) ++ b = ⟨(a ++ b.data.toList).toArray⟩ := ba_ext (by simp)
theorem join_step0 {l : List P.Bs} {x : P.Bs} (sep : P.Bs) (h : l[0]? = some x) : Lib.join (l.take 1) sep = x := by
  cases l with
  | nil => simp at h
  | cons y r => simp at h; subst h; simp [Lib.join_one]
theorem join_step {l : List P.Bs} {x : P.Bs} (sep : P.Bs) {k : Nat} (hk : 0 < k) (h : l[k]? = some x) : Lib.join (l.take (k + 1)) sep = Lib.join (l.take k) sep ++ sep ++ x := by
  cases l with
  | nil => simp at h
  | cons y r =>
    obtain ⟨j, rfl⟩ : ∃ j, k = j + 1 := ⟨k - 1, by omega⟩
    rw [List.take_succ_cons, List.take_succ_cons, Lib.join_cons, Lib.join_cons, Lib.joinTail_take_succ sep r j x (by simpa using h)]
    simp
theorem join_take_le (l : List P.Bs) (sep : P.Bs) (k : Nat) : (Lib.join (l.take k) sep).length ≤ (Lib.join l sep).length := by
  cases l with
  | nil => simp
  | cons y r =>
    cases k with
    | zero => simp [Lib.join_nil]
    | succ k =>
      rw [List.take_succ_cons, Lib.join_cons, Lib.join_cons, List.length_append, List.length_append]
      have := Lib.joinTail_take_le sep r k
      omega
theorem joined_zero (l : List P.Bs) (sep : P.Bs) : (⟨(Lib.join (l.take 0) sep).toArray⟩ : ByteArray) = ⟨#[]⟩ := by simp [Lib.join_nil]

set_option maxHeartbeats 1000000 in
theorem joined_any (A : Option Addr) (n c : Nat) (ps : List ByteArray) (sep : ByteArray) (w : World) (B : Nat) (h : Reads w B 1 A n (sv ps)) (hn : n < maxLen) (hj : Short (Lib.join (bs ps) sep.data.toList)) :
    Calls Tryd.prog 25 #[.slice A n c, .string sep] w fun e w' => e = .returned (.string ⟨(Lib.join (bs ps) sep.data.toList).toArray⟩) ∧ w = w' := by
  have hl := h.len
  unfold maxLen at hn
  unfold Short at hj
  have HL := Lib.hid hl; clear hl
  have HJ := Lib.hid hj; clear hj
  have hz := joined_zero (bs ps) sep.data.toList
  go_enter Tryd.func25, Tryd.ntmps25
  go_wp2_with fail
  go_loop [5, 6] (fun v i => ∃ k : Nat, k ≤ n ∧ i = .int .i64 k ∧ v = .string ⟨(Lib.join ((bs ps).take k) sep.data.toList).toArray⟩) (fun _ i => n - (intOf i).toNat)
  case atStart => exact ⟨0, Nat.zero_le _, rfl, by rw [hz]⟩
  case round =>
    obtain ⟨k, hk, rfl, rfl⟩ := hrel
    by_cases hlt : k < n
    · have hkx : k < ps.length := by have := HL.out; omega
      obtain ⟨ad, rfl, hadb, hcell⟩ := h.str hlt hkx
      have hx : (bs ps)[k]? = some ps[k].data.toList := by simp [bs, hkx]
      have hle1 := join_take_le (bs ps) sep.data.toList (k + 1)
      have HJ' := HJ.out
      rcases Nat.eq_zero_or_pos k with h0 | h0
      · subst h0
        have hs := join_step0 sep.data.toList hx
        rw [hs] at hle1
        rw [size_list] at hle1
        have he : (⟨(Lib.join ((bs ps).take 0) sep.data.toList).toArray⟩ : ByteArray) = ⟨#[]⟩ := hz
        rw [he]
        have hfin : (⟨#[]⟩ : ByteArray) ++ ps[0] = ⟨(Lib.join ((bs ps).take 1) sep.data.toList).toArray⟩ := by rw [hs]; exact ba_ext (by simp)
        have HF := Lib.hid hfin; clear hfin hs he hz
        have hc0 : w.cell? ad = some (.string ps[0]) := by have := hcell; unfold Addr.add at this; simpa using this
        clear hcell
        generalize ps[0] = x at *
        have hsz : ¬ 9223372036854775807 < (⟨#[]⟩ : ByteArray).size + x.size := by rw [show (⟨#[]⟩ : ByteArray).size = 0 from rfl]; omega
        go_wp2_with fail
        go_round
        case rel => exact ⟨1, by omega, by go_num, by rw [← HF.out]⟩
        case measure => simp [intOf]; omega
      · have hs := join_step sep.data.toList h0 hx
        rw [hs] at hle1
        have hfin : ((⟨(Lib.join ((bs ps).take k) sep.data.toList).toArray⟩ : ByteArray) ++ sep) ++ ps[k] = ⟨(Lib.join ((bs ps).take (k + 1)) sep.data.toList).toArray⟩ := by rw [hs, ba_app, ba_app]
        have HF := Lib.hid hfin; clear hfin hs hz
        have h0i : (0 : Int) < (k : Int) := by omega
        have hsa : (⟨(Lib.join ((bs ps).take k) sep.data.toList).toArray⟩ : ByteArray).size = (Lib.join ((bs ps).take k) sep.data.toList).length := by rw [← size_list]
        simp only [List.length_append] at hle1
        rw [size_list, size_list, ← hsa] at hle1
        clear hsa
        generalize (⟨(Lib.join ((bs ps).take k) sep.data.toList).toArray⟩ : ByteArray) = a at *
        generalize ps[k] = x at *
        have hsz1 : ¬ 9223372036854775807 < a.size + sep.size := by omega
        have hsz2 : ¬ 9223372036854775807 < (a ++ sep).size + x.size := by rw [ByteArray.size_append]; omega
        go_wp2_with fail
        go_round
        case rel => exact ⟨k + 1, by omega, by go_num, by rw [← HF.out]⟩
        case measure => simp [intOf]; omega
    · have hkn : (bs ps).take k = bs ps := List.take_of_length_le (by have := HL.out; simp [bs]; omega)
      rw [hkn]
      clear hkn hz
      go_wp2_with fail
      go_ret
      exact ⟨rfl, rfl⟩

set_option maxHeartbeats 1000000 in
theorem tagText_any (L S R : ByteArray) (A : Option Addr) (n c : Nat) (vs : List ByteArray) (w : World) (h : Reads w w.heap.size 1 A n (sv vs)) (hf : Few n) (hj : Short (Lib.join (bs (partsOf L S R vs)) [45])) :
    Calls Tryd.prog 11 #[.agg #[.string L, .string S, .string R, .slice A n c]] w fun e w' => e = .returned (.string (textOf L S R vs)) ∧ Below w.heap.size w w' := by
  have h1 : Reads (w.alloc (.cells #[.string L, .string S, .string R, .slice A n c] 29)) (w.alloc (.cells #[.string L, .string S, .string R, .slice A n c] 29)).heap.size 1 A n (sv vs) := (h.alloc (Nat.le_refl _) _).more (by simp)
  have HP := Lib.hid (parts_any L S R A n c vs _ h1 hf)
  have hpl : (partsOf L S R vs).length ≤ 1000003 := by
    have h3 := h.len
    have h4 : (partsOf L S R vs).length ≤ (allOf L S R vs).length := List.length_filter_le _ _
    have h5 : (allOf L S R vs).length = 3 + vs.length := by simp [allOf]; omega
    unfold Few at hf
    omega
  have HJ := Lib.hid hj
  clear h h1 hf hj
  unfold textOf
  generalize partsOf L S R vs = ps at *
  go_enter Tryd.func11, Tryd.ntmps11
  go_wp2_with (first
    | (go_at_call 25; (with_reducible refine (joined_any _ _ _ ps ⟨#[45]⟩ _ _ hr1 (by unfold maxLen; omega) HJ.out).mono ?_); rintro e w2 ⟨rfl, rfl⟩)
    | (go_at_call 26; (with_reducible refine HP.out.mono ?_); rintro e w1 ⟨v1, rfl, hown, hb1⟩; obtain ⟨A1, c1, rfl, hc1, hr1⟩ := own_form hown))
  go_ret
  exact ⟨rfl, ((Below.refl w.heap.size w).alloc (Nat.le_refl _) _).trans (hb1.mono (by simp))⟩
end Go.Proofs.YtdckmekfggigjaaDoor
