/- The reference's Joined: texts of a row, joined; what lay in memory stays as it was. -/
import Derived.Test.YtbacfehkalkmbaaRefCut
namespace Go.Proofs.Ytbacfehkalkmbaa
namespace Ru
open Go.RowKit

theorem join_step (sep : List UInt8) (l : List (List UInt8)) (k : Nat) (h : k < l.length) : joinL sep (l.take (k + 1)) = joinL sep (l.take k) ++ ((if k = 0 then [] else sep) ++ l[k]) := by
  rw [List.take_succ_eq_append_getElem h]
  by_cases h0 : k = 0
  · subst h0; simp [joinL]
  · rw [if_neg h0, join_snoc _ _ _ (by intro e; have := congrArg List.length e; rw [List.length_take] at this; simp only [List.length_nil] at this; omega)]
theorem join_le (sep : List UInt8) (l : List (List UInt8)) : ∀ (d k : Nat), k + d = l.length → (joinL sep (l.take k)).length ≤ (joinL sep l).length
  | 0, k, h => by rw [List.take_of_length_le (by omega)]; exact Nat.le_refl _
  | d + 1, k, h => by
    have := join_le sep l d (k + 1) (by omega)
    rw [join_step sep l k (by omega), List.length_append] at this
    omega
theorem sv_get {ps : List ByteArray} {k : Nat} {u : Value} (h : (sv ps)[k]? = some u) : ∃ hk : k < ps.length, u = .string ps[k] := by
  have hk : k < ps.length := by have := (List.getElem?_eq_some_iff.1 h).1; simpa [sv] using this
  refine ⟨hk, ?_⟩
  simp [sv, List.getElem?_eq_getElem hk] at h
  exact h.symm

set_option maxHeartbeats 2000000 in
theorem joined_any (A : Option Addr) (n c : Nat) (ps : List ByteArray) (sep : ByteArray) (w : World) (B : Nat) (h : Reads w B 1 A n (sv ps)) (hn : n ≤ maxLen) (hj : (joinL sep.data.toList (bs ps)).length ≤ 4611686018427387904) :
    Calls Try.prog 8 #[.slice A n c, .string sep] w fun e w' => e = .returned (.string (D.str (joinL sep.data.toList (bs ps)))) ∧ w = w' := by
  have hl : ps.length = n := by have := h.1; simpa [sv] using this
  have HL := Lib.hid hl
  have HR := Lib.hid h
  have HJ := Lib.hid hj
  unfold maxLen at hn
  clear hl h hj
  go_enter Try.func8, Try.ntmps8
  go_wp2_with fail
  go_loop [5, 6] (fun v i => ∃ (k : Nat) (Y : ByteArray), k ≤ n ∧ i = .int .i64 k ∧ v = .string Y ∧ Hid (Y = D.str (joinL sep.data.toList ((bs ps).take k)))) (fun _ i => n - (intOf i).toNat)
  case atStart => exact ⟨0, _, Nat.zero_le _, rfl, rfl, Lib.hid rfl⟩
  case round =>
    obtain ⟨k, Y, hk, rfl, rfl, HY⟩ := hrel
    by_cases hlt : k < n
    · obtain ⟨ad, u, rfl, -, hu, x0⟩ := HR.out.at_ hlt
      obtain ⟨hkp, rfl⟩ := sv_get hu
      have hkb : k < (bs ps).length := by simpa [bs] using hkp
      have HS : Hid (joinL sep.data.toList ((bs ps).take (k + 1)) = joinL sep.data.toList ((bs ps).take k) ++ ((if k = 0 then [] else sep.data.toList) ++ ps[k].data.toList)) := Lib.hid (by rw [join_step _ _ k hkb]; simp [bs])
      have hle := join_le sep.data.toList (bs ps) ((bs ps).length - (k + 1)) (k + 1) (by omega)
      rw [HS.out, List.length_append, List.length_append] at hle
      have hys : Y.size = (joinL sep.data.toList ((bs ps).take k)).length := by rw [HY.out, D.ba_size, D.str_data]
      have hps : ps[k].size = ps[k].data.toList.length := D.ba_size _
      have hss : sep.size = sep.data.toList.length := D.ba_size _
      have HJ' := HJ.out
      rw [← hys, ← hps] at hle
      generalize ps[k] = p at *
      have hki : (k : Int) < (n : Int) := by omega
      by_cases h0 : k = 0
      · have hb : ¬ (0 < (k : Int)) := by omega
        rw [if_pos h0] at hle HS
        have hD : ¬ 9223372036854775807 < Y.size + p.size := by simp at hle; omega
        have HE : Hid (Y ++ p = D.str (joinL sep.data.toList ((bs ps).take (k + 1)))) := Lib.hid (by rw [HS.out, HY.out]; exact D.ba_ext (by simp [ByteArray.data_append]))
        clear h0 hle hys hps hss HJ' hu
        go_wp2_with fail
        go_round
        case rel => exact ⟨k + 1, _, by omega, by go_num, rfl, HE⟩
        case measure => simp [intOf]; omega
      · have hb : 0 < (k : Int) := by omega
        rw [if_neg h0] at hle HS
        rw [← hss] at hle
        have hD : ¬ 9223372036854775807 < Y.size + sep.size := by omega
        have hz : (Y ++ sep).size = Y.size + sep.size := ByteArray.size_append
        have hD2 : ¬ 9223372036854775807 < (Y ++ sep).size + p.size := by omega
        have hD3 : ¬ 9223372036854775807 < Y.size + sep.size + p.size := by omega
        have HE : Hid (Y ++ sep ++ p = D.str (joinL sep.data.toList ((bs ps).take (k + 1)))) := Lib.hid (by rw [HS.out, HY.out]; exact D.ba_ext (by simp [ByteArray.data_append]))
        clear h0 hle hys hps hss HJ' hu hz
        go_wp2_with fail
        go_round
        case rel => exact ⟨k + 1, _, by omega, by go_num, rfl, HE⟩
        case measure => simp [intOf]; omega
    · have hki : ¬ ((k : Int) < (n : Int)) := by omega
      have HE : Hid (Y = D.str (joinL sep.data.toList (bs ps))) := Lib.hid (by
        have e : (bs ps).take k = bs ps := List.take_of_length_le (by have := HL.out; simp [bs]; omega)
        rw [HY.out, e])
      clear hlt hk
      go_wp2_with fail
      go_ret
      exact ⟨D.ret_str HE.out, rfl⟩
end Ru
end Go.Proofs.Ytbacfehkalkmbaa
