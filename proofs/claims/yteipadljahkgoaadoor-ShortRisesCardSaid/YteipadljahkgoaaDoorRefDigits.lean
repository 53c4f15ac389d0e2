/- The reference's digits of a number, so many at least; what lay in memory stays as it was. -/
import Derived.Test.YteipadljahkgoaaDoorGround
import Derived.Test.YteipadljahkgoaaDoorDecFacts
import Derived.Lib.Hide
import Derived.WalkSpells
import Derived.Outline
import Derived.IntWalk
import Derived.Laws.IdiomStrings
import Derived.Deep.DeepCutAuto
namespace Go.Proofs.YteipadljahkgoaaDoor
namespace D
open Go.RowKit

theorem pad_zero (n : Nat) : pad 0 n = Lib.decDigits n := by
  unfold pad
  rw [Nat.zero_sub]; rfl

theorem one_byte (w : World) (n : Nat) : (convert 38 9 (.slice (some ⟨w.heap.size, 0, none⟩) 1 1)).run Tryd.prog (w.alloc (.cells #[.int .u8 (48 + (n : Int) % 10)] 5)) = .ok (.string (str [dgt n])) (w.alloc (.cells #[.int .u8 (48 + (n : Int) % 10)] 5)) := by
  have hd := (dgt_dig n).2.2
  exact run_convert_bytes_back _ 38 9 5 ⟨w.heap.size, 0, none⟩ 1 [dgt n] Tryd.underlying38 Tryd.underlying5 Tryd.underlying9 fun j hj => by
    obtain rfl : j = 0 := by simpa using hj
    show World.cell? _ (Addr.add ⟨w.heap.size, 0, none⟩ 0) = some (.int .u8 ((dgt n).toNat : Int))
    rw [hd]
    simp [Addr.add]
/-- noughts ahead of a number's digits, until there are so many -/
def Grows (n j : Nat) (X : ByteArray) : Prop := ∃ i, X.data.toList = noughts i ++ Lib.decDigits n ∧ (X.size ≤ j ∨ i = 0)
theorem Grows.start {n : Nat} {X : ByteArray} (j : Nat) (h : X.data.toList = Lib.decDigits n) : Grows n j X := ⟨0, h, .inr rfl⟩
theorem Grows.more {n j : Nat} {X : ByteArray} (h : Grows n j X) (hj : X.size < j) : Grows n j (⟨#[48]⟩ ++ X) ∧ ((⟨#[48]⟩ : ByteArray) ++ X).size = X.size + 1 := by
  obtain ⟨i, h1, h2⟩ := h
  have hs : ((⟨#[48]⟩ : ByteArray) ++ X).size = X.size + 1 := by rw [ByteArray.size_append, Nat.add_comm]; rfl
  refine ⟨⟨i + 1, ?_, .inl (by omega)⟩, hs⟩
  rw [ByteArray.data_append, Array.toList_append, h1]
  rfl
theorem Grows.done {n j : Nat} {X : ByteArray} (h : Grows n j X) (hj : ¬ X.size < j) : X = str (pad j n) := by
  obtain ⟨i, h1, h2⟩ := h
  have hs : X.size = i + Lib.nDigits n := by rw [ba_size, h1, List.length_append, noughts, List.length_replicate, Lib.decDigits_length]
  apply ba_ext
  rw [h1, str_data]
  unfold pad
  congr 2
  omega

set_option maxHeartbeats 4000000 in
set_option maxRecDepth 100000 in
theorem refDigits_any (n : Nat) : ∀ (j : Nat) (w : World), n ≤ 9223372036854775807 → j ≤ 20 → Calls Tryd.prog 10 #[.int .i64 n, .int .i64 j] w (Gives w (.string (str (pad j n)))) := by
  induction n using Nat.strongRecOn with
  | _ n ih =>
    intro j w hn hj
    have h0 : (0 : Int) ≤ (n : Int) % 10 ∧ (n : Int) % 10 < 10 := by omega
    have hconv := one_byte w n
    have HB := Lib.hid (up_alloc (Below.refl w.heap.size w) (.cells #[.int .u8 (48 + (n : Int) % 10)] 5))
    by_cases h : n < 10
    · have HG : Hid (Grows n j (str [dgt n])) := Lib.hid (Grows.start j (by rw [str_data, digits_first h]))
      have hz : (str [dgt n]).size ≤ 20 := by rw [ba_size, str_data]; simp
      generalize str [dgt n] = X at *
      clear ih
      have hni : (n : Int) < 10 := by omega
      go_enter Tryd.func10, Tryd.ntmps10
      go_wp2_with fail
      clear hconv
      generalize w.alloc (.cells #[.int .u8 (48 + (n : Int) % 10)] 5) = W at *
      go_loop [5] (fun s => ∃ Y : ByteArray, s = .string Y ∧ Y.size ≤ 20 ∧ Hid (Grows n j Y)) (fun s => 21 - (match s with | .string Y => Y.size | _ => 0))
      case atStart => exact ⟨X, rfl, hz, HG⟩
      case round =>
        obtain ⟨Y, rfl, hy, HY⟩ := hrel
        by_cases hlt : Y.size < j
        · obtain ⟨g1, g2⟩ := HY.out.more hlt
          have G1 := Lib.hid g1
          have G2 := Lib.hid g2
          clear g1 g2
          have hyi : (Y.size : Int) < (j : Int) := by omega
          go_wp2_with fail
          go_round
          case rel => exact ⟨_, rfl, by rw [G2.out]; omega, G1⟩
          case measure => simp only [G2.out]; omega
        · have hyi : ¬ ((Y.size : Int) < (j : Int)) := by omega
          have HD := Lib.hid (HY.out.done hlt)
          go_wp2_with fail
          go_ret
          exact ⟨ret_str HD.out, HB.out⟩
    · have CI : Hid (∀ W : World, Calls Tryd.prog 10 #[.int .i64 ((n : Int) / 10), .int .i64 0] W (Gives W (.string (str (Lib.decDigits (n / 10)))))) := Lib.hid fun W => by
        have := ih (n / 10) (by omega) 0 W (by omega) (by omega)
        rwa [pad_zero, show ((n / 10 : Nat) : Int) = (n : Int) / 10 by omega, show ((0 : Nat) : Int) = 0 from rfl] at this
      have hs1 : (str (Lib.decDigits (n / 10))).size + (str [dgt n]).size = Lib.nDigits n := by
        rw [ba_size, ba_size, str_data, str_data, Lib.decDigits_length, Lib.nDigits_big h]; rfl
      have hz : Lib.nDigits n ≤ 20 := nDigits_le (by decide) (by omega)
      have HG : Hid (Grows n j (str (Lib.decDigits (n / 10)) ++ str [dgt n]) ∧ (str (Lib.decDigits (n / 10)) ++ str [dgt n]).size ≤ 20) := Lib.hid ⟨Grows.start j (by rw [ByteArray.data_append, Array.toList_append, str_data, str_data, digits_last h]), by rw [ByteArray.size_append]; omega⟩
      clear ih
      generalize str (Lib.decDigits (n / 10)) = D at *
      generalize str [dgt n] = L at *
      have hDL : ¬ 9223372036854775807 < D.size + L.size := by omega
      have hni : ¬ ((n : Int) < 10) := by omega
      clear hs1 hz
      go_enter Tryd.func10, Tryd.ntmps10
      go_upto_region 3 with fail
      clear hconv
      generalize w.alloc (.cells #[.int .u8 (48 + (n : Int) % 10)] 5) = W at *
      go_wp2_with (go_at_call 10; (with_reducible refine (CI.out _).mono ?_); rintro e w1 ⟨rfl, hb1⟩)
      have HB1 := Lib.hid (up_call HB.out hb1)
      clear hb1
      go_loop [5] (fun s => ∃ Y : ByteArray, s = .string Y ∧ Y.size ≤ 20 ∧ Hid (Grows n j Y)) (fun s => 21 - (match s with | .string Y => Y.size | _ => 0))
      case atStart => exact ⟨D ++ L, rfl, HG.out.2, Lib.hid HG.out.1⟩
      case round =>
        obtain ⟨Y, rfl, hy, HY⟩ := hrel
        by_cases hlt : Y.size < j
        · obtain ⟨g1, g2⟩ := HY.out.more hlt
          have G1 := Lib.hid g1
          have G2 := Lib.hid g2
          clear g1 g2
          have hyi : (Y.size : Int) < (j : Int) := by omega
          go_wp2_with fail
          go_round
          case rel => exact ⟨_, rfl, by rw [G2.out]; omega, G1⟩
          case measure => simp only [G2.out]; omega
        · have hyi : ¬ ((Y.size : Int) < (j : Int)) := by omega
          have HD := Lib.hid (HY.out.done hlt)
          go_wp2_with fail
          go_ret
          exact ⟨ret_str HD.out, HB1.out⟩
end D
end Go.Proofs.YteipadljahkgoaaDoor
