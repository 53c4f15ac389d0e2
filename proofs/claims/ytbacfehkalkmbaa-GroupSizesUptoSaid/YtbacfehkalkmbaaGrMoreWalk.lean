/- The law GroupMore returns true. -/
import Derived.Test.YtbacfehkalkmbaaGrSays
namespace Go.Proofs.Ytbacfehkalkmbaa
namespace Gr
open Go.RowKit D Ru

theorem ba_plus (a b : List UInt8) : str a ++ str b = str (a ++ b) := by
  apply ba_ext
  rw [ByteArray.data_append, Array.toList_append, str_data, str_data, str_data]
theorem size_str (l : List UInt8) : (str l).size = l.length := by rw [D.ba_size, str_data]
theorem tail_str (y A : List UInt8) : (str (y ++ A)).extract y.length (str (y ++ A)).size = str A := by
  apply ba_ext
  rw [ByteArray.data_extract, Array.toList_extract, str_data, str_data, size_str]
  simp
theorem wrap_id {z : Int} (h0 : 0 ≤ z) (h1 : z < 9223372036854775808) : IntKind.i64.wrap z = z := by rw [IntKind.wrap_i64]; omega
theorem wrap64_id {z : Int} (h0 : 0 ≤ z) (h1 : z < 9223372036854775808) : wrap64 z = z := by unfold wrap64; omega
theorem more_le {a d n m : Nat} (la : a = n + (n - 1) / 3) (lb : d + a = m + n + (m + n - 1) / 3) (hn : 0 < n) : m ≤ d ∧ d ≤ 2 * m := by omega
theorem more_room {a d n m : Nat} (la : a = n + (n - 1) / 3) (lb : d + a = m + n + (m + n - 1) / 3) (hN : n + m ≤ 1152921504606846976) : d + a ≤ 2305843009213693952 := by omega
theorem more_facts {n m d a b : Nat} (la : a = n + (n - 1) / 3) (lb : d + a = m + n + (m + n - 1) / 3) (hb : b = d + a) (hn : 0 < n) (hN : n + m ≤ 1152921504606846976) :
    ∃ q : Nat, (IntKind.i64.wrap ((b : Int) - (a : Int)) = (d : Int) ∧ IntKind.i64.wrap ((n : Int) - 1) = ((n - 1 : Nat) : Int) ∧ IntKind.i64.wrap (((n - 1 : Nat) : Int).tdiv 3) = (q : Int) ∧ IntKind.i64.wrap ((n : Int) + (q : Int)) = (a : Int) ∧ IntKind.i64.wrap (2 * (m : Int)) = 2 * (m : Int)) ∧
      (wrap64 ((n : Int) + ((n - 1 : Nat) : Int) / 3) = (a : Int) ∧ wrap64 ((b : Int) - (a : Int)) = (d : Int)) ∧ (m : Int) ≤ (d : Int) ∧ (d : Int) ≤ 2 * (m : Int) ∧ (d : Int) ≤ (b : Int) ∧ (0 : Int) ≤ (d : Int) := by
  obtain ⟨h1, h2⟩ := more_le la lb hn
  have h3 := more_room la lb hN
  have hq : ((n - 1 : Nat) : Int) / 3 = (((n - 1) / 3 : Nat) : Int) := by omega
  have hT : ((n - 1 : Nat) : Int).tdiv 3 = (((n - 1) / 3 : Nat) : Int) := by rw [Int.tdiv_eq_ediv_of_nonneg (by omega), hq]
  generalize (n - 1) / 3 = q at *
  refine ⟨q, ?_⟩
  clear lb
  have eB : (b : Int) - (a : Int) = (d : Int) := by omega
  have eL : (n : Int) - 1 = ((n - 1 : Nat) : Int) := by omega
  have eA : (n : Int) + (q : Int) = (a : Int) := by omega
  rw [hq, hT, eB, eL, eA]
  clear hq hT eB eL eA
  exact ⟨⟨wrap_id (by omega) (by omega), wrap_id (by omega) (by omega), wrap_id (by omega) (by omega), wrap_id (by omega) (by omega), wrap_id (by omega) (by omega)⟩, ⟨wrap64_id (by omega) (by omega), wrap64_id (by omega) (by omega)⟩, by omega, by omega, by omega, by omega⟩
set_option maxHeartbeats 4000000 in
set_option maxRecDepth 100000 in
theorem more_any (N : Nat) (l x : List UInt8) (c : UInt8) (w : World) (hG : PutOk N w) (h5 : 5 ≤ N) (hN : N ≤ 1152921504606846976) (hl : l.length + x.length ≤ N) :
    Calls Try.prog 4 #[.string (str l), .string (str x), .int .u8 c.toNat] w (TrueB w) := by
  have hB0 := Below.refl w.heap.size w
  have CF := Lib.hid (fact_calls hG h5 w hB0)
  have hlx : (x ++ l).length ≤ N := by rw [List.length_append]; omega
  have hsx := size_str x
  have hsl := size_str l
  have hadd : ¬ 9223372036854775807 < (str x).size + (str l).size := by omega
  by_cases hp : putF l 3 0 c = 0
  · have CP := Lib.hid (hG.putY (by omega) hp)
    by_cases hq : putF (x ++ l) 3 0 c = 0
    · have CQ := Lib.hid (hG.putY hlx hq)
      rw [← ba_plus] at CQ
      obtain ⟨⟨hnum, -⟩, -⟩ := putF_zero.1 hp
      have hA : putT l 3 0 c = grouped c 3 3 l := by rw [putT_zero hp]; exact grouped_three c l
      have hB : putT (x ++ l) 3 0 c = grouped c 3 3 (x ++ l) := by rw [putT_zero hq]; exact grouped_three c (x ++ l)
      have la := threes_len c l hnum.1
      have lb := threes_len c (x ++ l) (by simp [hnum.1])
      obtain ⟨y, hy⟩ := threes_tail c x l hnum.1
      have hn := List.length_pos_iff.2 hnum.1
      rw [hA] at CP
      rw [hB, hy] at CQ
      rw [hy, List.length_append, List.length_append] at lb
      have hE := tail_str y (grouped c 3 3 l)
      have sA := size_str (grouped c 3 3 l)
      have sB := size_str (y ++ grouped c 3 3 l)
      rw [List.length_append] at sB
      generalize grouped c 3 3 l = A at *
      generalize str (y ++ A) = BB at *
      generalize str A = AA at *
      generalize str l = L at *
      generalize str x = X at *
      obtain ⟨q, ⟨w1, w2, w3, w4, w5⟩, ⟨v4, v1⟩, f1, f2, f3, f4⟩ := more_facts (n := L.size) (m := X.size) (d := y.length) (a := AA.size) (b := BB.size) (by rw [sA, hsl]; exact la) (by rw [sA, hsl, hsx]; exact lb) (by rw [sA]; exact sB) (by rw [hsl]; exact hn) (by rw [hsl, hsx]; exact Nat.le_trans hl hN)
      clear hG hp hq hnum hA hB la lb hy hn sA sB hlx hsx hsl hl h5 hN
      generalize y.length = d at *
      generalize (c.toNat : Int) = ci at *
      go_enter Try.func4, Try.ntmps4
      go_upto_region 2 with (go_at_call 6; (with_reducible refine (CF.out).mono ?_); rintro e w1 ⟨rfl, hb1⟩; dsimp only)
      go_upto_region 3 with (go_at_call 6; (with_reducible refine (CP.out _ hb1).mono ?_); rintro e w2 ⟨rfl, hb2⟩; (have hB2 := bel_call hb1 hb2); dsimp only)
      go_upto_region 8 with (go_at_call 6; (with_reducible refine (CQ.out _ hB2).mono ?_); rintro e w3 ⟨rfl, hb3⟩; (have hB3 := bel_call hB2 hb3); dsimp only)
      go_wp2_with fail
      go_ret
      exact ⟨rfl, hB3⟩
    · have CQ := Lib.hid (hG.putN hlx hq)
      rw [← ba_plus] at CQ
      clear hG hp hq hl hlx hsx hsl h5 hN
      generalize str (putT l 3 0 c) = P at *
      generalize putF (x ++ l) 3 0 c = z at *
      generalize str l = L at *
      generalize str x = X at *
      generalize (c.toNat : Int) = ci at *
      go_enter Try.func4, Try.ntmps4
      go_upto_region 2 with (go_at_call 6; (with_reducible refine (CF.out).mono ?_); rintro e w1 ⟨rfl, hb1⟩; dsimp only)
      go_upto_region 3 with (go_at_call 6; (with_reducible refine (CP.out _ hb1).mono ?_); rintro e w2 ⟨rfl, hb2⟩; (have hB2 := bel_call hb1 hb2); dsimp only)
      go_upto_region 7 with (go_at_call 6; (with_reducible refine (CQ.out _ hB2).mono ?_); rintro e w3 ⟨rfl, hb3⟩; (have hB3 := bel_call hB2 hb3); dsimp only)
      go_wp2_with fail
      go_ret
      exact ⟨rfl, hB3⟩
  · have CP := Lib.hid (hG.putN (by omega) hp)
    obtain ⟨v, ev, CQ⟩ : ∃ (v : ByteArray) (ev : Value), Hid (∀ W, Below w.heap.size w W → Calls Try.prog 6 #[.string (str x ++ str l), .int .i64 3, .int .i64 0, .int .u8 c.toNat] W (Gives W (.tuple #[.string v, ev]))) :=
      ⟨_, _, Lib.hid (fun W hW => by rw [ba_plus]; exact hG.put (x ++ l) 3 0 c W hW hlx)⟩
    clear hG hp hl hlx hsx hsl h5 hN
    generalize putF l 3 0 c = z at *
    generalize str l = L at *
    generalize str x = X at *
    generalize (c.toNat : Int) = ci at *
    go_enter Try.func4, Try.ntmps4
    go_upto_region 2 with (go_at_call 6; (with_reducible refine (CF.out).mono ?_); rintro e w1 ⟨rfl, hb1⟩; dsimp only)
    go_upto_region 3 with (go_at_call 6; (with_reducible refine (CP.out _ hb1).mono ?_); rintro e w2 ⟨rfl, hb2⟩; (have hB2 := bel_call hb1 hb2); dsimp only)
    go_upto_region 7 with (go_at_call 6; (with_reducible refine (CQ.out _ hB2).mono ?_); rintro e w3 ⟨rfl, hb3⟩; (have hB3 := bel_call hB2 hb3); dsimp only)
    go_wp2_with fail
    go_ret
    exact ⟨rfl, hB3⟩
end Gr
end Go.Proofs.Ytbacfehkalkmbaa
