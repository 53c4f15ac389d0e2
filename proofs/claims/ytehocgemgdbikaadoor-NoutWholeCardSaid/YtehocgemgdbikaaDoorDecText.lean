/- The library's functions on texts that the program's decimals call: a number's digits, a sign taken off, noughts, a text cut at its point; what lay in memory stays as it was. And what follows from it. -/
import Derived.Test.YtehocgemgdbikaaDoorPow10
import Derived.Test.YtehocgemgdbikaaDoorDecGround
import Derived.Test.YtehocgemgdbikaaDoorDecFacts
import Derived.Test.YtehocgemgdbikaaDoorGround
import Derived.Lib.CutLaws
import Derived.Lib.IndexBytes
import Derived.Lib.AppendIntMem
import Derived.Test.YtehocgemgdbikaaDoorDecSign
import Derived.Deep.DeepCutAuto
namespace Go.Proofs.YtehocgemgdbikaaDoor
namespace D
open Go.RowKit

theorem dec_no_sign (n : Nat) : Lib.hasPrefix (Lib.decDigits n) [45] = false := by
  obtain ⟨b, r, e⟩ := List.exists_cons_of_ne_nil (dec_ne n)
  have := dec_digs n b (by rw [e]; simp)
  rw [e]
  unfold Lib.hasPrefix
  have hb : (45 == b) = false := by
    rw [beq_eq_false_iff_ne]
    rintro rfl
    exact absurd this.1 (by decide)
  simp [List.isPrefixOf, hb]
theorem cutpre_any (c : Int) (w : World) : Calls Tryd.prog 14 #[.string (str (Lib.itoa c)), .string ⟨#[45]⟩] w fun e w' => e = .returned (.tuple #[.string (str (Lib.decDigits c.natAbs)), .bool (decide (c < 0))]) ∧ w = w' := by
  refine (Tryd.strings_CutPrefix (str (Lib.itoa c)) ⟨#[45]⟩ w).mono fun e w' ⟨he, hw⟩ => ⟨?_, hw.symm⟩
  rw [he, str_data, itoa_sign]
  show Ending.returned (.tuple #[.string (str (Lib.trimPrefix _ [45])), .bool (Lib.hasPrefix _ [45])]) = _
  by_cases h : c < 0
  · rw [if_pos h, decide_eq_true h]
    unfold Lib.trimPrefix Lib.hasPrefix
    simp [List.isPrefixOf]
  · rw [if_neg h, decide_eq_false h, List.nil_append]
    unfold Lib.trimPrefix
    rw [dec_no_sign]
    simp
theorem noughts_any (k : Nat) (w : World) (h : k ≤ 100) : Calls Tryd.prog 35 #[.string ⟨#[48]⟩, .int .i64 k] w (Gives w (.string (str (noughts k)))) := by
  have := Tryd.strings_Repeat ⟨#[48]⟩ k w (by omega) (by show 1 * k ≤ _; omega)
  rw [show Lib.repeatL (⟨#[48]⟩ : ByteArray).data.toList k = noughts k from noughts_repeat k] at this
  exact this

def point : ByteArray := ⟨#[46]⟩
theorem index_point (x : ByteArray) (W : World) : Calls Tryd.prog 54 #[.string x, .string ⟨#[46]⟩] W fun e w' => e = .returned (.int .i64 (Lib.indexB x point)) ∧ w' = W := by
  have := Tryd.stringslite_Index_one x 46 W
  rw [show Lib.indexByte x.data.toList 46 = Lib.indexB x point from (Lib.index_one x.data.toList 46).symm] at this
  exact this
set_option maxHeartbeats 2000000 in
set_option maxRecDepth 100000 in
theorem cutlite_any (s : ByteArray) (w : World) (hs : s.size ≤ 140737488355328) :
    Calls Tryd.prog 36 #[.string s, .string ⟨#[46]⟩] w fun e w' => e = .returned (.tuple #[.string (str (Lib.cut s.data.toList [46]).1), .string (str (Lib.cut s.data.toList [46]).2.1), .bool (Lib.cut s.data.toList [46]).2.2]) ∧ ∃ n, w' = w.drewN n := by
  rcases Lib.indexB_cases s point with hix | ⟨i, hix, hroom⟩
  · obtain ⟨e1, e2, e3⟩ := Lib.cutB_miss s point hix
    have f1 : str (Lib.cut s.data.toList [46]).1 = _ := e1
    have f2 : str (Lib.cut s.data.toList [46]).2.1 = _ := e2
    have f3 : (Lib.cut s.data.toList [46]).2.2 = _ := e3
    rw [f1, f2, f3]
    clear e1 e2 e3 f1 f2 f3
    have HIX := Lib.hid hix; clear hix
    go_enter Tryd.func36, Tryd.ntmps36
    go_wp2_with (go_at_call 54; (with_reducible refine (index_point s _).mono ?_); rintro e w' ⟨rfl, rfl⟩; rw [HIX.out])
    go_ret3
    exact ⟨rfl, 0, rfl⟩
  · obtain ⟨e1, e2, e3⟩ := Lib.cutB_hit s point i hix
    have f1 : str (Lib.cut s.data.toList [46]).1 = _ := e1
    have f2 : str (Lib.cut s.data.toList [46]).2.1 = _ := e2
    have f3 : (Lib.cut s.data.toList [46]).2.2 = _ := e3
    rw [f1, f2, f3]
    clear e1 e2 e3 f1 f2 f3
    have HIX := Lib.hid hix; clear hix
    have hroom1 : i + 1 ≤ s.size := hroom
    clear hroom
    have c1 : (0 : Int) ≤ (i : Int) := by omega
    have c2 : (i : Int) ≤ (s.size : Int) := by omega
    have c3 : (0 : Int) ≤ (i : Int) + 1 := by omega
    have c4 : (i : Int) + 1 ≤ (s.size : Int) := by omega
    have c5 : IntKind.i64.wrap ((i : Int) + 1) = (i : Int) + 1 := by rw [IntKind.wrap_i64]; omega
    go_enter Tryd.func36, Tryd.ntmps36
    go_wp2_with (go_at_call 54; (with_reducible refine (index_point s _).mono ?_); rintro e w' ⟨rfl, rfl⟩; rw [HIX.out])
    go_region
    go_wp2
    go_ret3
    exact ⟨rfl, 1, rfl⟩
theorem cut_any (s : ByteArray) (w : World) (hs : s.size ≤ 140737488355328) :
    Calls Tryd.prog 16 #[.string s, .string ⟨#[46]⟩] w fun e w' => e = .returned (.tuple #[.string (str (Lib.cut s.data.toList [46]).1), .string (str (Lib.cut s.data.toList [46]).2.1), .bool (Lib.cut s.data.toList [46]).2.2]) ∧ ∃ n, w' = w.drewN n := by
  have HC := Lib.hid (cutlite_any s w hs)
  generalize (str (Lib.cut s.data.toList [46]).1) = a at *
  generalize (str (Lib.cut s.data.toList [46]).2.1) = b at *
  generalize (Lib.cut s.data.toList [46]).2.2 = c at *
  go_enter Tryd.func16, Tryd.ntmps16
  go_wp2_with (go_at_call 36; (with_reducible refine HC.out.mono ?_); rintro e w' ⟨rfl, n, rfl⟩; dsimp only)
  go_ret3
  exact ⟨rfl, n, rfl⟩
theorem cut_size (s : ByteArray) : (str (Lib.cut s.data.toList [46]).1).size + (str (Lib.cut s.data.toList [46]).2.1).size ≤ s.size := by
  rw [ba_size, ba_size, ba_size, str_data, str_data]
  unfold Lib.cut
  split
  · simp only [List.length_take, List.length_drop]; omega
  · simp
end D
end Go.Proofs.YtehocgemgdbikaaDoor

/- The program's Text of a right number: its digits with a point; what lay in memory stays as it was. -/
namespace Go.Proofs.YtehocgemgdbikaaDoor
namespace D
open Go.RowKit

theorem zeros_none (c : Int) (w : World) : Calls Tryd.prog 34 #[.agg #[.int .i64 c, .int .i64 0]] w (Gives w (.string ⟨#[]⟩)) := by
  have hb : Below w.heap.size w (w.alloc (box c 0)) := up_alloc (Below.refl _ _) _
  have C := Lib.hid fun W => noughts_any 0 W (by omega)
  simp only [show str (noughts 0) = ⟨#[]⟩ from rfl, show ((0 : Nat) : Int) = 0 from rfl] at C
  by_cases h : c = 0
  · subst h
    clear C
    go_enter Tryd.func34, Tryd.ntmps34
    go_wp2_with fail
    go_ret
    exact ⟨rfl, hb⟩
  · have h0 : (c == 0) = false := by simpa using h
    go_enter Tryd.func34, Tryd.ntmps34
    go_wp2_with (go_at_call 35; (with_reducible refine (C.out _).mono ?_); rintro e w' ⟨rfl, hb1⟩)
    go_ret
    exact ⟨rfl, up_call hb hb1⟩

set_option maxHeartbeats 4000000 in
set_option maxRecDepth 100000 in
theorem text_pow (c s : Int) (w : World) (h : Right c s) (hs : Pow w) : Calls Tryd.prog 15 #[.agg #[.int .i64 c, .int .i64 s]] w (Gives w (.string (str (text c s.toNat)))) := by
  have CI := Lib.hid fun (W : World) (hW : Below w.heap.size w W) => itoa_pow c W h.2.2.1 h.2.2.2 (hs.later hW)
  have CP := Lib.hid fun W => cutpre_any c W
  have CZ := Lib.hid fun W => zeros_none c W
  have HN := Lib.hid (text_nought c)
  obtain ⟨d0, d1⟩ := digits_size h.2.2.1 h.2.2.2
  have hb0 : Below w.heap.size w (w.alloc (box c s)) := up_alloc (Below.refl _ _) _
  have z0 : (w.alloc (box c s)).cell? ⟨w.heap.size, 0, none⟩ = some (.int .i64 c) := by simp
  have z1 : (w.alloc (box c s)).cell? ⟨w.heap.size, 1, none⟩ = some (.int .i64 s) := by simp
  have hl0 : w.heap.size < (w.alloc (box c s)).heap.size := by simp
  have Z0 := Lib.hid z0
  have Z1 := Lib.hid z1
  have HL := Lib.hid hl0
  have HB := Lib.hid hb0
  obtain ⟨h0, h9, hc0, hc1⟩ := h
  clear hs z0 z1 hl0 hb0
  generalize str (Lib.itoa c) = IT at *
  have HD : Hid ((str (Lib.decDigits c.natAbs)).data.toList = Lib.decDigits c.natAbs) := Lib.hid (str_data _)
  generalize str (Lib.decDigits c.natAbs) = Dg at *
  by_cases hk : s = 0
  · subst hk
    by_cases hc : c < 0
    all_goals
      simp only [hc, decide_true, decide_false] at CP
      go_enter Tryd.func15, Tryd.ntmps15
      go_upto_region 4 with (first
        | (go_at_call 33; (with_reducible refine (CI.out _ HB.out).mono ?_); rintro e w1 ⟨rfl, hb1⟩)
        | (go_at_call 14; (with_reducible refine (CP.out _).mono ?_); rintro e w2 ⟨rfl, rfl⟩; dsimp only))
      have x0 := (hb1.cell (p := ⟨w.heap.size, 0, none⟩) HL.out).trans Z0.out
      have x1 := (hb1.cell (p := ⟨w.heap.size, 1, none⟩) HL.out).trans Z1.out
      have HB1 := Lib.hid (up_call HB.out hb1)
      clear hb1
      go_wp2_with (go_at_call 34; (with_reducible refine (CZ.out _).mono ?_); rintro e w3 ⟨rfl, hb3⟩)
      go_ret
      refine ⟨ret_str ?_, up_call HB1.out hb3⟩
      apply ba_ext
      rw [str_data, show (0 : Int).toNat = 0 from rfl, HN.out]
      simp [sgn, hc, HD.out]
  · obtain ⟨k, rfl⟩ : ∃ k : Nat, s = k := ⟨s.toNat, by omega⟩
    have hk0 : 0 < k := by omega
    have hk9 : k ≤ 9 := by omega
    have hkn : ¬ ((k : Int) ≤ 0) := by omega
    clear CZ HN hk
    have HT : Hid (∀ E Sg : ByteArray, E.data.toList = pad (k + 1) c.natAbs → Sg = str (sgn c) → Sg ++ E.extract 0 (E.size - k) ++ ⟨#[46]⟩ ++ E.extract (E.size - k) E.size = str (text c k)) := Lib.hid fun E Sg => text_end hk0
    have HP : Hid (∀ E : ByteArray, E.data.toList = pad (k + 1) c.natAbs → k + 1 ≤ E.size ∧ E.size ≤ 26) := Lib.hid fun E hE => by
      rw [ba_size, hE]
      unfold pad
      have e1 : (Lib.decDigits c.natAbs).length = Dg.size := by rw [ba_size, HD.out]
      have e2 : Lib.nDigits c.natAbs = Dg.size := by rw [← e1, Lib.decDigits_length]
      rw [List.length_append, e1, e2, noughts, List.length_replicate]
      omega
    rw [show ((k : Int)).toNat = k from rfl]
    by_cases hm : Dg.size ≤ k
    · have hR : ∀ W, Calls Tryd.prog 35 #[.string ⟨#[48]⟩, .int .i64 ((k : Int) + 1 - (Dg.size : Int))] W (Gives W (.string (str (noughts (k + 1 - Dg.size))))) := fun W => by
        have := noughts_any (k + 1 - Dg.size) W (by omega)
        rwa [show ((k + 1 - Dg.size : Nat) : Int) = (k : Int) + 1 - (Dg.size : Int) by omega] at this
      have CR := Lib.hid hR
      clear hR
      have HZ : Hid ((str (noughts (k + 1 - Dg.size)) ++ Dg).data.toList = pad (k + 1) c.natAbs) := Lib.hid (by
        rw [ByteArray.data_append, Array.toList_append, str_data, HD.out]
        unfold pad
        rw [show Lib.nDigits c.natAbs = Dg.size by rw [ba_size, HD.out, Lib.decDigits_length]])
      have hz : (str (noughts (k + 1 - Dg.size))).size ≤ 10 := by rw [ba_size, str_data, noughts, List.length_replicate]; omega
      generalize str (noughts (k + 1 - Dg.size)) = Z at *
      have hzd : ¬ 9223372036854775807 < Z.size + Dg.size := by omega
      have hmi : (Dg.size : Int) ≤ (k : Int) := by omega
      by_cases hc : c < 0
      all_goals
        simp only [hc, decide_true, decide_false] at CP
        have HC := Lib.hid hc
        clear hc
        go_enter Tryd.func15, Tryd.ntmps15
        go_upto_region 4 with (first
          | (go_at_call 33; (with_reducible refine (CI.out _ HB.out).mono ?_); rintro e w1 ⟨rfl, hb1⟩)
          | (go_at_call 14; (with_reducible refine (CP.out _).mono ?_); rintro e w2 ⟨rfl, rfl⟩; dsimp only))
        have x1 := (hb1.cell (p := ⟨w.heap.size, 1, none⟩) HL.out).trans Z1.out
        have HX := Lib.hid x1
        have HB1 := Lib.hid (up_call HB.out hb1)
        have hlt : w.heap.size < w1.heap.size := Nat.lt_of_lt_of_le HL.out hb1.size
        have HLT := Lib.hid hlt
        clear hb1 hlt
        go_upto_region 12 with (go_at_call 35; (with_reducible refine (CR.out _).mono ?_); rintro e w3 ⟨rfl, hb3⟩)
        clear x1
        have x3 := (hb3.cell (p := ⟨w.heap.size, 1, none⟩) HLT.out).trans HX.out
        have HB3 := Lib.hid (up_call HB1.out hb3)
        clear hb3 hzd
        obtain ⟨e1, e2⟩ := HP.out _ HZ.out
        generalize Z ++ Dg = E at *
        have f1 : (k : Int) ≤ (E.size : Int) := by omega
        have f2 : (0 : Int) ≤ (E.size : Int) - (k : Int) := by omega
        have f3 : (E.size : Int) - (k : Int) ≤ (E.size : Int) := by omega
        have f4 : IntKind.i64.wrap ((E.size : Int) - (k : Int)) = (E.size : Int) - (k : Int) := by rw [IntKind.wrap_i64]; omega
        have f5 : ((E.size : Int) - (k : Int)).toNat = E.size - k := by omega
        go_upto_region 13 with fail
        go_quiet (fail)
        go_wp2_with fail
        go_ret
        exact ⟨ret_str (HT.out E _ HZ.out (by simp [sgn, HC.out])), up_drewN HB3.out _⟩
    · have HZ : Hid (Dg.data.toList = pad (k + 1) c.natAbs) := Lib.hid (by
        rw [HD.out]
        unfold pad
        rw [show k + 1 - Lib.nDigits c.natAbs = 0 by rw [show Lib.nDigits c.natAbs = Dg.size by rw [ba_size, HD.out, Lib.decDigits_length]]; omega]
        rfl)
      have hmi : ¬ ((Dg.size : Int) < (k : Int) + 1) := by omega
      by_cases hc : c < 0
      all_goals
        simp only [hc, decide_true, decide_false] at CP
        have HC := Lib.hid hc
        clear hc
        go_enter Tryd.func15, Tryd.ntmps15
        go_upto_region 4 with (first
          | (go_at_call 33; (with_reducible refine (CI.out _ HB.out).mono ?_); rintro e w1 ⟨rfl, hb1⟩)
          | (go_at_call 14; (with_reducible refine (CP.out _).mono ?_); rintro e w2 ⟨rfl, rfl⟩; dsimp only))
        have x1 := (hb1.cell (p := ⟨w.heap.size, 1, none⟩) HL.out).trans Z1.out
        have HB1 := Lib.hid (up_call HB.out hb1)
        clear hb1
        go_upto_region 12 with fail
        obtain ⟨e1, e2⟩ := HP.out _ HZ.out
        have f1 : (k : Int) ≤ (Dg.size : Int) := by omega
        have f2 : (0 : Int) ≤ (Dg.size : Int) - (k : Int) := by omega
        have f3 : (Dg.size : Int) - (k : Int) ≤ (Dg.size : Int) := by omega
        have f4 : IntKind.i64.wrap ((Dg.size : Int) - (k : Int)) = (Dg.size : Int) - (k : Int) := by rw [IntKind.wrap_i64]; omega
        have f5 : ((Dg.size : Int) - (k : Int)).toNat = Dg.size - k := by omega
        go_upto_region 13 with fail
        go_quiet (fail)
        go_wp2_with fail
        go_ret
        exact ⟨ret_str (HT.out Dg _ HZ.out (by simp [sgn, HC.out])), up_drewN HB1.out _⟩
end D
end Go.Proofs.YtehocgemgdbikaaDoor
