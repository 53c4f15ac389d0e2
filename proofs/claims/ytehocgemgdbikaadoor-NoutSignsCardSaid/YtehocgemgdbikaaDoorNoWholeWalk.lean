/- The law NoutWhole returns true. -/
import Derived.Test.YtehocgemgdbikaaDoorNoBackMath
import Derived.Test.YtehocgemgdbikaaDoorGrPut
import Derived.Test.YtehocgemgdbikaaDoorDecSize
import Derived.Test.YtehocgemgdbikaaDoorRefDigits
namespace Go.Proofs.YtehocgemgdbikaaDoor
namespace No
open Go.RowKit D Ru Np

theorem whole_text {g g2 n : Int} (h : fmtF (wholeP g g2) 46 44 n 0 = 0) :
    shownL (wholeP g g2) 46 44 (fitI (wholeP g g2) n (0 : Int).toNat).1 (fitI (wholeP g g2) n (0 : Int).toNat).2 = (if n < 0 then [45] else []) ++ Gr.putT (Lib.decDigits n.natAbs) g g2 44 ∧ Gr.putF (Lib.decDigits n.natAbs) g g2 44 = 0 ∧ n.natAbs ≤ 1000000000000000 := by
  obtain ⟨hb, hr⟩ := fmt_zero h
  obtain ⟨hp, -⟩ := base_zero hb
  obtain ⟨-, -, -, -, -, hg, hg2⟩ := pat_parts hp
  have hz : Gr.putF (Lib.decDigits n.natAbs) g g2 44 = 0 := Gr.putF_zero.2 ⟨⟨⟨dec_ne _, dec_digs _⟩, by decide⟩, hg, hg2⟩
  rw [show (0 : Int).toNat = 0 from rfl, whole_fit, whole_shown, Gr.putT_zero hz]
  exact ⟨rfl, hz, by have := hr.2.2; omega⟩
set_option maxHeartbeats 8000000 in
set_option maxRecDepth 100000 in
theorem whole_any (N : Nat) (n g g2 : Int) (w : World) (hF : FormatOk N w) (hG : Gr.PutOk N w) (hN : 20 ≤ N) : Calls Tryd.prog 5 #[.int .i64 n, .int .i64 g, .int .i64 g2] w (TrueB w) := by
  have CG : Hid (∀ W, Below w.heap.size w W → Calls Tryd.prog 9 #[.string ⟨#[49, 50, 51, 52, 53]⟩, .int .i64 3, .int .i64 0, .int .u8 44] W (TextY W ⟨#[49, 50, 44, 51, 52, 53]⟩)) := Lib.hid fun W hW => Gr.fact_calls hG (by omega) W hW
  have HB0 : Hid (Bs w _ [_]) := Lib.hid (bs_one w (symC 46 44) 25)
  by_cases hf : fmtF (wholeP g g2) 46 44 n 0 = 0
  · have CF := hF.yes (N := N) (Nat.zero_le _) (Nat.zero_le _) hf
    obtain ⟨e1, e2, hn⟩ := whole_text hf
    rw [e1] at CF
    have CF := Lib.hid CF
    have CP := Lib.hid (hG.putY (l := Lib.decDigits n.natAbs) (Nat.le_trans (dec_short hn) (by omega)) e2)
    have CS := Lib.hid fun W => refSize_any n W (by omega) (by omega)
    have CD : Hid (∀ W, Calls Tryd.prog 10 #[.int .i64 (n.natAbs : Int), .int .i64 0] W (Gives W (.string (str (Lib.decDigits n.natAbs))))) := Lib.hid fun W => by
      have := refDigits_any n.natAbs 0 W (by omega) (by omega)
      rwa [pad_zero] at this
    have hpl : (Gr.putT (Lib.decDigits n.natAbs) g g2 44).length ≤ 40 := by
      have := Gr.grouped_le 44 g.toNat g2.toNat (Lib.decDigits n.natAbs)
      have := dec_short hn
      rw [Gr.putT_zero e2]; omega
    have hps : (str (Gr.putT (Lib.decDigits n.natAbs) g g2 44)).size ≤ 40 := by rw [D.ba_size, str_data]; exact hpl
    have HM : Hid (∀ l : List UInt8, str ([45] ++ l) = ⟨#[45]⟩ ++ str l) := Lib.hid fun l => (add_str [45] l).symm
    clear hF hG hf e1 e2 hpl
    generalize Gr.putT (Lib.decDigits n.natAbs) g g2 44 = GT at *
    generalize str (Lib.decDigits n.natAbs) = DD at *
    dsimp only [patV, patC, symV, symC, wholeP] at HB0 CF
    simp only [show ((46 : UInt8).toNat : Int) = 46 from rfl, show ((44 : UInt8).toNat : Int) = 44 from rfl] at HB0 CF CP
    have hb0 := HB0.out.below
    obtain ⟨d0, d1, -⟩ := HB0.out.cells
    by_cases hn0 : n < 0
    · rw [if_pos hn0, HM.out] at CF
      have ha : ¬ 9223372036854775807 < 1 + (str GT).size := by omega
      generalize str GT = GS at *
      go_enter Tryd.func5, Tryd.ntmps5
      go_upto_region 8 with (first
        | (go_at_call 7; (with_reducible refine (CF.out _ hb0).mono ?_); rintro e w1 ⟨rfl, hb1⟩; (have H1 := Lib.hid (HB0.out.call hb1)); (have hB1 := H1.out.below); dsimp only)
        | (go_at_call 9; (with_reducible refine (CG.out _ hB1).mono ?_); rintro e w2 ⟨rfl, hb2⟩; (have H2 := Lib.hid (H1.out.call hb2)); (have hB2 := H2.out.below); dsimp only))
      go_wp2_with (first
        | (go_at_call 11; (with_reducible refine (CS.out _).mono ?_); rintro e w3 ⟨rfl, rfl⟩; dsimp only)
        | (go_at_call 10; (with_reducible refine (CD.out _).mono ?_); rintro e w4 ⟨rfl, hb4⟩; (have H4 := Lib.hid (H2.out.call hb4)); (have hB4 := H4.out.below); dsimp only)
        | (go_at_call 9; (with_reducible refine (CP.out _ hB4).mono ?_); rintro e w5 ⟨rfl, hb5⟩; dsimp only))
      go_ret
      exact ⟨rfl, (H4.out.call hb5).below⟩
    · rw [if_neg hn0, List.nil_append] at CF
      generalize str GT = GS at *
      go_enter Tryd.func5, Tryd.ntmps5
      go_upto_region 8 with (first
        | (go_at_call 7; (with_reducible refine (CF.out _ hb0).mono ?_); rintro e w1 ⟨rfl, hb1⟩; (have H1 := Lib.hid (HB0.out.call hb1)); (have hB1 := H1.out.below); dsimp only)
        | (go_at_call 9; (with_reducible refine (CG.out _ hB1).mono ?_); rintro e w2 ⟨rfl, hb2⟩; (have H2 := Lib.hid (H1.out.call hb2)); (have hB2 := H2.out.below); dsimp only))
      go_wp2_with (first
        | (go_at_call 11; (with_reducible refine (CS.out _).mono ?_); rintro e w3 ⟨rfl, rfl⟩; dsimp only)
        | (go_at_call 10; (with_reducible refine (CD.out _).mono ?_); rintro e w4 ⟨rfl, hb4⟩; (have H4 := Lib.hid (H2.out.call hb4)); (have hB4 := H4.out.below); dsimp only)
        | (go_at_call 9; (with_reducible refine (CP.out _ hB4).mono ?_); rintro e w5 ⟨rfl, hb5⟩; dsimp only))
      go_ret
      exact ⟨rfl, (H4.out.call hb5).below⟩
  · have CF := Lib.hid (hF.no (N := N) (Nat.zero_le _) (Nat.zero_le _) hf)
    clear hF hG hf
    generalize fmtF (wholeP g g2) 46 44 n 0 = F at *
    dsimp only [patV, patC, symV, symC, wholeP] at HB0 CF
    simp only [show ((46 : UInt8).toNat : Int) = 46 from rfl, show ((44 : UInt8).toNat : Int) = 44 from rfl] at HB0 CF
    have hb0 := HB0.out.below
    obtain ⟨d0, d1, -⟩ := HB0.out.cells
    go_enter Tryd.func5, Tryd.ntmps5
    go_wp2_with (first
      | (go_at_call 7; (with_reducible refine (CF.out _ hb0).mono ?_); rintro e w1 ⟨rfl, hb1⟩; (have H1 := Lib.hid (HB0.out.call hb1)); (have hB1 := H1.out.below); dsimp only)
      | (go_at_call 9; (with_reducible refine (CG.out _ hB1).mono ?_); rintro e w2 ⟨rfl, hb2⟩; (have H2 := Lib.hid (H1.out.call hb2)); (have hB2 := H2.out.below); dsimp only))
    go_ret
    exact ⟨rfl, hB2⟩
end No
end Go.Proofs.YtehocgemgdbikaaDoor
