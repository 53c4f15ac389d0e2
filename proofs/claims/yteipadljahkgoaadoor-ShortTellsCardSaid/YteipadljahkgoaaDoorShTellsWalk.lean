/- The law ShortTells returns true. -/
import Derived.Test.YteipadljahkgoaaDoorShSays
import Derived.Test.YteipadljahkgoaaDoorShRef
import Derived.Test.YteipadljahkgoaaDoorErrorSame
namespace Go.Proofs.YteipadljahkgoaaDoor
namespace Sh
open Go.RowKit D Ru

theorem parts_room {n u : Int} (h0 : 0 ≤ n) (h1 : n ≤ 1000000000000000) (hu : 1 ≤ u) (hu2 : u ≤ 1000000) : IntKind.i64.wrap (n.tdiv u) = n.tdiv u ∧ IntKind.i64.wrap (n.tmod u) = n.tmod u := by
  have a := Int.tdiv_nonneg h0 (show (0 : Int) ≤ u by omega)
  have b : n.tdiv u ≤ n := by rw [Int.tdiv_eq_ediv_of_nonneg h0]; exact Int.ediv_le_self _ h0
  have c : 0 ≤ n.tmod u := Int.tmod_nonneg _ h0
  have d : n.tmod u < u := Int.tmod_lt_of_pos _ (by omega)
  generalize n.tdiv u = q at *
  generalize n.tmod u = r at *
  exact ⟨by rw [IntKind.wrap_i64]; omega, by rw [IntKind.wrap_i64]; omega⟩
set_option maxHeartbeats 4000000 in
set_option maxRecDepth 100000 in
theorem tells_any (n u : Int) (w : World) (hT : TextOk w) (hP : PartsOk w) (hg : ErrType w) : Calls Tryd.prog 3 #[.int .i64 n, .int .i64 u] w (TrueB w) := by
  have hB0 := Below.refl w.heap.size w
  have CF := Lib.hid (fact_any hT w hB0)
  have CP := Lib.hid (hP n u)
  have E1 := Lib.hid fun (k : Nat) (W : World) (hW : Below w.heap.size w W) => errorSame_any k W (errType_later hg hW)
  by_cases hn : NumOk n
  · have hX : shT n = shortL n.toNat := if_pos hn
    obtain ⟨n0, n1⟩ := hn
    have hn : NumOk n := ⟨n0, n1⟩
    have CR : Hid (∀ W, Calls Tryd.prog 7 #[.int .i64 n] W (Gives W (.string (str (shT n))))) := Lib.hid fun W => by
      have := refShort_any n.toNat W (by omega)
      rwa [show ((n.toNat : Nat) : Int) = n by omega, ← hX] at this
    have CT : Hid (∀ W, Below w.heap.size w W → Calls Tryd.prog 6 #[.int .i64 n] W (TextY W (str (shT n)))) := Lib.hid (by have := hT.yes hn; rwa [← hX] at this)
    have EA := Lib.hid (E1.out 0)
    rw [show errV 0 = .nilIface from rfl, show ((0 : Nat) : Int) = 0 from rfl] at EA
    have a0 : ¬ n < 0 := by omega
    have a1 : ¬ 1000000000000000 < n := by omega
    clear hX
    generalize str (shT n) = X at *
    by_cases hu : UnitOk u
    · obtain ⟨u0, u1⟩ := hu
      have hq : paQ n u = n.tdiv u := if_pos ⟨hn, u0, u1⟩
      have hr : paR n u = n.tmod u := if_pos ⟨hn, u0, u1⟩
      have he : paF n u = 0 := if_pos ⟨hn, u0, u1⟩
      obtain ⟨w1, w2⟩ := parts_room n0 n1 u0 u1
      have q1 : n / u = n.tdiv u := (Int.tdiv_eq_ediv_of_nonneg n0).symm
      have q2 : n % u = n.tmod u := (Int.tmod_eq_emod_of_nonneg n0).symm
      rw [hq, hr, he, show errV 0 = .nilIface from rfl] at CP
      have b0 : ¬ u < 1 := by omega
      have b1 : ¬ 1000000 < u := by omega
      have b2 : (u == 0) = false := by rw [beq_eq_false_iff_ne]; omega
      have b3 : ¬ u = 0 := by omega
      clear hq hr he hT hP hg hn n0 n1 u0 u1
      generalize h1 : n.tdiv u = Q at *
      generalize h2 : n.tmod u = R at *
      go_enter Tryd.func3, Tryd.ntmps3
      go_upto_region 7 with (first
        | (go_at_call 6; (with_reducible refine (CF.out).mono ?_); rintro e w1 ⟨rfl, hb1⟩; dsimp only)
        | (go_at_call 7; (with_reducible refine (CR.out _).mono ?_); rintro e w2 ⟨rfl, hb2⟩; (have hB2 := bel_call hb1 hb2); dsimp only))
      go_upto_region 8 with (go_at_call 6; (with_reducible refine (CT.out _ hB2).mono ?_); rintro e w3 ⟨rfl, hb3⟩; (have hB3 := bel_call hB2 hb3); dsimp only)
      go_upto_region 16 with (go_at_call 8; (with_reducible refine (EA.out _ hB3).mono ?_); rintro e w4 ⟨rfl, hb4⟩; (have hB4 := bel_call hB3 hb4); dsimp only)
      go_upto_region 17 with (go_at_call 9; (with_reducible refine (CP.out _ hB4).mono ?_); rintro e w5 ⟨rfl, hb5⟩; (have hB5 := bel_call hB4 hb5); dsimp only)
      go_upto_region 18 with (go_at_call 8; (with_reducible refine (EA.out _ hB5).mono ?_); rintro e w6 ⟨rfl, hb6⟩; (have hB6 := bel_call hB5 hb6); dsimp only)
      go_wp2_with fail
      go_ret
      exact ⟨rfl, hB6⟩
    · have hq : paQ n u = 0 := if_neg fun h => hu h.2
      have hr : paR n u = 0 := if_neg fun h => hu h.2
      have he : paF n u = 1 := if_neg fun h => hu h.2
      rw [hq, hr, he, show errV 1 = .iface 26 (.int .i64 1) from rfl] at CP
      have EB := Lib.hid (E1.out 1)
      rw [show errV 1 = .iface 26 (.int .i64 1) from rfl, show ((1 : Nat) : Int) = 1 from rfl] at EB
      have hor : u < 1 ∨ 1 ≤ u ∧ 1000000 < u := by unfold UnitOk at hu; omega
      clear hq hr he hT hP hg hn n0 n1 hu
      rcases hor with b0 | ⟨b0, b1⟩
      · go_enter Tryd.func3, Tryd.ntmps3
        go_upto_region 7 with (first
          | (go_at_call 6; (with_reducible refine (CF.out).mono ?_); rintro e w1 ⟨rfl, hb1⟩; dsimp only)
          | (go_at_call 7; (with_reducible refine (CR.out _).mono ?_); rintro e w2 ⟨rfl, hb2⟩; (have hB2 := bel_call hb1 hb2); dsimp only))
        go_upto_region 8 with (go_at_call 6; (with_reducible refine (CT.out _ hB2).mono ?_); rintro e w3 ⟨rfl, hb3⟩; (have hB3 := bel_call hB2 hb3); dsimp only)
        go_upto_region 16 with (go_at_call 8; (with_reducible refine (EA.out _ hB3).mono ?_); rintro e w4 ⟨rfl, hb4⟩; (have hB4 := bel_call hB3 hb4); dsimp only)
        go_upto_region 17 with (go_at_call 9; (with_reducible refine (CP.out _ hB4).mono ?_); rintro e w5 ⟨rfl, hb5⟩; (have hB5 := bel_call hB4 hb5); dsimp only)
        go_upto_region 18 with (go_at_call 8; (with_reducible refine (EB.out _ hB5).mono ?_); rintro e w6 ⟨rfl, hb6⟩; (have hB6 := bel_call hB5 hb6); dsimp only)
        go_wp2_with fail
        go_ret
        exact ⟨rfl, hB6⟩
      · have b0' : ¬ u < 1 := by omega
        go_enter Tryd.func3, Tryd.ntmps3
        go_upto_region 7 with (first
          | (go_at_call 6; (with_reducible refine (CF.out).mono ?_); rintro e w1 ⟨rfl, hb1⟩; dsimp only)
          | (go_at_call 7; (with_reducible refine (CR.out _).mono ?_); rintro e w2 ⟨rfl, hb2⟩; (have hB2 := bel_call hb1 hb2); dsimp only))
        go_upto_region 8 with (go_at_call 6; (with_reducible refine (CT.out _ hB2).mono ?_); rintro e w3 ⟨rfl, hb3⟩; (have hB3 := bel_call hB2 hb3); dsimp only)
        go_upto_region 16 with (go_at_call 8; (with_reducible refine (EA.out _ hB3).mono ?_); rintro e w4 ⟨rfl, hb4⟩; (have hB4 := bel_call hB3 hb4); dsimp only)
        go_upto_region 17 with (go_at_call 9; (with_reducible refine (CP.out _ hB4).mono ?_); rintro e w5 ⟨rfl, hb5⟩; (have hB5 := bel_call hB4 hb5); dsimp only)
        go_upto_region 18 with (go_at_call 8; (with_reducible refine (EB.out _ hB5).mono ?_); rintro e w6 ⟨rfl, hb6⟩; (have hB6 := bel_call hB5 hb6); dsimp only)
        go_wp2_with fail
        go_ret
        exact ⟨rfl, hB6⟩
  · have hq : paQ n u = 0 := if_neg fun h => hn h.1
    have hr : paR n u = 0 := if_neg fun h => hn h.1
    have he : paF n u = 1 := if_neg fun h => hn h.1
    rw [hq, hr, he, show errV 1 = .iface 26 (.int .i64 1) from rfl] at CP
    have CN : Hid (∀ W, Below w.heap.size w W → Calls Tryd.prog 6 #[.int .i64 n] W (TextN W 1)) := Lib.hid (hT.no hn)
    have EB := Lib.hid (E1.out 1)
    rw [show errV 1 = .iface 26 (.int .i64 1) from rfl, show ((1 : Nat) : Int) = 1 from rfl] at EB
    have hor : n < 0 ∨ 0 ≤ n ∧ 1000000000000000 < n := by unfold NumOk at hn; omega
    clear hq hr he hT hP hg hn
    rcases hor with b0 | ⟨b0, b1⟩
    · go_enter Tryd.func3, Tryd.ntmps3
      go_upto_region 7 with (go_at_call 6; (with_reducible refine (CF.out).mono ?_); rintro e w1 ⟨rfl, hb1⟩; dsimp only)
      go_upto_region 8 with (go_at_call 6; (with_reducible refine (CN.out _ hb1).mono ?_); rintro e w3 ⟨rfl, hb3⟩; (have hB3 := bel_call hb1 hb3); dsimp only)
      go_upto_region 16 with (go_at_call 8; (with_reducible refine (EB.out _ hB3).mono ?_); rintro e w4 ⟨rfl, hb4⟩; (have hB4 := bel_call hB3 hb4); dsimp only)
      go_upto_region 17 with (go_at_call 9; (with_reducible refine (CP.out _ hB4).mono ?_); rintro e w5 ⟨rfl, hb5⟩; (have hB5 := bel_call hB4 hb5); dsimp only)
      go_upto_region 18 with (go_at_call 8; (with_reducible refine (EB.out _ hB5).mono ?_); rintro e w6 ⟨rfl, hb6⟩; (have hB6 := bel_call hB5 hb6); dsimp only)
      go_wp2_with fail
      go_ret
      exact ⟨rfl, hB6⟩
    · have b0' : ¬ n < 0 := by omega
      go_enter Tryd.func3, Tryd.ntmps3
      go_upto_region 7 with (go_at_call 6; (with_reducible refine (CF.out).mono ?_); rintro e w1 ⟨rfl, hb1⟩; dsimp only)
      go_upto_region 8 with (go_at_call 6; (with_reducible refine (CN.out _ hb1).mono ?_); rintro e w3 ⟨rfl, hb3⟩; (have hB3 := bel_call hb1 hb3); dsimp only)
      go_upto_region 16 with (go_at_call 8; (with_reducible refine (EB.out _ hB3).mono ?_); rintro e w4 ⟨rfl, hb4⟩; (have hB4 := bel_call hB3 hb4); dsimp only)
      go_upto_region 17 with (go_at_call 9; (with_reducible refine (CP.out _ hB4).mono ?_); rintro e w5 ⟨rfl, hb5⟩; (have hB5 := bel_call hB4 hb5); dsimp only)
      go_upto_region 18 with (go_at_call 8; (with_reducible refine (EB.out _ hB5).mono ?_); rintro e w6 ⟨rfl, hb6⟩; (have hB6 := bel_call hB5 hb6); dsimp only)
      go_wp2_with fail
      go_ret
      exact ⟨rfl, hB6⟩
end Sh
end Go.Proofs.YteipadljahkgoaaDoor
