/- The law NpatBack returns true. -/
import Derived.Test.YtonbjfepckolnaaDoorNpSays
namespace Go.Proofs.YtonbjfepckolnaaDoor
namespace Np
open Go.RowKit D Ru

set_option maxHeartbeats 8000000 in
set_option maxRecDepth 100000 in
theorem back_any (N : Nat) (p : PatV) (s : List UInt8) (w : World) (hT : TextOk N w) (hP : ParseOk N w) (h28 : 28 ≤ N) (h1 : p.pre.length ≤ N) (h2 : p.suf.length ≤ N) (hs : s.length ≤ N) :
    Calls Tryd.prog 4 #[patV p, .string (str s)] w (TrueB w) := by
  have HB0 : Hid (Bs w _ [_]) := Lib.hid (bs_one w (patC p) 23)
  have CF := Lib.hid (fact_any hT)
  have HT : (∃ T : ByteArray, Hid (∀ W, Below w.heap.size w W → Calls Tryd.prog 10 #[patV p] W (TextY W T)) ∧ Hid (∀ W, Below w.heap.size w W → Calls Tryd.prog 12 #[.string T] W (Gives W (.tuple #[patV p, .nilIface])))) ∨
      ∃ k : Nat, Hid (∀ W, Below w.heap.size w W → Calls Tryd.prog 10 #[patV p] W (TextN W k)) := by
    by_cases hf : patF p = 0
    · exact .inl ⟨_, Lib.hid (hT.yes h1 h2 hf), Lib.hid (hP.yes (by have := text_len hf; omega) (patO_some.2 ⟨hf, rfl⟩))⟩
    · exact .inr ⟨_, Lib.hid (hT.no h1 h2 hf)⟩
  have HP : (∃ q : PatV, Hid (∀ W, Below w.heap.size w W → Calls Tryd.prog 12 #[.string (str s)] W (Gives W (.tuple #[patV q, .nilIface]))) ∧ Hid (∀ W, Below w.heap.size w W → Calls Tryd.prog 10 #[patV q] W (TextY W (str s)))) ∨
      Hid (∀ W, Below w.heap.size w W → Calls Tryd.prog 12 #[.string (str s)] W (Gives W (.tuple #[.agg #[.string ⟨#[]⟩, .string ⟨#[]⟩, .int .i64 0, .int .i64 0, .int .i64 0, .int .i64 0, .int .i64 0], .iface 25 (.int .i64 3)]))) := by
    cases hp : patO s with
    | none => exact .inr (Lib.hid (hP.no hs hp))
    | some q =>
      obtain ⟨hq1, hq2⟩ := patO_some.1 hp
      obtain ⟨_, _, _, a1, a2, _⟩ := text_parts hq1
      have := hT.yes (p := q) (by have := a1.1; omega) (by have := a2.1; omega) hq1
      rw [hq2] at this
      exact .inl ⟨q, Lib.hid (hP.yes hs hp), Lib.hid this⟩
  clear hT hP h28 h1 h2 hs
  obtain ⟨pre, suf, a, b, m, g, g2⟩ := p
  generalize str s = S at *
  dsimp only [patV, patC] at HT HB0
  dsimp only [patV, patC]
  generalize str pre = PR at *
  generalize str suf = SU at *
  have hb0 := HB0.out.below
  rcases HP with ⟨⟨qpre, qsuf, qa, qb, qm, qg, qg2⟩, CP, CT⟩ | CP
  · dsimp only [patV, patC] at CP CT
    generalize str qpre = QR at *
    generalize str qsuf = QS at *
    go_enter Tryd.func4, Tryd.ntmps4
    go_upto_region 2 with (go_at_call 5; (with_reducible refine (CF.out _ hb0).mono ?_); rintro e w1 ⟨rfl, hb1⟩; dsimp only)
    have H1 := Lib.hid (HB0.out.call hb1)
    have hB1 := H1.out.below
    go_upto_region 3 with (go_at_call 12; (with_reducible refine (CP.out _ hB1).mono ?_); rintro e w2 ⟨rfl, hb2⟩; dsimp only)
    have H2 := Lib.hid ((H1.out.call hb2).alloc [.string QR, .string QS, .int .i64 qa, .int .i64 qb, .int .i64 qm, .int .i64 qg, .int .i64 qg2] 23)
    have hB2 := H2.out.below
    obtain ⟨q0, q1, q2, q3, q4, q5, q6, -⟩ := H2.out.cells
    go_upto_region 9 with (go_at_call 10; (with_reducible refine (CT.out _ hB2).mono ?_); rintro e w3 ⟨rfl, hb3⟩; dsimp only)
    have H3 := Lib.hid (H2.out.call hb3)
    clear q0 q1 q2 q3 q4 q5 q6
    · obtain ⟨-, -, -, -, -, -, -, d0, d1, d2, d3, d4, d5, d6, -⟩ := H3.out.cells
      have hB := H3.out.below
      rcases HT with ⟨T, CT1, CP1⟩ | ⟨k, CT1⟩
      · go_upto_region 10 with (go_at_call 10; (with_reducible refine (CT1.out _ hB).mono ?_); rintro e w5 ⟨rfl, hb5⟩; dsimp only)
        have H5 := Lib.hid (H3.out.call hb5)
        have hB5 := H5.out.below
        clear d0 d1 d2 d3 d4 d5 d6
        go_upto_region 13 with (go_at_call 12; (with_reducible refine (CP1.out _ hB5).mono ?_); rintro e w6 ⟨rfl, hb6⟩; dsimp only)
        have H6 := Lib.hid ((H5.out.call hb6).alloc [.string PR, .string SU, .int .i64 a, .int .i64 b, .int .i64 m, .int .i64 g, .int .i64 g2] 23)
        obtain ⟨x0, x1, x2, x3, x4, x5, x6, -, -, -, -, -, -, -, d0, d1, d2, d3, d4, d5, d6, -⟩ := H6.out.cells
        go_wp2_with fail
        go_ret
        exact ⟨rfl, H6.out.below⟩
      · go_wp2_with (go_at_call 10; (with_reducible refine (CT1.out _ hB).mono ?_); rintro e w5 ⟨rfl, hb5⟩; dsimp only)
        go_ret
        exact ⟨rfl, bel_call hB hb5⟩

  · go_enter Tryd.func4, Tryd.ntmps4
    go_upto_region 2 with (go_at_call 5; (with_reducible refine (CF.out _ hb0).mono ?_); rintro e w1 ⟨rfl, hb1⟩; dsimp only)
    have H1 := Lib.hid (HB0.out.call hb1)
    have hB1 := H1.out.below
    go_upto_region 3 with (go_at_call 12; (with_reducible refine (CP.out _ hB1).mono ?_); rintro e w2 ⟨rfl, hb2⟩; dsimp only)
    have H2 := Lib.hid ((H1.out.call hb2).alloc [.string ⟨#[]⟩, .string ⟨#[]⟩, .int .i64 0, .int .i64 0, .int .i64 0, .int .i64 0, .int .i64 0] 23)
    have hB2 := H2.out.below
    go_upto_region 9 with fail
    · obtain ⟨-, -, -, -, -, -, -, d0, d1, d2, d3, d4, d5, d6, -⟩ := H2.out.cells
      have hB := H2.out.below
      rcases HT with ⟨T, CT1, CP1⟩ | ⟨k, CT1⟩
      · go_upto_region 10 with (go_at_call 10; (with_reducible refine (CT1.out _ hB).mono ?_); rintro e w5 ⟨rfl, hb5⟩; dsimp only)
        have H5 := Lib.hid (H2.out.call hb5)
        have hB5 := H5.out.below
        clear d0 d1 d2 d3 d4 d5 d6
        go_upto_region 13 with (go_at_call 12; (with_reducible refine (CP1.out _ hB5).mono ?_); rintro e w6 ⟨rfl, hb6⟩; dsimp only)
        have H6 := Lib.hid ((H5.out.call hb6).alloc [.string PR, .string SU, .int .i64 a, .int .i64 b, .int .i64 m, .int .i64 g, .int .i64 g2] 23)
        obtain ⟨x0, x1, x2, x3, x4, x5, x6, -, -, -, -, -, -, -, d0, d1, d2, d3, d4, d5, d6, -⟩ := H6.out.cells
        go_wp2_with fail
        go_ret
        exact ⟨rfl, H6.out.below⟩
      · go_wp2_with (go_at_call 10; (with_reducible refine (CT1.out _ hB).mono ?_); rintro e w5 ⟨rfl, hb5⟩; dsimp only)
        go_ret
        exact ⟨rfl, bel_call hB hb5⟩

end Np
end Go.Proofs.YtonbjfepckolnaaDoor
