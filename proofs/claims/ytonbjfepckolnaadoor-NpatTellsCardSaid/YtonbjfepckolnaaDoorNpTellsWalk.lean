/- The law NpatTells returns true. -/
import Derived.Test.YtonbjfepckolnaaDoorNpSays
import Derived.Test.YtonbjfepckolnaaDoorNpRefOf
import Derived.Test.YtonbjfepckolnaaDoorErrorSame
namespace Go.Proofs.YtonbjfepckolnaaDoor
namespace Np
open Go.RowKit D Ru

/-- Check, behind whatever call of a law's own -/
def CheckOk (N : Nat) (w : World) : Prop := ∀ (p : PatV) (W : World), Below w.heap.size w W → p.pre.length ≤ N → p.suf.length ≤ N → Calls Tryd.prog 8 #[patV p] W (Gives W (errV (patF p)))
set_option maxHeartbeats 8000000 in
set_option maxRecDepth 100000 in
theorem tells_any (N : Nat) (p : PatV) (s : List UInt8) (w : World) (hC : CheckOk N w) (hT : TextOk N w) (hP : ParseOk N w) (hg : ErrType w) (hN : N ≤ 140737488355328) (h1 : p.pre.length ≤ N) (h2 : p.suf.length ≤ N) (hs : s.length ≤ N) :
    Calls Tryd.prog 3 #[patV p, .string (str s)] w (TrueB w) := by
  have HB0 : Hid (Bs w _ [_]) := Lib.hid (bs_one w (patC p) 23)
  have CF := Lib.hid (fact_any hT)
  have CFA := Lib.hid fun W => refPatFault_any p W (by unfold maxLen; omega) (by unfold maxLen; omega)
  have CC := Lib.hid fun W (hW : Below w.heap.size w W) => hC p W hW h1 h2
  have CT : Hid (∀ W, Below w.heap.size w W → Calls Tryd.prog 10 #[patV p] W (Gives W (.tuple #[.string (str (patX p)), errV (patF p)]))) := Lib.hid fun W hW => hT p W hW h1 h2
  have CX : Hid (patF p = 0 → ∀ W, Calls Tryd.prog 9 #[patV p] W (Gives W (.string (str (patX p))))) := Lib.hid fun h W => by
    rw [show patX p = patT p from if_pos h]; exact refPatText_any p W h
  have HX : Hid (patF p ≠ 0 → str (patX p) = ⟨#[]⟩) := Lib.hid fun h => by rw [show patX p = [] from if_neg h]
  have E1 := Lib.hid fun W (hW : Below w.heap.size w W) => errorSame_any (patF p) W (errType_later hg hW)
  have E2 := Lib.hid fun W (hW : Below w.heap.size w W) => errorSame_any (patE s) W (errType_later hg hW)
  have CO := Lib.hid fun W => refPatOf_any s W (by omega)
  have CP := Lib.hid fun W (hW : Below w.heap.size w W) => hP s W hW hs
  have HE : Hid (patE s = if (patO s).isSome then 0 else 3) := Lib.hid rfl
  clear hC hT hP hg h1 h2 hs hN
  unfold OfP at CO
  generalize patO s = o at *
  generalize (o.getD zeroP) = q at *
  generalize patE s = F2 at *
  generalize patF p = F at *
  generalize patX p = X at *
  obtain ⟨pre, suf, a, b, m, g, g2⟩ := p
  obtain ⟨qpre, qsuf, qa, qb, qm, qg, qg2⟩ := q
  dsimp only [patV, patC] at HB0 CFA CC CT CX CO CP
  dsimp only [patV, patC]
  generalize str pre = PR at *
  generalize str suf = SU at *
  generalize str qpre = QR at *
  generalize str qsuf = QS at *
  generalize str X = XX at *
  generalize str s = S at *
  have hb0 := HB0.out.below
  go_enter Tryd.func3, Tryd.ntmps3
  go_upto_region 2 with (go_at_call 5; (with_reducible refine (CF.out _ hb0).mono ?_); rintro e w1 ⟨rfl, hb1⟩; dsimp only)
  have H1 := Lib.hid (HB0.out.call hb1)
  have hB1 := H1.out.below
  obtain ⟨d0, d1, d2, d3, d4, d5, d6, -⟩ := H1.out.cells
  go_upto_region 3 with (go_at_call 6; (with_reducible refine (CFA.out _).mono ?_); rintro e w2 ⟨rfl, hb2⟩; dsimp only)
  have H2 := Lib.hid (H1.out.call hb2)
  have hB2 := H2.out.below
  clear d0 d1 d2 d3 d4 d5 d6
  obtain ⟨d0, d1, d2, d3, d4, d5, d6, -⟩ := H2.out.cells
  generalize hev : errV F = ev at *
  generalize hfi : (F : Int) = fi at *
  generalize hf2 : (F2 : Int) = f2 at *
  generalize errV F2 = ev2 at *
  go_upto_region 4 with (first
    | (go_at_call 8; (with_reducible refine (CC.out _ hB2).mono ?_); rintro e w3 ⟨rfl, hb3⟩; (have H3 := Lib.hid (H2.out.call hb3)); (have hB3 := H3.out.below); dsimp only)
    | (go_at_call 7; (with_reducible refine (E1.out _ hB3).mono ?_); rintro e w4 ⟨rfl, hb4⟩; (have H4 := Lib.hid (H3.out.call hb4)); (have hB4 := H4.out.below); dsimp only))
  clear d0 d1 d2 d3 d4 d5 d6
  obtain ⟨d0, d1, d2, d3, d4, d5, d6, -⟩ := H4.out.cells
  go_upto_if 25 with fail
  go_cut [8] (fun s8 wx => s8 = .string XX ∧ ∃ V, Hid (Bs w V [(w.heap.size, [.string PR, .string SU, .int .i64 a, .int .i64 b, .int .i64 m, .int .i64 g, .int .i64 g2])]) ∧ V = wx)
  case first =>
    by_cases h0 : F = 0
    · have CX1 := Lib.hid (CX.out h0)
      subst h0
      subst hfi
      go_wp2_with (go_at_call 9; (with_reducible refine (CX1.out _).mono ?_); rintro e w5 ⟨rfl, hb5⟩; dsimp only)
      go_meet
      exact ⟨rfl, _, Lib.hid (H4.out.call hb5), rfl⟩
    · have hx := HX.out h0
      subst hx
      have hz : (fi == 0) = false := by rw [beq_eq_false_iff_ne]; omega
      clear h0 hfi
      go_wp2_with fail
      go_meet
      exact ⟨rfl, _, H4, rfl⟩
  case rest =>
    obtain ⟨rfl, V5, H5, rfl⟩ := hcut
    clear d0 d1 d2 d3 d4 d5 d6
    have hB5 := H5.out.below
    obtain ⟨d0, d1, d2, d3, d4, d5, d6, -⟩ := H5.out.cells
    go_upto_region 8 with (go_at_call 10; (with_reducible refine (CT.out _ hB5).mono ?_); rintro e w6 ⟨rfl, hb6⟩; dsimp only)
    have H6 := Lib.hid (H5.out.call hb6)
    have hB6 := H6.out.below
    clear d0 d1 d2 d3 d4 d5 d6
    go_upto_region 9 with (go_at_call 7; (with_reducible refine (E1.out _ hB6).mono ?_); rintro e w7 ⟨rfl, hb7⟩; dsimp only)
    have H7 := Lib.hid (H6.out.call hb7)
    have hB7 := H7.out.below
    cases ho : o.isSome
    · have he := HE.out
      rw [ho] at he CO
      rw [if_neg (by decide)] at he
      obtain rfl : f2 = 3 := by omega
      clear ho hf2 he
      go_upto_region 10 with (go_at_call 11; (with_reducible refine (CO.out _).mono ?_); rintro e w8 ⟨rfl, hb8⟩; dsimp only)
      have H8 := Lib.hid ((H7.out.call hb8).alloc [.string QR, .string QS, .int .i64 qa, .int .i64 qb, .int .i64 qm, .int .i64 qg, .int .i64 qg2] 23)
      have hB8 := H8.out.below
      go_upto_region 13 with fail
      go_upto_region 14 with (go_at_call 12; (with_reducible refine (CP.out _ hB8).mono ?_); rintro e w9 ⟨rfl, hb9⟩; dsimp only)
      have H9 := Lib.hid ((H8.out.call hb9).alloc [.string QR, .string QS, .int .i64 qa, .int .i64 qb, .int .i64 qm, .int .i64 qg, .int .i64 qg2] 23)
      have hB9 := H9.out.below
      go_upto_region 15 with (go_at_call 7; (with_reducible refine (E2.out _ hB9).mono ?_); rintro e w10 ⟨rfl, hb10⟩; dsimp only)
      have H10 := Lib.hid (H9.out.call hb10)
      obtain ⟨y0, y1, y2, y3, y4, y5, y6, x0, x1, x2, x3, x4, x5, x6, -⟩ := H10.out.cells
      go_wp2_with fail
      go_ret
      exact ⟨rfl, H10.out.below⟩
    · have he := HE.out
      rw [ho] at he CO
      rw [if_pos rfl] at he
      obtain rfl : f2 = 0 := by omega
      clear ho hf2 he
      go_upto_region 10 with (go_at_call 11; (with_reducible refine (CO.out _).mono ?_); rintro e w8 ⟨rfl, hb8⟩; dsimp only)
      have H8 := Lib.hid ((H7.out.call hb8).alloc [.string QR, .string QS, .int .i64 qa, .int .i64 qb, .int .i64 qm, .int .i64 qg, .int .i64 qg2] 23)
      have hB8 := H8.out.below
      go_upto_region 13 with fail
      go_upto_region 14 with (go_at_call 12; (with_reducible refine (CP.out _ hB8).mono ?_); rintro e w9 ⟨rfl, hb9⟩; dsimp only)
      have H9 := Lib.hid ((H8.out.call hb9).alloc [.string QR, .string QS, .int .i64 qa, .int .i64 qb, .int .i64 qm, .int .i64 qg, .int .i64 qg2] 23)
      have hB9 := H9.out.below
      go_upto_region 15 with (go_at_call 7; (with_reducible refine (E2.out _ hB9).mono ?_); rintro e w10 ⟨rfl, hb10⟩; dsimp only)
      have H10 := Lib.hid (H9.out.call hb10)
      obtain ⟨y0, y1, y2, y3, y4, y5, y6, x0, x1, x2, x3, x4, x5, x6, -⟩ := H10.out.cells
      go_wp2_with fail
      go_ret
      exact ⟨rfl, H10.out.below⟩
end Np
end Go.Proofs.YtonbjfepckolnaaDoor
