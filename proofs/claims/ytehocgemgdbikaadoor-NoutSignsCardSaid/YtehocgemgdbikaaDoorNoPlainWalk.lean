/- The law NpatPlain returns true. -/
import Derived.Test.YtehocgemgdbikaaDoorNoBackMath
import Derived.Test.YtehocgemgdbikaaDoorNpTextSays
namespace Go.Proofs.YtehocgemgdbikaaDoor
namespace No
open Go.RowKit D Ru Np

def plainP (p : PatV) : PatV := ⟨p.pre, p.suf, p.a, p.m, p.m, 0, 0⟩
theorem plain_fmt (p : PatV) : fmtF (plainP p) 46 44 0 0 = patF (plainP p) := by
  unfold fmtF baseF
  by_cases h : patF (plainP p) = 0
  · rw [if_pos h, h, show symF 46 44 = 0 by decide, if_pos rfl, if_pos (by decide)]
  · rw [if_neg h, if_neg h]
theorem plain_same {p : PatV} (h : patF (plainP p) = 0) : shownL (plainP p) 46 44 (fitI (plainP p) 0 0).1 (fitI (plainP p) 0 0).2 = patT (plainP p) := by
  have e : fitI (plainP p) 0 0 = (0, 0) := by
    unfold fitI trimI
    rw [if_neg (by simp)]
  rw [e]
  exact (plain_looks h rfl rfl rfl).symm
set_option maxHeartbeats 8000000 in
set_option maxRecDepth 100000 in
theorem plain_any (N : Nat) (p : PatV) (w : World) (hF : FormatOk N w) (hT : TextOk N w) (h1 : p.pre.length ≤ N) (h2 : p.suf.length ≤ N) : Calls Tryd.prog 4 #[patV p] w (TrueB w) := by
  have HB0 : Hid (Bs w _ [_]) := Lib.hid (bs_one w (patC p) 23)
  have CP : Hid (∀ W, Below w.heap.size w W → Calls Tryd.prog 8 #[.agg #[.string ⟨#[]⟩, .string ⟨#[]⟩, .int .i64 1, .int .i64 1, .int .i64 2, .int .i64 3, .int .i64 0]] W (TextY W ⟨#[35, 44, 35, 35, 48, 46, 48, 35]⟩)) := Lib.hid fun W hW => by
    have hc := hT.yes (p := ⟨[], [], 1, 1, 2, 3, 0⟩) (Nat.zero_le _) (Nat.zero_le _) fact_pat.1 W hW
    rw [fact_pat.2] at hc
    exact hc
  have HX : (∃ T : ByteArray, Hid (∀ W, Below w.heap.size w W → Calls Tryd.prog 8 #[patV (plainP p)] W (TextY W T)) ∧ Hid (∀ W, Below w.heap.size w W → Calls Tryd.prog 7 #[patV (plainP p), symV 46 44, .agg #[.int .i64 0, .int .i64 0]] W (TextY W T))) ∨
      ∃ f : Nat, Hid (∀ W, Below w.heap.size w W → Calls Tryd.prog 8 #[patV (plainP p)] W (TextN W f)) ∧ Hid (∀ W, Below w.heap.size w W → Calls Tryd.prog 7 #[patV (plainP p), symV 46 44, .agg #[.int .i64 0, .int .i64 0]] W (TextN W f)) := by
    by_cases h : patF (plainP p) = 0
    · refine .inl ⟨_, Lib.hid (hT.yes h1 h2 h), Lib.hid fun W hW => ?_⟩
      have := hF.yes (p := plainP p) (pt := 46) (cm := 44) (c := 0) (s := 0) h1 h2 (by rw [plain_fmt]; exact h) W hW
      rwa [show (0 : Int).toNat = 0 from rfl, plain_same h] at this
    · refine .inr ⟨_, Lib.hid (hT.no h1 h2 h), Lib.hid fun W hW => ?_⟩
      have := hF.no (p := plainP p) (pt := 46) (cm := 44) (c := 0) (s := 0) h1 h2 (by rw [plain_fmt]; exact h) W hW
      rwa [plain_fmt] at this
  clear hF hT h1 h2
  obtain ⟨pre, suf, a, b, m, g, g2⟩ := p
  dsimp only [patV, patC, symV, symC, plainP] at HB0 HX ⊢
  simp only [show ((46 : UInt8).toNat : Int) = 46 from rfl, show ((44 : UInt8).toNat : Int) = 44 from rfl] at HX
  generalize str pre = PR at *
  generalize str suf = SU at *
  have hb0 := HB0.out.below
  rcases HX with ⟨T, C1, C2⟩ | ⟨f, C1, C2⟩
  all_goals
    go_enter Tryd.func4, Tryd.ntmps4
    go_upto_region 4 with (go_at_call 8; (with_reducible refine (CP.out _ hb0).mono ?_); rintro e w1 ⟨rfl, hb1⟩; dsimp only)
    have H1 := Lib.hid (HB0.out.call hb1)
    obtain ⟨d0, d1, d2, d3, d4, d5, d6, -⟩ := H1.out.cells
    have f5 := H1.out.free (j := 0) (i := 5) rfl rfl
    have f6 := H1.out.free (j := 0) (i := 6) rfl rfl
    have f3 := H1.out.free (j := 0) (i := 3) rfl rfl
    go_upto_region 7 with fail
    have H2 := Lib.hid (show Bs w _ [(w.heap.size, [.string PR, .string SU, .int .i64 a, .int .i64 m, .int .i64 m, .int .i64 0, .int .i64 0])] from ((H1.out.set (j := 0) (i := 5) rfl (.int .i64 0)).set (j := 0) (i := 6) rfl (.int .i64 0)).set (j := 0) (i := 3) rfl (.int .i64 m))
    generalize ((w1.setCell ⟨w.heap.size, 5, none⟩ (.int .i64 0)).setCell ⟨w.heap.size, 6, none⟩ (.int .i64 0)).setCell ⟨w.heap.size, 3, none⟩ (.int .i64 m) = W2 at *
    clear d0 d1 d2 d3 d4 d5 d6 f3 f5 f6
    obtain ⟨d0, d1, d2, d3, d4, d5, d6, -⟩ := H2.out.cells
    have hB2 := H2.out.below
    go_upto_region 8 with (go_at_call 8; (with_reducible refine (C1.out _ hB2).mono ?_); rintro e w3 ⟨rfl, hb3⟩; dsimp only)
    have H3 := Lib.hid (H2.out.call hb3)
    have hB3 := H3.out.below
    clear d0 d1 d2 d3 d4 d5 d6
    obtain ⟨d0, d1, d2, d3, d4, d5, d6, -⟩ := H3.out.cells
    go_wp2_with (go_at_call 7; (with_reducible refine (C2.out _ hB3).mono ?_); rintro e w4 ⟨rfl, hb4⟩; dsimp only)
    go_ret
    exact ⟨rfl, (H3.out.call hb4).below⟩
end No
end Go.Proofs.YtehocgemgdbikaaDoor
