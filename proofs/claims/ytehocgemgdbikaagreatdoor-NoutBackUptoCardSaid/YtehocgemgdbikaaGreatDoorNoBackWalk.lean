/- The law NoutBack returns true. -/
import Derived.Test.YtehocgemgdbikaaGreatDoorNoBackMath
import Derived.Test.YtehocgemgdbikaaGreatDoorNoReadSays
import Derived.Test.YtehocgemgdbikaaGreatDoorDecRound
import Derived.Test.YtehocgemgdbikaaGreatDoorDecComp
namespace Go.Proofs.YtehocgemgdbikaaGreatDoor
namespace No
open Go.RowKit D Ru Np

set_option maxHeartbeats 8000000 in
set_option maxRecDepth 100000 in
theorem back_any (N : Nat) (p : PatV) (pt cm : UInt8) (c s : Int) (t : List UInt8) (w : World) (hF : FormatOk N w) (hR : ReadOk N w) (hN : 200 ≤ N) (h1 : p.pre.length ≤ N) (h2 : p.suf.length ≤ N) (hs : t.length ≤ N) :
    Calls Tryz.prog 4 #[patV p, symV pt cm, .agg #[.int .i64 c, .int .i64 s], .string (str t)] w (TrueB w) := by
  have HB0 : Hid (Bs w _ [(w.heap.size + 2, [.int .i64 c, .int .i64 s]), (w.heap.size + 1, symC pt cm), (w.heap.size, patC p)]) := Lib.hid (by
    have := ((bs_one w (patC p) 23).alloc (symC pt cm) 25).alloc [.int .i64 c, .int .i64 s] 27
    simp only [World.size_alloc] at this
    exact this)
  have CFA := Lib.hid (fact_any hF)
  -- the second half
  have HS : (∃ (y : Int) (k : Nat), Hid (∀ W, Below w.heap.size w W → Calls Tryz.prog 14 #[patV p, symV pt cm, .string (str t)] W (Gives W (.tuple #[.agg #[.int .i64 y, .int .i64 (k : Int)], .nilIface]))) ∧ Hid (∀ W, Below w.heap.size w W → Calls Tryz.prog 12 #[patV p, symV pt cm, .agg #[.int .i64 y, .int .i64 (k : Int)]] W (TextY W (str t)))) ∨
      ∃ f : Nat, Hid (∀ W, Below w.heap.size w W → Calls Tryz.prog 14 #[patV p, symV pt cm, .string (str t)] W (Gives W (.tuple #[.agg #[.int .i64 0, .int .i64 0], .iface 29 (.int .i64 f)]))) := by
    by_cases hr : rdF p pt cm t = 0
    · obtain ⟨hz, hsh⟩ := back_fmt hr
      refine .inl ⟨_, _, Lib.hid (hR.yes h1 h2 hs hr), Lib.hid fun W hW => ?_⟩
      have := hF.yes h1 h2 hz W hW
      rwa [Int.toNat_natCast, hsh] at this
    · exact .inr ⟨_, Lib.hid (hR.no h1 h2 hs hr)⟩
  by_cases hf : fmtF p pt cm c s = 0
  · have CP := Lib.hid (hF.yes h1 h2 hf)
    obtain ⟨hr0, hrd⟩ := back_read hf
    obtain ⟨hbz, hrt⟩ := fmt_zero hf
    obtain ⟨hp0, -⟩ := base_zero hbz
    obtain ⟨ho0, hsm⟩ := back_round hp0 hrt
    have hfit : Fit p (fitI p c s.toNat).1 (fitI p c s.toNat).2 := fit_fit (by rw [show (s.toNat : Int) = s by have := hrt.1; omega]; exact hrt)
    have hm6 := (pat_parts hp0).2.2.2.1
    have hln : (shownL p pt cm (fitI p c s.toNat).1 (fitI p c s.toNat).2).length ≤ N := Nat.le_trans (shown_len hp0 pt cm hfit.2.2 (by have := hfit.1; omega)) hN
    have CR := hR.yes h1 h2 hln hr0
    rw [hrd] at CR
    have CR := Lib.hid CR
    have CO : Hid (∀ W, Calls Tryz.prog 15 #[.agg #[.int .i64 c, .int .i64 s], .int .i64 (min p.m s), .int .i64 5] W (Gives W (.tuple #[.agg #[.int .i64 (rc c s (min p.m s) 5), .int .i64 (min p.m s)], .nilIface]))) := Lib.hid fun W => by
      have := round_any c s (min p.m s) 5 W
      rwa [roundV_ok ho0] at this
    have CS : Hid (∀ W, Calls Tryz.prog 16 #[.agg #[.int .i64 (fitI p c s.toNat).1, .int .i64 ((fitI p c s.toNat).2 : Int)], .agg #[.int .i64 (rc c s (min p.m s) 5), .int .i64 (min p.m s)]] W (Gives W (.bool true))) := Lib.hid fun W => by
      have := same_any (fitI p c s.toNat).1 (fitI p c s.toNat).2 (rc c s (min p.m s) 5) (min p.m s) W
      unfold sameB at this
      rwa [hsm] at this
    have hfd : (fitI p c s.toNat).2 = 0 ∨ (fitI p c s.toNat).1 % 10 ≠ 0 := hfit.2.1
    have hmin : (if p.m ≤ s then p.m else s) = min p.m s := by split <;> omega
    have hmin2 : (if s < p.m then s else p.m) = min p.m s := by split <;> omega
    generalize shownL p pt cm (fitI p c s.toNat).1 (fitI p c s.toNat).2 = T at *
    clear hF hR hf hr0 hrd hbz hrt hp0 ho0 hsm hfit hm6 hln h1 h2 hs hN
    generalize (fitI p c s.toNat).1 = x at *
    generalize (fitI p c s.toNat).2 = k0 at *
    generalize rc c s (min p.m s) 5 = q at *
    obtain ⟨pre, suf, a, b, m, g, g2⟩ := p
    dsimp only [patV, patC, symV, symC] at HB0 CP CR CO CS HS hmin hmin2 ⊢
    generalize str pre = PR at *
    generalize str suf = SU at *
    generalize str T = TT at *
    generalize str t = S at *
    have hb0 := HB0.out.below
    go_enter Tryz.func4, Tryz.ntmps4
    go_upto_region 2 with (go_at_call 5; (with_reducible refine (CFA.out _ hb0).mono ?_); rintro e w1 ⟨rfl, hb1⟩; dsimp only)
    have H1 := Lib.hid (HB0.out.call hb1)
    have hB1 := H1.out.below
    obtain ⟨d0, d1, s0, s1, p0, p1, p2, p3, p4, p5, p6, -⟩ := H1.out.cells
    go_upto_region 6 with (go_at_call 12; (with_reducible refine (CP.out _ hB1).mono ?_); rintro e w2 ⟨rfl, hb2⟩; dsimp only)
    have H2 := Lib.hid (H1.out.call hb2)
    have hB2 := H2.out.below
    clear d0 d1 s0 s1 p0 p1 p2 p3 p4 p5 p6
    obtain ⟨d0, d1, s0, s1, p0, p1, p2, p3, p4, p5, p6, -⟩ := H2.out.cells
    go_upto_region 7 with (go_at_call 14; (with_reducible refine (CR.out _ hB2).mono ?_); rintro e w3 ⟨rfl, hb3⟩; dsimp only)
    have H3 := Lib.hid ((H2.out.call hb3).alloc [.int .i64 x, .int .i64 (k0 : Int)] 27)
    clear d0 d1 s0 s1 p0 p1 p2 p3 p4 p5 p6
    obtain ⟨e0, e1, d0, d1, s0, s1, p0, p1, p2, p3, p4, p5, p6, -⟩ := H3.out.cells
    go_upto_region 8 with (go_at_call 15; (with_reducible refine (CO.out _).mono ?_); rintro e w4 ⟨rfl, hb4⟩; dsimp only)
    have H4 := Lib.hid ((H3.out.call hb4).alloc [.int .i64 q, .int .i64 (min m s)] 27)
    clear e0 e1
    clear d0 d1 s0 s1 p0 p1 p2 p3 p4 p5 p6
    obtain ⟨g0, g1, e0, e1, d0, d1, s0, s1, p0, p1, p2, p3, p4, p5, p6, -⟩ := H4.out.cells
    go_cut [71] (fun s71 wx => s71 = .bool false ∧ ∃ V, Hid (Bs w V ((w3.heap.size, [.int .i64 x, .int .i64 (k0 : Int)]) :: [(w.heap.size + 2, [.int .i64 c, .int .i64 s]), (w.heap.size + 1, [.int .u8 pt.toNat, .int .u8 cm.toNat]), (w.heap.size, [.string PR, .string SU, .int .i64 a, .int .i64 b, .int .i64 m, .int .i64 g, .int .i64 g2])])) ∧ V = wx)
    case first =>
      by_cases hk : k0 = 0
      · have hz : ¬ (0 : Int) < (k0 : Int) := by omega
        clear hfd hk
        go_wp2_with (go_at_call 16; (with_reducible refine (CS.out _).mono ?_); rintro e w5 ⟨rfl, hb5⟩; (have H5 := Lib.hid (H4.out.call hb5)); (obtain ⟨g0', g1', e0', e1', -⟩ := H5.out.cells); dsimp only)
        go_meet
        exact ⟨rfl, _, Lib.hid H5.out.tail, rfl⟩
      · have hz : (0 : Int) < (k0 : Int) := by omega
        have hx : (x.tmod 10 == 0) = false := by
          have := hfd.resolve_left hk
          rw [Bool.eq_false_iff]
          intro h
          rw [beq_iff_eq, ← Int.dvd_iff_tmod_eq_zero, Int.dvd_iff_emod_eq_zero] at h
          exact this h
        clear hfd hk
        go_wp2_with (go_at_call 16; (with_reducible refine (CS.out _).mono ?_); rintro e w5 ⟨rfl, hb5⟩; (have H5 := Lib.hid (H4.out.call hb5)); (obtain ⟨g0', g1', e0', e1', -⟩ := H5.out.cells); dsimp only)
        go_meet
        exact ⟨rfl, _, Lib.hid H5.out.tail, rfl⟩
    case rest =>
      obtain ⟨rfl, V6, H6, rfl⟩ := hcut
      clear e0 e1 g0 g1
      clear d0 d1 s0 s1 p0 p1 p2 p3 p4 p5 p6
      have hBv := H6.out.below
      obtain ⟨e0, e1, d0, d1, s0, s1, p0, p1, p2, p3, p4, p5, p6, -⟩ := H6.out.cells
      rcases HS with ⟨y, k, C1, C2⟩ | ⟨f, C1⟩
      · go_upto_region 11 with (go_at_call 14; (with_reducible refine (C1.out _ hBv).mono ?_); rintro e w7 ⟨rfl, hb7⟩; dsimp only)
        have H7 := Lib.hid ((H6.out.call hb7).alloc [.int .i64 y, .int .i64 (k : Int)] 27)
        have hB7 := H7.out.below
        clear d0 d1 s0 s1 p0 p1 p2 p3 p4 p5 p6
        obtain ⟨y0, y1, x0, x1, d0, d1, s0, s1, p0, p1, p2, p3, p4, p5, p6, -⟩ := H7.out.cells
        go_wp2_with (go_at_call 12; (with_reducible refine (C2.out _ hB7).mono ?_); rintro e w8 ⟨rfl, hb8⟩; dsimp only)
        go_ret
        exact ⟨rfl, (H7.out.call hb8).below⟩
      · go_upto_region 11 with (go_at_call 14; (with_reducible refine (C1.out _ hBv).mono ?_); rintro e w7 ⟨rfl, hb7⟩; dsimp only)
        have H7 := Lib.hid ((H6.out.call hb7).alloc [.int .i64 0, .int .i64 0] 27)
        have hB7 := H7.out.below
        clear d0 d1 s0 s1 p0 p1 p2 p3 p4 p5 p6
        obtain ⟨y0, y1, x0, x1, d0, d1, s0, s1, p0, p1, p2, p3, p4, p5, p6, -⟩ := H7.out.cells
        go_wp2_with fail
        go_ret
        exact ⟨rfl, hB7⟩
  · have CP := Lib.hid (hF.no h1 h2 hf)
    clear hF hR h1 h2 hs hN
    generalize fmtF p pt cm c s = F at *
    obtain ⟨pre, suf, a, b, m, g, g2⟩ := p
    dsimp only [patV, patC, symV, symC] at HB0 CP HS ⊢
    generalize str pre = PR at *
    generalize str suf = SU at *
    generalize str t = S at *
    have hb0 := HB0.out.below
    go_enter Tryz.func4, Tryz.ntmps4
    go_upto_region 2 with (go_at_call 5; (with_reducible refine (CFA.out _ hb0).mono ?_); rintro e w1 ⟨rfl, hb1⟩; dsimp only)
    have H1 := Lib.hid (HB0.out.call hb1)
    have hB1 := H1.out.below
    obtain ⟨d0, d1, s0, s1, p0, p1, p2, p3, p4, p5, p6, -⟩ := H1.out.cells
    go_upto_region 10 with (go_at_call 12; (with_reducible refine (CP.out _ hB1).mono ?_); rintro e w2 ⟨rfl, hb2⟩; dsimp only)
    have H2 := Lib.hid (H1.out.call hb2)
    have hBv := H2.out.below
    clear d0 d1 s0 s1 p0 p1 p2 p3 p4 p5 p6
    obtain ⟨d0, d1, s0, s1, p0, p1, p2, p3, p4, p5, p6, -⟩ := H2.out.cells
    rcases HS with ⟨y, k, C1, C2⟩ | ⟨f, C1⟩
    · go_upto_region 11 with (go_at_call 14; (with_reducible refine (C1.out _ hBv).mono ?_); rintro e w7 ⟨rfl, hb7⟩; dsimp only)
      have H7 := Lib.hid ((H2.out.call hb7).alloc [.int .i64 y, .int .i64 (k : Int)] 27)
      have hB7 := H7.out.below
      clear d0 d1 s0 s1 p0 p1 p2 p3 p4 p5 p6
      obtain ⟨y0, y1, d0, d1, s0, s1, p0, p1, p2, p3, p4, p5, p6, -⟩ := H7.out.cells
      go_wp2_with (go_at_call 12; (with_reducible refine (C2.out _ hB7).mono ?_); rintro e w8 ⟨rfl, hb8⟩; dsimp only)
      go_ret
      exact ⟨rfl, (H7.out.call hb8).below⟩
    · go_upto_region 11 with (go_at_call 14; (with_reducible refine (C1.out _ hBv).mono ?_); rintro e w7 ⟨rfl, hb7⟩; dsimp only)
      have H7 := Lib.hid ((H2.out.call hb7).alloc [.int .i64 0, .int .i64 0] 27)
      have hB7 := H7.out.below
      clear d0 d1 s0 s1 p0 p1 p2 p3 p4 p5 p6
      obtain ⟨y0, y1, d0, d1, s0, s1, p0, p1, p2, p3, p4, p5, p6, -⟩ := H7.out.cells
      go_wp2_with fail
      go_ret
      exact ⟨rfl, hB7⟩
end No
end Go.Proofs.YtehocgemgdbikaaGreatDoor
