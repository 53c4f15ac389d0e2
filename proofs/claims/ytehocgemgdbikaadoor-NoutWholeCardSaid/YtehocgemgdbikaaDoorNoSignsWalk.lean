/- The law NoutSigns returns true. -/
import Derived.Test.YtehocgemgdbikaaDoorNoBackMath
import Derived.BigQuiet
namespace Go.Proofs.YtehocgemgdbikaaDoor
namespace No
open Go.RowKit D Ru Np

theorem but_cases {pt cm qt dm x y : UInt8} (h : But pt cm qt dm x y) (hy : pt ≠ cm) (hz : qt ≠ dm) :
    (x = pt ∧ y = qt ∧ x ≠ cm ∧ y ≠ dm) ∨ (x ≠ pt ∧ y ≠ qt ∧ x = cm ∧ y = dm) ∨ (x ≠ pt ∧ y ≠ qt ∧ x ≠ cm ∧ y ≠ dm ∧ x = y) := by
  obtain ⟨h1, h2, h3⟩ := h
  by_cases hp : x = pt
  · left
    have hq := h1.1 hp
    exact ⟨hp, hq, fun e => hy (hp ▸ e), fun e => hz (hq ▸ e)⟩
  · have hq : y ≠ qt := fun e => hp (h1.2 e)
    by_cases hc : x = cm
    · right; left
      exact ⟨hp, hq, hc, h2.1 hc⟩
    · right; right
      exact ⟨hp, hq, hc, fun e => hc (h2.2 e), h3 hp hc⟩
theorem ne_int {x y : UInt8} (h : x ≠ y) : ((x.toNat : Int) == (y.toNat : Int)) = false ∧ ((x.toNat : Int) != (y.toNat : Int)) = true := by
  have : (x.toNat : Int) ≠ (y.toNat : Int) := fun e => h (UInt8.toNat_inj.1 (by omega))
  exact ⟨by rw [beq_eq_false_iff_ne]; exact this, by rw [bne_iff_ne]; exact this⟩
theorem str_at (l : List UInt8) (S : ByteArray) (hS : S = str l) (k : Nat) (hk : k < S.size) : l[k]? = some (S[k]'hk) := by
  subst hS
  have hk' : k < l.length := by rw [D.ba_size, str_data] at hk; exact hk
  rw [List.getElem?_eq_getElem hk']
  show some l[k] = some l.toArray[k]
  simp
set_option maxHeartbeats 8000000 in
set_option maxRecDepth 100000 in
theorem signs_any (N : Nat) (p : PatV) (pt cm qt dm : UInt8) (c s : Int) (w : World) (hF : FormatOk N w) (h1 : p.pre.length ≤ N) (h2 : p.suf.length ≤ N) :
    Calls Tryd.prog 3 #[patV p, symV pt cm, symV qt dm, .agg #[.int .i64 c, .int .i64 s]] w (TrueB w) := by
  have HB0 : Hid (Bs w _ [(w.heap.size + 3, [.int .i64 c, .int .i64 s]), (w.heap.size + 2, symC qt dm), (w.heap.size + 1, symC pt cm), (w.heap.size, patC p)]) := Lib.hid (by
    have := (((bs_one w (patC p) 23).alloc (symC pt cm) 25).alloc (symC qt dm) 25).alloc [.int .i64 c, .int .i64 s] 27
    simp only [World.size_alloc] at this
    exact this)
  have CFA := Lib.hid (fact_any hF)
  by_cases hf : fmtF p pt cm c s = 0
  · have CP := Lib.hid (hF.yes h1 h2 hf)
    by_cases hq : fmtF p qt dm c s = 0
    · have CQ := Lib.hid (hF.yes h1 h2 hq)
      obtain ⟨hbz, hrt⟩ := fmt_zero hf
      obtain ⟨hp0, hsy⟩ := base_zero hbz
      obtain ⟨hbq, -⟩ := fmt_zero hq
      obtain ⟨-, hsz⟩ := base_zero hbq
      have hrn : Right (-c) s := ⟨hrt.1, hrt.2.1, by have := hrt.2.2.2; omega, by have := hrt.2.2.1; omega⟩
      have hfn := fmt_ok hbz hrn
      have CN := hF.yes h1 h2 hfn
      have hft : Fit p (fitI p c s.toNat).1 (fitI p c s.toNat).2 := fit_fit (by rw [show (s.toNat : Int) = s by have := hrt.1; omega]; exact hrt)
      rw [fit_neg] at CN
      dsimp only at CN
      have hm6 := (pat_parts hp0).2.2.2.1
      have hln := shown_len hp0 pt cm hft.2.2 (show (fitI p c s.toNat).2 ≤ 9 from by have := hft.1; omega)
      have hbu := shown_buts (pat_parts hp0).1 (pat_parts hp0).2.1 hsy hsz (fitI p c s.toNat).1 (fitI p c s.toNat).2
      have htu := shown_turn p pt cm (fitI p c s.toNat).1 (fitI p c s.toNat).2
      have hc2 : wrap64 (0 - c) = -c := by have := hrt.2.2; unfold wrap64; omega
      have hc3 : IntKind.i64.wrap (0 - c) = -c := by have := hrt.2.2; rw [IntKind.wrap_i64]; omega
      have hc4 : wrap64 (-c) = -c := by have := hrt.2.2; unfold wrap64; omega
      generalize shownL p pt cm (fitI p c s.toNat).1 (fitI p c s.toNat).2 = A at *
      generalize shownL p qt dm (fitI p c s.toNat).1 (fitI p c s.toNat).2 = B at *
      generalize shownL p pt cm (-(fitI p c s.toNat).1) (fitI p c s.toNat).2 = U at *
      have hlen := hbu.length
      have HBU := Lib.hid fun (i : Nat) (x y : UInt8) (hx : A[i]? = some x) (hy : B[i]? = some y) => but_cases (hbu.at_ hx hy) hsy.1 hsz.1
      have HTU : Hid (U = A ∨ U = 45 :: A ∨ 45 :: U = A) := Lib.hid (by rcases htu with ⟨_, h⟩ | ⟨_, h⟩ | ⟨_, h⟩; exact .inl h; exact .inr (.inl h); exact .inr (.inr h))
      have hul : U.length ≤ 201 := by
        rcases HTU.out with h | h | h
        · rw [h]; omega
        · rw [h, List.length_cons]; omega
        · have := congrArg List.length h
          rw [List.length_cons] at this
          omega
      have CN := Lib.hid CN
      clear hF h1 h2 hf hq hbz hp0 hbq hrn hfn hft hm6 hbu htu hsy hsz hrt
      have haz : (str A).size = A.length := by rw [D.ba_size, str_data]
      have hbz : (str B).size = A.length := by rw [D.ba_size, str_data, hlen]
      clear hlen
      obtain ⟨pre, suf, a, b, m, g, g2⟩ := p
      dsimp only [patV, patC, symV, symC] at HB0 CP CQ CN ⊢
      generalize str pre = PR at *
      generalize str suf = SU at *
      have hb0 := HB0.out.below
      go_enter Tryd.func3, Tryd.ntmps3
      go_upto_region 2 with (go_at_call 6; (with_reducible refine (CFA.out _ hb0).mono ?_); rintro e w1 ⟨rfl, hb1⟩; dsimp only)
      have H1 := Lib.hid (HB0.out.call hb1)
      have hB1 := H1.out.below
      obtain ⟨d0, d1, u0, u1, s0, s1, p0, p1, p2, p3, p4, p5, p6, -⟩ := H1.out.cells
      go_upto_region 3 with (go_at_call 7; (with_reducible refine (CP.out _ hB1).mono ?_); rintro e w2 ⟨rfl, hb2⟩; dsimp only)
      have H2 := Lib.hid (H1.out.call hb2)
      have hB2 := H2.out.below
      clear d0 d1 u0 u1 s0 s1 p0 p1 p2 p3 p4 p5 p6
      obtain ⟨d0, d1, u0, u1, s0, s1, p0, p1, p2, p3, p4, p5, p6, -⟩ := H2.out.cells
      go_upto_region 4 with (go_at_call 7; (with_reducible refine (CQ.out _ hB2).mono ?_); rintro e w3 ⟨rfl, hb3⟩; dsimp only)
      have H3 := Lib.hid (H2.out.call hb3)
      have hB3 := H3.out.below
      clear d0 d1 u0 u1 s0 s1 p0 p1 p2 p3 p4 p5 p6
      obtain ⟨AS, hAS⟩ : ∃ AS, AS = str A := ⟨_, rfl⟩
      obtain ⟨BS, hBS⟩ : ∃ BS, BS = str B := ⟨_, rfl⟩
      rw [← hAS] at haz ⊢
      rw [← hBS] at hbz ⊢
      have HAT := Lib.hid fun k hk => str_at A AS hAS k hk
      have HBT := Lib.hid fun k hk => str_at B BS hBS k hk
      have HAS := Lib.hid hAS
      clear hAS hBS CP CQ
      have hleq : ((AS.size : Int) != (BS.size : Int)) = false := by rw [haz, hbz]; simp
      go_upto_region 9 with fail
      go_loopw [14] (fun i wx => ∃ k d2 : Nat, k ≤ A.length ∧ i = .int .i64 k ∧ w3.drewN d2 = wx) (fun i _ => A.length - (intOf i).toNat)
      case atStart => exact ⟨0, 0, Nat.zero_le _, rfl, rfl⟩
      case round =>
        obtain ⟨k, d2, hk, rfl, rfl⟩ := hrel
        have H4 := Lib.hid (H3.out.drewN d2)
        by_cases hlt : k < A.length
        · have hka : k < AS.size := by omega
          have hkb : k < BS.size := by omega
          have hki : (k : Int) < (AS.size : Int) := by omega
          have hki2 : (k : Int) < (BS.size : Int) := by omega
          have hcs := HBU.out k _ _ (HAT.out k hka) (HBT.out k hkb)
          go_upto_region 11 with fail
          generalize hW4 : w3.drewN d2 = W4 at *
          obtain ⟨d0, d1, u0, u1, s0, s1, p0, p1, p2, p3, p4, p5, p6, -⟩ := H4.out.cells
          go_cut [111] (fun s111 wx => s111 = .bool false ∧ ∃ d3, W4.drewN d3 = wx)
          case first =>
            clear HBU HAT HBT HAS HTU CN
            rcases hcs with ⟨e1, e2, e3, e4⟩ | ⟨e1, e2, e3, e4⟩ | ⟨e1, e2, e3, e4, e5⟩
            · obtain ⟨n3, m3⟩ := ne_int e3
              obtain ⟨n4, m4⟩ := ne_int e4
              rw [e1] at n3 m3
              rw [e2] at n4 m4
              have hx : (AS[k].toNat : Int) = (pt.toNat : Int) := by rw [e1]
              have hy : (BS[k].toNat : Int) = (qt.toNat : Int) := by rw [e2]
              clear e1 e2 e3 e4
              generalize (pt.toNat : Int) = ptn at *
              generalize (cm.toNat : Int) = cmn at *
              generalize (qt.toNat : Int) = qtn at *
              generalize (dm.toNat : Int) = dmn at *
              have q1 : (ptn == ptn) = true := by simp
              have q2 : (ptn != ptn) = false := by simp
              have q3 : (qtn == qtn) = true := by simp
              go_big_quiet (fail)
              go_wp2_with fail
              go_meet
              exact ⟨by simp, nq, rfl⟩
            · obtain ⟨n1, m1⟩ := ne_int e1
              obtain ⟨n2, m2⟩ := ne_int e2
              rw [e3] at n1 m1
              rw [e4] at n2 m2
              have hx : (AS[k].toNat : Int) = (cm.toNat : Int) := by rw [e3]
              have hy : (BS[k].toNat : Int) = (dm.toNat : Int) := by rw [e4]
              clear e1 e2 e3 e4
              generalize (pt.toNat : Int) = ptn at *
              generalize (cm.toNat : Int) = cmn at *
              generalize (qt.toNat : Int) = qtn at *
              generalize (dm.toNat : Int) = dmn at *
              have q1 : (cmn == cmn) = true := by simp
              have q2 : (cmn != cmn) = false := by simp
              have q3 : (dmn == dmn) = true := by simp
              go_big_quiet (fail)
              go_wp2_with fail
              go_meet
              exact ⟨by simp, nq, rfl⟩
            · obtain ⟨n1, m1⟩ := ne_int e1
              obtain ⟨n2, m2⟩ := ne_int e2
              obtain ⟨n3, m3⟩ := ne_int e3
              obtain ⟨n4, m4⟩ := ne_int e4
              rw [← e5] at n2 m2 n4 m4
              have hy : (BS[k].toNat : Int) = (AS[k].toNat : Int) := by rw [e5]
              clear e1 e2 e3 e4 e5
              generalize (pt.toNat : Int) = ptn at *
              generalize (cm.toNat : Int) = cmn at *
              generalize (qt.toNat : Int) = qtn at *
              generalize (dm.toNat : Int) = dmn at *
              obtain ⟨xi, hx⟩ : ∃ xi, (AS[k].toNat : Int) = xi := ⟨_, rfl⟩
              rw [hx] at n1 m1 n2 m2 n3 m3 n4 m4 hy
              have q2 : (xi != xi) = false := by simp
              go_big_quiet (fail)
              go_wp2_with fail
              go_meet
              exact ⟨by simp, nq, rfl⟩
          case rest =>
            obtain ⟨rfl, d3, rfl⟩ := hcut
            go_wp2_with fail
            go_roundw
            case rel => exact ⟨k + 1, d2 + d3, by omega, by go_num, by rw [← hW4]; simp⟩
            case measure => simp [intOf]; omega
        · have hki : ¬ (k : Int) < (AS.size : Int) := by omega
          have hcn : (k : Int) = (AS.size : Int) := by omega
          have H5 := Lib.hid H4.out
          go_upto_region 13 with fail
          generalize w3.drewN d2 = W4 at *
          have hB4 := H4.out.below
          obtain ⟨d0, d1, u0, u1, s0, s1, p0, p1, p2, p3, p4, p5, p6, -⟩ := H4.out.cells
          have hst : (str U).size = U.length := by rw [D.ba_size, str_data]
          have huz : (str U).size ≤ 201 := by omega
          have HU1 : Hid (U = A → str U = AS) := Lib.hid fun h => by rw [h, HAS.out]
          have HU2 : Hid (U = 45 :: A → str U = ⟨#[45]⟩ ++ AS) := Lib.hid fun h => by rw [h, HAS.out]; exact (add_str [45] A).symm
          have HU3 : Hid (45 :: U = A → (⟨#[45]⟩ : ByteArray) ++ str U = AS) := Lib.hid fun h => by rw [HAS.out, ← h]; exact add_str [45] U
          have hnU : U = 45 :: A ∨ 45 :: U = A → str U ≠ AS := fun h e => by
            have := congrArg ByteArray.size e
            rw [hst, haz] at this
            rcases h with h | h
            · have := congrArg List.length h
              rw [List.length_cons] at this
              omega
            · have := congrArg List.length h
              rw [List.length_cons] at this
              omega
          have hnU3 : 45 :: U = A → str U ≠ ⟨#[45]⟩ ++ AS := fun h e => by
            have := congrArg ByteArray.size e
            rw [ByteArray.size_append, hst, haz] at this
            have h2 := congrArg List.length h
            rw [List.length_cons] at h2
            change _ = 1 + _ at this
            omega
          rcases HTU.out with hu | hu | hu
          · have e1 := HU1.out hu
            clear HU1 HU2 HU3 hnU hnU3 HTU hu
            rw [e1] at CN
            have CN := Lib.hid CN.out
            have ha1 : ¬ 9223372036854775807 < 1 + AS.size := by omega
            go_wp2_with (go_at_call 7; (with_reducible refine (CN.out _ hB4).mono ?_); rintro e w8 ⟨rfl, hb8⟩; dsimp only)
            go_ret
            exact ⟨rfl, (H4.out.call hb8).below⟩
          · have e2 := HU2.out hu
            have hne := hnU (.inl hu)
            clear HU1 HU2 HU3 hnU hnU3 HTU hu
            rw [e2] at CN hne
            have CN := Lib.hid CN.out
            have ha1 : ¬ 9223372036854775807 < 1 + AS.size := by omega
            have n1 := (toList_ne hne).1
            have n2 : ¬ ((⟨#[45]⟩ : ByteArray) ++ AS).toList = AS.toList := by simpa using n1
            clear hst huz e2
            obtain ⟨MS, hMS⟩ : ∃ MS, (⟨#[45]⟩ : ByteArray) ++ AS = MS := ⟨_, rfl⟩
            rw [hMS] at CN n1 n2
            clear hne
            go_wp2_with (go_at_call 7; (with_reducible refine (CN.out _ hB4).mono ?_); rintro e w8 ⟨rfl, hb8⟩; dsimp only)
            go_ret
            exact ⟨rfl, (H4.out.call hb8).below⟩
          · have e3 := HU3.out hu
            have hn1 := (toList_ne (hnU (.inr hu))).1
            have hn2 := (toList_ne (hnU3 hu)).1
            clear HU1 HU2 HU3 hnU hnU3 HTU hu
            generalize str U = US at *
            have n1 : ¬ US.toList = AS.toList := by simpa using hn1
            have n2 : ¬ US.toList = ((⟨#[45]⟩ : ByteArray) ++ AS).toList := by simpa using hn2
            have ha1 : ¬ 9223372036854775807 < 1 + AS.size := by omega
            have ha2 : ¬ 9223372036854775807 < 1 + US.size := by omega
            go_wp2_with (go_at_call 7; (with_reducible refine (CN.out _ hB4).mono ?_); rintro e w8 ⟨rfl, hb8⟩; dsimp only)
            go_ret
            exact ⟨rfl, (H4.out.call hb8).below⟩
    · have CQ := Lib.hid (hF.no h1 h2 hq)
      clear hF h1 h2 hf hq
      generalize fmtF p qt dm c s = F at *
      generalize str (shownL p pt cm (fitI p c s.toNat).1 (fitI p c s.toNat).2) = T at *
      obtain ⟨pre, suf, a, b, m, g, g2⟩ := p
      dsimp only [patV, patC, symV, symC] at HB0 CP CQ ⊢
      generalize str pre = PR at *
      generalize str suf = SU at *
      have hb0 := HB0.out.below
      go_enter Tryd.func3, Tryd.ntmps3
      go_upto_region 2 with (go_at_call 6; (with_reducible refine (CFA.out _ hb0).mono ?_); rintro e w1 ⟨rfl, hb1⟩; dsimp only)
      have H1 := Lib.hid (HB0.out.call hb1)
      have hB1 := H1.out.below
      obtain ⟨d0, d1, u0, u1, s0, s1, p0, p1, p2, p3, p4, p5, p6, -⟩ := H1.out.cells
      go_upto_region 3 with (go_at_call 7; (with_reducible refine (CP.out _ hB1).mono ?_); rintro e w2 ⟨rfl, hb2⟩; dsimp only)
      have H2 := Lib.hid (H1.out.call hb2)
      have hB2 := H2.out.below
      clear d0 d1 u0 u1 s0 s1 p0 p1 p2 p3 p4 p5 p6
      obtain ⟨d0, d1, u0, u1, s0, s1, p0, p1, p2, p3, p4, p5, p6, -⟩ := H2.out.cells
      go_upto_region 4 with (go_at_call 7; (with_reducible refine (CQ.out _ hB2).mono ?_); rintro e w3 ⟨rfl, hb3⟩; dsimp only)
      have H3 := Lib.hid (H2.out.call hb3)
      have hB3 := H3.out.below
      clear d0 d1 u0 u1 s0 s1 p0 p1 p2 p3 p4 p5 p6
      go_wp2_with fail
      go_ret
      exact ⟨rfl, hB3⟩
  · have CP := Lib.hid (hF.no h1 h2 hf)
    obtain ⟨TV, EV, CQ⟩ : ∃ (TV : ByteArray) (EV : Value), Hid (∀ W, Below w.heap.size w W → Calls Tryd.prog 7 #[patV p, symV qt dm, .agg #[.int .i64 c, .int .i64 s]] W (Gives W (.tuple #[.string TV, EV]))) :=
      ⟨_, _, Lib.hid fun W hW => hF p qt dm c s W hW h1 h2⟩
    clear hF h1 h2 hf
    generalize fmtF p pt cm c s = F at *
    obtain ⟨pre, suf, a, b, m, g, g2⟩ := p
    dsimp only [patV, patC, symV, symC] at HB0 CP CQ ⊢
    generalize str pre = PR at *
    generalize str suf = SU at *
    have hb0 := HB0.out.below
    go_enter Tryd.func3, Tryd.ntmps3
    go_upto_region 2 with (go_at_call 6; (with_reducible refine (CFA.out _ hb0).mono ?_); rintro e w1 ⟨rfl, hb1⟩; dsimp only)
    have H1 := Lib.hid (HB0.out.call hb1)
    have hB1 := H1.out.below
    obtain ⟨d0, d1, u0, u1, s0, s1, p0, p1, p2, p3, p4, p5, p6, -⟩ := H1.out.cells
    go_upto_region 3 with (go_at_call 7; (with_reducible refine (CP.out _ hB1).mono ?_); rintro e w2 ⟨rfl, hb2⟩; dsimp only)
    have H2 := Lib.hid (H1.out.call hb2)
    have hB2 := H2.out.below
    clear d0 d1 u0 u1 s0 s1 p0 p1 p2 p3 p4 p5 p6
    obtain ⟨d0, d1, u0, u1, s0, s1, p0, p1, p2, p3, p4, p5, p6, -⟩ := H2.out.cells
    go_upto_region 4 with (go_at_call 7; (with_reducible refine (CQ.out _ hB2).mono ?_); rintro e w3 ⟨rfl, hb3⟩; dsimp only)
    have H3 := Lib.hid (H2.out.call hb3)
    have hB3 := H3.out.below
    clear d0 d1 u0 u1 s0 s1 p0 p1 p2 p3 p4 p5 p6
    go_wp2_with fail
    go_ret
    exact ⟨rfl, hB3⟩
end No
end Go.Proofs.YtehocgemgdbikaaDoor
