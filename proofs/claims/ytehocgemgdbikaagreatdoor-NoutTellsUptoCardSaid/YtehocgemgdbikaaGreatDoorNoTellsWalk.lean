/- The law NoutTells returns true. -/
import Derived.Test.YtehocgemgdbikaaGreatDoorNoReadSays
import Derived.Test.YtehocgemgdbikaaGreatDoorNoReadOf
import Derived.Test.YtehocgemgdbikaaGreatDoorNpRef
import Derived.Test.YtehocgemgdbikaaGreatDoorErrorSame
namespace Go.Proofs.YtehocgemgdbikaaGreatDoor
namespace No
open Go.RowKit D Ru Np

/-- Check, behind whatever call of a law's own -/
def CheckOk (w : World) : Prop := ∀ (pt cm : UInt8) (W : World), Below w.heap.size w W → Calls Tryz.prog 9 #[symV pt cm] W (Gives W (errV (symF pt cm)))
set_option maxHeartbeats 8000000 in
set_option maxRecDepth 100000 in
theorem tells_any (N : Nat) (p : PatV) (pt cm : UInt8) (c s : Int) (t : List UInt8) (w : World) (hC : CheckOk w) (hF : FormatOk N w) (hR : ReadOk N w) (hg : ErrType w) (hN : N ≤ 140737488355328) (h1 : p.pre.length ≤ N) (h2 : p.suf.length ≤ N) (hs : t.length ≤ N) :
    Calls Tryz.prog 3 #[patV p, symV pt cm, .agg #[.int .i64 c, .int .i64 s], .string (str t)] w (TrueB w) := by
  have HB0 : Hid (Bs w _ [(w.heap.size + 2, [.int .i64 c, .int .i64 s]), (w.heap.size + 1, symC pt cm), (w.heap.size, patC p)]) := Lib.hid (by
    have := ((bs_one w (patC p) 23).alloc (symC pt cm) 25).alloc [.int .i64 c, .int .i64 s] 27
    simp only [World.size_alloc] at this
    exact this)
  have CFA := Lib.hid (fact_any hF)
  have CPF := Lib.hid fun W => refPatFault_any p W (by unfold maxLen; omega) (by unfold maxLen; omega)
  have CSF := Lib.hid fun W => refSymFault_any pt cm W
  have CC := Lib.hid fun W (hW : Below w.heap.size w W) => hC pt cm W hW
  have CDF := Lib.hid fun W => refFault_any c s W
  have CFM : Hid (∀ W, Below w.heap.size w W → Calls Tryz.prog 12 #[patV p, symV pt cm, .agg #[.int .i64 c, .int .i64 s]] W (Gives W (.tuple #[.string (str (fmtT p pt cm c s)), errV (fmtF p pt cm c s)]))) := Lib.hid fun W hW => hF p pt cm c s W hW h1 h2
  have CRD := Lib.hid fun W (hW : Below w.heap.size w W) => hR p pt cm t W hW h1 h2 hs
  have CSH : Hid (fmtF p pt cm c s = 0 → ∀ W, Calls Tryz.prog 11 #[patV p, symV pt cm, .agg #[.int .i64 c, .int .i64 s]] W (Gives W (.string (str (fmtT p pt cm c s))))) := Lib.hid fun h W => by
    rw [show fmtT p pt cm c s = _ from if_pos h]
    obtain ⟨hb, hr⟩ := fmt_zero h
    exact refShown_any p pt cm c s W (base_zero hb).1 hr
  have CRO : Hid (baseF p pt cm = 0 → ∀ W, Calls Tryz.prog 13 #[patV p, symV pt cm, .string (str t)] W (Gives W (.tuple #[.agg #[.int .i64 (rdD p pt cm t).1, .int .i64 ((rdD p pt cm t).2 : Nat)], .bool (readO p pt cm t).isSome]))) := Lib.hid fun h W => by
    rw [show rdD p pt cm t = _ from if_pos h]
    exact refReadOf_any p pt cm t W (base_zero h).1 (by omega)
  have HX : Hid (fmtF p pt cm c s ≠ 0 → str (fmtT p pt cm c s) = ⟨#[]⟩) := Lib.hid fun h => by rw [fmtT_no h]
  have HBF : Hid (baseF p pt cm = if patF p = 0 then symF pt cm else patF p) := Lib.hid rfl
  have HFF : Hid (fmtF p pt cm c s = if baseF p pt cm = 0 then (if Right c s then 0 else 1) else baseF p pt cm) := Lib.hid rfl
  have HRF : Hid (rdF p pt cm t = if baseF p pt cm = 0 then (if (readO p pt cm t).isSome then 0 else 3) else baseF p pt cm) := Lib.hid rfl
  have HRD : Hid (baseF p pt cm ≠ 0 → rdD p pt cm t = (0, 0)) := Lib.hid fun h => if_neg h
  have HSF : Hid (symF pt cm = if SymOk pt cm then 0 else 3) := Lib.hid rfl
  have E1 := Lib.hid fun W (hW : Below w.heap.size w W) => errorSame_any (symF pt cm) W (errType_later hg hW)
  have E2 := Lib.hid fun W (hW : Below w.heap.size w W) => errorSame_any (fmtF p pt cm c s) W (errType_later hg hW)
  have E3 := Lib.hid fun W (hW : Below w.heap.size w W) => errorSame_any (rdF p pt cm t) W (errType_later hg hW)
  clear hC hF hR hg h1 h2 hs hN
  generalize (readO p pt cm t).isSome = io at *
  generalize rdD p pt cm t = rd at *
  obtain ⟨rc, rs⟩ := rd
  generalize rdF p pt cm t = RF at *
  generalize fmtT p pt cm c s = FT at *
  generalize fmtF p pt cm c s = FF at *
  generalize baseF p pt cm = BF at *
  generalize patF p = PF at *
  generalize symF pt cm = SF at *
  generalize hsok : decide (¬ SymOk pt cm) = sok at *
  have HSF2 : Hid ((SF : Int) = if sok then 3 else 0) := Lib.hid (by
    have := HSF.out
    rw [this, ← hsok]
    by_cases h : SymOk pt cm <;> simp [h])
  generalize hrok : decide (¬ Right c s) = rok at *
  have HFF2 : Hid (FF = if BF = 0 then (if rok then 1 else 0) else BF) := Lib.hid (by
    have := HFF.out
    rw [this, ← hrok]
    by_cases h : Right c s <;> simp [h])
  clear hsok hrok HSF HFF
  obtain ⟨pre, suf, a, b, m, g, g2⟩ := p
  dsimp only [patV, patC, symV, symC] at HB0 CPF CSF CC CFM CRD CSH CRO ⊢
  generalize str pre = PR at *
  generalize str suf = SU at *
  generalize str FT = XX at *
  generalize str t = S at *
  have hb0 := HB0.out.below
  go_enter Tryz.func3, Tryz.ntmps3
  go_upto_region 2 with (go_at_call 5; (with_reducible refine (CFA.out _ hb0).mono ?_); rintro e w1 ⟨rfl, hb1⟩; dsimp only)
  have H1 := Lib.hid (HB0.out.call hb1)
  obtain ⟨d0, d1, s0, s1, p0, p1, p2, p3, p4, p5, p6, -⟩ := H1.out.cells
  go_upto_region 4 with (go_at_call 6; (with_reducible refine (CPF.out _).mono ?_); rintro e w2 ⟨rfl, hb2⟩; dsimp only)
  have H2 := Lib.hid (H1.out.call hb2)
  clear d0 d1 s0 s1 p0 p1 p2 p3 p4 p5 p6
  obtain ⟨d0, d1, s0, s1, p0, p1, p2, p3, p4, p5, p6, -⟩ := H2.out.cells
  go_upto_if 26 with (go_at_call 7; (with_reducible refine (CSF.out _).mono ?_); rintro e w3 ⟨rfl, hb3⟩; dsimp only)
  have H3 := Lib.hid (H2.out.call hb3)
  clear d0 d1 s0 s1 p0 p1 p2 p3 p4 p5 p6
  go_cut [11] (fun s11 wx => s11 = .int .i64 (SF : Int) ∧ w3 = wx)
  case first =>
    cases hk : sok
    all_goals
      have hsf := HSF2.out
      rw [hk] at hsf
      have HS := Lib.hid hsf
      clear hsf HSF2 hk
      go_wp2_with fail
      go_meet
      exact ⟨congrArg (Value.int .i64) HS.out.symm, rfl⟩
  case rest =>
    obtain ⟨rfl, rfl⟩ := hcut
    clear HSF2
    obtain ⟨d0, d1, s0, s1, p0, p1, p2, p3, p4, p5, p6, -⟩ := H3.out.cells
    have hB3 := H3.out.below
    generalize hsfi : (SF : Int) = sfi at *
    generalize errV SF = ev1 at *
    go_upto_if 32 with (first
      | (go_at_call 9; (with_reducible refine (CC.out _ hB3).mono ?_); rintro e w4 ⟨rfl, hb4⟩; (have H4 := Lib.hid (H3.out.call hb4)); (have hB4 := H4.out.below); dsimp only)
      | (go_at_call 8; (with_reducible refine (E1.out _ hB4).mono ?_); rintro e w5 ⟨rfl, hb5⟩; (have H5 := Lib.hid (H4.out.call hb5)); dsimp only))
    clear d0 d1 s0 s1 p0 p1 p2 p3 p4 p5 p6
    go_cut [10] (fun s10 wx => s10 = .int .i64 (BF : Int) ∧ w5 = wx)
    case first =>
      by_cases h0 : PF = 0
      · have hb := HBF.out
        rw [if_pos h0] at hb
        have hi : (PF : Int) = 0 := by omega
        have HB := Lib.hid (show sfi = (BF : Int) by omega)
        clear HBF hb hsfi h0
        generalize (PF : Int) = pfi at *
        subst hi
        go_wp2_with fail
        go_meet
        exact ⟨congrArg (Value.int .i64) HB.out, rfl⟩
      · have hb := HBF.out
        rw [if_neg h0] at hb
        have hz : ((PF : Int) == 0) = false := by rw [beq_eq_false_iff_ne]; omega
        have HB := Lib.hid (show (PF : Int) = (BF : Int) by omega)
        clear HBF hb hsfi h0
        generalize (PF : Int) = pfi at *
        go_wp2_with fail
        go_meet
        exact ⟨congrArg (Value.int .i64) HB.out, rfl⟩
    case rest =>
      obtain ⟨rfl, rfl⟩ := hcut
      clear HBF hsfi
      obtain ⟨d0, d1, s0, s1, p0, p1, p2, p3, p4, p5, p6, -⟩ := H5.out.cells
      obtain ⟨C0, HC0⟩ := flag (BF = 0)
      go_upto_region 10 with fail
      go_cut [40] (fun s40 wx => s40 = .bool (C0 && rok) ∧ ∃ V, Hid (Bs w V [(w.heap.size + 2, [.int .i64 c, .int .i64 s]), (w.heap.size + 1, [.int .u8 pt.toNat, .int .u8 cm.toNat]), (w.heap.size, [.string PR, .string SU, .int .i64 a, .int .i64 b, .int .i64 m, .int .i64 g, .int .i64 g2])]) ∧ V = wx)
      case first =>
        by_cases h0 : BF = 0
        · have hi : (BF : Int) = 0 := by omega
          have HC := Lib.hid (HC0.out.1 h0)
          clear h0 HFF2 HRF HRD CRO HC0
          generalize (BF : Int) = bfi at *
          subst hi
          go_wp2_with (go_at_call 10; (with_reducible refine (CDF.out _).mono ?_); rintro e w6 ⟨rfl, hb6⟩; dsimp only)
          go_meet
          exact ⟨val_b (by rw [HC.out]; simp), _, Lib.hid (H5.out.call hb6), rfl⟩
        · have hz : ((BF : Int) == 0) = false := by rw [beq_eq_false_iff_ne]; omega
          have HC := Lib.hid (HC0.out.2 h0)
          clear h0 HFF2 HRF HRD CRO HC0
          generalize (BF : Int) = bfi at *
          go_wp2_with fail
          go_meet
          exact ⟨val_b (by rw [HC.out]; simp), _, H5, rfl⟩
      case rest =>
        obtain ⟨rfl, V6, H6, rfl⟩ := hcut
        clear d0 d1 s0 s1 p0 p1 p2 p3 p4 p5 p6
        generalize hCk : (C0 && rok) = C at *
        go_upto_if 40 with fail
        go_cut [11] (fun s11 wx => s11 = .int .i64 (FF : Int) ∧ V6 = wx)
        case first =>
          have hf := HFF2.out
          cases hC : C
          · have HF := Lib.hid (show (BF : Int) = (FF : Int) by
              rw [hC] at hCk
              cases hC0 : C0
              · rw [if_neg (HC0.out.no hC0)] at hf
                omega
              · rw [hC0] at hCk
                have h0 := HC0.out.yes hC0
                rw [if_pos h0, show rok = false by simpa using hCk] at hf
                rw [hf, h0]; rfl)
            clear hf HC0 hC hCk HFF2 HRF HRD CRO
            go_wp2_with fail
            go_meet
            exact ⟨congrArg (Value.int .i64) HF.out, rfl⟩
          · have HF := Lib.hid (show (1 : Int) = (FF : Int) by
              rw [hC, Bool.and_eq_true] at hCk
              rw [if_pos (HC0.out.yes hCk.1), hCk.2] at hf
              rw [hf]; rfl)
            clear hf HC0 hC hCk HFF2 HRF HRD CRO
            go_wp2_with fail
            go_meet
            exact ⟨congrArg (Value.int .i64) HF.out, rfl⟩
        case rest =>
          obtain ⟨rfl, rfl⟩ := hcut
          clear HFF2 hCk
          obtain ⟨d0, d1, s0, s1, p0, p1, p2, p3, p4, p5, p6, -⟩ := H6.out.cells
          go_upto_if 42 with fail
          go_cut [13] (fun s13 wx => s13 = .string XX ∧ ∃ V, Hid (Bs w V [(w.heap.size + 2, [.int .i64 c, .int .i64 s]), (w.heap.size + 1, [.int .u8 pt.toNat, .int .u8 cm.toNat]), (w.heap.size, [.string PR, .string SU, .int .i64 a, .int .i64 b, .int .i64 m, .int .i64 g, .int .i64 g2])]) ∧ V = wx)
          case first =>
            by_cases h0 : FF = 0
            · have CS1 := Lib.hid (CSH.out h0)
              have hi : (FF : Int) = 0 := by omega
              clear h0 CSH HX HRF HRD CRO
              generalize (FF : Int) = ffi at *
              subst hi
              go_wp2_with (go_at_call 11; (with_reducible refine (CS1.out _).mono ?_); rintro e w7 ⟨rfl, hb7⟩; dsimp only)
              go_meet
              exact ⟨rfl, _, Lib.hid (H6.out.call hb7), rfl⟩
            · have hz : ((FF : Int) == 0) = false := by rw [beq_eq_false_iff_ne]; omega
              have HXX := Lib.hid (HX.out h0)
              clear h0 CSH HX HRF HRD CRO
              generalize (FF : Int) = ffi at *
              go_wp2_with fail
              go_meet
              exact ⟨by rw [HXX.out], _, H6, rfl⟩
          case rest =>
            obtain ⟨rfl, V7, H7, rfl⟩ := hcut
            clear CSH HX
            clear d0 d1 s0 s1 p0 p1 p2 p3 p4 p5 p6
            obtain ⟨d0, d1, s0, s1, p0, p1, p2, p3, p4, p5, p6, -⟩ := H7.out.cells
            have hB7 := H7.out.below
            generalize errV FF = ev2 at *
            generalize (FF : Int) = ffi at *
            go_upto_region 17 with (first
              | (go_at_call 12; (with_reducible refine (CFM.out _ hB7).mono ?_); rintro e w8 ⟨rfl, hb8⟩; (have H8 := Lib.hid (H7.out.call hb8)); (have hB8 := H8.out.below); dsimp only)
              | (go_at_call 8; (with_reducible refine (E2.out _ hB8).mono ?_); rintro e w9 ⟨rfl, hb9⟩; (have H9 := Lib.hid (H8.out.call hb9)); dsimp only))
            clear d0 d1 s0 s1 p0 p1 p2 p3 p4 p5 p6
            have HA := Lib.hid (H9.out.alloc [.int .i64 0, .int .i64 0] 27)
            go_upto_if 58 with fail
            generalize hWA : w9.alloc (.cells #[.int .i64 0, .int .i64 0] 27) = WA at *
            obtain ⟨q0, q1, d0, d1, s0, s1, p0, p1, p2, p3, p4, p5, p6, -⟩ := HA.out.cells
            go_cut [10] (fun s10 wx => s10 = .int .i64 (RF : Int) ∧ ∃ V, Hid (Bs w V ((w9.heap.size, [.int .i64 rc, .int .i64 (rs : Int)]) :: [(w.heap.size + 2, [.int .i64 c, .int .i64 s]), (w.heap.size + 1, [.int .u8 pt.toNat, .int .u8 cm.toNat]), (w.heap.size, [.string PR, .string SU, .int .i64 a, .int .i64 b, .int .i64 m, .int .i64 g, .int .i64 g2])])) ∧ V = wx)
            case first =>
              by_cases h0 : BF = 0
              · have CR1 := Lib.hid (CRO.out h0)
                have hrf := HRF.out
                rw [if_pos h0] at hrf
                have hi : (BF : Int) = 0 := by omega
                have HR0 : Hid (io = true → (0 : Int) = (RF : Int)) := Lib.hid fun h => by rw [hrf, h]; rfl
                have HR3 : Hid (io = false → (3 : Int) = (RF : Int)) := Lib.hid fun h => by rw [hrf, h]; rfl
                clear hrf h0 CRO HRF HRD HC0
                generalize (BF : Int) = bfi at *
                subst hi
                obtain ⟨f0, f1⟩ := HA.out.open2
                cases hio : io
                all_goals
                  go_wp2_with (go_at_call 13; (with_reducible refine (CR1.out _).mono ?_); rintro e w10 ⟨rfl, hb10⟩; (have H10 := Lib.hid ((HA.out.call hb10).alloc [.int .i64 rc, .int .i64 (rs : Int)] 27)); (obtain ⟨y0, y1, z0, z1, -⟩ := H10.out.cells); (obtain ⟨g0, g1⟩ := H10.out.open2b); dsimp only)
                  have H11 := Lib.hid (H10.out.put2b (.int .i64 rc) (.int .i64 (rs : Int))).tail
                  go_meet
                · exact ⟨congrArg (Value.int .i64) (HR3.out hio), _, H11, rfl⟩
                · exact ⟨congrArg (Value.int .i64) (HR0.out hio), _, H11, rfl⟩
              · have hrf := HRF.out
                rw [if_neg h0] at hrf
                have hz : ((BF : Int) == 0) = false := by rw [beq_eq_false_iff_ne]; omega
                obtain ⟨hr1, hr2⟩ := Prod.mk.inj (HRD.out h0)
                have HR := Lib.hid (show (BF : Int) = (RF : Int) by omega)
                clear hrf h0 CRO HRF HRD HC0
                subst hr1
                subst hr2
                generalize (BF : Int) = bfi at *
                go_wp2_with fail
                go_meet
                exact ⟨congrArg (Value.int .i64) HR.out, _, HA, rfl⟩
            case rest =>
              obtain ⟨rfl, V9, HV9, rfl⟩ := hcut
              clear CRO HRF HRD q0 q1 d0 d1 s0 s1 p0 p1 p2 p3 p4 p5 p6
              obtain ⟨q0, q1, d0, d1, s0, s1, p0, p1, p2, p3, p4, p5, p6, -⟩ := HV9.out.cells
              have hB9 := HV9.out.below
              generalize errV RF = ev3 at *
              generalize (RF : Int) = rfi at *
              go_upto_region 24 with (go_at_call 14; (with_reducible refine (CRD.out _ hB9).mono ?_); rintro e w12 ⟨rfl, hb12⟩; (have H12 := Lib.hid ((HV9.out.call hb12).alloc [.int .i64 rc, .int .i64 (rs : Int)] 27)); (have hB12 := H12.out.below); dsimp only)
              clear q0 q1 d0 d1 s0 s1 p0 p1 p2 p3 p4 p5 p6
              go_upto_region 25 with (go_at_call 8; (with_reducible refine (E3.out _ hB12).mono ?_); rintro e w13 ⟨rfl, hb13⟩; (have H13 := Lib.hid (H12.out.call hb13)); dsimp only)
              obtain ⟨y0, y1, z0, z1, -⟩ := H13.out.cells
              go_wp2_with fail
              go_ret
              exact ⟨rfl, H13.out.below⟩
end No
end Go.Proofs.YtehocgemgdbikaaGreatDoor
