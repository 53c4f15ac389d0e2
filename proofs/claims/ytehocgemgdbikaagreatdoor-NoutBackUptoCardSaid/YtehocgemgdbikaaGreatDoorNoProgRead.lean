/- The program's Read: the number that a text could be that of, and whether it is shown so. -/
import Derived.Test.YtehocgemgdbikaaGreatDoorNoProgFormat
import Derived.Test.YtehocgemgdbikaaGreatDoorNoReadSays
import Derived.Test.YtehocgemgdbikaaGreatDoorGrProg
import Derived.Test.YtehocgemgdbikaaGreatDoorCutOne
import Derived.Test.YtehocgemgdbikaaGreatDoorStrc
namespace Go.Proofs.YtehocgemgdbikaaGreatDoor
namespace No
open Go.RowKit D Ru Np

/-- what strconv's and strings' functions read -/
structure REnv (w : World) : Prop where
  strc : Strc w
  maxl : Gr.MaxL w
theorem REnv.later {w W : World} (h : REnv w) (hb : Below w.heap.size w W) : REnv W := ⟨h.strc.later hb, h.maxl.later hb⟩
/-- what Atoi tells of a text -/
def AtoiP (w : World) (o : Option Int) (e : Ending) (w' : World) : Prop := ∃ (v : Int) (ev : Value), e = .returned (.tuple #[.int .i64 v, ev]) ∧ ((o = some v ∧ ev = .nilIface) ∨ (o = none ∧ ∃ p, ev = .iface 155 p)) ∧ Below w.heap.size w w'
theorem atoi_o (l : List UInt8) (w : World) (hs : l.length ≤ 281474976710656) (hE : Strc w) : Calls Tryz.prog 61 #[.string (str l)] w (AtoiP w (atoiO l)) := by
  have hz : (str l).size ≤ 281474976710656 := by rw [str_len]; exact hs
  cases ha : atoiO l with
  | none =>
    refine (atoi_bad (str l) w hE hz (fun v hv => by rw [str_data] at hv; unfold atoiO at ha; rw [hv] at ha; cases ha)).mono fun e w' ⟨v, N, he, hb⟩ => ⟨v, _, he, .inr ⟨rfl, _, rfl⟩, hb⟩
  | some v =>
    have hv : Lib.atoiAll l = .ok v := by
      unfold atoiO at ha
      split at ha
      · rename_i hx; rw [hx]; injection ha with ha; rw [ha]
      · cases ha
    exact (atoi_good (str l) w hz v (by rw [str_data]; exact hv)).mono fun e w' ⟨he, hb⟩ => ⟨v, _, he, .inl ⟨rfl, rfl⟩, hb⟩
theorem trimPre_any (a b : List UInt8) (w : World) : Calls Tryz.prog 59 #[.string (str a), .string (str b)] w fun e w' => e = .returned (.string (str (Lib.trimPrefix a b))) ∧ w = w' := by
  refine (Tryz.strings_TrimPrefix (str a) (str b) w).mono fun e w' ⟨he, hw⟩ => ⟨?_, hw.symm⟩
  rw [he, str_data, str_data]
theorem trimSuf_any (a b : List UInt8) (w : World) (hl : a.length ≤ 140737488355328) : Calls Tryz.prog 58 #[.string (str a), .string (str b)] w fun e w' => e = .returned (.string (str (Lib.trimSuffix a b))) ∧ w = w' := by
  refine (Tryz.strings_TrimSuffix (str a) (str b) w (by rw [str_len]; omega)).mono fun e w' ⟨he, hw⟩ => ⟨?_, hw.symm⟩
  rw [he, str_data, str_data]
theorem bare_len (t : List UInt8) : (bareT t).length ≤ t.length := by
  unfold bareT
  split
  · rw [List.length_drop]; omega
  · exact Nat.le_refl _
theorem inner_len (p : PatV) (t : List UInt8) : (Lib.trimPrefix (bareT t) p.pre).length ≤ t.length ∧ (innerT p t).length ≤ t.length := by
  have h1 := bare_len t
  have h2 := Lib.trimPrefix_le (bareT t) p.pre
  have h3 := Lib.trimSuffix_le (Lib.trimPrefix (bareT t) p.pre) p.suf
  unfold innerT
  omega
theorem cut_parts (l : List UInt8) (c : UInt8) : (Lib.cut l [c]).1.length + (Lib.cut l [c]).2.1.length ≤ l.length := by
  have := cut_sep_size c (str l)
  rw [str_data, str_len, str_len, str_len] at this
  exact this
/-- what loose tells -/
def LooseP (w : World) (o : Option (Int × Nat)) (e : Ending) (w' : World) : Prop := e = .returned (.tuple #[.agg #[.int .i64 (o.getD (0, 0)).1, .int .i64 ((o.getD (0, 0)).2 : Nat)], .bool o.isSome]) ∧ Below w.heap.size w w'
set_option maxHeartbeats 8000000 in
set_option maxRecDepth 100000 in
theorem loose_any (p : PatV) (pt cm : UInt8) (t : List UInt8) (w : World) (hp : patF p = 0) (hy : SymOk pt cm) (hl : t.length < 4294967281) (hE : REnv w) :
    Calls Tryz.prog 35 #[patV p, symV pt cm, .string (str t)] w (LooseP w (looseL p pt cm t)) := by
  have HB0 : Hid (Bs w _ [(w.heap.size + 1 + 1, [.int .i64 0, .int .i64 0]), (w.heap.size + 1, symC pt cm), (w.heap.size, patC p)]) := Lib.hid (by
    have := ((bs_one w (patC p) 23).alloc (symC pt cm) 25).alloc [.int .i64 0, .int .i64 0] 27
    simp only [World.size_alloc] at this
    exact this)
  have ok := pat_ok hp
  obtain ⟨n1, n2⟩ := inner_len p t
  have n3 := cut_parts (innerT p t) pt
  have CM := Lib.hid fun W => cutminus_any t W
  have CP := Lib.hid fun W => trimPre_any (bareT t) p.pre W
  have CS := Lib.hid fun W => trimSuf_any (Lib.trimPrefix (bareT t) p.pre) p.suf W (by omega)
  rw [show Lib.trimSuffix (Lib.trimPrefix (bareT t) p.pre) p.suf = innerT p t from rfl] at CS
  have CC := Lib.hid fun W => cut_sep pt (str (innerT p t)) W (by rw [str_len]; omega)
  rw [str_data, show (Lib.cut (innerT p t) [pt]).1 = wholeT p pt t from rfl] at CC
  have CK := Lib.hid fun W (hW : Below w.heap.size w W) => Gr.take_any (wholeT p pt t) p.g p.g2 cm W (by unfold wholeT; omega) (hE.maxl.later hW)
  have CR := Lib.hid fun W => trimR_any (Lib.cut (innerT p t) [pt]).2.1 W (by omega)
  rw [show Lib.trimRightB (Lib.cut (innerT p t) [pt]).2.1 48 = partT p pt t from rfl] at CR
  have n4 := trimR_le (Lib.cut (innerT p t) [pt]).2.1
  rw [show Lib.trimRightB (Lib.cut (innerT p t) [pt]).2.1 48 = partT p pt t from rfl] at n4
  have n5 : (wholeT p pt t).length + (partT p pt t).length ≤ t.length := by unfold wholeT; omega
  have HV := Lib.hid fun W => sign_text hy.2.1 W
  have HL : Hid (looseL p pt cm t = if Gr.takeF (wholeT p pt t) p.g p.g2 cm = 0 then (atoiO (Gr.takeT (wholeT p pt t) p.g p.g2 cm ++ partT p pt t)).map fun v => (if negT t then -v else v, (partT p pt t).length) else none) := Lib.hid rfl
  have hps := str_len (partT p pt t)
  clear n3 n4 n1 n2 ok hp hy
  generalize looseL p pt cm t = LO at *
  generalize (Lib.cut (innerT p t) [pt]).2.1 = fr at *
  generalize (Lib.cut (innerT p t) [pt]).2.2 = bb at *
  generalize Lib.trimPrefix (bareT t) p.pre = t1 at *
  generalize innerT p t = t2 at *
  generalize bareT t = t0 at *
  generalize negT t = ng at *
  generalize wholeT p pt t = wt at *
  generalize partT p pt t = pr at *
  have hbel0 := HB0.out.below
  obtain ⟨pre, suf, a, b, m, gq, gk⟩ := p
  dsimp only at *
  go_enter Tryz.func35, Tryz.ntmps35
  go_upto_region 2 with (go_at_call 28; (with_reducible refine (CM.out _).mono ?_); rintro e w1 ⟨rfl, rfl⟩; dsimp only)
  generalize ((w.alloc _).alloc _).alloc _ = W0 at *
  have HX : Hid (∀ wx, Below W0.heap.size W0 wx → Below W0.heap.size W0 wx ∧ wx.cell? ⟨w.heap.size, 0, none⟩ = some (.string (str pre)) ∧ wx.cell? ⟨w.heap.size, 1, none⟩ = some (.string (str suf))) := Lib.hid fun wx hb => by
    obtain ⟨-, -, -, -, p0, p1, -⟩ := (HB0.out.call hb).cells
    exact ⟨hb, p0, p1⟩
  obtain ⟨hB0, p0, p1⟩ := HX.out _ (Below.refl W0.heap.size W0)
  go_region_held3 (fun wx => Below W0.heap.size W0 wx ∧ wx.cell? ⟨w.heap.size, 0, none⟩ = some (.string (str pre)) ∧ wx.cell? ⟨w.heap.size, 1, none⟩ = some (.string (str suf)))
    (first | exact HX.out _ (by assumption) | exact HX.out _ (Below.drew (by assumption)))
    (first
      | (go_at_call 59; (with_reducible refine (CP.out _).mono ?_); rintro e wy ⟨rfl, rfl⟩)
      | (go_at_call 58; (with_reducible refine (CS.out _).mono ?_); rintro e wz ⟨rfl, rfl⟩))
  have HB2 := Lib.hid HB0.out.drew
  clear hB0 p0 p1 HX hbel0 HB0 CM CP CS
  generalize W0.drew = W2 at *
  obtain ⟨-, -, y0, y1, p0, p1, p2, p3, p4, p5, p6, -⟩ := HB2.out.cells
  have hsg := HV.out W2
  go_upto_region 4 with (go_at_call 30; (with_reducible refine (CC.out _).mono ?_); rintro e w3 ⟨rfl, nd, rfl⟩; dsimp only)
  have HB3 := Lib.hid (HB2.out.drewN nd)
  clear y0 y1 p0 p1 p2 p3 p4 p5 p6 hsg HV CC HB2
  generalize W2.drewN nd = W3 at *
  have hbel3 := HB3.out.below
  obtain ⟨-, -, y0, y1, p0, p1, p2, p3, p4, p5, p6, -⟩ := HB3.out.cells
  by_cases hk : Gr.takeF wt gq gk cm = 0
  · rw [if_pos hk] at HL
    have hz := Gr.takeF_zero.1 hk
    have hT : Gr.takeT wt gq gk cm = Gr.bare cm wt := Gr.takeT_zero hk
    have CY := Lib.hid fun W (hW : Below w.heap.size w W) => textE_yes (CK.out W hW) hk
    rw [hT] at CY HL
    have hnum := hz.2.1
    have hbl := Gr.bare_le cm wt
    have CA := Lib.hid fun W (hW : Below w.heap.size w W) => atoi_o (Gr.bare cm wt ++ pr) W (by rw [List.length_append]; omega) (hE.strc.later hW)
    have HN := Lib.hid fun (v : Int) (hv : atoiO (Gr.bare cm wt ++ pr) = some v) => atoi_num hnum hv
    have hg1 : ¬ 9223372036854775807 < (str (Gr.bare cm wt)).size + (str pr).size := by rw [str_len, str_len]; omega
    have hg2 : ¬ 9223372036854775807 < (Gr.bare cm wt).length + pr.length := by omega
    have hadd := add_str (Gr.bare cm wt) pr
    clear hz hT hk CK hnum hbl hE
    generalize Gr.bare cm wt = bw at *
    generalize str (bw ++ pr) = SA at *
    generalize atoiO (bw ++ pr) = AO at *
    go_upto_region 8 with (first
      | (go_at_call 60; (with_reducible refine (CY.out _ hbel3).mono ?_); rintro e w4 ⟨rfl, hb4⟩; dsimp only)
      | (go_at_call 57; (with_reducible refine (CR.out _).mono ?_); rintro e w5 ⟨rfl, rfl⟩))
    have HB4 := Lib.hid (HB3.out.call hb4)
    have hbel4 := HB4.out.below
    clear y0 y1 p0 p1 p2 p3 p4 p5 p6 hb4 HB3 hbel3
    cases AO with
    | none =>
      have CN := Lib.hid fun W (hW : Below w.heap.size w W) => (CA.out W hW).mono fun e w' (h : AtoiP W none e w') => show ∃ (v : Int) (q : Value), e = .returned (.tuple #[.int .i64 v, .iface 155 q]) ∧ Below W.heap.size W w' by
        obtain ⟨v, ev, he, h, hb⟩ := h
        rcases h with ⟨h, -⟩ | ⟨-, q, rfl⟩
        · cases h
        · exact ⟨v, q, he, hb⟩
      go_upto_region 9 with (go_at_call 61; (with_reducible refine (CN.out _ hbel4).mono ?_); rintro e w6 ⟨v, q, rfl, hb6⟩; dsimp only)
      have HB6 := Lib.hid (HB4.out.call hb6)
      obtain ⟨q0, q1⟩ := HB6.out.open2
      obtain ⟨e0, e1, -⟩ := HB6.out.cells
      have HBf := HB6.out.put2 (.int .i64 0) (.int .i64 0)
      go_wp2_with fail
      obtain ⟨z0, z1, -⟩ := HBf.cells
      refine bodyPost_ret (v := .tuple #[.agg #[.int .i64 0, .int .i64 0], .bool false]) ?_ rfl ⟨by rw [HL.out]; rfl, HBf.below⟩
      simp [results, Tryz.results35, go_sem, z0, z1]
    | some v =>
      obtain ⟨v0, v1⟩ := HN.out v rfl
      have CN := Lib.hid fun W (hW : Below w.heap.size w W) => (CA.out W hW).mono fun e w' (h : AtoiP W (some v) e w') => show e = .returned (.tuple #[.int .i64 v, .nilIface]) ∧ Below W.heap.size W w' by
        obtain ⟨v', ev, he, h, hb⟩ := h
        rcases h with ⟨h, rfl⟩ | ⟨h, -⟩
        · injection h with h; subst h; exact ⟨he, hb⟩
        · cases h
      have wn : IntKind.i64.wrap (-v) = -v := by rw [IntKind.wrap_i64]; omega
      clear CA HN
      go_upto_region 9 with (go_at_call 61; (with_reducible refine (CN.out _ hbel4).mono ?_); rintro e w6 ⟨rfl, hb6⟩; dsimp only)
      have HB6 := Lib.hid (HB4.out.call hb6)
      obtain ⟨q0, q1⟩ := HB6.out.open2
      obtain ⟨e0, e1, -⟩ := HB6.out.cells
      cases ng with
      | true =>
        have HBf := HB6.out.put2 (.int .i64 (-v)) (.int .i64 (pr.length : Nat))
        go_wp2_with fail
        obtain ⟨z0, z1, -⟩ := HBf.cells
        refine bodyPost_ret (v := .tuple #[.agg #[.int .i64 (-v), .int .i64 (pr.length : Nat)], .bool true]) ?_ rfl ⟨by rw [HL.out]; rfl, HBf.below⟩
        simp [results, Tryz.results35, go_sem, z0, z1]
      | false =>
        have HBf := HB6.out.put2 (.int .i64 v) (.int .i64 (pr.length : Nat))
        go_wp2_with fail
        obtain ⟨z0, z1, -⟩ := HBf.cells
        refine bodyPost_ret (v := .tuple #[.agg #[.int .i64 v, .int .i64 (pr.length : Nat)], .bool true]) ?_ rfl ⟨by rw [HL.out]; rfl, HBf.below⟩
        simp [results, Tryz.results35, go_sem, z0, z1]
  · rw [if_neg hk] at HL
    have CN := Lib.hid fun W (hW : Below w.heap.size w W) => textE_no (CK.out W hW) hk (Gr.takeT_no hk)
    generalize Gr.takeF wt gq gk cm = z at *
    clear CK hk CR hE
    go_upto_region 6 with (go_at_call 60; (with_reducible refine (CN.out _ hbel3).mono ?_); rintro e w4 ⟨rfl, hb4⟩; dsimp only)
    have HB6 := Lib.hid (HB3.out.call hb4)
    clear y0 y1 p0 p1 p2 p3 p4 p5 p6
    obtain ⟨q0, q1⟩ := HB6.out.open2
    obtain ⟨e0, e1, -⟩ := HB6.out.cells
    have HBf := HB6.out.put2 (.int .i64 0) (.int .i64 0)
    go_wp2_with fail
    obtain ⟨z0, z1, -⟩ := HBf.cells
    refine bodyPost_ret (v := .tuple #[.agg #[.int .i64 0, .int .i64 0], .bool false]) ?_ rfl ⟨by rw [HL.out]; rfl, HBf.below⟩
    simp [results, Tryz.results35, go_sem, z0, z1]
/-! ### Read -/
def ReadP (w : World) (d : Int × Nat) (k : Nat) (e : Ending) (w' : World) : Prop := e = .returned (.tuple #[.agg #[.int .i64 d.1, .int .i64 (d.2 : Nat)], errV k]) ∧ Below w.heap.size w w'
theorem rd_of {p : PatV} {pt cm : UInt8} {t : List UInt8} (hb : baseF p pt cm = 0) : (∀ d, readO p pt cm t = some d → rdF p pt cm t = 0 ∧ rdD p pt cm t = d) ∧ (readO p pt cm t = none → rdF p pt cm t = 3 ∧ rdD p pt cm t = (0, 0)) := by
  refine ⟨fun d h => rd_some hb h, fun h => ?_⟩
  unfold rdF rdD
  rw [if_pos hb, if_pos hb, h]
  exact ⟨rfl, rfl⟩
set_option maxHeartbeats 8000000 in
set_option maxRecDepth 100000 in
theorem read_any (p : PatV) (pt cm : UInt8) (t : List UInt8) (w : World) (h1 : p.pre.length ≤ 140737488355328) (h2 : p.suf.length ≤ 140737488355328) (hl : t.length < 4294967281) (hE : REnv w) :
    Calls Tryz.prog 14 #[patV p, symV pt cm, .string (str t)] w (ReadP w (rdD p pt cm t) (rdF p pt cm t)) := by
  have HB0 : Hid (Bs w _ [(w.heap.size + 1 + 1, [.int .i64 0, .int .i64 0]), (w.heap.size + 1, symC pt cm), (w.heap.size, patC p)]) := Lib.hid (by
    have := ((bs_one w (patC p) 23).alloc (symC pt cm) 25).alloc [.int .i64 0, .int .i64 0] 27
    simp only [World.size_alloc] at this
    exact this)
  have CB := Lib.hid fun W => both_any p pt cm W h1 h2
  by_cases hb : baseF p pt cm = 0
  · obtain ⟨hp, hy⟩ := base_zero hb
    obtain ⟨R1, R2, R3⟩ := read_loose hp hy t
    obtain ⟨D1, D2⟩ := rd_of (t := t) hb
    have CL := Lib.hid fun W (hW : Below w.heap.size w W) => loose_any p pt cm t W hp hy hl (hE.later hW)
    have CF := Lib.hid fun (c : Int) (k : Nat) W (hW : Below w.heap.size w W) => format_any p pt cm c k W h1 h2 (hE.strc.later hW).tab
    have HFZ : Hid (∀ c (k : Nat), fmtF p pt cm c k = 0 → Right c k ∧ fmtT p pt cm c k = shownL p pt cm (fitI p c k).1 (fitI p c k).2) := Lib.hid fun c k h => ⟨(fmt_zero h).2, if_pos h⟩
    have HFN : Hid (∀ c (k : Nat), fmtF p pt cm c k ≠ 0 → fmtT p pt cm c k = []) := Lib.hid fun c k h => fmtT_no h
    have HFR : Hid (∀ c (k : Nat), fmtF p pt cm c k ≠ 0 → ¬ Right c k) := Lib.hid fun c k h hr => h (fmt_ok hb hr)
    rw [hb, show errV 0 = .nilIface from rfl] at CB
    have HST : Hid (∀ l, str l = str t → l = t) := Lib.hid fun l h => by have := congrArg (fun x : ByteArray => x.data.toList) h; simpa using this
    clear hb hp hy h1 h2 hl hE
    generalize rdD p pt cm t = DD at *
    generalize rdF p pt cm t = FF at *
    generalize readO p pt cm t = RO at *
    obtain ⟨pre, suf, a, b, m, gq, gk⟩ := p
    obtain ⟨d0, d1, y0, y1, p0, p1, p2, p3, p4, p5, p6, -⟩ := HB0.out.cells
    go_enter Tryz.func14, Tryz.ntmps14
    go_upto_region 4 with (go_at_call 27; (with_reducible refine (CB.out _).mono ?_); rintro e w1 ⟨rfl, hb1⟩)
    have HB1 := Lib.hid (HB0.out.call hb1)
    have hbel1 := HB1.out.below
    clear d0 d1 y0 y1 p0 p1 p2 p3 p4 p5 p6 HB0 hb1
    obtain ⟨d0, d1, y0, y1, p0, p1, p2, p3, p4, p5, p6, -⟩ := HB1.out.cells
    cases hLO : looseL ⟨pre, suf, a, b, m, gq, gk⟩ pt cm t with
    | none =>
      obtain ⟨rfl, rfl⟩ := D2 (R2 hLO)
      rw [hLO] at CL
      have CN := Lib.hid fun W (hW : Below w.heap.size w W) => (CL.out W hW).mono fun e w' (h : LooseP W none e w') => show e = .returned (.tuple #[.agg #[.int .i64 0, .int .i64 0], .bool false]) ∧ Below W.heap.size W w' from h
      clear R1 R2 R3 D1 D2 CL hLO CF HFZ HFN HFR
      go_upto_region 6 with (go_at_call 35; (with_reducible refine (CN.out _ hbel1).mono ?_); rintro e w2 ⟨rfl, hb2⟩; dsimp only)
      have HB2 := Lib.hid ((HB1.out.call hb2).alloc [.int .i64 0, .int .i64 0] 27)
      clear d0 d1 y0 y1 p0 p1 p2 p3 p4 p5 p6 HB1 hb2
      generalize w2.alloc _ = W2 at *
      obtain ⟨q0, q1⟩ := HB2.out.open2b
      obtain ⟨e0, e1, f0, f1, -⟩ := HB2.out.cells
      have HBf := HB2.out.put2b (.int .i64 0) (.int .i64 0)
      go_wp2_with fail
      obtain ⟨-, -, z0, z1, -⟩ := HBf.cells
      refine bodyPost_ret (v := .tuple #[.agg #[.int .i64 0, .int .i64 0], .iface 29 (.int .i64 3)]) ?_ rfl ⟨rfl, HBf.below⟩
      simp [results, Tryz.results14, go_sem, z0, z1]
    | some d =>
      obtain ⟨c, k⟩ := d
      rw [hLO] at CL
      have CN := Lib.hid fun W (hW : Below w.heap.size w W) => (CL.out W hW).mono fun e w' (h : LooseP W (some (c, k)) e w') => show e = .returned (.tuple #[.agg #[.int .i64 c, .int .i64 (k : Nat)], .bool true]) ∧ Below W.heap.size W w' from h
      have R1 := R1 (c, k) hLO
      have R3 := R3 (c, k) hLO
      have hne0 : ∀ l, str l = str t → l = t := HST.out
      go_upto_region 7 with (go_at_call 35; (with_reducible refine (CN.out _ hbel1).mono ?_); rintro e w2 ⟨rfl, hb2⟩; dsimp only)
      have HB2 := Lib.hid ((HB1.out.call hb2).alloc [.int .i64 c, .int .i64 (k : Nat)] 27)
      clear d0 d1 y0 y1 p0 p1 p2 p3 p4 p5 p6 HB1 CL CN
      generalize hW2 : w2.alloc _ = W2 at *
      clear hW2
      have hbel2 := HB2.out.below
      obtain ⟨e0, e1, f0, f1, y0, y1, p0, p1, p2, p3, p4, p5, p6, -⟩ := HB2.out.cells
      by_cases hf : fmtF ⟨pre, suf, a, b, m, gq, gk⟩ pt cm c k = 0
      · obtain ⟨hr, hT⟩ := HFZ.out c k hf
        have CY := Lib.hid fun W (hW : Below w.heap.size w W) => textE_yes (CF.out c k W hW) hf
        rw [hT] at CY
        by_cases hs : shownL ⟨pre, suf, a, b, m, gq, gk⟩ pt cm (fitI ⟨pre, suf, a, b, m, gq, gk⟩ c k).1 (fitI ⟨pre, suf, a, b, m, gq, gk⟩ c k).2 = t
        · obtain ⟨rfl, rfl⟩ := D1 _ (R1 hr hs)
          rw [hs] at CY
          clear R1 R2 R3 D1 D2 CF HFZ HFN HFR hT hr hs hf hne0 HST hLO
          generalize str t = T at *
          go_upto_region 8 with (go_at_call 12; (with_reducible refine (CY.out _ hbel2).mono ?_); rintro e w3 ⟨rfl, hb3⟩; dsimp only)
          have HB3 := Lib.hid (HB2.out.call hb3)
          clear e0 e1 f0 f1 y0 y1 p0 p1 p2 p3 p4 p5 p6 HB2
          obtain ⟨q0, q1⟩ := HB3.out.open2b
          obtain ⟨e0, e1, f0, f1, -⟩ := HB3.out.cells
          have HBf := HB3.out.put2b (.int .i64 c) (.int .i64 (k : Nat))
          go_wp2_with fail
          obtain ⟨-, -, z0, z1, -⟩ := HBf.cells
          refine bodyPost_ret (v := .tuple #[.agg #[.int .i64 c, .int .i64 (k : Nat)], .nilIface]) ?_ rfl ⟨rfl, HBf.below⟩
          simp [results, Tryz.results14, go_sem, z0, z1]
        · obtain ⟨rfl, rfl⟩ := D2 (R3 fun h => hs h.2)
          have hne : str (shownL ⟨pre, suf, a, b, m, gq, gk⟩ pt cm (fitI ⟨pre, suf, a, b, m, gq, gk⟩ c k).1 (fitI ⟨pre, suf, a, b, m, gq, gk⟩ c k).2) ≠ str t := fun h => hs (hne0 _ h)
          have hne1 := (toList_ne hne).1
          have hne2 := (toList_ne hne).2
          clear R1 R2 R3 D1 D2 CF HFZ HFN HFR hT hr hs hf hne0 HST hLO hne
          generalize str (shownL ⟨pre, suf, a, b, m, gq, gk⟩ pt cm (fitI ⟨pre, suf, a, b, m, gq, gk⟩ c k).1 (fitI ⟨pre, suf, a, b, m, gq, gk⟩ c k).2) = S at *
          generalize str t = T at *
          go_upto_region 8 with (go_at_call 12; (with_reducible refine (CY.out _ hbel2).mono ?_); rintro e w3 ⟨rfl, hb3⟩; dsimp only)
          have HB3 := Lib.hid (HB2.out.call hb3)
          clear e0 e1 f0 f1 y0 y1 p0 p1 p2 p3 p4 p5 p6 HB2
          obtain ⟨q0, q1⟩ := HB3.out.open2b
          obtain ⟨e0, e1, f0, f1, -⟩ := HB3.out.cells
          have HBf := HB3.out.put2b (.int .i64 0) (.int .i64 0)
          go_wp2_with fail
          obtain ⟨-, -, z0, z1, -⟩ := HBf.cells
          refine bodyPost_ret (v := .tuple #[.agg #[.int .i64 0, .int .i64 0], .iface 29 (.int .i64 3)]) ?_ rfl ⟨rfl, HBf.below⟩
          simp [results, Tryz.results14, go_sem, z0, z1]
      · obtain ⟨rfl, rfl⟩ := D2 (R3 fun h => HFR.out c k hf h.1)
        have CY := Lib.hid fun W (hW : Below w.heap.size w W) => textE_no (CF.out c k W hW) hf (HFN.out c k hf)
        generalize fmtF ⟨pre, suf, a, b, m, gq, gk⟩ pt cm c k = z at *
        clear R1 R2 R3 D1 D2 CF HFZ HFN HFR hf hne0 HST hLO
        generalize str t = T at *
        go_upto_region 8 with (go_at_call 12; (with_reducible refine (CY.out _ hbel2).mono ?_); rintro e w3 ⟨rfl, hb3⟩; dsimp only)
        have HB3 := Lib.hid (HB2.out.call hb3)
        clear e0 e1 f0 f1 y0 y1 p0 p1 p2 p3 p4 p5 p6 HB2
        obtain ⟨q0, q1⟩ := HB3.out.open2b
        obtain ⟨e0, e1, f0, f1, -⟩ := HB3.out.cells
        have HBf := HB3.out.put2b (.int .i64 0) (.int .i64 0)
        go_wp2_with fail
        obtain ⟨-, -, z0, z1, -⟩ := HBf.cells
        refine bodyPost_ret (v := .tuple #[.agg #[.int .i64 0, .int .i64 0], .iface 29 (.int .i64 3)]) ?_ rfl ⟨rfl, HBf.below⟩
        simp [results, Tryz.results14, go_sem, z0, z1]
  · have hk : rdF p pt cm t = baseF p pt cm ∧ rdD p pt cm t = (0, 0) := by unfold rdF rdD; rw [if_neg hb, if_neg hb]; exact ⟨rfl, rfl⟩
    rw [hk.1, hk.2]
    rw [show errV (baseF p pt cm) = .iface 29 (.int .i64 (baseF p pt cm)) from if_neg hb] at CB
    have HE : Hid (errV (baseF p pt cm) = .iface 29 (.int .i64 (baseF p pt cm))) := Lib.hid (if_neg hb)
    clear hk hb h1 h2 hl hE
    generalize baseF p pt cm = B at *
    obtain ⟨pre, suf, a, b, m, gq, gk⟩ := p
    obtain ⟨d0, d1, y0, y1, p0, p1, p2, p3, p4, p5, p6, -⟩ := HB0.out.cells
    go_enter Tryz.func14, Tryz.ntmps14
    go_upto_region 2 with (go_at_call 27; (with_reducible refine (CB.out _).mono ?_); rintro e w1 ⟨rfl, hb1⟩)
    have HB1 := Lib.hid (HB0.out.call hb1)
    clear d0 d1 y0 y1 p0 p1 p2 p3 p4 p5 p6 HB0 hb1
    obtain ⟨q0, q1⟩ := HB1.out.open2
    obtain ⟨e0, e1, -⟩ := HB1.out.cells
    have HBf := HB1.out.put2 (.int .i64 0) (.int .i64 0)
    go_wp2_with fail
    obtain ⟨z0, z1, -⟩ := HBf.cells
    refine bodyPost_ret (v := .tuple #[.agg #[.int .i64 0, .int .i64 0], .iface 29 (.int .i64 B)]) ?_ rfl ⟨by rw [HE.out]; rfl, HBf.below⟩
    simp [results, Tryz.results14, go_sem, z0, z1]
theorem read_ok (N : Nat) (w : World) (hN : N < 4294967281) (hE : REnv w) : ReadOk N w := fun p pt cm t W hW h1 h2 h3 => read_any p pt cm t W (by omega) (by omega) (by omega) (hE.later hW)
end No
end Go.Proofs.YtehocgemgdbikaaGreatDoor
