/- The reference's text of a number by a pattern; what lay in memory stays as it was. -/
import Derived.Test.YtehocgemgdbikaaGreatDoorNoRef
import Derived.Test.YtehocgemgdbikaaGreatDoorGrRef
import Derived.Test.YtehocgemgdbikaaGreatDoorRefCut
import Derived.Test.YtehocgemgdbikaaGreatDoorDecRefRound
import Derived.Test.YtehocgemgdbikaaGreatDoorDecRefTextOf
import Derived.Test.YtehocgemgdbikaaGreatDoorDecSize
import Derived.Deep.RegionLaw
namespace Go.Proofs.YtehocgemgdbikaaGreatDoor
namespace No
open Go.RowKit Go.Maps D Ru Np

/-- the pieces of a number's text -/
def piecesN (n s : Nat) : List (List UInt8) := if s = 0 then [Lib.decDigits n] else [Lib.decDigits (n / 10 ^ s), low s n]
theorem no_point {l : List UInt8} (h : Digs l) : (46 : UInt8) ∉ l := fun hm => by
  have h1 := h 46 hm
  have : (46 : UInt8).toNat = 46 := rfl
  omega
theorem cut_pieces (n s : Nat) : cutL [46] (text (n : Int) s) = piecesN n s := by
  unfold text piecesN
  rw [if_neg (by omega), List.nil_append, Int.natAbs_natCast]
  by_cases h : s = 0
  · subst h
    rw [if_pos rfl, if_pos rfl, List.append_nil, Nat.pow_zero, Nat.div_one]
    exact cut_join (ps := [Lib.decDigits n]) (first_one 46) (by simp) (by intro p hp; simp at hp; subst hp; exact no_point (dec_digs n))
  · rw [if_neg h, if_neg h]
    exact cut_join (ps := [Lib.decDigits (n / 10 ^ s), low s n]) (first_one 46) (by simp) (by
      intro p hp
      simp at hp
      rcases hp with rfl | rfl
      · exact no_point (dec_digs _)
      · exact no_point (low_digs _ _))
theorem pieces_pos (n s : Nat) : 0 < (piecesN n s).length := by unfold piecesN; split <;> simp
theorem grouped_len (c : UInt8) (g g2 : Nat) (l : List UInt8) : (Gr.grouped c g g2 l).length ≤ 2 * l.length := Gr.grouped_le c g g2 l
theorem dec_size {n : Nat} (h : n ≤ 1000000000000000) : (Lib.decDigits n).length ≤ 16 := by
  rw [Lib.decDigits_length]
  exact nDigits_le (by decide) (by omega)
/-- what the padding loop holds -/
theorem pad_loop (a n j : Nat) (h : a ≤ j + Lib.nDigits n) (hj : j ≤ a - Lib.nDigits n) : noughts j ++ Lib.decDigits n = pad a n := by
  unfold pad
  rw [show j = a - Lib.nDigits n by omega]
theorem nought_more (j : Nat) (l : List UInt8) : (⟨#[48]⟩ : ByteArray) ++ str (noughts j ++ l) = str (noughts (j + 1) ++ l) := by
  apply ba_ext
  rw [ByteArray.data_append, Array.toList_append, str_data, str_data]
  unfold noughts; rw [List.replicate_succ]; rfl
theorem nought_behind (j : Nat) (l : List UInt8) : str (l ++ noughts j) ++ (⟨#[48]⟩ : ByteArray) = str (l ++ noughts (j + 1)) := by
  apply ba_ext
  rw [ByteArray.data_append, Array.toList_append, str_data, str_data]
  unfold noughts; rw [List.replicate_succ']; simp
theorem pieces_zero (n s : Nat) : (piecesN n s)[0]? = some (Lib.decDigits (n / 10 ^ s)) := by
  unfold piecesN
  by_cases h : s = 0
  · subst h; simp
  · rw [if_neg h]; rfl
theorem pieces_one {n s : Nat} (h : s ≠ 0) : (piecesN n s)[1]? = some (low s n) := by unfold piecesN; rw [if_neg h]; rfl
theorem pieces_len (n s : Nat) : (piecesN n s).length = if s = 0 then 1 else 2 := by unfold piecesN; split <;> rfl
/-- a byte in a row of its own, made a text -/
theorem conv_at (c : UInt8) (wx : World) (gb : Nat) (h : wx.cell? ⟨gb, 0, none⟩ = some (.int .u8 (c.toNat : Int))) : (convert 48 9 (.slice (some ⟨gb, 0, none⟩) 1 1)).run Tryz.prog wx = .ok (.string (str [c])) wx :=
  run_convert_bytes_back wx 48 9 5 ⟨gb, 0, none⟩ 1 [c] Tryz.underlying48 Tryz.underlying5 Tryz.underlying9 fun j hj => by
    obtain rfl : j = 0 := by simpa using hj
    exact h
/-- a row of texts that a call made -/
def RowP (w : World) (ps : List (List UInt8)) (e : Ending) (w' : World) : Prop :=
  ∃ (g cap : Nat), e = .returned (.slice (some ⟨g, 0, none⟩) ps.length cap) ∧ g < w'.heap.size ∧ (∀ (i : Nat) (q : List UInt8), ps[i]? = some q → w'.cell? ⟨g, i, none⟩ = some (.string (str q))) ∧ Below w.heap.size w w'
theorem bs_map : ∀ {l : List ByteArray} {ps : List (List UInt8)}, bs l = ps → l = ps.map str
  | [], _, h => by subst h; rfl
  | b :: l, _, h => by
    subst h
    show b :: l = str b.data.toList :: (bs l).map str
    rw [← bs_map (l := l) rfl, ← str_eq (l := b.data.toList) rfl]
theorem refCutP (s : List UInt8) (ps : List (List UInt8)) (w : World) (hs : s.length ≤ 4000000000) (h : cutL [46] s = ps) (h0 : 0 < ps.length) : Calls Tryz.prog 23 #[.string (str s), .string ⟨#[46]⟩] w (RowP w ps) := by
  refine (refCut_any (str s) ⟨#[46]⟩ w (by rw [D.ba_size, str_data]; exact hs) (by decide) (by decide)).mono ?_
  rintro e w' ⟨l, v, rfl, hown, hb, hbs, _, _⟩
  rw [str_data] at hbs
  have hm := bs_map (hbs.trans h)
  have hll : l.length = ps.length := by rw [hm, List.length_map]
  obtain ⟨A, cap, rfl, _, _, hrd, hA⟩ := own_shape hown
  obtain ⟨g, rfl⟩ := hA (by omega)
  obtain ⟨ad, hadd, hlt, hcell⟩ := hrd.2 (by omega)
  obtain rfl : (⟨g, 0, none⟩ : Addr) = ad := Option.some.inj hadd
  refine ⟨g, cap, by rw [hll], hlt, fun i q hq => ?_, hb⟩
  have hi : (sv l)[i]? = some (.string (str q)) := by
    unfold sv
    rw [hm, List.map_map, List.getElem?_map, hq]; rfl
  have := hcell i _ hi
  have e0 : (⟨g, 0, none⟩ : Addr).add i = ⟨g, i, none⟩ := by unfold Addr.add; split <;> simp_all
  rwa [e0] at this
set_option maxHeartbeats 8000000 in
set_option maxRecDepth 100000 in
theorem shown_nat (pre suf : List UInt8) (a b m g g2 : Nat) (pt cm : UInt8) (c : Int) (s : Nat) (w : World) (hl : pre.length + suf.length ≤ 100) (ha : a ≤ 9) (hb : b ≤ 6) (hm : m ≤ 6) (hg : g ≤ 4) (hg2 : g2 ≤ 4) (hr : Right c s) :
    Calls Tryz.prog 11 #[patV ⟨pre, suf, a, b, m, g, g2⟩, symV pt cm, .agg #[.int .i64 c, .int .i64 s]] w (Gives w (.string (str (shownL ⟨pre, suf, a, b, m, g, g2⟩ pt cm (fitI ⟨pre, suf, a, b, m, g, g2⟩ c s).1 (fitI ⟨pre, suf, a, b, m, g, g2⟩ c s).2)))) := by
  have HB0 : Hid (Bs w _ [(w.heap.size + 2, [.int .i64 c, .int .i64 s]), (w.heap.size + 1, symC pt cm), (w.heap.size, patC ⟨pre, suf, a, b, m, g, g2⟩)]) := Lib.hid (by
    have := ((bs_one w (patC ⟨pre, suf, a, b, m, g, g2⟩) 23).alloc (symC pt cm) 25).alloc [.int .i64 c, .int .i64 s] 27
    simp only [World.size_alloc] at this
    exact this)
  dsimp only [patV, patC, symV, symC] at HB0 ⊢
  generalize hPR : str pre = PR at *
  generalize hSU : str suf = SU at *
  obtain ⟨h0, h9, hc0, hc1⟩ := hr
  have htl := trim_le s c
  have hta := trim_abs s c
  have CT1 := Lib.hid fun W => refTrimmed_any c s W (by omega) (by omega) (by omega)
  have HF : Hid (fitI ⟨pre, suf, a, b, m, g, g2⟩ c s = if m < (trimI c s).2 then trimI (rc (trimI c s).1 (trimI c s).2 m 5) m else trimI c s) := Lib.hid rfl
  generalize hZ : (trimI c s).1 = z at *
  generalize hK : (trimI c s).2 = k at *
  have HTZ : Hid (trimI c s = (z, k)) := Lib.hid (by rw [← hZ, ← hK])
  rw [HTZ.out] at HF
  have hrz : Right z k := ⟨by omega, by omega, by omega, by omega⟩
  -- what is shown
  obtain ⟨x, t, HX, hxt⟩ : ∃ (x : Int) (t : Nat), Hid (fitI ⟨pre, suf, a, b, m, g, g2⟩ c s = (x, t)) ∧ Right x t := by
    have := fit_fit (p := ⟨pre, suf, a, b, m, g, g2⟩) (c := c) (s := s) ⟨h0, h9, hc0, hc1⟩
    obtain ⟨f1, _, f3⟩ := this
    simp only [Int.toNat_natCast] at f1
    refine ⟨(fitI ⟨pre, suf, a, b, m, g, g2⟩ c s).1, (fitI ⟨pre, suf, a, b, m, g, g2⟩ c s).2, Lib.hid rfl, ?_⟩
    exact ⟨by omega, by omega, by omega, by omega⟩
  rw [HX.out] at HF ⊢
  have CR : Hid (m < k → ∀ W, Calls Tryz.prog 22 #[.agg #[.int .i64 z, .int .i64 k], .int .i64 m, .int .i64 5] W (Gives W (.tuple #[.agg #[.int .i64 (rc z k m 5), .int .i64 m], .bool true]))) := Lib.hid fun hlt W => by
    have := refRound_few z k m 5 W hrz (by omega) (by omega) (by decide) (by decide)
    rwa [← rc_fewer (way := 5) (show (m : Int) ≤ k by omega) (by omega)] at this
  have CT2 : Hid (m < k → ∀ W, Calls Tryz.prog 21 #[.agg #[.int .i64 (rc z k m 5), .int .i64 m]] W (Gives W (.agg #[.int .i64 x, .int .i64 t]))) := Lib.hid fun hlt W => by
    have hro := fewer_room (way := 5) hrz (t := m) (by omega)
    have := refTrimmed_any (rc z k m 5) m W (by omega) (by omega) (by omega)
    have hf := HF.out
    rw [if_pos hlt] at hf
    rw [← hf] at this
    exact this
  have HN : Hid (¬ m < k → x = z ∧ t = k) := Lib.hid fun hlt => by
    have hf := HF.out
    rw [if_neg hlt] at hf
    exact Prod.mk.inj hf
  unfold decV at CT1
  clear HF HTZ hZ hK hta htl hrz HX h0 h9 hc0 hc1
  go_enter Tryz.func11, Tryz.ntmps11
  go_upto_region 1 with fail
  generalize ((w.alloc (.cells #[.string PR, .string SU, .int .i64 (a : Int), .int .i64 (b : Int), .int .i64 (m : Int), .int .i64 (g : Int), .int .i64 (g2 : Int)] 23)).alloc (.cells #[.int .u8 (pt.toNat : Int), .int .u8 (cm.toNat : Int)] 25)).alloc (.cells #[.int .i64 c, .int .i64 (s : Int)] 27) = W0 at *
  obtain ⟨d0, d1, -⟩ := HB0.out.cells
  go_upto_region 2 with (go_at_call 21; (with_reducible refine (CT1.out _).mono ?_); rintro e w1 ⟨rfl, hb1⟩; (have H1 := Lib.hid (HB0.out.call hb1)); (obtain ⟨f0, f1⟩ := H1.out.open2); (obtain ⟨y0, y1, -⟩ := H1.out.cells); dsimp only)
  have H2 := Lib.hid (H1.out.put2 (.int .i64 z) (.int .i64 k))
  clear d0 d1 f0 f1 y0 y1 H1 HB0 CT1
  generalize (w1.setCell ⟨w.heap.size + 2, 0, none⟩ (.int .i64 z)).setCell ⟨w.heap.size + 2, 1, none⟩ (.int .i64 (k : Int)) = W2 at *
  obtain ⟨d0, d1, s0, s1, p0, p1, p2, p3, p4, p5, p6, -⟩ := H2.out.cells
  go_upto_if 19 with fail
  go_cut [7] (fun _ wx => ∃ V, Hid (Bs w V [(w.heap.size + 2, [.int .i64 x, .int .i64 t]), (w.heap.size + 1, [.int .u8 pt.toNat, .int .u8 cm.toNat]), (w.heap.size, [.string PR, .string SU, .int .i64 a, .int .i64 b, .int .i64 m, .int .i64 g, .int .i64 g2])]) ∧ V = wx)
  case first =>
    by_cases hlt : m < k
    · have hlti : (m : Int) < (k : Int) := by omega
      have CR1 := Lib.hid (CR.out hlt)
      have CT3 := Lib.hid (CT2.out hlt)
      clear hlt CR CT2 HN
      go_wp2_with (first
        | (go_at_call 22; (with_reducible refine (CR1.out _).mono ?_); rintro e w3 ⟨rfl, hb3⟩; (have H3 := Lib.hid ((H2.out.call hb3).alloc [.int .i64 (rc z k m 5), .int .i64 m] 27)); (obtain ⟨e0, e1, -⟩ := H3.out.cells); dsimp only)
        | (go_at_call 21; (with_reducible refine (CT3.out _).mono ?_); rintro e w4 ⟨rfl, hb4⟩; (have H4 := Lib.hid (H3.out.call hb4)); (obtain ⟨f0, f1⟩ := H4.out.open2b); (obtain ⟨-, -, y0, y1, -⟩ := H4.out.cells); dsimp only))
      have H5 := Lib.hid (H4.out.put2b (.int .i64 x) (.int .i64 t)).tail
      go_meet
      exact ⟨_, H5, rfl⟩
    · have hlti : ¬ (m : Int) < (k : Int) := by omega
      obtain ⟨rfl, rfl⟩ := HN.out hlt
      clear hlt
      go_wp2_with fail
      go_meet
      exact ⟨_, H2, rfl⟩
  case rest =>
    obtain ⟨V5, H5, rfl⟩ := hcut
    clear d0 d1 s0 s1 p0 p1 p2 p3 p4 p5 p6 H2 CR CT2 HN
    obtain ⟨r0, r9, rc0, rc1⟩ := hxt
    have hn : x.natAbs ≤ 1000000000000000 := by omega
    have CS := Lib.hid fun W => refSize_any x W (by omega) (by omega)
    have CD : Hid (∀ W, Calls Tryz.prog 24 #[.agg #[.int .i64 (x.natAbs : Int), .int .i64 (t : Int)]] W (Gives W (.string (str (text (x.natAbs : Int) t))))) := Lib.hid fun W => by
      have := refDecText_any (x.natAbs : Int) t W ⟨by omega, by omega, by omega, by omega⟩
      rwa [Int.toNat_natCast] at this
    have htx : (text (x.natAbs : Int) t).length ≤ 100 := by
      have h1 := dec_size (n := x.natAbs / 10 ^ t) (Nat.le_trans (Nat.div_le_self _ _) hn)
      have h2 := low_length t x.natAbs
      unfold text
      rw [if_neg (by omega), List.nil_append, Int.natAbs_natCast, List.length_append]
      by_cases ht : t = 0
      · rw [if_pos ht]; simp; omega
      · rw [if_neg ht, List.length_cons]; omega
    have CC := Lib.hid fun W => refCutP (text (x.natAbs : Int) t) (piecesN x.natAbs t) W (by omega) (cut_pieces _ _) (pieces_pos _ _)
    clear htx
    generalize str (text (x.natAbs : Int) t) = TX at *
    have HY : Hid (∀ wx, Below V5.heap.size V5 wx → Below V5.heap.size V5 wx ∧ wx.cell? ⟨w.heap.size + 2, 0, none⟩ = some (.int .i64 x) ∧ wx.cell? ⟨w.heap.size + 2, 1, none⟩ = some (.int .i64 t)) := Lib.hid fun wx hb => by
      obtain ⟨e0, e1, -⟩ := (H5.out.call hb).cells
      exact ⟨hb, e0, e1⟩
    obtain ⟨hB0, z0, z1⟩ := HY.out _ (Below.refl _ _)
    go_upto_region 5 with fail
    go_region_held3 (fun wx => Below V5.heap.size V5 wx ∧ wx.cell? ⟨w.heap.size + 2, 0, none⟩ = some (.int .i64 x) ∧ wx.cell? ⟨w.heap.size + 2, 1, none⟩ = some (.int .i64 t))
      (first | exact HY.out _ (by assumption) | exact HY.out _ (Below.drew (by assumption)))
      (first
        | (go_at_call 25; (with_reducible refine (CS.out _).mono ?_); rintro e wy ⟨rfl, rfl⟩)
        | (go_at_call 24; (with_reducible refine (CD.out _).mono ?_); rintro e wz ⟨rfl, hbz⟩; (have hTz : Below V5.heap.size V5 wz := by first | exact up_call (by assumption) hbz | exact up_call (Below.drew (by assumption)) hbz))
        | (go_at_call 23; (with_reducible refine (CC.out _).mono ?_); rintro e wc ⟨gc, cap, rfl, hgc, HC, hbc⟩; (have hTc : Below V5.heap.size V5 wc := by first | exact up_call (by assumption) hbc | exact up_call (Below.drew (by assumption)) hbc)))
    have H6 := Lib.hid (H5.out.call hTc)
    have hr0 := HC 0 _ (pieces_zero _ _)
    have HR1 : Hid (t ≠ 0 → wc.cell? ⟨gc, 1, none⟩ = some (.string (str (low t x.natAbs)))) := Lib.hid fun h => HC 1 _ (pieces_one h)
    have HPL := Lib.hid (pieces_len x.natAbs t)
    have hpp := pieces_pos x.natAbs t
    clear H5 HY HC hB0 z0 z1 hTz hbc hTc CC CD CS
    generalize (piecesN x.natAbs t).length = np at *
    obtain ⟨d0, d1, s0, s1, p0, p1, p2, p3, p4, p5, p6, -⟩ := H6.out.cells
    have hnp : (0 : Int) < (np : Int) := by omega
    go_upto_region 7 with fail
    generalize hQ : x.natAbs / 10 ^ t = Q at *
    have hQ16 : Lib.nDigits Q ≤ 16 := by rw [← hQ]; exact nDigits_le (by decide) (by have := Nat.div_le_self x.natAbs (10 ^ t); omega)
    generalize hnd : Lib.nDigits Q = nd at *
    have HSZ : Hid (∀ j, (str (noughts j ++ Lib.decDigits Q)).size = j + nd) := Lib.hid fun j => by
      rw [D.ba_size, str_data, List.length_append, Lib.decDigits_length, hnd]; unfold noughts; rw [List.length_replicate]
    have HNM : Hid (∀ j, (⟨#[48]⟩ : ByteArray) ++ str (noughts j ++ Lib.decDigits Q) = str (noughts (j + 1) ++ Lib.decDigits Q)) := Lib.hid fun j => nought_more j _
    have HPA : Hid (str (noughts (a - nd) ++ Lib.decDigits Q) = str (pad a Q)) := Lib.hid (by unfold pad; rw [hnd])
    have HST : Hid (Value.string (str (Lib.decDigits Q)) = .string (str (noughts 0 ++ Lib.decDigits Q))) := Lib.hid rfl
    clear hnd
    go_loopg [10] (a - nd) (fun gh y wx => wc = wx ∧ gh ≤ a - nd ∧ y = .string (str (noughts (a - nd - gh) ++ Lib.decDigits Q)))
    case atStart => exact ⟨rfl, Nat.le_refl _, by rw [Nat.sub_self]; exact HST.out⟩
    case round =>
      obtain ⟨rfl, hgk, rfl⟩ := hrel
      have hsz := HSZ.out (a - nd - gk)
      cases gk with
      | succ gk =>
        have hnx := HNM.out (a - nd - (gk + 1))
        rw [show a - nd - (gk + 1) + 1 = a - nd - gk by omega] at hnx
        have HNX := Lib.hid hnx
        clear hnx
        generalize str (noughts (a - nd - (gk + 1)) ++ Lib.decDigits Q) = Y at *
        have hlt : (Y.size : Int) < (a : Int) := by omega
        have hadd : ¬ 9223372036854775807 < 1 + Y.size := by omega
        go_wp2_with fail
        go_roundg gk
        case measure => omega
        case rel => exact ⟨rfl, by omega, by rw [← HNX.out]⟩
      | zero =>
        rw [Nat.sub_zero] at hsz ⊢
        rw [HPA.out] at hsz ⊢
        have CG := Lib.hid (Gr.refGrouped_any cm g g2 (pad a Q) hg hg2 (by rw [D.ba_size, str_data] at hsz; omega))
        have hGL := No.grouped_len cm g g2 (pad a Q)
        rw [show (pad a Q).length = (str (pad a Q)).size by rw [D.ba_size, str_data]] at hGL
        generalize hGR : Gr.grouped cm g g2 (pad a Q) = GR at *
        generalize hGS : str GR = GS at *
        generalize str (pad a Q) = WH at *
        have hlt : ¬ (WH.size : Int) < (a : Int) := by omega
        clear HSZ HNM HPA HST hr0
        generalize hN : x.natAbs = n at *
        go_upto_if 49 with fail
        go_cut [11] (fun y wx => y = .string (str (low t n)) ∧ wc = wx)
        case first =>
          by_cases ht : t = 0
          · subst ht
            have hp := HPL.out
            rw [if_pos rfl] at hp
            have hnp2 : ¬ (1 : Int) < (np : Int) := by omega
            clear HPL hp HR1
            go_wp2_with fail
            go_meet
            exact ⟨rfl, rfl⟩
          · have hp := HPL.out
            rw [if_neg ht] at hp
            have hnp2 : (1 : Int) < (np : Int) := by omega
            have hr1 := HR1.out ht
            clear HPL hp HR1 ht
            go_wp2_with fail
            go_meet
            exact ⟨rfl, rfl⟩
        case rest =>
          obtain ⟨rfl, rfl⟩ := hcut
          have HSZ : Hid (∀ j, (str (low t n ++ noughts j)).size = t + j) := Lib.hid fun j => by
            rw [D.ba_size, str_data, List.length_append, low_length]; unfold noughts; rw [List.length_replicate]
          have HNM : Hid (∀ j, str (low t n ++ noughts j) ++ (⟨#[48]⟩ : ByteArray) = str (low t n ++ noughts (j + 1))) := Lib.hid fun j => nought_behind j _
          have HST : Hid (Value.string (str (low t n)) = .string (str (low t n ++ noughts 0))) := Lib.hid (by unfold noughts; simp)
          clear HPL HR1
          go_wp2_with fail
          go_loopg [11] (b - t) (fun gh y wx => wc = wx ∧ gh ≤ b - t ∧ y = .string (str (low t n ++ noughts (b - t - gh))))
          case atStart => exact ⟨rfl, Nat.le_refl _, by rw [Nat.sub_self]; exact HST.out⟩
          case round =>
            obtain ⟨rfl, hgk, rfl⟩ := hrel
            have hsz2 := HSZ.out (b - t - gk)
            cases gk with
            | succ gk =>
              have hnx := HNM.out (b - t - (gk + 1))
              rw [show b - t - (gk + 1) + 1 = b - t - gk by omega] at hnx
              have HNX := Lib.hid hnx
              clear hnx
              generalize str (low t n ++ noughts (b - t - (gk + 1))) = Y at *
              have hlt2 : (Y.size : Int) < (b : Int) := by omega
              have hadd : ¬ 9223372036854775807 < Y.size + 1 := by omega
              go_wp2_with fail
              go_roundg gk
              case measure => omega
              case rel => exact ⟨rfl, by omega, by rw [← HNX.out]⟩
            | zero =>
              rw [Nat.sub_zero] at hsz2 ⊢
              have HFE : Hid (fracL pt b n t = if low t n ++ noughts (b - t) = [] then [] else pt :: (low t n ++ noughts (b - t))) := Lib.hid rfl
              generalize hF : low t n ++ noughts (b - t) = F at *
              have hlt2 : ¬ ((str F).size : Int) < (b : Int) := by omega
              clear HSZ HNM HST
              have hconv := fun W : World => Gr.conv_one W cm
              have hpl : PR.size ≤ 100 := by rw [← hPR, D.ba_size, str_data]; omega
              have hsl : SU.size ≤ 100 := by rw [← hSU, D.ba_size, str_data]; omega
              have hgl : GS.size ≤ 200 := by rw [← hGS, D.ba_size, str_data]; omega
              have hadd1 : ¬ 9223372036854775807 < PR.size + GS.size := by omega
              go_upto_region 14 with fail
              have HA := Lib.hid (H6.out.alloc [.int .u8 (cm.toNat : Int)] 5)
              obtain ⟨-, d0', d1', s0', s1', p0', p1', p2', p3', p4', p5', p6', -⟩ := HA.out.cells
              have hconv2 : ∀ W : World, (convert 48 9 (.slice (some ⟨W.heap.size, 0, none⟩) 1 1)).run Tryz.prog (W.alloc (.cells #[.int .u8 (cm.toNat : Int)] 5)).drew = .ok (.string (str [cm])) (W.alloc (.cells #[.int .u8 (cm.toNat : Int)] 5)).drew := fun W => conv_at cm _ _ (by simp)
              go_cut [12] (fun y wx => y = .string (PR ++ GS) ∧ ∃ V, Hid (Bs w V [(w.heap.size + 2, [.int .i64 x, .int .i64 t]), (w.heap.size + 1, [.int .u8 pt.toNat, .int .u8 cm.toNat]), (w.heap.size, [.string PR, .string SU, .int .i64 a, .int .i64 b, .int .i64 m, .int .i64 g, .int .i64 g2])]) ∧ V = wx)
              case first =>
                have HY : Hid (∀ wx, Below wc.heap.size wc wx → Below wc.heap.size wc wx ∧ wx.cell? ⟨w.heap.size, 0, none⟩ = some (.string PR) ∧ wx.cell? ⟨w.heap.size, 5, none⟩ = some (.int .i64 (g : Int)) ∧ wx.cell? ⟨w.heap.size, 6, none⟩ = some (.int .i64 (g2 : Int)) ∧ wx.cell? ⟨w.heap.size + 1, 1, none⟩ = some (.int .u8 (cm.toNat : Int))) := Lib.hid fun wx hb => by
                  obtain ⟨-, -, -, e1, e2, -, -, -, -, e3, e4, -⟩ := (H6.out.call hb).cells
                  exact ⟨hb, e2, e3, e4, e1⟩
                refine wp_region_held_drew (S := (fun wx => Below wc.heap.size wc wx ∧ wx.cell? ⟨w.heap.size, 0, none⟩ = some (.string PR) ∧ wx.cell? ⟨w.heap.size, 5, none⟩ = some (.int .i64 (g : Int)) ∧ wx.cell? ⟨w.heap.size, 6, none⟩ = some (.int .i64 (g2 : Int)) ∧ wx.cell? ⟨w.heap.size + 1, 1, none⟩ = some (.int .u8 (cm.toNat : Int)))) (by kernel_rfl) (by (try dsimp only); first | exact HY.out _ (Below.refl _ _).drew | exact HY.out _ (Below.drew (up_alloc (Below.refl _ _) _)) | exact HY.out _ (up_drewN (up_alloc (Below.refl _ _) _) _) | exact HY.out _ (up_drewN (Below.drew (up_alloc (Below.refl _ _) _)) _)) (fun hHeld => ?_)
                refine wpAnyH_take (i := 0) (oi := { dst := some 60, op := Op.fieldAddr 23 (Operand.tmp 3) 0, type := 0, pos := "base.go:686", after := #[], guard := none }) (v := ?_) rfl (by kernel_rfl) (by kernel_rfl) (by kernel_rfl) (fun _ _ _ h => h) (Or.inl ⟨by rfl, ?_⟩) (by assumption) ?_
                rotate_left
                · intro w0 hSw; (try dsimp only at hSw); go_simp; (try with_reducible rfl)
                simp only [Act.put, List.setIfInBounds_toArray, List.set_cons_zero, List.set_cons_succ]
                refine wpAnyH_take (i := 1) (oi := { dst := some 61, op := Op.load 9 (Operand.tmp 60), type := 9, pos := "base.go:686", after := #[{ on := 0, ground := Ground.data }], guard := none }) (v := ?_) rfl (by kernel_rfl) (by kernel_rfl) (by kernel_rfl) (fun _ _ _ h => h) (Or.inl ⟨by rfl, ?_⟩) (by assumption) ?_
                rotate_left
                · intro w0 hSw; (try dsimp only at hSw); go_simp; (try with_reducible rfl)
                simp only [Act.put, List.setIfInBounds_toArray, List.set_cons_zero, List.set_cons_succ]
                refine wpAnyH_take (i := 2) (oi := { dst := some 62, op := Op.move (Operand.tmp 10), type := 9, pos := "base.go:686", after := #[], guard := none }) (v := ?_) rfl (by kernel_rfl) (by kernel_rfl) (by kernel_rfl) (fun _ _ _ h => h) (Or.inl ⟨by rfl, ?_⟩) (by assumption) ?_
                rotate_left
                · intro w0 hSw; (try dsimp only at hSw); go_simp; (try with_reducible rfl)
                simp only [Act.put, List.setIfInBounds_toArray, List.set_cons_zero, List.set_cons_succ]
                refine wpAnyH_take (i := 3) (oi := { dst := some 63, op := Op.fieldAddr 23 (Operand.tmp 3) 5, type := 0, pos := "base.go:686", after := #[], guard := none }) (v := ?_) rfl (by kernel_rfl) (by kernel_rfl) (by kernel_rfl) (fun _ _ _ h => h) (Or.inl ⟨by rfl, ?_⟩) (by assumption) ?_
                rotate_left
                · intro w0 hSw; (try dsimp only at hSw); go_simp; (try with_reducible rfl)
                simp only [Act.put, List.setIfInBounds_toArray, List.set_cons_zero, List.set_cons_succ]
                refine wpAnyH_take (i := 4) (oi := { dst := some 64, op := Op.load 3 (Operand.tmp 63), type := 3, pos := "base.go:686", after := #[{ on := 3, ground := Ground.data }], guard := none }) (v := ?_) rfl (by kernel_rfl) (by kernel_rfl) (by kernel_rfl) (fun _ _ _ h => h) (Or.inl ⟨by rfl, ?_⟩) (by assumption) ?_
                rotate_left
                · intro w0 hSw; (try dsimp only at hSw); go_simp; (try with_reducible rfl)
                simp only [Act.put, List.setIfInBounds_toArray, List.set_cons_zero, List.set_cons_succ]
                refine wpAnyH_take (i := 5) (oi := { dst := some 65, op := Op.fieldAddr 23 (Operand.tmp 3) 6, type := 0, pos := "base.go:686", after := #[], guard := none }) (v := ?_) rfl (by kernel_rfl) (by kernel_rfl) (by kernel_rfl) (fun _ _ _ h => h) (Or.inl ⟨by rfl, ?_⟩) (by assumption) ?_
                rotate_left
                · intro w0 hSw; (try dsimp only at hSw); go_simp; (try with_reducible rfl)
                simp only [Act.put, List.setIfInBounds_toArray, List.set_cons_zero, List.set_cons_succ]
                refine wpAnyH_take (i := 6) (oi := { dst := some 66, op := Op.load 3 (Operand.tmp 65), type := 3, pos := "base.go:686", after := #[{ on := 5, ground := Ground.data }], guard := none }) (v := ?_) rfl (by kernel_rfl) (by kernel_rfl) (by kernel_rfl) (fun _ _ _ h => h) (Or.inl ⟨by rfl, ?_⟩) (by assumption) ?_
                rotate_left
                · intro w0 hSw; (try dsimp only at hSw); go_simp; (try with_reducible rfl)
                simp only [Act.put, List.setIfInBounds_toArray, List.set_cons_zero, List.set_cons_succ]
                refine wpAnyH_take (i := 7) (oi := { dst := some 67, op := Op.fieldAddr 25 (Operand.tmp 4) 1, type := 0, pos := "base.go:686", after := #[], guard := none }) (v := ?_) rfl (by kernel_rfl) (by kernel_rfl) (by kernel_rfl) (fun _ _ _ h => h) (Or.inl ⟨by rfl, ?_⟩) (by assumption) ?_
                rotate_left
                · intro w0 hSw; (try dsimp only at hSw); go_simp; (try with_reducible rfl)
                simp only [Act.put, List.setIfInBounds_toArray, List.set_cons_zero, List.set_cons_succ]
                refine wpAnyH_take (i := 8) (oi := { dst := some 68, op := Op.load 5 (Operand.tmp 67), type := 5, pos := "base.go:686", after := #[{ on := 7, ground := Ground.data }], guard := none }) (v := ?_) rfl (by kernel_rfl) (by kernel_rfl) (by kernel_rfl) (fun _ _ _ h => h) (Or.inl ⟨by rfl, ?_⟩) (by assumption) ?_
                rotate_left
                · intro w0 hSw; (try dsimp only at hSw); go_simp; (try with_reducible rfl)
                simp only [Act.put, List.setIfInBounds_toArray, List.set_cons_zero, List.set_cons_succ]
                refine wpAnyH_ready (rs := [9]) (by kernel_rfl) (by simp) ?_
                refine AllReadyH.cons (o := { dst := some 69, op := Op.buildSlice 48 1 #[(0, Operand.tmp 68)], type := 48, pos := "base.go:686", after := #[{ on := 8, ground := Ground.data }], guard := none }) rfl (fun K hK => ?_) AllReadyH.nil
                go_simp
                refine hK.out _ _ (by (try dsimp only); first | exact HY.out _ (Below.refl _ _).drew | exact HY.out _ (Below.drew (up_alloc (Below.refl _ _) _)) | exact HY.out _ (up_drewN (up_alloc (Below.refl _ _) _) _) | exact HY.out _ (up_drewN (Below.drew (up_alloc (Below.refl _ _) _)) _)) (fun hHeld => ?_)
                clear hK K
                try simp only [Act.put, List.setIfInBounds_toArray, List.set_cons_zero, List.set_cons_succ]
                refine wpAnyH_ready (rs := [10]) (by kernel_rfl) (by simp) ?_
                refine AllReadyH.cons (o := { dst := some 70, op := Op.convert 48 9 (Operand.tmp 69), type := 9, pos := "base.go:686", after := #[{ on := 9, ground := Ground.data }], guard := none }) rfl (fun K hK => ?_) AllReadyH.nil
                go_simp
                refine hK.out _ _ (by (try dsimp only); first | exact HY.out _ (Below.refl _ _).drew | exact HY.out _ (Below.drew (up_alloc (Below.refl _ _) _)) | exact HY.out _ (up_drewN (up_alloc (Below.refl _ _) _) _) | exact HY.out _ (up_drewN (Below.drew (up_alloc (Below.refl _ _) _)) _)) (fun hHeld => ?_)
                clear hK K
                try simp only [Act.put, List.setIfInBounds_toArray, List.set_cons_zero, List.set_cons_succ]
                refine wpAnyH_ready (rs := [11]) (by kernel_rfl) (by simp) ?_
                refine AllReadyH.cons (o := { dst := some 71, op := Op.call { callee := Callee.value (Operand.func 26), args := #[Operand.tmp 62, Operand.tmp 64, Operand.tmp 66, Operand.tmp 70], argTypes := #[9, 3, 3, 9] }, type := 9, pos := "base.go:686", after := #[{ on := 2, ground := Ground.data }, { on := 4, ground := Ground.data }, { on := 6, ground := Ground.data }, { on := 10, ground := Ground.data }], guard := none }) rfl (fun K hK => ?_) AllReadyH.nil
                go_simp
                (go_at_call 26; (with_reducible refine (CG.out _).mono ?_); rintro e wy ⟨rfl, k1, rfl⟩; dsimp only)
                refine hK.out _ _ (by (try dsimp only); first | exact HY.out _ (Below.refl _ _).drew | exact HY.out _ (Below.drew (up_alloc (Below.refl _ _) _)) | exact HY.out _ (up_drewN (up_alloc (Below.refl _ _) _) _) | exact HY.out _ (up_drewN (Below.drew (up_alloc (Below.refl _ _) _)) _)) (fun hHeld => ?_)
                clear hK K
                try simp only [Act.put, List.setIfInBounds_toArray, List.set_cons_zero, List.set_cons_succ]
                refine wpAnyH_take (i := 12) (oi := { dst := some 72, op := Op.binOp BinOp.add 9 (Operand.tmp 61) (Operand.tmp 71) 9, type := 9, pos := "base.go:686", after := #[{ on := 1, ground := Ground.data }, { on := 11, ground := Ground.data }], guard := none }) (v := ?_) rfl (by kernel_rfl) (by kernel_rfl) (by kernel_rfl) (fun _ _ _ h => h) (Or.inl ⟨by rfl, ?_⟩) (by assumption) ?_
                rotate_left
                · intro w0 hSw; (try dsimp only at hSw); go_simp; (try with_reducible rfl)
                simp only [Act.put, List.setIfInBounds_toArray, List.set_cons_zero, List.set_cons_succ]
                refine wpAnyH_take (i := 13) (oi := { dst := some 12, op := Op.assign (Operand.tmp 72), type := 9, pos := "base.go:686", after := #[{ on := 12, ground := Ground.data }, { on := 11, ground := Ground.chain }, { on := 0, ground := Ground.phase }, { on := 1, ground := Ground.phase }, { on := 2, ground := Ground.phase }, { on := 3, ground := Ground.phase }, { on := 4, ground := Ground.phase }, { on := 5, ground := Ground.phase }, { on := 6, ground := Ground.phase }, { on := 7, ground := Ground.phase }, { on := 8, ground := Ground.phase }, { on := 9, ground := Ground.phase }, { on := 10, ground := Ground.phase }, { on := 11, ground := Ground.phase }, { on := 12, ground := Ground.phase }], guard := none }) (v := ?_) rfl (by kernel_rfl) (by kernel_rfl) (by kernel_rfl) (fun _ _ _ h => h) (Or.inl ⟨by rfl, ?_⟩) (by assumption) ?_
                rotate_left
                · intro w0 hSw; (try dsimp only at hSw); go_simp; (try with_reducible rfl)
                simp only [Act.put, List.setIfInBounds_toArray, List.set_cons_zero, List.set_cons_succ]
                refine wpAnyH_done (by kernel_rfl) ?_ _
                go_wp2_with fail
                go_meet
                exact ⟨rfl, _, Lib.hid (HA.out.drewN _).tail, rfl⟩
              case rest =>
                obtain ⟨rfl, V8, H8, rfl⟩ := hcut
                clear d0 d1 s0 s1 p0 p1 p2 p3 p4 p5 p6 d0' d1' s0' s1' p0' p1' p2' p3' p4' p5' p6' HA hconv2 hconv H6 CG
                have hconv := conv_at pt
                have hFL : F.length ≤ 20 := by rw [D.ba_size, str_data] at hsz2; omega
                have HM1 : Hid (F = [] → PR ++ GS = str (pre ++ (GR ++ fracL pt b n t))) := Lib.hid fun h => by
                  rw [HFE.out, if_pos h, ← hPR, ← hGS, Np.add_str, List.append_nil]
                have HM2 : Hid (F ≠ [] → PR ++ GS ++ str [pt] ++ str F = str (pre ++ (GR ++ fracL pt b n t))) := Lib.hid fun h => by
                  rw [HFE.out, if_neg h, ← hPR, ← hGS, Np.add_str, Np.add_str, Np.add_str]; congr 1; simp
                have HRES : Hid (shownL ⟨pre, suf, a, b, m, g, g2⟩ pt cm x t = (if x < 0 then [45] else []) ++ ((pre ++ (GR ++ fracL pt b n t)) ++ suf)) := Lib.hid (by
                  unfold shownL bodyL midL
                  rw [hN]
                  simp only [Int.toNat_natCast]
                  rw [hQ, hGR])
                have hML : (str (pre ++ (GR ++ fracL pt b n t))).size ≤ 400 := by
                  rw [D.ba_size, str_data, List.length_append, List.length_append, HFE.out]
                  have h1 : (if F = [] then [] else pt :: F).length ≤ 21 := by split <;> simp <;> omega
                  have h2 : GR.length ≤ 200 := by rw [← hGS, D.ba_size, str_data] at hgl; exact hgl
                  omega
                generalize hMM : pre ++ (GR ++ fracL pt b n t) = MM at *
                have HSU : Hid (str MM ++ SU = str (MM ++ suf)) := Lib.hid (by rw [← hSU, Np.add_str])
                have h45 : Hid ((⟨#[45]⟩ : ByteArray) ++ (str MM ++ SU) = str ([45] ++ (MM ++ suf))) := Lib.hid (by rw [HSU.out]; exact Np.add_str [45] _)
                generalize hMS : str MM = MS at *
                have hpts : (str [pt]).size = 1 := by rw [D.ba_size, str_data]; rfl
                obtain ⟨d0, d1, s0, s1, p0, p1, p2, p3, p4, p5, p6, -⟩ := H8.out.cells
                go_upto_if 74 with fail
                go_cut [12] (fun y wx => y = .string MS ∧ ∃ V, Hid (Bs w V [(w.heap.size + 2, [.int .i64 x, .int .i64 t]), (w.heap.size + 1, [.int .u8 pt.toNat, .int .u8 cm.toNat]), (w.heap.size, [.string PR, .string SU, .int .i64 a, .int .i64 b, .int .i64 m, .int .i64 g, .int .i64 g2])]) ∧ V = wx)
                case first =>
                  by_cases hFe : F = []
                  · have hm := HM1.out hFe
                    subst hFe
                    rw [hm]
                    clear HM1 HM2 hm
                    go_wp2_with fail
                    go_meet
                    exact ⟨rfl, _, H8, rfl⟩
                  · have hm := HM2.out hFe
                    have hne1 : (!F.isEmpty) = true := by simpa using hFe
                    have hFS : (str F).size ≤ 20 := by rw [D.ba_size, str_data]; exact hFL
                    have hc1 := hconv (V8.alloc (.cells #[.int .u8 (pt.toNat : Int)] 5)) V8.heap.size (by simp)
                    have HM3 : Hid (PR ++ GS ++ str [pt] ++ str F = MS) := Lib.hid hm
                    clear HM1 HM2 hm hFe hconv HFE hsz2 hlt2 hF hFL
                    generalize str F = FS at *
                    generalize str [pt] = PT at *
                    have ha1 : ¬ 9223372036854775807 < (PR ++ GS).size + PT.size := by rw [ByteArray.size_append]; omega
                    have ha2 : ¬ 9223372036854775807 < (PR ++ GS ++ PT).size + FS.size := by rw [ByteArray.size_append, ByteArray.size_append]; omega
                    have ha3 : ¬ 9223372036854775807 < PR.size + GS.size + PT.size := by omega
                    have ha4 : ¬ 9223372036854775807 < PR.size + GS.size + PT.size + FS.size := by omega
                    have ha5 : ¬ 9223372036854775807 < PR.size + GS.size + 1 := by omega
                    have ha6 : ¬ 9223372036854775807 < PR.size + GS.size + 1 + FS.size := by omega
                    go_wp2_with fail
                    any_goals (rename_i h; rw [hne1] at h; cases h; done)
                    go_meet
                    exact ⟨congrArg Value.string HM3.out, _, Lib.hid (H8.out.alloc [.int .u8 (pt.toNat : Int)] 5).tail, rfl⟩
                case rest =>
                  obtain ⟨rfl, V9, H9, rfl⟩ := hcut
                  clear d0 d1 s0 s1 p0 p1 p2 p3 p4 p5 p6 H8 HM1 HM2
                  obtain ⟨d0, d1, s0, s1, p0, p1, p2, p3, p4, p5, p6, -⟩ := H9.out.cells
                  have ha1 : ¬ 9223372036854775807 < MS.size + SU.size := by omega
                  have ha2 : ¬ 9223372036854775807 < 1 + (MS ++ SU).size := by rw [ByteArray.size_append]; omega
                  have ha3 : ¬ 9223372036854775807 < 1 + (MS.size + SU.size) := by omega
                  by_cases hx : x < 0
                  · have hr := HRES.out
                    rw [if_pos hx] at hr
                    have HR2 := Lib.hid hr
                    clear hr HRES
                    go_wp2_with fail
                    go_ret
                    exact ⟨ret_str (by rw [HR2.out]; exact h45.out), H9.out.below⟩
                  · have hr := HRES.out
                    rw [if_neg hx] at hr
                    have HR2 := Lib.hid hr
                    clear hr HRES
                    go_wp2_with fail
                    go_ret
                    exact ⟨ret_str (by rw [HR2.out]; exact HSU.out), H9.out.below⟩
/-- a right pattern's and a right number's text -/
theorem refShown_any (p : PatV) (pt cm : UInt8) (c s : Int) (w : World) (h : patF p = 0) (hr : Right c s) :
    Calls Tryz.prog 11 #[patV p, symV pt cm, .agg #[.int .i64 c, .int .i64 s]] w (Gives w (.string (str (shownL p pt cm (fitI p c s.toNat).1 (fitI p c s.toNat).2)))) := by
  obtain ⟨⟨h1, h2⟩, ⟨⟨a1, a9⟩, ⟨m0, m6⟩, ⟨b0, bm⟩, ⟨g0, g4⟩, k0, k4⟩, hz⟩ := patF_zero.1 h
  have hp := h1.1
  have hs := h2.1
  have h0 := hr.1
  have e : (⟨p.pre, p.suf, (p.a.toNat : Int), (p.b.toNat : Int), (p.m.toNat : Int), (p.g.toNat : Int), (p.g2.toNat : Int)⟩ : PatV) = p := by
    rw [show (p.a.toNat : Int) = p.a by omega, show (p.b.toNat : Int) = p.b by omega, show (p.m.toNat : Int) = p.m by omega, show (p.g.toNat : Int) = p.g by omega, show (p.g2.toNat : Int) = p.g2 by omega]
  have := shown_nat p.pre p.suf p.a.toNat p.b.toNat p.m.toNat p.g.toNat p.g2.toNat pt cm c s.toNat w (by omega) (by omega) (by omega) (by omega) (by omega) (by omega) (by rw [show (s.toNat : Int) = s by omega]; exact hr)
  rw [e, show (s.toNat : Int) = s by omega] at this
  exact this
end No
end Go.Proofs.YtehocgemgdbikaaGreatDoor
