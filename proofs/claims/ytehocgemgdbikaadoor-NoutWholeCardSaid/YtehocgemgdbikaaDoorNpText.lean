/- The program's Text of a pattern. -/
import Derived.Test.YtehocgemgdbikaaDoorNpWhole
import Derived.Test.YtehocgemgdbikaaDoorNpTextSays
namespace Go.Proofs.YtehocgemgdbikaaDoor
namespace Np
open Go.RowKit Go.Maps D Ru

set_option maxHeartbeats 4000000 in
set_option maxRecDepth 100000 in
theorem part_any (pre suf : List UInt8) (a g g2 : Int) (b m : Nat) (w : World) (hm : m ≤ 6) (hb : b ≤ m) :
    Calls Tryd.prog 21 #[patV ⟨pre, suf, a, b, m, g, g2⟩] w (Gives w (.string (str (fracU b m)))) := by
  have HB : Hid (Bs w _ [_]) := Lib.hid (bs_one w (patC ⟨pre, suf, a, b, m, g, g2⟩) 23)
  rw [frac_form (by omega) hb]
  by_cases h0 : m = 0
  · subst h0
    obtain rfl : b = 0 := by omega
    rw [if_pos rfl]
    obtain ⟨d0, d1, d2, d3, d4, d5, d6, -⟩ := HB.out.cells
    go_enter Tryd.func21, Tryd.ntmps21
    go_wp2_with fail
    go_ret
    exact ⟨rfl, HB.out.below⟩
  · rw [if_neg h0]
    have hmb : ((m : Int) == 0) = false := beq_eq_false_iff_ne.2 (by omega)
    have C1 := Lib.hid (fun W => rep_any 48 b W (by omega))
    have C2 := Lib.hid (fun W => rep_any 35 (m - b) W (by omega))
    have hs1 := rep_size 48 b
    have hs2 := rep_size 35 (m - b)
    have hw : IntKind.i64.wrap ((m : Int) - (b : Int)) = ((m - b : Nat) : Int) := by rw [IntKind.wrap_i64]; omega
    have hSS : Hid ((⟨#[46]⟩ : ByteArray) ++ str (rep 48 b) ++ str (rep 35 (m - b)) = str (46 :: (rep 48 b ++ rep 35 (m - b)))) := Lib.hid (by
      have e : (⟨#[46]⟩ : ByteArray) = str [46] := rfl
      rw [e, add_str, add_str]; simp)
    have g1 : ¬ 9223372036854775807 < (⟨#[46]⟩ : ByteArray).size + (str (rep 48 b)).size := by show ¬ _ < 1 + _; omega
    have g2' : ¬ 9223372036854775807 < ((⟨#[46]⟩ : ByteArray) ++ str (rep 48 b)).size + (str (rep 35 (m - b))).size := by rw [ByteArray.size_append]; show ¬ _ < 1 + _ + _; omega
    have g3 : ¬ 9223372036854775807 < 1 + (str (rep 48 b)).size := by omega
    have g4 : ¬ 9223372036854775807 < 1 + (str (rep 48 b)).size + (str (rep 35 (m - b))).size := by omega
    clear h0 hs1 hs2
    generalize str (46 :: (rep 48 b ++ rep 35 (m - b))) = R at *
    generalize str (rep 48 b) = A1 at *
    generalize str (rep 35 (m - b)) = A2 at *
    have HC : Hid (∀ wx, Below (w.alloc (.cells (patC ⟨pre, suf, a, b, m, g, g2⟩).toArray 23)).heap.size (w.alloc (.cells (patC ⟨pre, suf, a, b, m, g, g2⟩).toArray 23)) wx → Below (w.alloc (.cells (patC ⟨pre, suf, a, b, m, g, g2⟩).toArray 23)).heap.size (w.alloc (.cells (patC ⟨pre, suf, a, b, m, g, g2⟩).toArray 23)) wx ∧ wx.cell? ⟨w.heap.size, 3, none⟩ = some (.int .i64 b) ∧ wx.cell? ⟨w.heap.size, 4, none⟩ = some (.int .i64 m)) := Lib.hid fun wx hb => by
      obtain ⟨-, -, -, e3, e4, -⟩ := (HB.out.call hb).cells
      exact ⟨hb, e3, e4⟩
    obtain ⟨d0, d1, d2, d3, d4, d5, d6, -⟩ := HB.out.cells
    go_enter Tryd.func21, Tryd.ntmps21
    go_upto_region 3 with fail
    generalize hW0 : w.alloc _ = W0 at *
    clear hW0 d0 d1 d2 d5 d6
    obtain ⟨hB0, -⟩ := HC.out _ (Below.refl _ _)
    go_region_held3 (fun wx => Below W0.heap.size W0 wx ∧ wx.cell? ⟨w.heap.size, 3, none⟩ = some (.int .i64 b) ∧ wx.cell? ⟨w.heap.size, 4, none⟩ = some (.int .i64 m))
      (first | exact HC.out _ (by assumption) | exact HC.out _ (Below.drew (by assumption)))
      (first
        | (go_at_call 35; (with_reducible refine (C1.out _).mono ?_); rintro e wy ⟨rfl, hby⟩; (have hTy : Below W0.heap.size W0 wy := by first | exact up_call (by assumption) hby | exact up_call (Below.drew (by assumption)) hby))
        | (go_at_call 35; (with_reducible refine (C2.out _).mono ?_); rintro e wz ⟨rfl, hbz⟩; (have hTz : Below W0.heap.size W0 wz := by first | exact up_call (by assumption) hbz | exact up_call (Below.drew (by assumption)) hbz)))
    have hbel := HB.out.below
    rw [hSS.out]
    go_wp2_with fail
    go_ret
    exact ⟨rfl, by first | exact up_call hbel hTz | exact up_call hbel hTz.drew⟩
set_option maxHeartbeats 4000000 in
set_option maxRecDepth 100000 in
theorem text_any (p : PatV) (w : World) (h1 : p.pre.length ≤ 140737488355328) (h2 : p.suf.length ≤ 140737488355328) : Calls Tryd.prog 8 #[patV p] w (TextE w (patX p) (patF p)) := by
  have HB : Hid (Bs w _ [_]) := Lib.hid (bs_one w (patC p) 23)
  have CC := Lib.hid (fun W => check_any p W h1 h2)
  by_cases h0 : patF p = 0
  · obtain ⟨⟨ha1, ha2⟩, ⟨⟨a1, a9⟩, ⟨m0, m6⟩, ⟨b0, bm⟩, ⟨g0, g4⟩, k0, k4⟩, hz⟩ := patF_zero.1 h0
    rw [show patX p = patT p from if_pos h0, h0]
    rw [h0, errV_zero] at CC
    have hT : patT p = p.pre ++ (intT p.a.toNat p.g.toNat p.g2.toNat ++ fracU p.b.toNat p.m.toNat) ++ p.suf := rfl
    obtain ⟨i2, i3⟩ : (intT p.a.toNat p.g.toNat p.g2.toNat).length ≤ 11 ∧ (fracU p.b.toNat p.m.toNat).length ≤ 7 :=
      ⟨(int_all (by omega) (by omega) (by omega) (by omega) (by omega)).2.1, (frac_all (by omega) (by omega)).2.1⟩
    have i1 := ha1.1
    have i4 := ha2.1
    clear h0 h1 h2 ha1 ha2
    obtain ⟨pre, suf, a, b, m, g, g2⟩ := p
    simp only at *
    obtain ⟨a, rfl⟩ := Int.eq_ofNat_of_zero_le (show 0 ≤ a by omega)
    obtain ⟨b, rfl⟩ := Int.eq_ofNat_of_zero_le b0
    obtain ⟨m, rfl⟩ := Int.eq_ofNat_of_zero_le m0
    obtain ⟨g, rfl⟩ := Int.eq_ofNat_of_zero_le g0
    obtain ⟨g2, rfl⟩ := Int.eq_ofNat_of_zero_le k0
    simp only [Int.toNat_natCast] at *
    have CW := Lib.hid (fun W => whole_any pre suf b m a g g2 W (by omega) (by omega) (by omega) (by omega) (by omega))
    have CP := Lib.hid (fun W => part_any pre suf a g g2 b m W (by omega) (by omega))
    have l1 := str_len pre
    have l2 := str_len (intT a g g2)
    have l3 := str_len (fracU b m)
    have l4 := str_len suf
    have hSS : Hid (str pre ++ str (intT a g g2) ++ str (fracU b m) ++ str suf = str (patT ⟨pre, suf, a, b, m, g, g2⟩)) := Lib.hid (by
      rw [add_str, add_str, add_str, hT]; simp)
    clear hT hz a1 a9 m0 m6 b0 bm g0 g4 k0 k4
    generalize hR : str (patT ⟨pre, suf, a, b, m, g, g2⟩) = R at *
    have HBc : Hid (∀ wx, Below (w.alloc (.cells (patC ⟨pre, suf, a, b, m, g, g2⟩).toArray 23)).heap.size (w.alloc (.cells (patC ⟨pre, suf, a, b, m, g, g2⟩).toArray 23)) wx → Bs w wx [(w.heap.size, patC ⟨pre, suf, a, b, m, g, g2⟩)]) := Lib.hid fun wx hb => HB.out.call hb
    dsimp only [patC, patV] at *
    generalize str (intT a g g2) = I at *
    generalize str (fracU b m) = Fr at *
    generalize str pre = P at *
    generalize str suf = U at *
    have g1 : ¬ 9223372036854775807 < P.size + I.size := by omega
    have g2' : ¬ 9223372036854775807 < (P ++ I).size + Fr.size := by rw [ByteArray.size_append]; omega
    have g3 : ¬ 9223372036854775807 < (P ++ I ++ Fr).size + U.size := by rw [ByteArray.size_append, ByteArray.size_append]; omega
    have g4 : ¬ 9223372036854775807 < P.size + I.size + Fr.size := by omega
    have g5 : ¬ 9223372036854775807 < P.size + I.size + Fr.size + U.size := by omega
    clear l1 l2 l3 l4 i1 i2 i3 i4
    obtain ⟨d0, d1, d2, d3, d4, d5, d6, -⟩ := HB.out.cells
    go_enter Tryd.func8, Tryd.ntmps8
    go_upto_region 4 with (go_at_call 19; (with_reducible refine (CC.out _).mono ?_); rintro e wc ⟨rfl, hbc⟩)
    have HBw := Lib.hid (HBc.out wc hbc)
    have HC : Hid (∀ wx, Below wc.heap.size wc wx → Below wc.heap.size wc wx ∧ wx.cell? ⟨w.heap.size, 0, none⟩ = some (.string P) ∧ wx.cell? ⟨w.heap.size, 1, none⟩ = some (.string U) ∧ wx.cell? ⟨w.heap.size, 2, none⟩ = some (.int .i64 a) ∧ wx.cell? ⟨w.heap.size, 3, none⟩ = some (.int .i64 b) ∧ wx.cell? ⟨w.heap.size, 4, none⟩ = some (.int .i64 m) ∧ wx.cell? ⟨w.heap.size, 5, none⟩ = some (.int .i64 g) ∧ wx.cell? ⟨w.heap.size, 6, none⟩ = some (.int .i64 g2)) := Lib.hid fun wx hb => by
      obtain ⟨e0, e1, e2, e3, e4, e5, e6, -⟩ := (HBw.out.call hb).cells
      exact ⟨hb, e0, e1, e2, e3, e4, e5, e6⟩
    clear hbc d0 d1 d2 d3 d4 d5 d6
    obtain ⟨hB0, d0, d1, d2, d3, d4, d5, d6⟩ := HC.out _ (Below.refl _ _)
    go_region_held3 (fun wx => Below wc.heap.size wc wx ∧ wx.cell? ⟨w.heap.size, 0, none⟩ = some (.string P) ∧ wx.cell? ⟨w.heap.size, 1, none⟩ = some (.string U) ∧ wx.cell? ⟨w.heap.size, 2, none⟩ = some (.int .i64 a) ∧ wx.cell? ⟨w.heap.size, 3, none⟩ = some (.int .i64 b) ∧ wx.cell? ⟨w.heap.size, 4, none⟩ = some (.int .i64 m) ∧ wx.cell? ⟨w.heap.size, 5, none⟩ = some (.int .i64 g) ∧ wx.cell? ⟨w.heap.size, 6, none⟩ = some (.int .i64 g2))
      (first | exact HC.out _ (by assumption) | exact HC.out _ (Below.drew (by assumption)))
      (first
        | (go_at_call 20; (with_reducible refine (CW.out _).mono ?_); rintro e wy ⟨rfl, hby⟩; (have hTy : Below wc.heap.size wc wy := by first | exact up_call (by assumption) hby | exact up_call (Below.drew (by assumption)) hby))
        | (go_at_call 21; (with_reducible refine (CP.out _).mono ?_); rintro e wz ⟨rfl, hbz⟩; (have hTz : Below wc.heap.size wc wz := by first | exact up_call (by assumption) hbz | exact up_call (Below.drew (by assumption)) hbz)))
    have hbel := HBw.out.below
    rw [hSS.out]
    go_wp2_with fail
    go_ret2
    exact ⟨by rw [hR]; rfl, by first | exact up_call hbel hTz | exact up_call hbel hTz.drew⟩
  · rw [show patX p = [] from if_neg h0]
    obtain ⟨d0, d1, d2, d3, d4, d5, d6, -⟩ := HB.out.cells
    obtain ⟨k, hk⟩ : ∃ k, patF p = k + 1 := ⟨patF p - 1, by omega⟩
    rw [hk] at CC ⊢
    rw [errV_succ] at CC
    clear h0 hk h1 h2
    dsimp only [patC, patV] at *
    go_enter Tryd.func8, Tryd.ntmps8
    go_wp2_with (go_at_call 19; (with_reducible refine (CC.out _).mono ?_); rintro e wc ⟨rfl, hbc⟩)
    go_ret2
    exact ⟨rfl, up_call HB.out.below hbc⟩
end Np
end Go.Proofs.YtehocgemgdbikaaDoor
