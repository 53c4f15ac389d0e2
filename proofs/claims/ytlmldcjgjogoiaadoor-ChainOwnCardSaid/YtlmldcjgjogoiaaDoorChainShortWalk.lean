/- The law ChainShort, walked: it returns true for every tag; what lay in memory stays as it was. -/
import Derived.Test.YtlmldcjgjogoiaaDoorInChain
import Derived.IntWalk
namespace Go.Proofs.YtlmldcjgjogoiaaDoor
open Go.RowKit Go.Maps
attribute [local go_sem ↓] Go.wp_at_zero Go.wp_at_succ

theorem text_x (x : TagX) (hr : RightB x.t) (W : World) (h : Reads W W.heap.size 1 x.A x.t.vars.length (sv x.t.vars)) : TextCall x.t.lang x.t.script x.t.region x.A x.t.vars.length x.c (textT x.t) W := by
  have hk := known (n := x.t.vars.length) hr rfl
  exact text_any _ _ _ x.A _ x.c _ W h hk.few hk.short
abbrev PartsCall (x : TagX) (W : World) : Prop :=
  Calls Tryd.prog 16 #[.agg #[.string x.t.lang, .string x.t.script, .string x.t.region, .slice x.A x.t.vars.length x.c]] W (PartsPost W (partsT x.t))
theorem parts_x (x : TagX) (hr : RightB x.t) (W : World) (h : Reads W W.heap.size 1 x.A x.t.vars.length (sv x.t.vars)) : PartsCall x W := by
  have hk := known (n := x.t.vars.length) hr rfl
  exact parts_any _ _ _ x.A _ x.c _ W h hk.few
theorem Blk.cells4 {wx : World} {g : Nat} {t : TypeId} {a b c d : Value} (h : Blk wx g t #[a, b, c, d]) : wx.cell? ⟨g, 0, none⟩ = some a ∧ wx.cell? ⟨g, 1, none⟩ = some b ∧ wx.cell? ⟨g, 2, none⟩ = some c ∧ wx.cell? ⟨g, 3, none⟩ = some d :=
  ⟨h.cell 0, h.cell 1, h.cell 2, h.cell 3⟩
/-- the cells of a tag in a row of the call's own -/
theorem OwnTags.cellsAt {w : World} {base n c : Nat} {A : Option Addr} {xs : List TagX} (h : OwnTags w base (.slice A n c) xs) (h0 : 0 < n) (hl : xs.length = n) :
    ∃ g, A = some ⟨g, 0, none⟩ ∧ g < w.heap.size ∧ ∀ i x, xs[i]? = some x → w.cell? ⟨g, i * 4, none⟩ = some (.string x.t.lang) ∧ w.cell? ⟨g, i * 4 + 1, none⟩ = some (.string x.t.script) ∧ w.cell? ⟨g, i * 4 + 2, none⟩ = some (.string x.t.region) ∧ w.cell? ⟨g, i * 4 + 3, none⟩ = some x.vs ∧
      Reads w w.heap.size 1 x.A x.t.vars.length (sv x.t.vars) := by
  have hrow := h.row
  rw [hl] at hrow
  obtain ⟨A1, c1, e1, _, _, hg⟩ := own4_form hrow
  injection e1 with e1 _ e2
  subst e1
  obtain ⟨g, rfl⟩ := hg h0
  obtain ⟨A2, c2, e1, _, hT⟩ := h.tags
  injection e1 with e1 _ e2
  subst e1
  obtain ⟨x0, hx0⟩ : ∃ x0, xs[0]? = some x0 := ⟨xs[0]'(by omega), List.getElem?_eq_getElem (by omega)⟩
  obtain ⟨ad, e3, hb, _⟩ := hT.at_ hx0
  injection e3 with e3
  subst e3
  refine ⟨g, rfl, hb, fun i x hx => ?_⟩
  obtain ⟨ad, e3, _, y0, y1, y2, y3, _, hr⟩ := hT.at_ hx
  injection e3 with e3
  subst e3
  rw [add_zero_block] at y0 y1 y2 y3
  exact ⟨y0, y1, y2, y3, hr⟩

set_option maxHeartbeats 8000000 in
set_option maxRecDepth 100000 in
theorem chainShort_any (t : TagB) (A : Option Addr) (n c : Nat) (w : World) (h : Reads w w.heap.size 1 A n (sv t.vars)) (hz : Sized t n)
    (mx : Int) (hmx : w.cell? ⟨1, 0, none⟩ = some (.int .i64 mx)) :
    Calls Tryd.prog 4 #[.agg #[.string t.lang, .string t.script, .string t.region, .slice A n c]] w (TrueBelow w) := by
  obtain rfl : n = t.vars.length := h.len.symm
  have hlt0 := World.block_lt_of_cell? w _ hmx
  have hm : ∀ W, Below w.heap.size w W → W.cell? ⟨1, 0, none⟩ = some (.int .i64 mx) := fun W hb => by rw [hb.cell hlt0]; exact hmx
  have ra : ∀ W, Below w.heap.size w W → Reads W W.heap.size 1 A t.vars.length (sv t.vars) := fun W hb => (h.below hb).more hb.size
  have CF := Lib.hid (fun (W : World) (hb : Below w.heap.size w W) => tagged_any W mx (hm W hb))
  have hH0 : HeldT w (w.alloc (.cells (tagCs t.lang t.script t.region A t.vars.length c) 24)) t.lang t.script t.region A t.vars.length c t.vars := ⟨TagAt.new w h, up_alloc (Below.refl _ _) _⟩
  cases hf : P.fault (tagT t.lang t.script t.region t.vars) with
  | succ k =>
    have CB := Lib.hid (fun (W : World) (hb : Below w.heap.size w W) => chain_bad t k hf A t.vars.length c W (ra W hb) hz)
    clear h ra hz hf hm hmx hlt0
    unfold tagV at CB
    rw [errV_succ] at CB
    generalize ((k + 1 : Nat) : Int) = z at *
    go_enter Tryd.func4, Tryd.ntmps4
    go_upto_region 2 with (go_at_call 8; (with_reducible refine (CF.out _ hH0.below).mono ?_); rintro e w1 ⟨rfl, hb1⟩)
    have hH1 := hH0.later hb1
    obtain ⟨-, t0, t1, t2, t3⟩ := hH1.all
    go_wp2_with (go_at_call 11; (with_reducible refine (CB.out _ hH1.below).mono ?_); rintro e w2 ⟨rfl, hb2⟩; dsimp only)
    go_ret
    exact ⟨rfl, up_call hH1.below hb2⟩
  | zero =>
    have HR : Hid (RightB t) := Lib.hid hf
    have CG := Lib.hid (fun (W : World) (hb : Below w.heap.size w W) => chain_good t hf A t.vars.length c W (ra W hb) hz)
    have CP : Hid (∀ W, Below w.heap.size w W → PartsCall ⟨t, A, c⟩ W) := Lib.hid (fun W hb => parts_x ⟨t, A, c⟩ hf W (ra W hb))
    have CT : Hid (∀ W, Below w.heap.size w W → TextCall t.lang t.script t.region A t.vars.length c (textT t) W) := Lib.hid (fun W hb => text_x ⟨t, A, c⟩ hf W (ra W hb))
    have hs5 := size_few HR.out
    have hpl := parts_size HR.out
    clear h ra hz hf hm hmx hlt0
    unfold tagV at CG
    go_enter Tryd.func4, Tryd.ntmps4
    go_upto_region 2 with (go_at_call 8; (with_reducible refine (CF.out _ hH0.below).mono ?_); rintro e w1 ⟨rfl, hb1⟩)
    have hH1 := hH0.later hb1
    obtain ⟨-, t0, t1, t2, t3⟩ := hH1.all
    clear hb1 hH0 CF
    go_upto_region 7 with (go_at_call 11; (with_reducible refine (CG.out _ hH1.below).mono ?_); rintro e w2 ⟨A2, c2, xs, rfl, hxs, hc2, hO2, hb2⟩; dsimp only)
    have hH2 := hH1.later hb2
    clear t0 t1 t2 t3
    obtain ⟨-, t0, t1, t2, t3⟩ := hH2.all
    clear hb2 hH1 CG
    go_upto_region 8 with (go_at_call 16; (with_reducible refine (CP.out _ hH2.below).mono ?_); rintro e w3 ⟨v3, rfl, hown3, hb3⟩; obtain ⟨A3, c3, rfl, hc3, hrd3⟩ := own_form hown3)
    have hH3 := hH2.later hb3
    have hO3 := hO2.later hb3
    clear t0 t1 t2 t3 hb3 hown3 hrd3 hH2 hO2 CP
    obtain ⟨-, t0, t1, t2, t3⟩ := hH3.all
    have hxl := chain_length hxs
    have hB3 := hH3.below
    have hlt3 : w.heap.size < w3.heap.size := hH3.at_.blk.lt
    obtain ⟨g, rfl, hgl, hcl⟩ := hO3.cellsAt (by omega) hxl
    have hx0 : xs[0]? = some (xs[0]'(by omega)) := List.getElem?_eq_getElem (by omega)
    have hxn : xs[sizeB t]? = some (xs[sizeB t]'(by omega)) := List.getElem?_eq_getElem (by omega)
    obtain ⟨p0, p1, p2, p3, pr⟩ := hcl 0 _ hx0
    obtain ⟨q0, q1, q2, q3, qr⟩ := hcl (sizeB t) _ hxn
    have e0 : (xs[0]'(by omega)).t = t := by
      have h1 : (xs.map (·.t))[0]? = some (xs[0]'(by omega)).t := by rw [List.getElem?_map, hx0]; rfl
      obtain ⟨r, hr⟩ := chain_head t
      rw [hxs, hr] at h1
      simpa using h1.symm
    have el : (chainB t)[sizeB t]? = some (xs[sizeB t]'(by omega)).t := by rw [← hxs, List.getElem?_map, hxn]; rfl
    obtain ⟨el1, el2⟩ := chain_last t _ el
    have hrl := right_chain HR.out _ (List.mem_of_getElem? el)
    have el3 := text_none hrl el1
    rw [el2] at el3
    generalize (xs[0]'(by omega)) = x0 at *
    generalize (xs[sizeB t]'(by omega)) = xl at *
    have h0 : ∀ W, Below w3.heap.size w3 W → TextCall x0.t.lang x0.t.script x0.t.region x0.A x0.t.vars.length x0.c (textT t) W := fun W hW => by
      have := text_x x0 (by rw [e0]; exact HR.out) W ((pr.below hW).more hW.size)
      rw [show textT x0.t = textT t from by rw [e0]] at this
      exact this
    have hl : ∀ W, Below w3.heap.size w3 W → TextCall xl.t.lang xl.t.script xl.t.region xl.A xl.t.vars.length xl.c t.lang W := fun W hW => by
      have := text_x xl hrl W ((qr.below hW).more hW.size)
      rw [el3] at this
      exact this
    have ht : ∀ W, Below w3.heap.size w3 W → TextCall t.lang t.script t.region A t.vars.length c (textT t) W := fun W hW => CT.out W (up_call hB3 hW)
    have hS : ∀ wx, Below w3.heap.size w3 wx → Below w3.heap.size w3 wx ∧ wx.cell? ⟨g, 0, none⟩ = some (.string x0.t.lang) ∧ wx.cell? ⟨g, 1, none⟩ = some (.string x0.t.script) ∧ wx.cell? ⟨g, 2, none⟩ = some (.string x0.t.region) ∧ wx.cell? ⟨g, 3, none⟩ = some x0.vs ∧
        wx.cell? ⟨g, sizeB t * 4, none⟩ = some (.string xl.t.lang) ∧ wx.cell? ⟨g, sizeB t * 4 + 1, none⟩ = some (.string xl.t.script) ∧ wx.cell? ⟨g, sizeB t * 4 + 2, none⟩ = some (.string xl.t.region) ∧ wx.cell? ⟨g, sizeB t * 4 + 3, none⟩ = some xl.vs ∧
        wx.cell? ⟨w.heap.size, 0, none⟩ = some (.string t.lang) ∧ wx.cell? ⟨w.heap.size, 1, none⟩ = some (.string t.script) ∧ wx.cell? ⟨w.heap.size, 2, none⟩ = some (.string t.region) ∧ wx.cell? ⟨w.heap.size, 3, none⟩ = some (.slice A t.vars.length c) := fun wx hb =>
      ⟨hb, (hb.cell hgl).trans (by simpa using p0), (hb.cell (p := ⟨g, 1, none⟩) hgl).trans (by simpa using p1), (hb.cell (p := ⟨g, 2, none⟩) hgl).trans (by simpa using p2), (hb.cell (p := ⟨g, 3, none⟩) hgl).trans (by simpa using p3),
        (hb.cell hgl).trans q0, (hb.cell (p := ⟨g, sizeB t * 4 + 1, none⟩) hgl).trans q1, (hb.cell (p := ⟨g, sizeB t * 4 + 2, none⟩) hgl).trans q2, (hb.cell (p := ⟨g, sizeB t * 4 + 3, none⟩) hgl).trans q3,
        (hb.cell hlt3).trans t0, (hb.cell (p := ⟨w.heap.size, 1, none⟩) hlt3).trans t1, (hb.cell (p := ⟨w.heap.size, 2, none⟩) hlt3).trans t2, (hb.cell (p := ⟨w.heap.size, 3, none⟩) hlt3).trans t3⟩
    have H0 := Lib.hid h0; have HL := Lib.hid hl; have HT := Lib.hid ht; have HS := Lib.hid hS; have HXS := Lib.hid hxs; have HCL := Lib.hid hcl
    clear h0 hl ht hS pr qr hx0 hxn e0 el el1 el2 el3 hrl p0 p1 p2 p3 q0 q1 q2 q3 t0 t1 t2 t3 CT hcl hxs
    have hw64 : IntKind.i64.wrap (sizeB t : Int) = (sizeB t : Int) := by rw [IntKind.wrap_i64]; omega
    have hi0 : (0 : Int) < (sizeB t : Int) + 1 := by omega
    have hi1 : (0 : Int) ≤ (sizeB t : Int) := by omega
    have hi2 : (sizeB t : Int) < (sizeB t : Int) + 1 := by omega
    have hBr := Below.refl w3.heap.size w3
    (go_region_held3 (fun wx => Below w3.heap.size w3 wx ∧ wx.cell? ⟨g, 0, none⟩ = some (.string x0.t.lang) ∧ wx.cell? ⟨g, 1, none⟩ = some (.string x0.t.script) ∧ wx.cell? ⟨g, 2, none⟩ = some (.string x0.t.region) ∧ wx.cell? ⟨g, 3, none⟩ = some x0.vs ∧
        wx.cell? ⟨g, sizeB t * 4, none⟩ = some (.string xl.t.lang) ∧ wx.cell? ⟨g, sizeB t * 4 + 1, none⟩ = some (.string xl.t.script) ∧ wx.cell? ⟨g, sizeB t * 4 + 2, none⟩ = some (.string xl.t.region) ∧ wx.cell? ⟨g, sizeB t * 4 + 3, none⟩ = some xl.vs ∧
        wx.cell? ⟨w.heap.size, 0, none⟩ = some (.string t.lang) ∧ wx.cell? ⟨w.heap.size, 1, none⟩ = some (.string t.script) ∧ wx.cell? ⟨w.heap.size, 2, none⟩ = some (.string t.region) ∧ wx.cell? ⟨w.heap.size, 3, none⟩ = some (.slice A t.vars.length c))
      (first | exact HS.out _ (by assumption) | exact HS.out _ (Below.drew (by assumption)))
      (first
        | (go_at_call 17; (with_reducible refine (HT.out _ ?_).mono ?_); (first | assumption | exact Below.drew (by assumption)); rintro e wy ⟨rfl, hby⟩; (have hTy : Below w3.heap.size w3 wy := by first | exact up_call (by assumption) hby | exact up_call (Below.drew (by assumption)) hby))
        | (go_at_call 17; (with_reducible refine (H0.out _ ?_).mono ?_); (first | assumption | exact Below.drew (by assumption)); rintro e wz ⟨rfl, hbz⟩; (have hTz : Below w3.heap.size w3 wz := by first | exact up_call (by assumption) hbz | exact up_call (Below.drew (by assumption)) hbz))
        | (go_at_call 17; (with_reducible refine (HL.out _ ?_).mono ?_); (first | assumption | exact Below.drew (by assumption)); rintro e wl ⟨rfl, hbl⟩; (have hTl : Below w3.heap.size w3 wl := by first | exact up_call (by assumption) hbl | exact up_call (Below.drew (by assumption)) hbl))))
    clear HS H0 HL HT hi0 hi1 hi2 hw64
    go_wp2_with fail
    go_loopw [7] (fun i wr => ∃ j : Nat, j ≤ sizeB t ∧ i = .int .i64 ((j : Int) + 1) ∧ Below w3.heap.size w3 wr) (fun i _ => 100 - (intOf i).toNat)
    case atStart => exact ⟨0, Nat.zero_le _, rfl, by assumption⟩
    case round =>
      obtain ⟨j, hj, rfl, hb⟩ := hrel
      by_cases hlt : j < sizeB t
      · have hjx : j < xs.length := by omega
        have hjy : j + 1 < xs.length := by omega
        have hx : xs[j]? = some xs[j] := List.getElem?_eq_getElem hjx
        have hy : xs[j + 1]? = some xs[j + 1] := List.getElem?_eq_getElem hjy
        have ex : (chainB t)[j]? = some xs[j].t := by rw [← HXS.out, List.getElem?_map, hx]; rfl
        have ey : (chainB t)[j + 1]? = some xs[j + 1].t := by rw [← HXS.out, List.getElem?_map, hy]; rfl
        have hst := chain_step t j _ _ ex ey
        have hrx := right_chain HR.out _ (List.mem_of_getElem? ex)
        have hry := right_chain HR.out _ (List.mem_of_getElem? ey)
        have hpp := parts_short hrx hst
        have hql := parts_size hrx
        obtain ⟨p0, p1, p2, p3, pr⟩ := HCL.out j _ hx
        obtain ⟨q0, q1, q2, q3, qr⟩ := HCL.out (j + 1) _ hy
        clear hx hy ex ey hst
        generalize xs[j] = x at *
        generalize xs[j + 1] = y at *
        have hPX : ∀ W, Below w3.heap.size w3 W → PartsCall x W := fun W hW => parts_x x hrx W ((pr.below hW).more hW.size)
        have hPY : ∀ W, Below w3.heap.size w3 W → PartsCall y W := fun W hW => parts_x y hry W ((qr.below hW).more hW.size)
        unfold PartsCall at hPX hPY
        have hq5 : sizeB x.t ≤ 5 := size_few hrx
        clear hrx hry pr qr
        generalize partsT x.t = ps at *
        generalize partsT y.t = ps' at *
        generalize hq : sizeB x.t = q at *
        clear hq
        have r0 := (hb.cell (p := ⟨g, j * 4, none⟩) hgl).trans p0
        have r1 := (hb.cell (p := ⟨g, j * 4 + 1, none⟩) hgl).trans p1
        have r2 := (hb.cell (p := ⟨g, j * 4 + 2, none⟩) hgl).trans p2
        have r3 := (hb.cell (p := ⟨g, j * 4 + 3, none⟩) hgl).trans p3
        have HPX := Lib.hid hPX; have HPY := Lib.hid hPY; have HPP := Lib.hid hpp
        clear hPX hPY hpp p0 p1 p2 p3
        have hj5 : j ≤ 5 := by omega
        go_upto_region 14 with (go_at_call 16; (with_reducible refine (HPX.out _ hb).mono ?_); rintro e w5 ⟨v5, rfl, hown5, hb5⟩; obtain ⟨A5, c5, rfl, hc5, hrd5⟩ := own_form hown5)
        have hB5 := up_call hb hb5
        have hlt5 : g < w5.heap.size := Nat.lt_of_lt_of_le hgl hB5.size
        rw [hql] at hrd5 hc5
        have hS5 : ∀ wx, Below w5.heap.size w5 wx → Below w5.heap.size w5 wx ∧ wx.cell? ⟨g, (j + 1) * 4, none⟩ = some (.string y.t.lang) ∧ wx.cell? ⟨g, (j + 1) * 4 + 1, none⟩ = some (.string y.t.script) ∧ wx.cell? ⟨g, (j + 1) * 4 + 2, none⟩ = some (.string y.t.region) ∧ wx.cell? ⟨g, (j + 1) * 4 + 3, none⟩ = some y.vs := fun wx hw =>
          ⟨hw, (hw.cell hlt5).trans ((hB5.cell hgl).trans q0), (hw.cell (p := ⟨g, (j + 1) * 4 + 1, none⟩) hlt5).trans ((hB5.cell (p := ⟨g, (j + 1) * 4 + 1, none⟩) hgl).trans q1), (hw.cell (p := ⟨g, (j + 1) * 4 + 2, none⟩) hlt5).trans ((hB5.cell (p := ⟨g, (j + 1) * 4 + 2, none⟩) hgl).trans q2), (hw.cell (p := ⟨g, (j + 1) * 4 + 3, none⟩) hlt5).trans ((hB5.cell (p := ⟨g, (j + 1) * 4 + 3, none⟩) hgl).trans q3)⟩
        have hpt : ps' = ps.take q := by rw [HPP.out, List.dropLast_eq_take]; congr 1; omega
        have hpq : ps'.length = q := by rw [hpt]; simp; omega
        have hTX : ∀ (W : World) (A6 : Option Addr) (c6 : Nat), Below w5.heap.size w5 W → Reads W W.heap.size 1 A6 ps'.length (sv ps') → Calls Tryd.prog 18 #[.slice A6 ps'.length c6, .slice A5 q c5] W fun e w' => e = .returned (.bool true) ∧ Below W.heap.size W w' := fun W A6 c6 hW hr6 => by
          have h5 := (((hrd5.take (k := q) (by omega)).below hW).more hW.size)
          rw [sv_take] at h5
          refine (texts_any A6 A5 ps'.length q c6 c5 ps' (ps.take q) W W.heap.size hr6 h5 (by unfold maxLen; omega) (by unfold maxLen; omega)).mono ?_
          rintro e w' ⟨rfl, d, rfl⟩
          exact ⟨by rw [decide_eq_true hpt], below_drewN (Below.refl _ _) d⟩
        have HS5 := Lib.hid hS5; have HTX := Lib.hid hTX; have HPQ := Lib.hid hpq
        clear hS5 hTX hpt hpq hrd5 hown5 r0 r1 r2 r3 q0 q1 q2 q3 HPX hb5
        have hw64 : IntKind.i64.wrap (q : Int) = (q : Int) := by rw [IntKind.wrap_i64]; omega
        have hqc : (q : Int) ≤ (c5 : Int) := by omega
        have hq0 : (0 : Int) ≤ (q : Int) := by omega
        have hj0 : (0 : Int) ≤ (j : Int) + 1 := by omega
        have hj1 : (j : Int) + 1 < (sizeB t : Int) + 1 := by omega
        have hBr5 := Below.refl w5.heap.size w5
        (go_region_held3 (fun wx => Below w5.heap.size w5 wx ∧ wx.cell? ⟨g, (j + 1) * 4, none⟩ = some (.string y.t.lang) ∧ wx.cell? ⟨g, (j + 1) * 4 + 1, none⟩ = some (.string y.t.script) ∧ wx.cell? ⟨g, (j + 1) * 4 + 2, none⟩ = some (.string y.t.region) ∧ wx.cell? ⟨g, (j + 1) * 4 + 3, none⟩ = some y.vs)
          (first | exact HS5.out _ (by assumption) | exact HS5.out _ (Below.drew (by assumption)) | exact HS5.out _ (below_drewN (by assumption) _))
          (first
            | (go_at_call 16; (with_reducible refine (HPY.out _ ?_).mono ?_); (first | exact up_call hB5 (by assumption) | exact up_call hB5 (Below.drew (by assumption))); rintro e w6 ⟨v6, rfl, hown6, hb6⟩; obtain ⟨A6, c6, rfl, hc6, hrd6⟩ := own_form hown6; (have hT6 : Below w5.heap.size w5 w6 := by first | exact up_call (by assumption) hb6 | exact up_call (Below.drew (by assumption)) hb6))
            | (go_at_call 18; (with_reducible refine (HTX.out _ A6 c6 ?_ ?_).mono ?_); (first | assumption | exact Below.drew (by assumption)); exact hrd6; rintro e w7 ⟨rfl, hb7⟩; (have hT7 : Below w5.heap.size w5 w7 := up_call hT6 hb7))))
        go_wp2_with fail
        go_roundw
        case rel => exact ⟨j + 1, by omega, by go_num, up_call hB5 hT7⟩
        case measure => simp [intOf]; omega
      · have hje : j = sizeB t := by omega
        subst hje
        go_wp2_with fail
        go_ret
        exact ⟨rfl, up_call hB3 hb⟩
end Go.Proofs.YtlmldcjgjogoiaaDoor
