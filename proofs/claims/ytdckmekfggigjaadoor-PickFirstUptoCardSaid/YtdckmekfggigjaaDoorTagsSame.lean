/- Whether two rows of tags are the same: the helper of the statements returns just that; what lay in memory stays as it was. -/
import Derived.Test.YtdckmekfggigjaaDoorWithin
import Derived.Deep.RegionHeld3
import Derived.Deep.DrawnRows
namespace Go.Proofs.YtdckmekfggigjaaDoor
open Go.RowKit Go.Maps
attribute [local go_sem ↓] Go.wp_at_zero Go.wp_at_succ

/-- the cells of a tag at an address, as a load asks for them -/
abbrev CellsAt (wx : World) (ad : Addr) (x : TagX) : Prop :=
  wx.cell? ad = some (.string x.t.lang) ∧ wx.cell? ⟨ad.block, ad.off + 1, none⟩ = some (.string x.t.script) ∧ wx.cell? ⟨ad.block, ad.off + 2, none⟩ = some (.string x.t.region) ∧ wx.cell? ⟨ad.block, ad.off + 3, none⟩ = some x.vs
theorem TagsAt.cellsAt {w : World} {B n : Nat} {A : Option Addr} {xs : List TagX} (h : TagsAt w B A n xs) {i : Nat} {x : TagX} (hx : xs[i]? = some x) :
    ∃ ad, A = some ad ∧ ad.block < B ∧ CellsAt w (ad.add (i * 4)) x ∧ x.t.vars.length ≤ x.c ∧ Reads w B 1 x.A x.t.vars.length (sv x.t.vars) := by
  obtain ⟨ad, e, hb, x0, x1, x2, x3, hc, hr⟩ := h.at_ hx
  rw [← add_of_add, add_pos _ _ (by omega)] at x1 x2 x3
  exact ⟨ad, e, hb, ⟨x0, x1, x2, x3⟩, hc, hr⟩
theorem CellsAt.keep {w wx : World} {B : Nat} {ad : Addr} {x : TagX} (h : CellsAt w ad x) (hb : Below B w wx) (hl : ad.block < B) : CellsAt wx ad x := by
  obtain ⟨h0, h1, h2, h3⟩ := h
  exact ⟨(hb.cell hl).trans h0, (hb.cell (p := ⟨ad.block, ad.off + 1, none⟩) hl).trans h1, (hb.cell (p := ⟨ad.block, ad.off + 2, none⟩) hl).trans h2, (hb.cell (p := ⟨ad.block, ad.off + 3, none⟩) hl).trans h3⟩
/-- two tags that lay in memory at the start -/
structure PairAt (w wx : World) (ad ad' : Addr) (x y : TagX) : Prop where
  below : Below w.heap.size w wx
  one : CellsAt wx ad x
  two : CellsAt wx ad' y
  lt : ad.block < w.heap.size
  lt' : ad'.block < w.heap.size
section
variable {w wx wy : World} {ad ad' : Addr} {x y : TagX}
theorem PairAt.later (h : PairAt w wx ad ad' x y) (hb : Below wx.heap.size wx wy) : PairAt w wy ad ad' x y :=
  ⟨up_call h.below hb, h.one.keep hb (Nat.lt_of_lt_of_le h.lt h.below.size), h.two.keep hb (Nat.lt_of_lt_of_le h.lt' h.below.size), h.lt, h.lt'⟩
theorem PairAt.drew (h : PairAt w wx ad ad' x y) : PairAt w wx.drew ad ad' x y := ⟨below_drewN h.below 1, h.one, h.two, h.lt, h.lt'⟩
theorem PairAt.all (h : PairAt w wx ad ad' x y) : PairAt w wx ad ad' x y ∧ wx.cell? ad = some (.string x.t.lang) ∧ wx.cell? ⟨ad.block, ad.off + 1, none⟩ = some (.string x.t.script) ∧ wx.cell? ⟨ad.block, ad.off + 2, none⟩ = some (.string x.t.region) ∧ wx.cell? ⟨ad.block, ad.off + 3, none⟩ = some x.vs ∧
    wx.cell? ad' = some (.string y.t.lang) ∧ wx.cell? ⟨ad'.block, ad'.off + 1, none⟩ = some (.string y.t.script) ∧ wx.cell? ⟨ad'.block, ad'.off + 2, none⟩ = some (.string y.t.region) ∧ wx.cell? ⟨ad'.block, ad'.off + 3, none⟩ = some y.vs :=
  ⟨h, h.one.1, h.one.2.1, h.one.2.2.1, h.one.2.2.2, h.two.1, h.two.2.1, h.two.2.2.1, h.two.2.2.2⟩
end
theorem map_take_snoc (xs : List TagX) (k : Nat) (h : k < xs.length) : (xs.take (k + 1)).map (·.t) = (xs.take k).map (·.t) ++ [xs[k].t] := by
  rw [List.take_succ_eq_append_getElem h, List.map_append]; rfl

set_option maxHeartbeats 4000000 in
set_option maxRecDepth 100000 in
theorem tagsBig_any (A A' : Option Addr) (n m c c' : Nat) (xs ys : List TagX) (w : World) (h : TagsAt w w.heap.size A n xs) (h' : TagsAt w w.heap.size A' m ys) (hn : n < maxLen) (hm : m < maxLen)
    (hv : ∀ x ∈ xs, x.t.vars.length < maxLen) (hv' : ∀ x ∈ ys, x.t.vars.length < maxLen) :
    Calls Tryd.prog 22 #[.slice A n c, .slice A' m c'] w fun e w' => e = .returned (.bool (decide (xs.map (·.t) = ys.map (·.t)))) ∧ Below w.heap.size w w' := by
  have hl := h.len
  have hl' := h'.len
  unfold maxLen at hn hm
  by_cases hnm : n = m
  · subst hnm
    have HL := Lib.hid hl; have HL' := Lib.hid hl'; clear hl hl'
    go_enter Tryd.func22, Tryd.ntmps22
    go_wp2_with fail
    go_loopw [5] (fun i wr => ∃ k : Nat, k ≤ n ∧ i = .int .i64 k ∧ Below w.heap.size w wr ∧ Hid ((xs.take k).map (·.t) = (ys.take k).map (·.t))) (fun i _ => n - (intOf i).toNat)
    case atStart => exact ⟨0, Nat.zero_le _, rfl, Below.refl _ _, Lib.hid rfl⟩
    case round =>
      obtain ⟨k, hk, rfl, hb, ht⟩ := hrel
      by_cases hlt : k < n
      · have hkx : k < xs.length := by have := HL.out; omega
        have hky : k < ys.length := by have := HL'.out; omega
        obtain ⟨ad, rfl, hadb, hc, hxc, hxr⟩ := h.cellsAt (List.getElem?_eq_getElem hkx)
        obtain ⟨ad', rfl, hadb', hc', hyc, hyr⟩ := h'.cellsAt (List.getElem?_eq_getElem hky)
        have hpair : PairAt w wr (ad.add (k * 4)) (ad'.add (k * 4)) xs[k] ys[k] := ⟨hb, hc.keep hb (by rw [block_of_add]; exact hadb), hc'.keep hb (by rw [block_of_add]; exact hadb'), by rw [block_of_add]; exact hadb, by rw [block_of_add]; exact hadb'⟩
        have hsx := map_take_snoc xs k hkx
        have hsy := map_take_snoc ys k hky
        have CS : ∀ W : World, Below w.heap.size w W → Calls Tryd.prog 39 #[.agg #[.string xs[k].t.lang, .string xs[k].t.script, .string xs[k].t.region, xs[k].vs], .agg #[.string ys[k].t.lang, .string ys[k].t.script, .string ys[k].t.region, ys[k].vs]] W
            fun e w' => e = .returned (.bool (decide (xs[k].t = ys[k].t))) ∧ Below W.heap.size W w' := fun W hW => by
          rw [← same_tag]
          exact sameTag_any _ _ _ _ _ _ _ _ _ _ _ _ _ _ W ((hxr.below hW).more hW.size) ((hyr.below hW).more hW.size) (hv _ (List.getElem_mem hkx)) (hv' _ (List.getElem_mem hky))
        clear hc hc' hxr hyr hxc hyc h h'
        obtain ⟨-, x0, x1, x2, x3, y0, y1, y2, y3⟩ := hpair.all
        generalize hx : xs[k] = x at *
        generalize hy : ys[k] = y at *
        clear hx hy
        have HSX := Lib.hid hsx; have HSY := Lib.hid hsy
        clear hsx hsy
        cases hd : decide (x.t = y.t)
        all_goals
          rw [hd] at CS
          have HCS := Lib.hid CS; have HD := Lib.hid hd
          clear CS hd
          go_wp2_with fail
          first | (go_region_held3 (fun wx => PairAt w wx (ad.add (k * 4)) (ad'.add (k * 4)) x y ∧ wx.cell? (ad.add (k * 4)) = some (.string x.t.lang) ∧ wx.cell? ⟨(ad.add (k * 4)).block, (ad.add (k * 4)).off + 1, none⟩ = some (.string x.t.script) ∧ wx.cell? ⟨(ad.add (k * 4)).block, (ad.add (k * 4)).off + 2, none⟩ = some (.string x.t.region) ∧ wx.cell? ⟨(ad.add (k * 4)).block, (ad.add (k * 4)).off + 3, none⟩ = some x.vs ∧
                wx.cell? (ad'.add (k * 4)) = some (.string y.t.lang) ∧ wx.cell? ⟨(ad'.add (k * 4)).block, (ad'.add (k * 4)).off + 1, none⟩ = some (.string y.t.script) ∧ wx.cell? ⟨(ad'.add (k * 4)).block, (ad'.add (k * 4)).off + 2, none⟩ = some (.string y.t.region) ∧ wx.cell? ⟨(ad'.add (k * 4)).block, (ad'.add (k * 4)).off + 3, none⟩ = some y.vs)
              (first | exact PairAt.all (by assumption) | exact PairAt.all (PairAt.drew (by assumption)))
              (first | (go_at_call 39; (with_reducible refine (HCS.out _ ?_).mono ?_); (first | exact PairAt.below (by assumption) | exact PairAt.below (PairAt.drew (by assumption))); rintro e wy ⟨rfl, hby⟩; (have hPy : PairAt w wy (ad.add (k * 4)) (ad'.add (k * 4)) x y := by first | exact PairAt.later (by assumption) hby | exact PairAt.later (PairAt.drew (by assumption)) hby)))) | fail
          go_wp2_with fail
        · go_ret
          exact ⟨ret_bool (by
            rw [eq_comm, decide_eq_false_iff_not]
            intro he
            have h1 := congrArg (List.take (k + 1)) he
            rw [← List.map_take, ← List.map_take, HSX.out, HSY.out] at h1
            have h2 := List.append_inj_right' h1 rfl
            exact of_decide_eq_false HD.out (by simpa using h2)), hPy.below⟩
        · go_roundw
          case rel => exact ⟨k + 1, by omega, by go_num, hPy.below, Lib.hid (by rw [HSX.out, HSY.out, ht.out, of_decide_eq_true HD.out])⟩
          case measure => simp [intOf]; omega
      · have hxa : xs.take k = xs := List.take_of_length_le (by have := HL.out; omega)
        have hya : ys.take k = ys := List.take_of_length_le (by have := HL'.out; omega)
        clear h h'
        go_wp2_with fail
        go_ret
        exact ⟨ret_bool (by have e3 := ht.out; rw [hxa, hya] at e3; rw [decide_eq_true e3]), hb⟩
  · have hb : ((n : Int) != m) = true := by rw [bne_iff_ne]; omega
    have HL := Lib.hid hl; have HL' := Lib.hid hl'; clear hl hl' h h'
    go_enter Tryd.func22, Tryd.ntmps22
    go_wp2_with fail
    go_ret
    exact ⟨ret_bool (by have e1 := HL.out; have e2 := HL'.out; rw [eq_comm, decide_eq_false_iff_not]; intro he; have := congrArg List.length he; simp at this; omega), Below.refl _ _⟩
theorem tags_any (A A' : Option Addr) (n m c c' : Nat) (xs ys : List TagX) (w : World) (h : TagsAt w w.heap.size A n xs) (h' : TagsAt w w.heap.size A' m ys) (hn : n ≤ 1000000) (hm : m ≤ 1000000)
    (hv : ∀ x ∈ xs, x.t.vars.length ≤ 1000000) (hv' : ∀ x ∈ ys, x.t.vars.length ≤ 1000000) :
    Calls Tryd.prog 22 #[.slice A n c, .slice A' m c'] w fun e w' => e = .returned (.bool (decide (xs.map (·.t) = ys.map (·.t)))) ∧ Below w.heap.size w w' :=
  tagsBig_any A A' n m c c' xs ys w h h' (by unfold maxLen; omega) (by unfold maxLen; omega) (fun x hx => by have := hv x hx; unfold maxLen; omega) (fun x hx => by have := hv' x hx; unfold maxLen; omega)
end Go.Proofs.YtdckmekfggigjaaDoor
