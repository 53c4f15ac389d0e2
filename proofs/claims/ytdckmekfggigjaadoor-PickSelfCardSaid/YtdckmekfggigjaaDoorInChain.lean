/- The reference's InChain: of two right tags, whether the second one is in the chain of the first one. -/
import Derived.Test.YtdckmekfggigjaaDoorChainOf
import Derived.Test.YtdckmekfggigjaaDoorJoined
namespace Go.Proofs.YtdckmekfggigjaaDoor
open Go.RowKit Go.Maps
attribute [local go_sem ↓] Go.wp_at_zero Go.wp_at_succ

abbrev TagTextCall (x : TagX) (T : ByteArray) (W : World) : Prop :=
  Calls Tryd.prog 11 #[.agg #[.string x.t.lang, .string x.t.script, .string x.t.region, .slice x.A x.t.vars.length x.c]] W fun e w' => e = .returned (.string T) ∧ Below W.heap.size W w'
theorem tagText_x (x : TagX) (hr : RightB x.t) (W : World) (h : Reads W W.heap.size 1 x.A x.t.vars.length (sv x.t.vars)) : TagTextCall x (textT x.t) W := by
  have hk := known (n := x.t.vars.length) hr rfl
  exact tagText_any _ _ _ x.A _ x.c _ W h hk.few hk.short

set_option maxHeartbeats 4000000 in
set_option maxRecDepth 100000 in
theorem inChain_any (x y : TagX) (hr : RightB x.t) (hr' : RightB y.t) (w : World) (h : Reads w w.heap.size 1 x.A x.t.vars.length (sv x.t.vars)) (h' : Reads w w.heap.size 1 y.A y.t.vars.length (sv y.t.vars)) (hc : x.t.vars.length ≤ x.c) :
    Calls Tryd.prog 15 #[.agg #[.string x.t.lang, .string x.t.script, .string x.t.region, .slice x.A x.t.vars.length x.c], .agg #[.string y.t.lang, .string y.t.script, .string y.t.region, .slice y.A y.t.vars.length y.c]] w
      fun e w' => e = .returned (.bool (decide (y.t ∈ chainB x.t))) ∧ Below w.heap.size w w' := by
  have hT0 := Two.start w (tagCs x.t.lang x.t.script x.t.region x.A x.t.vars.length x.c) (tagCs y.t.lang y.t.script y.t.region y.A y.t.vars.length y.c)
  have CO := Lib.hid (chainOf_any w w.heap.size (Nat.le_refl _) x.t hr x.A x.c h hc _ hT0.below)
  have hs5 := size_few hr
  have HR := Lib.hid hr; have HR' := Lib.hid hr'; have H' := Lib.hid h'
  clear h h' hr hr'
  obtain ⟨t0, t1, t2, t3, -, -, -, -⟩ := hT0.cells
  go_enter Tryd.func15, Tryd.ntmps15
  go_wp2_with (go_at_call 10; (with_reducible refine CO.out.mono ?_); rintro e w2 ⟨A2, c2, xs, rfl, hxs, hown2, hvs, hb2⟩; (have hT2 := hT0.later hb2))
  have hxl := chain_length hxs
  have hX : TagsAt w2 w2.heap.size A2 (sizeB x.t + 1) xs := ⟨hxl, Reads.of_own hown2, fun z hz => ⟨(hvs z hz).1, ((hvs z hz).2.below hT2.below).more hT2.below.size⟩⟩
  have HXS := Lib.hid hxs
  have hU : Reads w2 w2.heap.size 1 y.A y.t.vars.length (sv y.t.vars) := (H'.out.below hT2.below).more hT2.below.size
  clear t0 t1 t2 t3 CO hb2 hown2 hvs hxs H'
  obtain ⟨-, -, -, -, s0, s1, s2, s3⟩ := hT2.cells
  have hlt1 : w.heap.size + 1 < w2.heap.size := hT2.sz
  go_loopw [6] (fun i wr => ∃ k : Nat, k ≤ sizeB x.t + 1 ∧ i = .int .i64 k ∧ Below w2.heap.size w2 wr ∧ Hid (y.t ∉ (xs.take k).map (·.t))) (fun i _ => sizeB x.t + 1 - (intOf i).toNat)
  case atStart => exact ⟨0, Nat.zero_le _, rfl, Below.refl _ _, Lib.hid (by simp)⟩
  case round =>
    obtain ⟨k, hk, rfl, hb, hno⟩ := hrel
    by_cases hlt : k < sizeB x.t + 1
    · have hkx : k < xs.length := by omega
      obtain ⟨ad, rfl, hadb, hcl, hxc, hxr⟩ := hX.cellsAt (List.getElem?_eq_getElem hkx)
      have hbox : CellsAt w2 ⟨w.heap.size + 1, 0, none⟩ y := ⟨s0, s1, s2, s3⟩
      have hpair : PairAt w2 wr (ad.add (k * 4)) ⟨w.heap.size + 1, 0, none⟩ xs[k] y := ⟨hb, hcl.keep hb (by rw [block_of_add]; exact hadb), hbox.keep hb hlt1, by rw [block_of_add]; exact hadb, hlt1⟩
      have htake := map_take_snoc xs k hkx
      have hmem : xs[k].t ∈ chainB x.t := by rw [← HXS.out]; exact List.mem_map.2 ⟨_, List.getElem_mem hkx, rfl⟩
      have hrk := right_chain HR.out _ hmem
      have h1 : ∀ W, Below w2.heap.size w2 W → TagTextCall xs[k] (textT xs[k].t) W := fun W hW => tagText_x _ hrk W ((hxr.below hW).more hW.size)
      have h2 : ∀ W, Below w2.heap.size w2 W → TagTextCall y (textT y.t) W := fun W hW => tagText_x _ HR'.out W ((hU.below hW).more hW.size)
      have heq := text_same hrk HR'.out
      clear hcl hbox hxc hxr hX hU hrk
      generalize xs[k] = z at *
      have HTK := Lib.hid htake; have HM := Lib.hid hmem; have H1 := Lib.hid h1; have H2 := Lib.hid h2
      clear htake hmem h1 h2
      obtain ⟨-, x0, x1, x2, x3, y0, y1, y2, y3⟩ := hpair.all
      generalize textT z.t = T1 at *
      generalize textT y.t = T2 at *
      have hki : (k : Int) < (sizeB x.t : Int) + 1 := by omega
      cases hd : decide (z.t = y.t)
      all_goals
        rw [hd] at heq
        have HD := Lib.hid hd; have HEQ := Lib.hid heq
        clear hd heq
        go_wp2_with fail
        (go_region_held3 (fun wx => PairAt w2 wx (ad.add (k * 4)) ⟨w.heap.size + 1, 0, none⟩ z y ∧ wx.cell? (ad.add (k * 4)) = some (.string z.t.lang) ∧ wx.cell? ⟨(ad.add (k * 4)).block, (ad.add (k * 4)).off + 1, none⟩ = some (.string z.t.script) ∧ wx.cell? ⟨(ad.add (k * 4)).block, (ad.add (k * 4)).off + 2, none⟩ = some (.string z.t.region) ∧ wx.cell? ⟨(ad.add (k * 4)).block, (ad.add (k * 4)).off + 3, none⟩ = some z.vs ∧
              wx.cell? ⟨w.heap.size + 1, 0, none⟩ = some (.string y.t.lang) ∧ wx.cell? ⟨w.heap.size + 1, 1, none⟩ = some (.string y.t.script) ∧ wx.cell? ⟨w.heap.size + 1, 2, none⟩ = some (.string y.t.region) ∧ wx.cell? ⟨w.heap.size + 1, 3, none⟩ = some y.vs)
            (first | exact PairAt.all (by assumption) | exact PairAt.all (PairAt.drew (by assumption)))
            (first
              | (go_at_call 11; (with_reducible refine (H1.out _ ?_).mono ?_); (first | exact PairAt.below (by assumption) | exact PairAt.below (PairAt.drew (by assumption))); rintro e wy ⟨rfl, hby⟩; (have hPy : PairAt w2 wy (ad.add (k * 4)) ⟨w.heap.size + 1, 0, none⟩ z y := by first | exact PairAt.later (by assumption) hby | exact PairAt.later (PairAt.drew (by assumption)) hby))
              | (go_at_call 11; (with_reducible refine (H2.out _ ?_).mono ?_); (first | exact PairAt.below (by assumption) | exact PairAt.below (PairAt.drew (by assumption))); rintro e wz ⟨rfl, hbz⟩; (have hPz : PairAt w2 wz (ad.add (k * 4)) ⟨w.heap.size + 1, 0, none⟩ z y := by first | exact PairAt.later (by assumption) hbz | exact PairAt.later (PairAt.drew (by assumption)) hbz))))
        rw [HEQ.out]
        go_wp2_with fail
      · go_roundw
        case rel => exact ⟨k + 1, by omega, by go_num, PairAt.below (by assumption), Lib.hid (by rw [HTK.out]; simp only [List.mem_append, List.mem_singleton, not_or]; exact ⟨hno.out, fun he => of_decide_eq_false HD.out he.symm⟩)⟩
        case measure => simp [intOf]; omega
      · go_ret
        exact ⟨ret_bool (by rw [← of_decide_eq_true HD.out, decide_eq_true HM.out]), up_call hT2.below (PairAt.below (by assumption))⟩
    · have hall : xs.take k = xs := List.take_of_length_le (by omega)
      have hki : ¬ (k : Int) < (sizeB x.t : Int) + 1 := by omega
      clear hX hU
      go_wp2_with fail
      go_ret
      exact ⟨ret_bool (by have := hno.out; rw [hall, HXS.out] at this; rw [decide_eq_false this]), up_call hT2.below hb⟩
end Go.Proofs.YtdckmekfggigjaaDoor
