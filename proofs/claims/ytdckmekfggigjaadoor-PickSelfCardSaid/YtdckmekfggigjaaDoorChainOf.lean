/- The reference's ChainOf: of a right tag the chain, a row of the call's own; the variants are views of the tag's. -/
import Derived.Test.YtdckmekfggigjaaDoorEnds
import Derived.IntWalk
namespace Go.Proofs.YtdckmekfggigjaaDoor
open Go.RowKit Go.Maps
attribute [local go_sem ↓] Go.wp_at_zero Go.wp_at_succ

/-- what ChainOf tells; the variants are views of what lay in a first world -/
def ChainOfPost (w0 : World) (B : Nat) (w : World) (t : TagB) (e : Ending) (w' : World) : Prop :=
  ∃ (A : Option Addr) (c : Nat) (xs : List TagX), e = .returned (.slice A (sizeB t + 1) c) ∧ xs.map (·.t) = chainB t ∧ w'.ownsRow w.heap.size 29 4 (.slice A (sizeB t + 1) c) (sizeB t + 1) (rowC xs) ∧
    (∀ x ∈ xs, x.t.vars.length ≤ x.c ∧ Reads w0 B 1 x.A x.t.vars.length (sv x.t.vars)) ∧ Below w.heap.size w w'
/-- the box of the tag, and what lay below -/
structure OfBox (w wx : World) (cs : Array Value) : Prop where
  below : Below w.heap.size w wx
  box : Blk wx w.heap.size 29 cs
section
variable {w wx wy : World} {cs : Array Value}
theorem OfBox.later (h : OfBox w wx cs) (hb : Below wx.heap.size wx wy) : OfBox w wy cs := ⟨up_call h.below hb, h.box.below hb h.box.lt⟩
theorem OfBox.drew (h : OfBox w wx cs) : OfBox w wx.drew cs := ⟨below_drewN h.below 1, h.box⟩
theorem OfBox.alloc (h : OfBox w wx cs) (o : Obj) : OfBox w (wx.alloc o) cs := ⟨up_alloc h.below o, h.box.alloc o⟩
theorem OfBox.grown {g : Nat} (h : OfBox w wx cs) (hg : wx.grownBy wy (some g)) (hlt : w.heap.size < g) : OfBox w wy cs :=
  ⟨h.below.grown hg h.below.size (fun j hj => by injection hj with hj; omega), h.box.grown hg (fun e => by injection e; omega)⟩
theorem OfBox.all {a0 a1 a2 a3 : Value} (h : OfBox w wx #[a0, a1, a2, a3]) : OfBox w wx #[a0, a1, a2, a3] ∧
    wx.cell? ⟨w.heap.size, 0, none⟩ = some a0 ∧ wx.cell? ⟨w.heap.size, 1, none⟩ = some a1 ∧ wx.cell? ⟨w.heap.size, 2, none⟩ = some a2 ∧ wx.cell? ⟨w.heap.size, 3, none⟩ = some a3 :=
  ⟨h, h.box.cell 0, h.box.cell 1, h.box.cell 2, h.box.cell 3⟩
end
theorem ofBox_start (w : World) (cs : Array Value) (o : Obj) : OfBox w ((w.alloc (.cells cs 29)).alloc o) cs := ⟨up_alloc (up_alloc (Below.refl _ _) _) _, (Blk.new _ _ _).alloc _⟩

/-- the head's row, in a later world -/
theorem of_lit (w : World) (x : TagX) : ((w.alloc (.cells x.cells.toArray 29)).alloc (.cells x.cells.toArray 29)).ownsRow w.heap.size 29 4 (.slice (some ⟨w.heap.size + 1, 0, none⟩) 1 1) 1 (rowC [x]) := by
  have := own_lit4 (w.alloc (.cells x.cells.toArray 29)) x.cells 29 (base := w.heap.size) (by simp) rfl
  simpa [rowC] using this
/-- what ChainOf tells, put together -/
theorem of_join {w0 w w2 : World} {B : Nat} {t u : TagB} {A A2 : Option Addr} {c c2 n2 : Nat} {ys : List TagX} (hs : shortB t = some u) (hy : ys.map (·.t) = chainB u)
    (hvs : ∀ x ∈ ys, x.t.vars.length ≤ x.c ∧ Reads w0 B 1 x.A x.t.vars.length (sv x.t.vars))
    (hc : t.vars.length ≤ c) (h : Reads w0 B 1 A t.vars.length (sv t.vars)) (hn : n2 = sizeB t + 1)
    (hown : w2.ownsRow w.heap.size 29 4 (.slice A2 n2 c2) n2 (rowC [⟨t, A, c⟩] ++ rowC ys)) (hb : Below w.heap.size w w2) : ChainOfPost w0 B w t (.returned (.slice A2 n2 c2)) w2 := by
  subst hn
  refine ⟨A2, c2, ⟨t, A, c⟩ :: ys, rfl, by rw [chain_some hs, List.map_cons, hy], by rw [show rowC (⟨t, A, c⟩ :: ys) = rowC [⟨t, A, c⟩] ++ rowC ys from by rw [← rowC_append]; rfl]; exact hown, fun x hx => ?_, hb⟩
  rcases List.mem_cons.1 hx with rfl | hx
  · exact ⟨hc, h⟩
  · exact hvs x hx

abbrev OfCall (w0 : World) (B : Nat) (t : TagB) (A : Option Addr) (c : Nat) (W : World) : Prop :=
  Calls Tryd.prog 10 #[.agg #[.string t.lang, .string t.script, .string t.region, .slice A t.vars.length c]] W (ChainOfPost w0 B W t)

set_option maxHeartbeats 8000000 in
set_option maxRecDepth 100000 in
theorem chainOf_any (w0 : World) (B : Nat) (hB0 : B ≤ w0.heap.size) : ∀ t, RightB t → ∀ (A : Option Addr) (c : Nat), Reads w0 B 1 A t.vars.length (sv t.vars) → t.vars.length ≤ c → ∀ W, Below B w0 W → OfCall w0 B t A c W := by
  obtain ⟨i0, hi0, hz0, hz1, hz2⟩ := info_parts tag_info
  refine chain_ind (p := fun t => RightB t → ∀ (A : Option Addr) (c : Nat), Reads w0 B 1 A t.vars.length (sv t.vars) → t.vars.length ≤ c → ∀ W, Below B w0 W → OfCall w0 B t A c W) (fun t hs hr A c h hc W hW => ?_) (fun t u hs ih hr A c h hc W hW => ?_)
  · have hk := short_cases t
    obtain ⟨L, S, R, vs⟩ := t
    dsimp only at *
    rcases hk with ⟨k1, k2⟩ | ⟨k1, k2, k3⟩ | ⟨k1, k2, k3, k4⟩ | ⟨k1, k2, k3, k4⟩
    · rw [k2] at hs; cases hs
    · rw [k3] at hs; cases hs
    · rw [k4] at hs; cases hs
    · subst k1; subst k2; subst k3
      have hbox := ofBox_start W (tagCs L ⟨#[]⟩ ⟨#[]⟩ A 0 c) (.cells (TagX.cells ⟨⟨L, ⟨#[]⟩, ⟨#[]⟩, []⟩, A, c⟩).toArray 29)
      have hlit := of_lit W ⟨⟨L, ⟨#[]⟩, ⟨#[]⟩, []⟩, A, c⟩
      have hch := chain_none hs
      have hsz := size_none hs
      unfold OfCall ChainOfPost
      rw [hch, hsz]
      clear hs k4 hch hsz
      unfold empB at *
      go_enter Tryd.func10, Tryd.ntmps10
      go_wp2_with fail
      go_ret
      exact ⟨_, _, [⟨⟨L, ⟨#[]⟩, ⟨#[]⟩, []⟩, A, c⟩], rfl, rfl, hlit, fun x hx => by simp at hx; subst hx; exact ⟨hc, h⟩, hbox.below⟩
  · have hsu := size_some hs
    have hs5 := size_few hr
    have ihu := ih (right_short hr hs)
    clear ih
    have hk := short_cases t
    rcases hk with ⟨k1, k2⟩ | ⟨k1, k2, k3⟩ | ⟨k1, k2, k3, k4⟩ | ⟨k1, k2, k3, k4⟩
    · obtain ⟨L, S, R, vs⟩ := t
      dsimp only at *
      have hsu' : u = ⟨L, S, R, vs.dropLast⟩ := by rw [k2] at hs; injection hs with hs; exact hs.symm
      subst hsu'
      obtain ⟨m, hm⟩ : ∃ m, vs.length = m + 1 := ⟨vs.length - 1, by have := List.length_pos_iff.2 k1; omega⟩
      have hmd : vs.dropLast.length = m := by simp [hm]
      have hr1 := h.take (k := m) (by omega)
      rw [sv_take, show vs.take m = vs.dropLast from by rw [List.dropLast_eq_take]; congr 1; omega] at hr1
      have hBW : B ≤ W.heap.size := Nat.le_trans hB0 hW.size
      have hbox := ofBox_start W (tagCs L S R A (m + 1) c) (.cells (#[.string L, .string S, .string R, .slice A (m + 1) c]) 29)
      have hlit : ((W.alloc (.cells (tagCs L S R A (m + 1) c) 29)).alloc (.cells (#[.string L, .string S, .string R, .slice A (m + 1) c]) 29)).ownsRow W.heap.size 29 4 (.slice (some ⟨W.heap.size + 1, 0, none⟩) 1 1) 1 (rowC [⟨⟨L, S, R, vs⟩, A, c⟩]) := by
        rw [← hm]
        exact of_lit W ⟨⟨L, S, R, vs⟩, A, c⟩
      have hU : ∀ W', Below B w0 W' → Calls Tryd.prog 10 #[.agg #[.string L, .string S, .string R, .slice A m c]] W' (ChainOfPost w0 B W' ⟨L, S, R, vs.dropLast⟩) := fun W' hW' => by
        have := ihu A c (by rw [hmd]; exact hr1) (by rw [hmd]; omega) W' hW'
        unfold OfCall at this
        dsimp only at this
        rw [hmd] at this
        exact this
      have hu5 : sizeB (⟨L, S, R, vs.dropLast⟩ : TagB) ≤ 5 := by omega
      have hm6 : m ≤ 1000000 := by have := few_right hr; simp at this; omega
      have hmc : m ≤ c := by omega
      obtain ⟨ad, rfl, hadb, _⟩ := h.2 (by omega)
      have HU := Lib.hid hU; have HS := Lib.hid hs; have HC := Lib.hid hc; have H0 := Lib.hid h; have HSU := Lib.hid hsu; have HLIT := Lib.hid hlit
      unfold OfCall
      dsimp only
      rw [hm]
      clear hU ihu hs k2 hsu hr hc h hmd hr1 k1 hlit
      go_enter Tryd.func10, Tryd.ntmps10
      go_upto_region 3 with fail
      obtain ⟨-, b0, b1, b2, b3⟩ := hbox.all
      have hm0 : (0 : Int) ≤ (m : Int) := by omega
      have hmc' : (m : Int) ≤ (c : Int) := by omega
      have hw64 : IntKind.i64.wrap (m : Int) = (m : Int) := by rw [IntKind.wrap_i64]; omega
      (go_region_held3 (fun wx => OfBox W wx (tagCs L S R (some ad) (m + 1) c) ∧ wx.cell? ⟨W.heap.size, 0, none⟩ = some (.string L) ∧ wx.cell? ⟨W.heap.size, 1, none⟩ = some (.string S) ∧ wx.cell? ⟨W.heap.size, 2, none⟩ = some (.string R) ∧ wx.cell? ⟨W.heap.size, 3, none⟩ = some (.slice (some ad) (m + 1) c))
          (first | exact OfBox.all (by assumption) | exact OfBox.all (OfBox.drew (by assumption)))
          (first
            | (refine step_append_any _ (by rfl) (.tmp 10) (.tmp 25) 22 (by rfl) W.heap.size 29 i0 _ 4 72 Tryd.underlying22 hi0 hz0 hz1 hz2 rfl (by omega) (.slice (some ⟨W.heap.size + 1, 0, none⟩) 1 1) 1 (rowC [⟨⟨L, S, R, vs⟩, some ad, c⟩]) (by rfl) hlit2 _ _ (sizeB ⟨L, S, R, vs.dropLast⟩ + 1) _ (rowC ys) (by rfl) hrd2 (rowC_one ys) (by unfold maxLen; omega) (by omega) hbox2.below.size ?_; intro v6 w6 hown6 hg6 hat6; (have hbox6 : OfBox W w6 (tagCs L S R (some ad) (m + 1) c) := hbox2.grown hg6 (Nat.lt_succ_self _)))
            | (go_at_call 10; (with_reducible refine (HU.out _ ?_).mono ?_); exact hW.trans ((OfBox.below (OfBox.drew hbox)).mono hBW); rintro e w2 ⟨A2, c2, ys, rfl, hy, hown2, hvs, hb2⟩; (have hbox2 : OfBox W w2 (tagCs L S R (some ad) (m + 1) c) := OfBox.later (OfBox.drew hbox) hb2); (have hlit2 := own_later (World.ownsRow.drew HLIT.out) hb2); (have hrd2 := Reads.of_own hown2))))
      all_goals
        obtain ⟨A6, c6, rfl, hc6, _, _⟩ := own4_form hown6
        go_wp2_with fail
        go_ret
        exact of_join HS.out hy hvs HC.out H0.out (by have := HSU.out; omega) hown6 (OfBox.below (by assumption))
    · obtain ⟨L, S, R, vs⟩ := t
      dsimp only at *
      subst k1
      have hsu' : u = ⟨L, S, ⟨#[]⟩, []⟩ := by rw [k3] at hs; injection hs with hs; exact hs.symm
      have hR : ¬ R.toList = [] := fun h' => k2 (ba_ext (by rw [← toList_data, h']; rfl))
      have hRe : R.toList.isEmpty = false := by simpa using hR
      subst hsu'
      have hBW : B ≤ W.heap.size := Nat.le_trans hB0 hW.size
      have hbox := ofBox_start W (tagCs L S R A 0 c) (.cells (TagX.cells ⟨⟨L, S, R, []⟩, A, c⟩).toArray 29)
      have hlit := of_lit W ⟨⟨L, S, R, []⟩, A, c⟩
      have hW2 := hW.trans (hbox.below.mono hBW)
      have hU := ihu none 0 Reads.none_ (Nat.le_refl _) _ hW2
      unfold OfCall at hU
      simp only [List.length_nil] at hU
      have hu5 : sizeB (⟨L, S, ⟨#[]⟩, []⟩ : TagB) ≤ 5 := by omega
      have HU := Lib.hid hU; have HS := Lib.hid hs; have HC := Lib.hid hc; have H0 := Lib.hid h; have HSU := Lib.hid hsu
      clear hU ihu hs k2 k3 hsu hr hc h
      unfold OfCall
      simp only [List.length_nil] at *
      go_enter Tryd.func10, Tryd.ntmps10
      go_wp2_with (first
        | (go_at_call 10; (refine HU.out.mono ?_); rintro e w2 ⟨A2, c2, ys, rfl, hy, hown2, hvs, hb2⟩; (have hbox2 := hbox.later hb2); (have hlit2 := own_later hlit hb2); (have hrd2 := Reads.of_own hown2); (have hHY := Lib.hid hy); (have hHV := Lib.hid hvs))
        | (at_builtin; refine wpList_append_any _ rfl (.tmp 30) (.tmp 36) _ rfl W.heap.size 29 i0 _ 4 72 Tryd.underlying22 hi0 hz0 hz1 hz2 rfl (by omega) (.slice (some ⟨W.heap.size + 1, 0, none⟩) 1 1) 1 (rowC [⟨⟨L, S, R, []⟩, A, c⟩]) rfl hlit2 _ _ (sizeB ⟨L, S, ⟨#[]⟩, []⟩ + 1) _ (rowC ys) rfl hrd2 (rowC_one ys) (by unfold maxLen; omega) (by omega) hbox2.below.size ?_; intro v6 w6 hown6 hg6 hat6))
      obtain ⟨A6, c6, rfl, hc6, _, _⟩ := own4_form hown6
      go_ret
      exact of_join HS.out hHY.out hHV.out HC.out H0.out (by have := HSU.out; omega) hown6 (hbox2.grown hg6 (Nat.lt_succ_self _)).below
    · obtain ⟨L, S, R, vs⟩ := t
      dsimp only at *
      subst k1
      subst k2
      have hsu' : u = ⟨L, ⟨#[]⟩, ⟨#[]⟩, []⟩ := by rw [k4] at hs; injection hs with hs; exact hs.symm
      have hR : ¬ S.toList = [] := fun h' => k3 (ba_ext (by rw [← toList_data, h']; rfl))
      have hRe : S.toList.isEmpty = false := by simpa using hR
      subst hsu'
      have hBW : B ≤ W.heap.size := Nat.le_trans hB0 hW.size
      have hbox := ofBox_start W (tagCs L S ⟨#[]⟩ A 0 c) (.cells (TagX.cells ⟨⟨L, S, ⟨#[]⟩, []⟩, A, c⟩).toArray 29)
      have hlit := of_lit W ⟨⟨L, S, ⟨#[]⟩, []⟩, A, c⟩
      have hW2 := hW.trans (hbox.below.mono hBW)
      have hn : shortB ⟨L, ⟨#[]⟩, ⟨#[]⟩, []⟩ = none := by unfold shortB empB; simp
      have hy : [(⟨⟨L, ⟨#[]⟩, ⟨#[]⟩, []⟩, none, 0⟩ : TagX)].map (·.t) = chainB ⟨L, ⟨#[]⟩, ⟨#[]⟩, []⟩ := (chain_none hn).symm
      have hu0 := size_none hn
      have HS := Lib.hid hs; have HC := Lib.hid hc; have H0 := Lib.hid h; have HSU := Lib.hid hsu; have HY := Lib.hid hy; have HU0 := Lib.hid hu0
      have hbox2 := hbox.alloc (.cells (TagX.cells ⟨⟨L, ⟨#[]⟩, ⟨#[]⟩, []⟩, none, 0⟩).toArray 29)
      have hlit2 := hlit.alloc (.cells (TagX.cells ⟨⟨L, ⟨#[]⟩, ⟨#[]⟩, []⟩, none, 0⟩).toArray 29)
      have hrd2 := Reads.of_own (own_lit4 ((W.alloc (.cells (tagCs L S ⟨#[]⟩ A 0 c) 29)).alloc (.cells (TagX.cells ⟨⟨L, S, ⟨#[]⟩, []⟩, A, c⟩).toArray 29)) (TagX.cells ⟨⟨L, ⟨#[]⟩, ⟨#[]⟩, []⟩, none, 0⟩) 29 (base := 0) (Nat.zero_le _) rfl)
      rw [show ((W.alloc (.cells (tagCs L S ⟨#[]⟩ A 0 c) 29)).alloc (.cells (TagX.cells ⟨⟨L, S, ⟨#[]⟩, []⟩, A, c⟩).toArray 29)).heap.size = W.heap.size + 1 + 1 from by simp] at hrd2
      clear ihu hs k3 k4 hsu hr hc h hn hy hu0
      unfold OfCall
      unfold empB at *
      simp only [List.length_nil] at *
      go_enter Tryd.func10, Tryd.ntmps10
      go_wp2_with (at_builtin; refine wpList_append_any _ rfl (.tmp 41) (.tmp 45) _ rfl W.heap.size 29 i0 _ 4 72 Tryd.underlying22 hi0 hz0 hz1 hz2 rfl (by omega) (.slice (some ⟨W.heap.size + 1, 0, none⟩) 1 1) 1 (rowC [⟨⟨L, S, ⟨#[]⟩, []⟩, A, c⟩]) rfl hlit2 _ _ (1) _ (TagX.cells ⟨⟨L, ⟨#[]⟩, ⟨#[]⟩, []⟩, none, 0⟩) rfl hrd2 (rowC_one [⟨⟨L, ⟨#[]⟩, ⟨#[]⟩, []⟩, none, 0⟩]) (by unfold maxLen; omega) (by omega) hbox2.below.size ?_; intro v6 w6 hown6 hg6 hat6)
      obtain ⟨A6, c6, rfl, hc6, _, _⟩ := own4_form hown6
      go_ret
      exact of_join HS.out HY.out (fun x hx => by simp at hx; subst hx; exact ⟨Nat.le_refl _, Reads.none_⟩) HC.out H0.out (by have := HSU.out; have := HU0.out; omega) hown6 (hbox2.grown hg6 (Nat.lt_succ_self _)).below
    · rw [k4] at hs; cases hs
end Go.Proofs.YtdckmekfggigjaaDoor
