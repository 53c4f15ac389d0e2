/- The law PickOwn, walked: it returns true for all tags that are wanted, all that there are and every number; what lay in memory stays us it was. -/
import Derived.Test.YtdckmekfggigjaaDoorAllWalk
import Derived.Test.YtdckmekfggigjaaDoorOwnCopy
namespace Go.Proofs.YtdckmekfggigjaaDoor
open Go.RowKit Go.Maps
attribute [local go_sem ↓] Go.wp_at_zero Go.wp_at_succ

theorem sized_same {xs ys : List TagX} (h : tagsB ys = tagsB xs) (hz : SizedAll xs) : SizedAll ys := fun y hy => by
  have hm : y.t ∈ tagsB xs := by rw [← h]; exact List.mem_map.2 ⟨y, hy, rfl⟩
  obtain ⟨x, hx, he⟩ := List.mem_map.1 hm
  rw [← he]
  exact hz x hx
theorem length_same {xs ys : List TagX} (h : tagsB ys = tagsB xs) : ys.length = xs.length := by have := congrArg List.length h; simpa using this

theorem all_few (u : TagB) (xs : List TagX) : (allA u (tagsB xs)).length ≤ xs.length := by
  unfold allA
  split
  · have := all_length u (tagsB xs); simpa using this
  · simp

set_option maxHeartbeats 16000000 in
set_option maxRecDepth 100000 in
theorem pickOwn_any (A : Option Addr) (n c : Nat) (xs : List TagX) (A' : Option Addr) (m c' : Nat) (ys : List TagX) (x : Int) (w : World) (h : TagsAt w w.heap.size A n xs) (h' : TagsAt w w.heap.size A' m ys) (hn : n * 72 ≤ 140737488355328) (hm : m * 72 ≤ 140737488355328)
    (hv : ∀ x ∈ xs, x.t.vars.length * 16 ≤ 140737488355328) (hv' : ∀ x ∈ ys, x.t.vars.length * 16 ≤ 140737488355328) (hz : SizedAll xs) (hz' : SizedAll ys) (hg : ErrType w) :
    Calls Tryd.prog 6 #[.slice A n c, .slice A' m c', .int .i64 x] w (TrueBelow w) := by
  have rx : ∀ W : World, Below w.heap.size w W → TagsAt W W.heap.size A n xs := fun W hW => (h.below hW).more hW.size
  have ry : ∀ W : World, Below w.heap.size w W → TagsAt W W.heap.size A' m ys := fun W hW => (h'.below hW).more hW.size
  have HL := Lib.hid h.len
  have HL' := Lib.hid h'.len
  have HN := Lib.hid hn
  have HM := Lib.hid hm
  have C1 := Lib.hid (ownCopy_any A n c xs w h hn hv)
  have C2 := Lib.hid (fun (W : World) (hW : Below w.heap.size w W) => ownCopy_any A' m c' ys W (ry W hW) hm hv')
  have RX := Lib.hid rx; have RY := Lib.hid ry; have HZ := Lib.hid hz; have HZ' := Lib.hid hz'; have HG := Lib.hid hg
  clear h h' hn hm hv hv' hz hz' hg rx ry
  go_enter Tryd.func6, Tryd.ntmps6
  go_upto_region 2 with (go_at_call 20; (with_reducible refine C1.out.mono ?_); rintro e w1 ⟨va, us, rfl, has, hOa, hb1⟩)
  go_upto_region 3 with (go_at_call 20; (with_reducible refine (C2.out _ hb1).mono ?_); rintro e w2 ⟨vb, bs, rfl, hbs, hOb, hb2⟩)
  obtain ⟨Aa, ca, rfl, hca, hTa1⟩ := hOa.tags
  obtain ⟨Ab, cb, rfl, hcb, hTb⟩ := hOb.tags
  have hTa := hTa1.later hb2
  have hB2 := up_call hb1 hb2
  have hal : us.length = n := (length_same has).trans HL.out
  have hbl : bs.length = m := (length_same hbs).trans HL'.out
  rw [hal] at hTa hca
  rw [hbl] at hTb hcb
  rw [hal, hbl]
  have hn := HN.out
  have hm := HM.out
  have mxn : n < maxLen := by unfold maxLen; omega
  have mxm : m < maxLen := by unfold maxLen; omega
  have hza := sized_same has HZ.out
  have hzb := sized_same hbs HZ'.out
  obtain ⟨ev, hev⟩ : ∃ ev, errV (pickE (tagsB xs) (tagsB ys)) = ev := ⟨_, rfl⟩
  obtain ⟨z, hzv⟩ : ∃ z : Int, ((pickI (tagsB xs) (tagsB ys) : Nat) : Int) = z := ⟨_, rfl⟩
  have CP1 : Hid (∀ W, Below w2.heap.size w2 W → Calls Tryd.prog 12 #[.slice Aa n ca, .slice Ab m cb] W fun e w' => e = .returned (.tuple #[.int .i64 z, ev]) ∧ Below W.heap.size W w') :=
    Lib.hid (fun W hW => by
      have := pick_any Aa n ca us Ab m cb bs W ((hTa.below hW).more hW.size) ((hTb.below hW).more hW.size) mxn mxm hza hzb
      rw [show tagsB us = tagsB xs from has, show tagsB bs = tagsB ys from hbs, hev, hzv] at this
      exact this)
  have CP2 : Hid (∀ W, Below w2.heap.size w2 W → Calls Tryd.prog 12 #[.slice A n c, .slice A' m c'] W fun e w' => e = .returned (.tuple #[.int .i64 z, ev]) ∧ Below W.heap.size W w') :=
    Lib.hid (fun W hW => by
      have := pick_any A n c xs A' m c' ys W (RX.out W (up_call hB2 hW)) (RY.out W (up_call hB2 hW)) mxn mxm HZ.out HZ'.out
      rw [hev, hzv] at this
      exact this)
  have CTd : Hid (∀ W, Below w2.heap.size w2 W → Calls Tryd.prog 23 #[ev, ev] W (TrueBelow W)) :=
    Lib.hid (fun W hW => by
      have hgW := errType_later HG.out (up_call hB2 hW)
      have := told_same (pickE (tagsB xs) (tagsB ys)) W hgW (fun V hV => errType_later hgW hV)
      rw [hev] at this
      exact this)
  have CS1 : Hid (∀ W, Below w2.heap.size w2 W → Calls Tryd.prog 22 #[.slice Aa n ca, .slice A n c] W fun e w' => e = .returned (.bool true) ∧ Below W.heap.size W w') :=
    Lib.hid (fun W hW => by
      have := tagsBig_any Aa A n n ca c us xs W ((hTa.below hW).more hW.size) (RX.out W (up_call hB2 hW)) mxn mxn (fun x hx => (hza x hx).few) (fun x hx => (HZ.out x hx).few)
      rw [decide_eq_true has] at this
      exact this)
  have CS2 : Hid (∀ W, Below w2.heap.size w2 W → Calls Tryd.prog 22 #[.slice Ab m cb, .slice A' m c'] W fun e w' => e = .returned (.bool true) ∧ Below W.heap.size W w') :=
    Lib.hid (fun W hW => by
      have := tagsBig_any Ab A' m m cb c' bs ys W ((hTb.below hW).more hW.size) (RY.out W (up_call hB2 hW)) mxm mxm (fun x hx => (hzb x hx).few) (fun x hx => (HZ'.out x hx).few)
      rw [decide_eq_true hbs] at this
      exact this)
  have CPa := Lib.hid (fun (W : World) (_ : Below w2.heap.size w2 W) => parse_some parse_enus W (by decide))
  have hBr := Below.refl w2.heap.size w2
  clear hev hzv hOa hOb hTa1 hb1 hb2 C1 C2
  go_upto_region 4 with (go_at_call 12; (with_reducible refine (CP1.out _ hBr).mono ?_); rintro e w3 ⟨rfl, hb3⟩; dsimp only)
  by_cases hn0 : n = 0
  · clear hTa hTb hza hzb
    subst hn0
    go_upto_region 9 with (go_at_call 21; (with_reducible refine (CPa.out _ hb3).mono ?_); rintro e w5 ⟨A5, n5, c5, rfl, hrd5, hb5⟩; unfold enus; dsimp only)
    have hB6 := up_alloc (up_call hb3 hb5) (.cells #[.string ⟨#[101, 110]⟩, .string ⟨#[]⟩, .string ⟨#[85, 83]⟩, .slice A5 n5 c5] 29)
    have hY6 : Blk (w5.alloc (.cells #[.string ⟨#[101, 110]⟩, .string ⟨#[]⟩, .string ⟨#[85, 83]⟩, .slice A5 n5 c5] 29)) w5.heap.size 29 #[.string ⟨#[101, 110]⟩, .string ⟨#[]⟩, .string ⟨#[85, 83]⟩, .slice A5 n5 c5] := Blk.new _ _ _
    clear hrd5 hb5
    generalize w5.alloc (.cells #[.string ⟨#[101, 110]⟩, .string ⟨#[]⟩, .string ⟨#[85, 83]⟩, .slice A5 n5 c5] 29) = w6 at *
    generalize w5.heap.size = gy at *
    go_wp2_with fail
    go_loopw [16] (fun i wr => i = .int .i64 0 ∧ Below w2.heap.size w2 wr ∧ Blk wr gy 29 #[.string ⟨#[101, 110]⟩, .string ⟨#[]⟩, .string ⟨#[85, 83]⟩, .slice A5 n5 c5]) (fun _ _ => 0)
    case atStart => exact ⟨rfl, hB6, hY6⟩
    case round =>
      obtain ⟨rfl, hb, hY⟩ := hrel
      go_upto_region 14 with (go_at_call 22; (with_reducible refine (CS1.out _ hb).mono ?_); rintro e w7 ⟨rfl, hb7⟩)
      have hB7 := up_call hb hb7
      go_upto_region 15 with (go_at_call 22; (with_reducible refine (CS2.out _ hB7).mono ?_); rintro e w8 ⟨rfl, hb8⟩)
      have hB8 := up_call hB7 hb8
      go_upto_region 16 with (go_at_call 12; (with_reducible refine (CP2.out _ hB8).mono ?_); rintro e w9 ⟨rfl, hb9⟩; dsimp only)
      have hB9 := up_call hB8 hb9
      go_upto_region 17 with (go_at_call 23; (with_reducible refine (CTd.out _ hB9).mono ?_); rintro e w10 ⟨rfl, hb10⟩)
      have hY10 := (((hY.below hb7 hY.lt).below (hb8.mono hb7.size) hY.lt).below (hb9.mono (Nat.le_trans hb7.size hb8.size)) hY.lt).below (hb10.mono (Nat.le_trans hb7.size (Nat.le_trans hb8.size hb9.size))) hY.lt
      have y2 := hY10.cell 2
      go_wp2_with fail
      go_ret
      exact ⟨rfl, up_call hB2 (up_call hB9 hb10)⟩
  · have hax : 0 < us.length := by omega
    obtain ⟨aa, rfl, haab, ⟨x0, x1, x2, x3⟩, hxc, hxr⟩ := ((hTa.below hb3).more hb3.size).cellsAt (List.getElem?_eq_getElem hax)
    rw [Nat.zero_mul, add_zero] at x0 x1 x2 x3
    have CA : Hid (∀ W, Below w2.heap.size w2 W → Calls Tryd.prog 16 #[argX us[0], .slice Ab m cb] W (AllPost W us[0].t (tagsB bs))) :=
      Lib.hid (fun W hW => all_any us[0] Ab m cb bs W (((hTa.below hW).more hW.size).vars _ (List.getElem_mem hax)).2 ((hTb.below hW).more hW.size) hm (hza _ (List.getElem_mem hax)) hzb)
    have hni : (0 : Int) < (n : Int) := by omega
    clear hTa hTb hza hzb hxc hxr
    generalize us[0] = a0 at *
    go_upto_region 8 with (go_at_call 16; (with_reducible refine (CA.out _ hb3).mono ?_); rintro e w4 ⟨v4, rfl, hown4, hb4⟩; dsimp only)
    obtain ⟨A4, c4, rfl, hc4, hr4⟩ := own_form hown4
    have hb4' := up_call hb3 hb4
    have hfw := all_few a0.t bs
    rw [hbl] at hfw
    generalize allA a0.t (tagsB bs) = la at *
    go_upto_region 9 with (go_at_call 21; (with_reducible refine (CPa.out _ hb4').mono ?_); rintro e w5 ⟨A5, n5, c5, rfl, hrd5, hb5⟩; unfold enus; dsimp only)
    have hB6 := up_alloc (up_call hb4' hb5) (.cells #[.string ⟨#[101, 110]⟩, .string ⟨#[]⟩, .string ⟨#[85, 83]⟩, .slice A5 n5 c5] 29)
    have hY6 : Blk (w5.alloc (.cells #[.string ⟨#[101, 110]⟩, .string ⟨#[]⟩, .string ⟨#[85, 83]⟩, .slice A5 n5 c5] 29)) w5.heap.size 29 #[.string ⟨#[101, 110]⟩, .string ⟨#[]⟩, .string ⟨#[85, 83]⟩, .slice A5 n5 c5] := Blk.new _ _ _
    have hown6 := own_later (own_later hown4 hb5) ((Below.refl w5.heap.size w5).alloc (Nat.le_refl _) (.cells #[.string ⟨#[101, 110]⟩, .string ⟨#[]⟩, .string ⟨#[85, 83]⟩, .slice A5 n5 c5] 29))
    have hL63 : la.length < 9223372036854775807 := by omega
    clear hrd5 hb5 hown4 hr4 hb4 hb4'
    generalize w5.alloc (.cells #[.string ⟨#[101, 110]⟩, .string ⟨#[]⟩, .string ⟨#[85, 83]⟩, .slice A5 n5 c5] 29) = w6 at *
    generalize w5.heap.size = gy at *
    generalize iv la = us0 at *
    generalize la.length = L at *
    go_wp2_with fail
    go_loopw [16] (fun i wr => ∃ (q : Nat) (us : List Value), q ≤ L ∧ i = .int .i64 q ∧ Below w2.heap.size w2 wr ∧ Blk wr gy 29 #[.string ⟨#[101, 110]⟩, .string ⟨#[]⟩, .string ⟨#[85, 83]⟩, .slice A5 n5 c5] ∧ wr.ownsRow w3.heap.size 3 1 (.slice A4 L c4) L us) (fun i _ => L - (intOf i).toNat)
    case atStart => exact ⟨0, us0, Nat.zero_le _, rfl, hB6, hY6, hown6⟩
    case round =>
      obtain ⟨q, us, hq, rfl, hb, hY, hown⟩ := hrel
      by_cases hlt : q < L
      · obtain ⟨gz, capz, hv, hgb, hgz⟩ := hown.form (by omega)
        obtain rfl : A4 = some ⟨gz, 0, none⟩ := by injection hv
        have husl : q < us.length := by have := hown.1; omega
        have c2 : wr.cell? ⟨gz, q, none⟩ = some us[q] := (hown.cellAt q (by omega)).trans (List.getElem?_eq_getElem husl)
        have f2 := hown.frozenAt q
        have hst := (hown.stored q (.int .i64 x)).1
        have hge : w3.heap.size ≤ gz := (hown.lt gz (by simp [Value.ownBlock])).1
        have hY' := hY.far (p := ⟨gz, q, none⟩) (show gy ≠ gz from fun e => by have := own_blk_ne hown hY (by decide); exact this (by simp [Value.ownBlock, e])) (.int .i64 x)
        have hb' := hb.setCell (p := ⟨gz, q, none⟩) (show w2.heap.size ≤ gz from Nat.le_trans hb3.size hge) (.int .i64 x)
        have HST := Lib.hid hst; have HY' := Lib.hid hY'; have HB' := Lib.hid hb'
        have hqi : (q : Int) < (L : Int) := by omega
        clear hst hY' hb' hown hv
        go_wp2_with fail
        go_roundw
        case rel => exact ⟨q + 1, _, by omega, by go_num, HB'.out, HY'.out, HST.out⟩
        case measure => simp [intOf]; omega
      · have hqi : ¬ (q : Int) < (L : Int) := by omega
        clear hown hown6
        go_upto_region 14 with (go_at_call 22; (with_reducible refine (CS1.out _ hb).mono ?_); rintro e w7 ⟨rfl, hb7⟩)
        have hB7 := up_call hb hb7
        go_upto_region 15 with (go_at_call 22; (with_reducible refine (CS2.out _ hB7).mono ?_); rintro e w8 ⟨rfl, hb8⟩)
        have hB8 := up_call hB7 hb8
        go_upto_region 16 with (go_at_call 12; (with_reducible refine (CP2.out _ hB8).mono ?_); rintro e w9 ⟨rfl, hb9⟩; dsimp only)
        have hB9 := up_call hB8 hb9
        go_upto_region 17 with (go_at_call 23; (with_reducible refine (CTd.out _ hB9).mono ?_); rintro e w10 ⟨rfl, hb10⟩)
        have hY10 := (((hY.below hb7 hY.lt).below (hb8.mono hb7.size) hY.lt).below (hb9.mono (Nat.le_trans hb7.size hb8.size)) hY.lt).below (hb10.mono (Nat.le_trans hb7.size (Nat.le_trans hb8.size hb9.size))) hY.lt
        have y2 := hY10.cell 2
        go_wp2_with fail
        go_ret
        exact ⟨rfl, up_call hB2 (up_call hB9 hb10)⟩
end Go.Proofs.YtdckmekfggigjaaDoor
