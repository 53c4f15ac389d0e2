/- The program's Chain: the faults of Check; else the chain of the tag, a row of the call's own, each tag of which has variants of its own. -/
import Derived.Test.YtdckmekfggigjaaDoorTags
namespace Go.Proofs.YtdckmekfggigjaaDoor
open Go.RowKit Go.Maps
attribute [local go_sem ↓] Go.wp_at_zero Go.wp_at_succ

theorem tag_info : (Tryd.prog.info? 29).map (fun i => (i.zero, i.size, i.bytes)) = some (some (.agg #[.string ⟨#[]⟩, .string ⟨#[]⟩, .string ⟨#[]⟩, .slice none 0 0]), 4, 72) := by kernel_rfl

/-- a tag that is handed in: how great its parts may be -/
structure Sized (t : TagB) (n : Nat) : Prop where
  few : n < maxLen
  lang : t.lang.size ≤ maxLen
  script : t.script.size ≤ maxLen
  region : t.region.size ≤ maxLen
  vars : ∀ v ∈ t.vars, v.size ≤ maxLen

theorem add_zero_block (g j : Nat) : (⟨g, 0, none⟩ : Addr).add j = ⟨g, j, none⟩ := by unfold Addr.add; split <;> simp_all
def lenV : Value → Nat
  | .slice _ n _ => n
  | _ => 0

set_option maxHeartbeats 4000000 in
set_option maxRecDepth 100000 in
theorem chain_bad (t : TagB) (k : Nat) (hk : P.fault (tagT t.lang t.script t.region t.vars) = k + 1) (A : Option Addr) (n c : Nat) (w : World) (h : Reads w w.heap.size 1 A n (sv t.vars)) (hz : Sized t n) :
    Calls Tryd.prog 29 #[tagV t.lang t.script t.region A n c] w fun e w' => e = .returned (.tuple #[.slice none 0 0, errV (k + 1)]) ∧ Below w.heap.size w w' := by
  have HC := check_any t.lang t.script t.region A n c t.vars (w.alloc (.cells #[.string t.lang, .string t.script, .string t.region, .slice A n c] 29)) ((h.alloc (Nat.le_refl _) _).more (by simp)) hz.vars hz.few hz.lang hz.script hz.region
  rw [hk] at HC
  have HX := Lib.hid HC; clear HC hk h hz
  have hB := (Below.refl w.heap.size w).alloc (Nat.le_refl _) (.cells #[.string t.lang, .string t.script, .string t.region, .slice A n c] 29)
  unfold tagV
  rw [errV_succ] at *
  generalize t.lang = L at *
  generalize t.script = S at *
  generalize t.region = R at *
  go_enter Tryd.func29, Tryd.ntmps29
  go_wp2_with (go_at_call 33; refine HX.out.mono ?_; rintro e w1 ⟨rfl, hb1⟩)
  exact bodyPost_ret (v := .tuple #[.slice none 0 0, .iface 24 (.int .i64 ((k + 1 : Nat) : Int))]) (by simp [results, Tryd.results29, go_sem]) rfl ⟨rfl, up_call hB hb1⟩

/-- what Chain tells of a right tag -/
def ChainPost (w : World) (t : TagB) (e : Ending) (w' : World) : Prop :=
  ∃ (A : Option Addr) (c : Nat) (xs : List TagX), e = .returned (.tuple #[.slice A (sizeB t + 1) c, .nilIface]) ∧ xs.map (·.t) = chainB t ∧ sizeB t + 1 ≤ c ∧ OwnTags w' w.heap.size (.slice A (sizeB t + 1) c) xs ∧ Below w.heap.size w w'

set_option maxHeartbeats 4000000 in
set_option maxRecDepth 100000 in
theorem chain_good (t : TagB) (hr : RightB t) (A : Option Addr) (n c : Nat) (w : World) (h : Reads w w.heap.size 1 A n (sv t.vars)) (hz : Sized t n) :
    Calls Tryd.prog 29 #[tagV t.lang t.script t.region A n c] w (ChainPost w t) := by
  obtain ⟨i0, hi0, hz0, hz1, hz2⟩ := info_parts tag_info
  have hl := h.len
  have hf3 := few_right hr
  have HC := Lib.hid (check_any t.lang t.script t.region A n c t.vars (w.alloc (.cells #[.string t.lang, .string t.script, .string t.region, .slice A n c] 29)) ((h.alloc (Nat.le_refl _) _).more (by simp)) hz.vars hz.few hz.lang hz.script hz.region)
  have hB := (Below.refl w.heap.size w).alloc (Nat.le_refl _) (.cells #[.string t.lang, .string t.script, .string t.region, .slice A n c] 29)
  have hT := TagAt.new (L := t.lang) (S := t.script) (R := t.region) (c := c) w h
  have CO : Hid (∀ W : World, Below w.heap.size w W → Calls Tryd.prog 41 #[.agg #[.string t.lang, .string t.script, .string t.region, .slice A n c]] W (OwnPost W t)) :=
    Lib.hid (fun W hb => own_any t A n c W ((h.below hb).more hb.size) (by unfold Few; omega))
  have HF : Hid (P.fault (tagT t.lang t.script t.region t.vars) = 0) := Lib.hid hr
  have HR := Lib.hid hr
  clear h hz hr hf3 hl
  unfold tagV
  go_enter Tryd.func29, Tryd.ntmps29
  go_wp2_with (first
    | (go_at_call 33; (with_reducible refine HC.out.mono ?_); rintro e w1 ⟨rfl, hb1⟩; (rw [HF.out, errV_zero]); (have hB1 := up_call hB hb1); (have hT1 := hT.later hb1); obtain ⟨t0, t1, t2, t3⟩ := hT1.cells)
    | (go_at_call 41; (with_reducible refine (CO.out _ hB1).mono ?_); rintro e w2 ⟨A2, c2, rfl, hc2, hown2, hb2⟩; (have hB2 := up_call hB1 hb2); unfold tagV))
  have hO0 := OwnTags.one (x := ⟨t, A2, c2⟩) w2 (base := w1.heap.size) hb2.size hc2 hown2
  have hB3 := up_alloc hB2 (.cells (TagX.cells ⟨t, A2, c2⟩).toArray 29)
  have h1w := hB1.size
  clear t0 t1 t2 t3 hown2 hT hT1 CO HC HF
  go_loopw [5] (fun v wr => ∃ (ys : List TagX) (x : TagX) (A' : Option Addr) (c' : Nat), v = .slice A' (ys.length + 1) c' ∧ ys.length + 1 ≤ c' ∧ OwnTags wr w.heap.size v (ys ++ [x]) ∧ ys.map (·.t) ++ chainB x.t = chainB t ∧ Below w.heap.size w wr) (fun v _ => 100 - lenV v)
  case atStart => exact ⟨[], ⟨t, A2, c2⟩, _, _, rfl, by simp, by simpa using hO0.base_ h1w, by simp, by simpa using hB3⟩
  case round =>
    obtain ⟨ys, x, A', c', rfl, hc', hO, hch, hB⟩ := hrel
    clear hO0 hB3
    have hlen : ys.length + sizeB x.t = sizeB t := by have := congrArg List.length hch; simp [chain_len] at this; omega
    have hs5 := size_few HR.out
    have hx : (ys ++ [x])[ys.length]? = some x := by simp
    have hk5 : ys.length ≤ 5 := by omega
    have hrow := hO.row
    simp only [List.length_append, List.length_cons, List.length_nil] at hrow
    obtain ⟨A1, c1, e1, _, _, hg⟩ := own4_form hrow
    injection e1 with e1 _ e2
    subst e1; subst e2
    obtain ⟨g, rfl⟩ := hg (by omega)
    obtain ⟨A1, c1, e1, _, htags⟩ := hO.tags
    injection e1 with e1 _ e2
    subst e1; subst e2
    obtain ⟨ad, e3, hadb, x0, x1, x2, x3, hxc, hxr⟩ := htags.at_ hx
    injection e3 with e3
    subst e3
    rw [add_zero_block] at x0 x1 x2 x3
    clear hg hrow htags
    cases hs : shortB x.t with
    | none =>
      have hn := shorter_none x.t hs x.A x.t.vars.length x.c wr hxr
      unfold tagV at hn
      have HN := Lib.hid hn
      have hfin : (ys ++ [x]).map (·.t) = chainB t := by rw [← hch, chain_none hs]; simp
      have hsz : ys.length = sizeB t := by have := size_none hs; omega
      have HFI := Lib.hid hfin; have HSZ := Lib.hid hsz; have HO := Lib.hid hO
      clear hn hs hx hxr hch hlen hfin hsz hO
      go_wp2_with (go_at_call 42; (with_reducible refine HN.out.mono ?_); rintro e w4 ⟨rfl, hb4⟩; unfold zeroTag; dsimp only)
      have hO4 := (HO.out.later hb4).alloc (.cells #[.string ⟨#[]⟩, .string ⟨#[]⟩, .string ⟨#[]⟩, .slice none 0 0] 29)
      have hB4 := up_alloc (up_call hB hb4) (.cells #[.string ⟨#[]⟩, .string ⟨#[]⟩, .string ⟨#[]⟩, .slice none 0 0] 29)
      refine bodyPost_ret (v := .tuple #[.slice (some ⟨g, 0, none⟩) (ys.length + 1) c', .nilIface]) (by simp [results, Tryd.results29, go_sem]) rfl ?_
      rw [HSZ.out] at hO4 hc' ⊢
      exact ⟨_, _, _, rfl, HFI.out, hc', hO4, hB4⟩
    | some u =>
      have hn := shorter_some x.t u hs x.A x.t.vars.length x.c wr hxr (by have := few_right (right_chain HR.out x.t (by rw [← hch]; obtain ⟨r, hr⟩ := chain_head x.t; rw [hr]; simp)); unfold Few; omega) hxc
      unfold tagV at hn
      have HN := Lib.hid hn
      have hfin : (ys ++ [x]).map (·.t) ++ chainB u = chainB t := by rw [← hch, chain_some hs]; simp
      have HFI := Lib.hid hfin; have HO := Lib.hid hO
      clear hn hs hx hxr hch hlen hfin hO
      go_wp2_with (first
        | (go_at_call 42; (with_reducible refine HN.out.mono ?_); rintro e w4 ⟨A4, c4, rfl, hc4, hown4, hb4⟩; unfold tagV; (have hb5 := (up_alloc (up_alloc (up_call hB hb4) (.cells (tagCs u.lang u.script u.region A4 u.vars.length c4) 29)) (.cells (TagX.cells ⟨u, A4, c4⟩).toArray 29))); (have hO4 := (((HO.out.later hb4).alloc (.cells (tagCs u.lang u.script u.region A4 u.vars.length c4) 29)).alloc (.cells (TagX.cells ⟨u, A4, c4⟩).toArray 29))); (have hown5 := (hown4.alloc (.cells (tagCs u.lang u.script u.region A4 u.vars.length c4) 29)).alloc (.cells (TagX.cells ⟨u, A4, c4⟩).toArray 29)); (have hrd5 := Reads.of_own (own_lit4 (w4.alloc (.cells (tagCs u.lang u.script u.region A4 u.vars.length c4) 29)) (TagX.cells ⟨u, A4, c4⟩) 29 (base := 0) (Nat.zero_le _) rfl)); rw [show (w4.alloc (.cells (tagCs u.lang u.script u.region A4 u.vars.length c4) 29)).heap.size = w4.heap.size + 1 from by simp] at hrd5; (have hr4 := hO4.row); rw [show (ys ++ [x]).length = ys.length + 1 from by simp] at hr4; dsimp only)
        | (at_builtin; refine wpList_append_any _ rfl (.tmp 29) (.tmp 31) _ rfl w.heap.size 29 i0 _ 4 72 Tryd.underlying22 hi0 hz0 hz1 hz2 rfl (by omega) (.slice (some ⟨g, 0, none⟩) (ys.length + 1) c') (ys.length + 1) (rowC (ys ++ [x])) rfl hr4 _ _ 1 1 (TagX.cells ⟨u, A4, c4⟩) rfl hrd5 (rowC_one [⟨u, A4, c4⟩]) (by unfold maxLen; omega) (by omega) hb5.size ?_; intro v6 w6 hown6 hg6 hat6))
      have hO6 : OwnTags w6 w.heap.size v6 ((ys ++ [x]) ++ [⟨u, A4, c4⟩]) := hO4.snoc (x := ⟨u, A4, c4⟩) hc4 (own_base hown5 hB.size) (HO.out.apart_new (x := ⟨u, A4, c4⟩) hown4) (by simpa using hown6) hg6
      have hB6 : Below w.heap.size w w6 := hb5.grown hg6 hb5.size (fun j hj => (hO4.row.lt j hj).1)
      obtain ⟨A6, c6, rfl, hc6, _, _⟩ := own4_form hO6.row
      rw [show (ys ++ [x] ++ [(⟨u, A4, c4⟩ : TagX)]).length = (ys ++ [x]).length + 1 from by simp] at hO6 hc6 ⊢
      go_roundw
      case rel => exact ⟨ys ++ [x], ⟨u, A4, c4⟩, A6, c6, rfl, hc6, hO6, HFI.out, hB6⟩
      case measure => simp [lenV]; omega
end Go.Proofs.YtdckmekfggigjaaDoor
