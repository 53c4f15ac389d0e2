/- The law ChainEnds, walked: it returns true for every tag and every number; what lay in memory stays as it was. -/
import Derived.Test.YtlmldcjgjogoiaaDoorTagsSame
namespace Go.Proofs.YtlmldcjgjogoiaaDoor
open Go.RowKit Go.Maps
attribute [local go_sem ↓] Go.wp_at_zero Go.wp_at_succ

/-- a right tag's parts are short -/
theorem right_sized {t : TagB} (hr : RightB t) {n : Nat} (hn : t.vars.length = n) : Sized t n := by
  have hf := few_right hr
  rw [right_fields] at hr
  obtain ⟨r1, r2, r3, r4, r5⟩ := hr
  refine ⟨by unfold maxLen; omega, ?_, ?_, ?_, fun v hv => ?_⟩
  · have := (P.lang_facts r1).2.2.2; rw [size_list] at this; unfold maxLen; omega
  · rcases r2 with h | h
    · rw [h]; decide
    · have := (P.script_facts h).2.2; rw [size_list] at this; unfold maxLen; omega
  · rcases r3 with h | h
    · rw [h]; decide
    · have := (P.region_facts h).2.2; rw [size_list] at this; unfold maxLen; omega
  · have h := P.vfault_all _ _ r4 v.data.toList (List.mem_map.2 ⟨v, hv, rfl⟩)
    have := (P.variant_facts h).2.2.2
    rw [size_list] at this; unfold maxLen; omega
/-- the end of a row of tags -/
theorem TagsAt.drop {w : World} {B n j : Nat} {ad : Addr} {xs : List TagX} (h : TagsAt w B (some ad) n xs) (hj : j < n) : TagsAt w B (some (ad.add (j * 4))) (n - j) (xs.drop j) := by
  refine ⟨by rw [List.length_drop, h.len], ⟨by rw [rowC_length, List.length_drop, h.len], fun _ => ?_⟩, fun x hx => h.vars x (List.mem_of_mem_drop hx)⟩
  obtain ⟨ad', e, hb, hc⟩ := h.row.2 (by omega)
  injection e with e; subst e
  refine ⟨_, rfl, by rw [block_of_add]; exact hb, fun i u hu => ?_⟩
  rw [add_of_add]
  rw [← rowC_drop, List.getElem?_drop] at hu
  exact hc _ u hu

theorem chain_vars {t : TagB} (hr : RightB t) {xs : List TagX} (h : xs.map (·.t) = chainB t) : ∀ x ∈ xs, x.t.vars.length ≤ 1000000 := fun x hx => by
  have := few_right (right_chain hr x.t (by rw [← h]; exact List.mem_map.2 ⟨x, hx, rfl⟩)); omega
theorem chain_length {t : TagB} {xs : List TagX} (h : xs.map (·.t) = chainB t) : xs.length = sizeB t + 1 := by rw [← List.length_map (f := (·.t)), h, chain_len]
/-- a chain of the call's own and the end of another one, the same -/
theorem same_end {t : TagB} {ks ys : List TagX} {w : World} {base m c c' : Nat} {A A' : Option Addr} (hk : ks.map (·.t) = chainB t) (hy : ys.map (·.t) = chainB t) (hr : RightB t) (hO : OwnTags w base (.slice A (sizeB t + 1) c) ks) (hY : TagsAt w w.heap.size A' m ys) (hm : m ≤ 1000000) :
    Calls Tryd.prog 13 #[.slice A (sizeB t + 1) c, .slice A' m c'] w fun e w' => e = .returned (.bool true) ∧ Below w.heap.size w w' := by
  obtain ⟨A1, c1, e1, _, hX⟩ := hO.tags
  rw [chain_length hk] at hX e1
  injection e1 with e1 _ e3
  subst e1; subst e3
  have := tags_any A A' (sizeB t + 1) m c c' ks ys w hX hY (by have := size_few hr; omega) hm (chain_vars hr hk) (chain_vars hr hy)
  rw [hk, hy, decide_eq_true rfl] at this
  exact this

set_option maxHeartbeats 8000000 in
set_option maxRecDepth 100000 in
theorem ends_any (t : TagB) (i : Int) (A : Option Addr) (n c : Nat) (w : World) (h : Reads w w.heap.size 1 A n (sv t.vars)) (hz : Sized t n)
    (mx : Int) (hmx : w.cell? ⟨1, 0, none⟩ = some (.int .i64 mx)) :
    Calls Tryd.prog 7 #[.agg #[.string t.lang, .string t.script, .string t.region, .slice A n c], .int .i64 i] w (TrueBelow w) := by
  have hlt0 := World.block_lt_of_cell? w _ hmx
  have hm : ∀ W, Below w.heap.size w W → W.cell? ⟨1, 0, none⟩ = some (.int .i64 mx) := fun W hb => by rw [hb.cell hlt0]; exact hmx
  have ra : ∀ W, Below w.heap.size w W → Reads W W.heap.size 1 A n (sv t.vars) := fun W hb => (h.below hb).more hb.size
  have CP := Lib.hid (fun (W : World) (hb : Below w.heap.size w W) => parse_some parse_enus W mx (hm W hb) (by decide))
  have hB0 := up_alloc (Below.refl w.heap.size w) (.cells (tagCs t.lang t.script t.region A n c) 24)
  cases hf : P.fault (tagT t.lang t.script t.region t.vars) with
  | succ k =>
    have CB := Lib.hid (fun (W : World) (hb : Below w.heap.size w W) => chain_bad t k hf A n c W (ra W hb) hz)
    clear h ra hz hf hm hmx hlt0
    unfold tagV at CB
    rw [errV_succ] at CB
    go_enter Tryd.func7, Tryd.ntmps7
    go_upto_region 3 with (first
      | (go_at_call 20; (with_reducible refine (CP.out _ hB1).mono ?_); rintro e w2 ⟨A2, n2, c2, rfl, hrd2, hb2⟩; unfold enus; (have hB2 := up_alloc (up_call hB1 hb2) (.cells #[.string ⟨#[101, 110]⟩, .string ⟨#[]⟩, .string ⟨#[85, 83]⟩, .slice A2 n2 c2] 24)); dsimp only)
      | (go_at_call 11; (with_reducible refine (CB.out _ hB0).mono ?_); rintro e w1 ⟨rfl, hb1⟩; (have hB1 := up_call hB0 hb1); dsimp only))
    go_wp2_with fail
    go_ret
    exact ⟨rfl, hB2⟩
  | zero =>
    have CG := Lib.hid (fun (W : World) (hb : Below w.heap.size w W) => chain_good t hf A n c W (ra W hb) hz)
    have HR : Hid (RightB t) := Lib.hid hf
    clear h ra hz hf hm hmx hlt0
    unfold tagV at CG
    go_enter Tryd.func7, Tryd.ntmps7
    go_upto_region 3 with (first
      | (go_at_call 20; (with_reducible refine (CP.out _ hB1).mono ?_); rintro e w2 ⟨A2, n2, c2, rfl, hrd2, hb2⟩; unfold enus; (have hB2 := up_alloc (up_call hB1 hb2) (.cells #[.string ⟨#[101, 110]⟩, .string ⟨#[]⟩, .string ⟨#[85, 83]⟩, .slice A2 n2 c2] 24)); (have hO2 := (hO1.later hb2).alloc (.cells #[.string ⟨#[101, 110]⟩, .string ⟨#[]⟩, .string ⟨#[85, 83]⟩, .slice A2 n2 c2] 24)); dsimp only)
      | (go_at_call 11; (with_reducible refine (CG.out _ hB0).mono ?_); rintro e w1 ⟨A1, c1, xs, rfl, hxs, hc1, hO1, hb1⟩; (have hB1 := up_call hB0 hb1); dsimp only))
    clear CP CG hO1 hrd2 hb1 hb2 hB0 hB1
    obtain ⟨_, _, e1, _, hX⟩ := hO2.tags
    have hxl : xs.length = sizeB t + 1 := by rw [← List.length_map (f := (·.t)), hxs, chain_len]
    rw [hxl] at hX e1
    injection e1 with e1 _ e3
    subst e1; subst e3
    have hs5 := size_few HR.out
    by_cases hi : 0 ≤ i
    · by_cases hin : i < (sizeB t : Int) + 1
      · obtain ⟨j, rfl⟩ : ∃ j : Nat, i = j := ⟨i.toNat, by omega⟩
        have hjn : j < sizeB t + 1 := by omega
        have hjx : j < xs.length := by omega
        obtain ⟨ad, rfl, hadb, ⟨x0, x1, x2, x3⟩, hxc, hxr⟩ := hX.cellsAt (List.getElem?_eq_getElem hjx)
        have hxj : (chainB t)[j]? = some xs[j].t := by rw [← hxs, List.getElem?_map, List.getElem?_eq_getElem hjx]; rfl
        have hcd := chain_drop t j _ hxj
        have hrx := right_chain HR.out _ (List.mem_of_getElem? hxj)
        have hCX := chain_good xs[j].t hrx xs[j].A xs[j].t.vars.length xs[j].c _ hxr (right_sized hrx rfl)
        unfold tagV at hCX
        have hdm : (xs.drop j).map (·.t) = (chainB t).drop j := by rw [List.map_drop, hxs]
        rw [← hcd] at hdm
        generalize xs[j] = x at *
        have HCX := Lib.hid hCX; have HDM := Lib.hid hdm; have HRX := Lib.hid hrx
        clear hCX hdm hxj hcd hrx hxr hxc
        have hj0 : (0 : Int) ≤ (j : Int) := by omega
        have hj1 : (j : Int) ≤ (sizeB t : Int) + 1 := by omega
        have hj2 : ¬ (j : Int) < 0 := by omega
        have hj3 : ¬ (sizeB t : Int) + 1 ≤ (j : Int) := by omega
        go_wp2_with (first
          | (go_at_call 11; (with_reducible refine HCX.out.mono ?_); rintro e w3 ⟨A3, c3, ks, rfl, hks, hc3, hO3, hb3⟩; (have hB3 := up_call hB2 hb3); dsimp only)
          | (go_at_call 13; (with_reducible refine (same_end hks HDM.out HRX.out hO3 ((hX.later hb3).drop hjn) (by omega)).mono ?_); rintro e w4 ⟨rfl, hb4⟩; (have hB4 := up_call hB3 hb4)))
        go_ret
        exact ⟨rfl, hB4⟩
      · have hin1 : ¬ i < (sizeB t : Int) + 1 := hin
        have hin2 : (sizeB t : Int) + 1 ≤ i := by omega
        clear hO2 hX
        go_wp2_with fail
        go_ret
        exact ⟨rfl, hB2⟩
    · have hi1 : i < 0 := by omega
      clear hO2 hX
      go_wp2_with fail
      go_ret
      exact ⟨rfl, hB2⟩
end Go.Proofs.YtlmldcjgjogoiaaDoor
