/- A right tag's parts are short; the end of a row of tags; a chain of the call's own and the end of another one. -/
import Derived.Test.YtdckmekfggigjaaDoorTagsSame
namespace Go.Proofs.YtdckmekfggigjaaDoor
open Go.RowKit Go.Maps
attribute [local go_sem ↓] Go.wp_at_zero Go.wp_at_succ

/-- a right tag's parts are short -/
theorem right_sized {t : TagB} (hr : RightB t) {n : Nat} (hn : t.vars.length = n) : Sized t n := by
  have hf := few_right hr
  rw [right_fields] at hr
  obtain ⟨r1, r2, r3, r4, r5⟩ := hr
  refine ⟨by unfold maxLen; omega, ?_, ?_, ?_, fun v hv => ?_⟩
  · have := (P.lang_facts r1).2.2.2; rw [size_list] at this; unfold maxLen; omega
  · rcases r2 with h | h
    · rw [h]; decide
    · have := (P.script_facts h).2.2; rw [size_list] at this; unfold maxLen; omega
  · rcases r3 with h | h
    · rw [h]; decide
    · have := (P.region_facts h).2.2; rw [size_list] at this; unfold maxLen; omega
  · have h := P.vfault_all _ _ r4 v.data.toList (List.mem_map.2 ⟨v, hv, rfl⟩)
    have := (P.variant_facts h).2.2.2
    rw [size_list] at this; unfold maxLen; omega
/-- the end of a row of tags -/
theorem TagsAt.drop {w : World} {B n j : Nat} {ad : Addr} {xs : List TagX} (h : TagsAt w B (some ad) n xs) (hj : j < n) : TagsAt w B (some (ad.add (j * 4))) (n - j) (xs.drop j) := by
  refine ⟨by rw [List.length_drop, h.len], ⟨by rw [rowC_length, List.length_drop, h.len], fun _ => ?_⟩, fun x hx => h.vars x (List.mem_of_mem_drop hx)⟩
  obtain ⟨ad', e, hb, hc⟩ := h.row.2 (by omega)
  injection e with e; subst e
  refine ⟨_, rfl, by rw [block_of_add]; exact hb, fun i u hu => ?_⟩
  rw [add_of_add]
  rw [← rowC_drop, List.getElem?_drop] at hu
  exact hc _ u hu

theorem chain_vars {t : TagB} (hr : RightB t) {xs : List TagX} (h : xs.map (·.t) = chainB t) : ∀ x ∈ xs, x.t.vars.length ≤ 1000000 := fun x hx => by
  have := few_right (right_chain hr x.t (by rw [← h]; exact List.mem_map.2 ⟨x, hx, rfl⟩)); omega
theorem chain_length {t : TagB} {xs : List TagX} (h : xs.map (·.t) = chainB t) : xs.length = sizeB t + 1 := by rw [← List.length_map (f := (·.t)), h, chain_len]
/-- a chain of the call's own and the end of another one, the same -/
theorem same_end {t : TagB} {ks ys : List TagX} {w : World} {base m c c' : Nat} {A A' : Option Addr} (hk : ks.map (·.t) = chainB t) (hy : ys.map (·.t) = chainB t) (hr : RightB t) (hO : OwnTags w base (.slice A (sizeB t + 1) c) ks) (hY : TagsAt w w.heap.size A' m ys) (hm : m ≤ 1000000) :
    Calls Tryd.prog 22 #[.slice A (sizeB t + 1) c, .slice A' m c'] w fun e w' => e = .returned (.bool true) ∧ Below w.heap.size w w' := by
  obtain ⟨A1, c1, e1, _, hX⟩ := hO.tags
  rw [chain_length hk] at hX e1
  injection e1 with e1 _ e3
  subst e1; subst e3
  have := tags_any A A' (sizeB t + 1) m c c' ks ys w hX hY (by have := size_few hr; omega) hm (chain_vars hr hk) (chain_vars hr hy)
  rw [hk, hy, decide_eq_true rfl] at this
  exact this

end Go.Proofs.YtdckmekfggigjaaDoor
