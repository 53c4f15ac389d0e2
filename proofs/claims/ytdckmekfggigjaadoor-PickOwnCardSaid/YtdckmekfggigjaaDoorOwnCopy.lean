/- The statements' own copy of tags: a row of the call's own, the same tags, each with variants of its own. -/
import Derived.Test.YtdckmekfggigjaaDoorTagsSame
namespace Go.Proofs.YtdckmekfggigjaaDoor
open Go.RowKit Go.Maps
attribute [local go_sem ↓] Go.wp_at_zero Go.wp_at_succ

set_option maxHeartbeats 4000000 in
set_option maxRecDepth 100000 in
theorem ownCopy_any (A : Option Addr) (n c : Nat) (xs : List TagX) (w : World) (hX : TagsAt w w.heap.size A n xs) (hn : n * 72 ≤ 140737488355328) (hv : ∀ x ∈ xs, x.t.vars.length * 16 ≤ 140737488355328) :
    Calls Tryd.prog 20 #[.slice A n c] w fun e w' => ∃ (v : Value) (ys : List TagX), e = .returned v ∧ ys.map (·.t) = xs.map (·.t) ∧ OwnTags w' w.heap.size v ys ∧ Below w.heap.size w w' := by
  obtain ⟨i0, hi0, hz0, hz1, hz2⟩ := info_parts str_info
  obtain ⟨i1, hi1, hz3, hz4, hz5⟩ := info_parts tag_info
  have HL := Lib.hid hX.len
  go_enter Tryd.func20, Tryd.ntmps20
  go_wp2_with fail
  go_loopw [3, 4] (fun v i wr => ∃ (k : Nat) (ys : List TagX), k ≤ n ∧ i = .int .i64 k ∧ OwnTags wr w.heap.size v ys ∧ ys.map (·.t) = (xs.take k).map (·.t) ∧ Below w.heap.size w wr) (fun _ i _ => n - (intOf i).toNat)
  case atStart => exact ⟨0, [], Nat.zero_le _, rfl, ⟨World.ownsRow_nil _ _ _ _, fun x hx => (by cases hx), List.Pairwise.nil⟩, rfl, Below.refl _ _⟩
  case round =>
    obtain ⟨k, ys, hk, rfl, hO, hys, hb⟩ := hrel
    by_cases hlt : k < n
    · have hkx : k < xs.length := by have := HL.out; omega
      obtain ⟨ad, rfl, hadb, ⟨x0, x1, x2, x3⟩, hxc, hxr⟩ := ((hX.below hb).more hb.size).cellsAt (List.getElem?_eq_getElem hkx)
      have htake := map_take_snoc xs k hkx
      have hvx := hv _ (List.getElem_mem hkx)
      obtain ⟨Ao, co, rfl, hco, _⟩ := hO.tags
      have hyl : ys.length = k := by have := congrArg List.length hys; simp at this; omega
      generalize xs[k] = x at *
      have HTK := Lib.hid htake; have HYS := Lib.hid hys; have HO := Lib.hid hO; have HXR := Lib.hid hxr
      clear htake hys hO hxr
      have hki : (k : Int) < (n : Int) := by omega
      have hown0 : ((wr.alloc (.cells #[.string x.t.lang, .string x.t.script, .string x.t.region, .slice x.A x.t.vars.length x.c] 29)).alloc (.cells #[] 9)).ownsRow wr.heap.size 9 1 (.slice (some ⟨wr.heap.size + 1, 0, none⟩) 0 0) 0 [] := by
        have := own_lit (wr.alloc (.cells #[.string x.t.lang, .string x.t.script, .string x.t.region, .slice x.A x.t.vars.length x.c] 29)) [] 9 (base := wr.heap.size) (by simp) (by simp)
        simpa using this
      have hbox0 : Blk ((wr.alloc (.cells #[.string x.t.lang, .string x.t.script, .string x.t.region, .slice x.A x.t.vars.length x.c] 29)).alloc (.cells #[] 9)) wr.heap.size 29 #[.string x.t.lang, .string x.t.script, .string x.t.region, .slice x.A x.t.vars.length x.c] := (Blk.new _ _ _).alloc _
      have hb0 : Below wr.heap.size wr ((wr.alloc (.cells #[.string x.t.lang, .string x.t.script, .string x.t.region, .slice x.A x.t.vars.length x.c] 29)).alloc (.cells #[] 9)) := up_alloc (up_alloc (Below.refl _ _) _) _
      have hrd0 : Reads ((wr.alloc (.cells #[.string x.t.lang, .string x.t.script, .string x.t.region, .slice x.A x.t.vars.length x.c] 29)).alloc (.cells #[] 9)) wr.heap.size 1 x.A x.t.vars.length (sv x.t.vars) := HXR.out.below hb0
      have HW0 := Lib.hid hown0; have HBX := Lib.hid hbox0; have HRD := Lib.hid hrd0
      clear hown0 hbox0 hrd0 hX HXR
      go_wp2_with (first
        | (at_builtin; refine wpList_append_any _ rfl (.tmp 16) (.tmp 18) _ rfl wr.heap.size 9 i0 _ 1 16 Tryd.underlying27 hi0 hz0 hz1 hz2 rfl (by omega) (.slice (some ⟨wr.heap.size + 1, 0, none⟩) 0 0) 0 [] rfl HW0.out wr.heap.size x.A x.t.vars.length x.c (sv x.t.vars) rfl HRD.out (sv_one _) (by unfold maxLen; omega) (by omega) hb0.size ?_; intro v1 w1 hown1 hg1 hat1; rw [Nat.zero_add, List.nil_append] at hown1; obtain ⟨A1, c1, rfl, hc1, hr1⟩ := own_form hown1; (have hbox1 := HBX.out.grown hg1 (by simp [Value.ownBlock])); (have hb1 : Below wr.heap.size wr w1 := hb0.grown hg1 hb0.size (fun j hj => by simp [Value.ownBlock] at hj; omega)); (have d0 := hbox1.cell 0); (have d1 := hbox1.cell 1); (have d2 := hbox1.cell 2); (have d3 := hbox1.cell 3); (have f3 := hbox1.frozen 3); simp at d0 d1 d2 d3; (have hsz1 : wr.heap.size < w1.heap.size := hbox1.lt); (have hne := own_blk_ne hown1 hbox1 (by decide)); (have hb2 : Below wr.heap.size wr ((w1.setCell ⟨wr.heap.size, 3, none⟩ (.slice A1 x.t.vars.length c1)).alloc (.cells (TagX.cells ⟨x.t, A1, c1⟩).toArray 29)) := up_alloc (hb1.setCell (Nat.le_refl _) _) _); (have hO2 := HO.out.later hb2); (have hx2 := (own_set (i := 3) (u := .slice A1 x.t.vars.length c1) hown1 hne).alloc (.cells (TagX.cells ⟨x.t, A1, c1⟩).toArray 29)); (have hrd2 := Reads.of_own (own_lit4 (w1.setCell ⟨wr.heap.size, 3, none⟩ (.slice A1 x.t.vars.length c1)) (TagX.cells ⟨x.t, A1, c1⟩) 29 (base := 0) (Nat.zero_le _) rfl)); (have hr4 := hO2.row); rw [hyl] at hr4; simp only [World.size_setCell] at hrd2)
        | (at_builtin; refine wpList_append_any _ rfl (.tmp 21) (.tmp 23) _ rfl w.heap.size 29 i1 _ 4 72 Tryd.underlying22 hi1 hz3 hz4 hz5 rfl (by omega) (.slice Ao k co) k (rowC ys) rfl hr4 _ _ 1 1 (TagX.cells ⟨x.t, A1, c1⟩) rfl hrd2 (rowC_one [⟨x.t, A1, c1⟩]) (by unfold maxLen; omega) (by omega) (Nat.le_trans hb.size hb2.size) ?_; intro v6 w6 hown6 hg6 hat6))
      rw [hyl] at hO2
      have hO6 : OwnTags w6 w.heap.size v6 (ys ++ [⟨x.t, A1, c1⟩]) := hO2.snoc (x := ⟨x.t, A1, c1⟩) hc1 (own_base hx2 hb.size) (HO.out.apart_new (x := ⟨x.t, A1, c1⟩) hx2) (by rw [hyl]; exact hown6) hg6
      have hB6 : Below w.heap.size w w6 := (up_call hb hb2).grown hg6 (Nat.le_trans hb.size hb2.size) (fun j hj => (hO2.row.lt j hj).1)
      go_roundw
      case rel => exact ⟨k + 1, _, by omega, by go_num, hO6, by rw [HTK.out, List.map_append, HYS.out]; rfl, hB6⟩
      case measure => simp [intOf]; omega
    · have hkn : xs.take k = xs := List.take_of_length_le (by have := HL.out; omega)
      rw [hkn] at hys
      have HYS := Lib.hid hys; have HO := Lib.hid hO
      clear hys hO hX
      go_wp2_with fail
      go_ret
      exact ⟨_, rfl, ys, HYS.out, HO.out, hb⟩
end Go.Proofs.YtdckmekfggigjaaDoor
