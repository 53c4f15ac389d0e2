/- The program's Within: whether a tag is in the chain of another one; the errors of Check for the one, then for the other. -/
import Derived.Test.YtdckmekfggigjaaDoorChainWalk
namespace Go.Proofs.YtdckmekfggigjaaDoor
open Go.RowKit Go.Maps
attribute [local go_sem ↓] Go.wp_at_zero Go.wp_at_succ

theorem add_pos (a : Addr) (j : Nat) (hj : j ≠ 0) : a.add j = ⟨a.block, a.off + j, none⟩ := by unfold Addr.add; rw [if_neg hj]
theorem add_zero (a : Addr) : a.add 0 = a := by unfold Addr.add; simp
/-- the closure in Within: is a tag the one that lies in a box? -/
theorem within1_any (t u : TagB) (A : Option Addr) (n c : Nat) (A' : Option Addr) (n' c' : Nat) (gb : Nat) (w : World) (hT : TagAt w gb u.lang u.script u.region A' n' c' u.vars) (h : Reads w w.heap.size 1 A n (sv t.vars)) (hn : n < maxLen) (hn' : n' < maxLen) :
    Calls Tryd.prog 35 #[.agg #[.string t.lang, .string t.script, .string t.region, .slice A n c], .pointer (some ⟨gb, 0, none⟩)] w fun e w' => e = .returned (.bool (decide (t = u))) ∧ Below w.heap.size w w' := by
  have hT1 := hT.alloc (.cells (tagCs t.lang t.script t.region A n c) 29)
  have hB := up_alloc (Below.refl w.heap.size w) (.cells (tagCs t.lang t.script t.region A n c) 29)
  have hE := equal_any t u A n c A' n' c' _ ((h.alloc (Nat.le_refl _) (.cells (tagCs t.lang t.script t.region A n c) 29)).more (by simp)) hT1.reads hn hn'
  unfold tagV at hE
  have HE := Lib.hid hE; clear hE h hT
  obtain ⟨t0, t1, t2, t3⟩ := hT1.cells
  have hlt := World.block_lt_of_cell? _ _ t0
  clear hT1
  generalize decide (t = u) = b at *
  go_enter Tryd.func35, Tryd.ntmps35
  go_wp2_with (go_at_call 36; (with_reducible refine HE.out.mono ?_); rintro e w2 ⟨rfl, hb2⟩)
  go_ret
  exact ⟨rfl, up_call hB hb2⟩

abbrev isIn (gb : Nat) : Value := .func (.func 35) #[] #[.pointer (some ⟨gb, 0, none⟩)]

set_option maxHeartbeats 2000000 in
theorem index_any (A : Option Addr) (n c : Nat) (xs : List TagX) (u : TagB) (A' : Option Addr) (n' c' : Nat) (gb : Nat) (w : World) (hX : TagsAt w w.heap.size A n xs) (hT : TagAt w gb u.lang u.script u.region A' n' c' u.vars)
    (hn : n ≤ 1000000) (hv : ∀ x ∈ xs, x.t.vars.length ≤ 1000000) (hn' : n' < maxLen) :
    Calls Tryd.prog 48 #[.slice A n c, isIn gb] w fun e w' => ∃ z : Int, e = .returned (.int .i64 z) ∧ z ≤ 1000000 ∧ decide (0 ≤ z) = decide (u ∈ xs.map (·.t)) ∧ Below w.heap.size w w' := by
  have HL := Lib.hid hX.len
  go_enter Tryd.func48, Tryd.ntmps48
  go_wp2_with fail
  go_loopw [8] (fun i wr => ∃ k : Nat, k ≤ n ∧ i = .int .i64 k ∧ Below w.heap.size w wr ∧ Hid (u ∉ (xs.take k).map (·.t))) (fun i _ => n - (intOf i).toNat)
  case atStart => exact ⟨0, Nat.zero_le _, rfl, Below.refl _ _, Lib.hid (by simp)⟩
  case round =>
    obtain ⟨k, hk, rfl, hb, hno⟩ := hrel
    by_cases hlt : k < n
    · have hkx : k < xs.length := by have := HL.out; omega
      have hx : xs[k]? = some xs[k] := List.getElem?_eq_getElem hkx
      have hXr := (hX.below hb).more hb.size
      have hTr : TagAt wr gb u.lang u.script u.region A' n' c' u.vars := hT.later hb
      obtain ⟨ad, rfl, hadb, x0, x1, x2, x3, hxc, hxr⟩ := hXr.at_ hx
      rw [← add_of_add, add_pos _ _ (by omega)] at x1 x2 x3
      have hC := within1_any xs[k].t u xs[k].A xs[k].t.vars.length xs[k].c A' n' c' gb wr hTr hxr (by have := hv _ (List.getElem_mem hkx); unfold maxLen; omega) hn'
      have htake : (xs.take (k + 1)).map (·.t) = (xs.take k).map (·.t) ++ [xs[k].t] := by rw [List.take_succ_eq_append_getElem hkx, List.map_append]; rfl
      have hmem : xs[k].t ∈ xs.map (·.t) := List.mem_map.2 ⟨_, List.getElem_mem hkx, rfl⟩
      clear hXr hTr hx hxr
      generalize xs[k] = x at *
      cases hd : decide (x.t = u)
      all_goals
        rw [hd] at hC
        have HC := Lib.hid hC; have HTK := Lib.hid htake; have HM := Lib.hid hmem; have HD := Lib.hid hd
        clear hC htake hmem hd
        go_wp2_with (go_at_call 35; (with_reducible refine HC.out.mono ?_); rintro e w2 ⟨rfl, hb2⟩)
      · go_roundw
        case rel => exact ⟨k + 1, by omega, by go_num, up_call hb hb2, Lib.hid (by rw [HTK.out]; simp only [List.mem_append, List.mem_singleton, not_or]; exact ⟨hno.out, fun h => (of_decide_eq_false HD.out) h.symm⟩)⟩
        case measure => simp [intOf]; omega
      · go_ret
        exact ⟨_, rfl, by omega, by rw [decide_eq_true (by omega : (0 : Int) ≤ k), ← of_decide_eq_true HD.out, decide_eq_true HM.out], up_call hb hb2⟩
    · have hall : xs.take k = xs := List.take_of_length_le (by have := HL.out; omega)
      go_wp2_with fail
      go_ret
      exact ⟨_, rfl, by omega, by have := hno.out; rw [hall] at this; rw [decide_eq_false this]; rfl, hb⟩

set_option maxHeartbeats 1000000 in
theorem contains_any (A : Option Addr) (n c : Nat) (xs : List TagX) (u : TagB) (A' : Option Addr) (n' c' : Nat) (gb : Nat) (w : World) (hX : TagsAt w w.heap.size A n xs) (hT : TagAt w gb u.lang u.script u.region A' n' c' u.vars)
    (hn : n ≤ 1000000) (hv : ∀ x ∈ xs, x.t.vars.length ≤ 1000000) (hn' : n' < maxLen) :
    Calls Tryd.prog 34 #[.slice A n c, isIn gb] w fun e w' => e = .returned (.bool (decide (u ∈ xs.map (·.t)))) ∧ Below w.heap.size w w' := by
  have HI := Lib.hid (index_any A n c xs u A' n' c' gb w hX hT hn hv hn')
  clear hX hT
  go_enter Tryd.func34, Tryd.ntmps34
  go_wp2_with (go_at_call 48; (with_reducible refine HI.out.mono ?_); rintro e w2 ⟨z, rfl, hz, hd, hb2⟩; (have HD := Lib.hid hd); clear hd)
  go_ret
  exact ⟨ret_bool HD.out, hb2⟩

/-- what Within tells -/
def WithinPost (w : World) (b : Bool) (k : Nat) (e : Ending) (w' : World) : Prop := e = .returned (.tuple #[.bool b, errV k]) ∧ Below w.heap.size w w'

/-- what Within asks of the two tags -/
def within1 (t u : TagB) : Nat := if P.fault (tagT t.lang t.script t.region t.vars) = 0 then P.fault (tagT u.lang u.script u.region u.vars) else P.fault (tagT t.lang t.script t.region t.vars)
def withinB (t u : TagB) : Bool := decide (within1 t u = 0) && decide (u ∈ chainB t)

set_option maxHeartbeats 4000000 in
set_option maxRecDepth 100000 in
theorem within_any (t u : TagB) (A : Option Addr) (n c : Nat) (A' : Option Addr) (n' c' : Nat) (w : World) (h : Reads w w.heap.size 1 A n (sv t.vars)) (h' : Reads w w.heap.size 1 A' n' (sv u.vars)) (hz : Sized t n) (hz' : Sized u n') :
    Calls Tryd.prog 18 #[tagV t.lang t.script t.region A n c, tagV u.lang u.script u.region A' n' c'] w (WithinPost w (withinB t u) (within1 t u)) := by
  have hl := h.len
  have hl' := h'.len
  have hT0 := (TagAt.new (L := t.lang) (S := t.script) (R := t.region) (c := c) w h).alloc (.cells (tagCs u.lang u.script u.region A' n' c') 29)
  have hU0 := TagAt.new (L := u.lang) (S := u.script) (R := u.region) (c := c') (w.alloc (.cells (tagCs t.lang t.script t.region A n c) 29)) ((h'.alloc (Nat.le_refl _) (.cells (tagCs t.lang t.script t.region A n c) 29)).more (by simp))
  rw [show (w.alloc (.cells (tagCs t.lang t.script t.region A n c) 29)).heap.size = w.heap.size + 1 from by simp] at hU0
  have hB0 := up_alloc (up_alloc (Below.refl w.heap.size w) (.cells (tagCs t.lang t.script t.region A n c) 29)) (.cells (tagCs u.lang u.script u.region A' n' c') 29)
  have ra : ∀ W, Below w.heap.size w W → Reads W W.heap.size 1 A n (sv t.vars) := fun W hb => (h.below hb).more hb.size
  have rb : ∀ W, Below w.heap.size w W → Reads W W.heap.size 1 A' n' (sv u.vars) := fun W hb => (h'.below hb).more hb.size
  have CU := Lib.hid (fun (W : World) (hb : Below w.heap.size w W) => check_any u.lang u.script u.region A' n' c' u.vars W (rb W hb) hz'.vars hz'.few hz'.lang hz'.script hz'.region)
  cases hf : P.fault (tagT t.lang t.script t.region t.vars) with
  | succ k =>
    have CB := Lib.hid (fun (W : World) (hb : Below w.heap.size w W) => chain_bad t k hf A n c W (ra W hb) hz)
    have e1 : within1 t u = k + 1 := by unfold within1; rw [hf, if_neg (by omega)]
    have e2 : withinB t u = false := by unfold withinB; rw [e1]; simp
    rw [e1, e2]
    clear h h' ra rb hz hz' hf e1 e2 CU hl hl' hT0 hU0
    unfold tagV WithinPost at *
    rw [errV_succ] at *
    go_enter Tryd.func18, Tryd.ntmps18
    go_wp2_with (go_at_call 29; (with_reducible refine (CB.out _ hB0).mono ?_); rintro e w1 ⟨rfl, hb1⟩; dsimp only)
    exact bodyPost_ret (v := .tuple #[.bool false, .iface 24 (.int .i64 ((k + 1 : Nat) : Int))]) (by simp [results, Tryd.results18, go_sem]) rfl ⟨rfl, up_call hB0 hb1⟩
  | zero =>
    have CG := Lib.hid (fun (W : World) (hb : Below w.heap.size w W) => chain_good t hf A n c W (ra W hb) hz)
    have hsz := size_few (t := t) hf
    have hfew : ∀ x ∈ chainB t, x.vars.length ≤ 1000000 := fun x hx => by have := few_right (right_chain (t := t) hf x hx); omega
    have CX : Hid (∀ (W : World) (A1 : Option Addr) (c1 : Nat) (xs : List TagX), xs.map (·.t) = chainB t → TagsAt W W.heap.size A1 (sizeB t + 1) xs → TagAt W (w.heap.size + 1) u.lang u.script u.region A' n' c' u.vars →
        Calls Tryd.prog 34 #[.slice A1 (sizeB t + 1) c1, .func (.func 35) #[] #[.pointer (some ⟨w.heap.size + 1, 0, none⟩)]] W fun e w' => e = .returned (.bool (decide (u ∈ chainB t))) ∧ Below W.heap.size W w') :=
      Lib.hid (fun W A1 c1 xs hx hX hU => by
        have := contains_any A1 (sizeB t + 1) c1 xs u A' n' c' (w.heap.size + 1) W hX hU (by omega) (fun x hx' => hfew x.t (by rw [← hx]; exact List.mem_map.2 ⟨x, hx', rfl⟩)) hz'.few
        rw [hx] at this
        exact this)
    have e0 : within1 t u = P.fault (tagT u.lang u.script u.region u.vars) := by unfold within1; rw [if_pos hf]
    cases hg : P.fault (tagT u.lang u.script u.region u.vars) with
    | succ k =>
      rw [hg] at e0
      have e2 : withinB t u = false := by unfold withinB; rw [e0]; simp
      rw [e0, e2]
      have HG := Lib.hid hg
      clear h h' ra rb hz hz' hf e0 e2 hl hl' hT0 hg CX hsz hfew
      unfold tagV WithinPost at *
      rw [errV_succ]
      go_enter Tryd.func18, Tryd.ntmps18
      go_wp2_with (first
        | (go_at_call 29; (with_reducible refine (CG.out _ hB0).mono ?_); rintro e w1 ⟨A1, c1, xs, rfl, hxs, hc1, hO1, hb1⟩; (have hU1 := hU0.later hb1); (have hB1 := up_call hB0 hb1); obtain ⟨u0, u1, u2, u3⟩ := hU1.cells; dsimp only)
        | (go_at_call 33; (with_reducible refine (CU.out _ hB1).mono ?_); rintro e w2 ⟨rfl, hb2⟩; rw [HG.out, errV_succ]))
      exact bodyPost_ret (v := .tuple #[.bool false, .iface 24 (.int .i64 ((k + 1 : Nat) : Int))]) (by simp [results, Tryd.results18, go_sem]) rfl ⟨rfl, up_call hB1 hb2⟩
    | zero =>
      rw [hg] at e0
      have e2 : withinB t u = decide (u ∈ chainB t) := by unfold withinB; rw [e0]; simp
      rw [e0, e2]
      have HG := Lib.hid hg
      clear h h' ra rb hz hz' hf e0 e2 hl hl' hT0 hg hsz hfew
      unfold tagV WithinPost at *
      rw [errV_zero]
      generalize decide (u ∈ chainB t) = b at *
      go_enter Tryd.func18, Tryd.ntmps18
      go_wp2_with (first
        | (go_at_call 29; (with_reducible refine (CG.out _ hB0).mono ?_); rintro e w1 ⟨A1, c1, xs, rfl, hxs, hc1, hO1, hb1⟩; (have hU1 := hU0.later hb1); (have hB1 := up_call hB0 hb1); obtain ⟨u0, u1, u2, u3⟩ := hU1.cells; dsimp only)
        | (go_at_call 33; (with_reducible refine (CU.out _ hB1).mono ?_); rintro e w2 ⟨rfl, hb2⟩; rw [HG.out, errV_zero]; (have hU2 := hU1.later hb2); (have hB2 := up_call hB1 hb2); obtain ⟨_, _, e1, _, hX2⟩ := (hO1.later hb2).tags; rw [show xs.length = sizeB t + 1 from by rw [← List.length_map (f := (·.t)), hxs, chain_len]] at hX2 e1; injection e1 with e1 _ e3; subst e1; subst e3)
        | (go_at_call 34; (with_reducible refine (CX.out _ _ _ xs hxs hX2 hU2).mono ?_); rintro e w3 ⟨rfl, hb3⟩))
      exact bodyPost_ret (v := .tuple #[.bool b, .nilIface]) (by simp [results, Tryd.results18, go_sem]) rfl ⟨rfl, up_call hB2 hb3⟩
end Go.Proofs.YtdckmekfggigjaaDoor
