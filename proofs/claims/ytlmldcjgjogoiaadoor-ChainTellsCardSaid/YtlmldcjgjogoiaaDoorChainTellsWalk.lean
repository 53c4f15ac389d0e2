/- The law ChainTells, walked: it returns true for every two tags; what lay in memory stays as it was. -/
import Derived.Test.YtlmldcjgjogoiaaDoorInChain
import Derived.Test.YtlmldcjgjogoiaaDoorOrderWalk
import Derived.Test.YtlmldcjgjogoiaaDoorRefFaultWalk
import Derived.Test.YtlmldcjgjogoiaaDoorTold
namespace Go.Proofs.YtlmldcjgjogoiaaDoor
open Go.RowKit Go.Maps
attribute [local go_sem ↓] Go.wp_at_zero Go.wp_at_succ

theorem tags_none (W : World) : Calls Tryd.prog 13 #[.slice none 0 0, .slice none 0 0] W fun e w' => e = .returned (.bool true) ∧ Below W.heap.size W w' := by
  have h0 : TagsAt W W.heap.size none 0 [] := ⟨rfl, Reads.none_, fun x hx => by cases hx⟩
  exact tags_any none none 0 0 0 0 [] [] W h0 h0 (by omega) (by omega) (fun x hx => by cases hx) (fun x hx => by cases hx)

set_option maxHeartbeats 8000000 in
set_option maxRecDepth 100000 in
theorem chainTells_any (t u : TagB) (A : Option Addr) (n c : Nat) (A' : Option Addr) (n' c' : Nat) (w : World)
    (h : Reads w w.heap.size 1 A n (sv t.vars)) (h' : Reads w w.heap.size 1 A' n' (sv u.vars)) (hz : Sized t n) (hz' : Sized u n') (hnc : n ≤ c) (hnc' : n' ≤ c')
    (mx : Int) (hmx : w.cell? ⟨1, 0, none⟩ = some (.int .i64 mx)) (hE : ErrType w) :
    Calls Tryd.prog 3 #[.agg #[.string t.lang, .string t.script, .string t.region, .slice A n c], .agg #[.string u.lang, .string u.script, .string u.region, .slice A' n' c']] w (TrueBelow w) := by
  obtain rfl : n = t.vars.length := h.len.symm
  obtain rfl : n' = u.vars.length := h'.len.symm
  have hlt0 := World.block_lt_of_cell? w _ hmx
  have hlt1 := World.block_lt_of_cell? w _ hE
  have hm : ∀ W, Below w.heap.size w W → W.cell? ⟨1, 0, none⟩ = some (.int .i64 mx) := fun W hb => by rw [hb.cell hlt0]; exact hmx
  have he : ∀ W, Below w.heap.size w W → ErrType W := fun W hb => by unfold ErrType; rw [hb.cell hlt1]; exact hE
  have ra : ∀ W, Below w.heap.size w W → Reads W W.heap.size 1 A t.vars.length (sv t.vars) := fun W hb => (h.below hb).more hb.size
  have rb : ∀ W, Below w.heap.size w W → Reads W W.heap.size 1 A' u.vars.length (sv u.vars) := fun W hb => (h'.below hb).more hb.size
  have hT0 := Two.start w (tagCs t.lang t.script t.region A t.vars.length c) (tagCs u.lang u.script u.region A' u.vars.length c')
  have CF := Lib.hid (fun (W : World) (hb : Below w.heap.size w W) => tagged_any W mx (hm W hb))
  have CR := Lib.hid (fun (W : World) (hb : Below w.heap.size w W) => refFault_any t.lang t.script t.region A t.vars.length c t.vars W (ra W hb) hz.vars hz.few hnc hz.lang hz.region)
  have CU := Lib.hid (fun (W : World) (hb : Below w.heap.size w W) => refFault_any u.lang u.script u.region A' u.vars.length c' u.vars W (rb W hb) hz'.vars hz'.few hnc' hz'.lang hz'.region)
  have CW : Hid (∀ W, Below w.heap.size w W → WithinCall t u A t.vars.length c A' u.vars.length c' (withinB t u) (errV (within1 t u)) W) := Lib.hid (fun W hb => within_any t u A t.vars.length c A' u.vars.length c' W (ra W hb) (rb W hb) hz hz')
  have CE := Lib.hid (fun (k : Nat) (W : World) (hb : Below w.heap.size w W) => error_same k W (he W hb))
  cases hf : P.fault (tagT t.lang t.script t.region t.vars) with
  | succ k =>
    have CB := Lib.hid (fun (W : World) (hb : Below w.heap.size w W) => chain_bad t k hf A t.vars.length c W (ra W hb) hz)
    have e1 : within1 t u = k + 1 := by unfold within1; rw [hf, if_neg (by omega)]
    have e2 : withinB t u = false := by unfold withinB; rw [e1]; simp
    have CE1 := Lib.hid (CE.out (k + 1))
    have CT := Lib.hid tags_none
    rw [e1, e2] at CW
    rw [hf] at CR
    clear h h' hz hz' hnc hnc' hmx hE hlt0 hlt1 hm he ra rb e1 e2 CU CE hf
    unfold tagV at CB
    rw [errV_succ] at CB CW CE1
    have hk0 : ((k + 1 : Nat) : Int) ≠ 0 := by omega
    generalize ((k + 1 : Nat) : Int) = z at *
    have hk1 : (z == 0) = false := by simpa using hk0
    go_enter Tryd.func3, Tryd.ntmps3
    go_upto_region 2 with (go_at_call 8; (with_reducible refine (CF.out _ hT0.below).mono ?_); rintro e w1 ⟨rfl, hb1⟩)
    have hT1 := hT0.later hb1
    obtain ⟨t0, t1, t2, t3, -, -, -, -⟩ := hT1.cells
    clear hb1 hT0 CF
    go_upto_region 6 with (go_at_call 9; (with_reducible refine (CR.out _ hT1.below).mono ?_); rintro e w2 ⟨rfl, hb2⟩)
    have hT2 := hT1.later hb2
    clear t0 t1 t2 t3
    obtain ⟨t0, t1, t2, t3, s0, s1, s2, s3⟩ := hT2.cells
    clear hb2 hT1 CR
    go_upto_region 7 with (go_at_call 11; (with_reducible refine (CB.out _ hT2.below).mono ?_); rintro e w3 ⟨rfl, hb3⟩; dsimp only)
    have hT3 := hT2.later hb3
    clear t0 t1 t2 t3 s0 s1 s2 s3 hb3 hT2 CB
    go_upto_region 8 with (go_at_call 12; (with_reducible refine (CE1.out _ hT3.below).mono ?_); rintro e w4 ⟨rfl, hb4⟩)
    have hT4 := hT3.later hb4
    clear hb4 hT3
    go_upto_region 9 with (go_at_call 13; (with_reducible refine (CT.out _).mono ?_); rintro e w5 ⟨rfl, hb5⟩)
    have hT5 := hT4.later hb5
    obtain ⟨t0, t1, t2, t3, s0, s1, s2, s3⟩ := hT5.cells
    clear hb5 hT4
    go_upto_region 12 with (go_at_call 14; (with_reducible refine (CW.out _ hT5.below).mono ?_); rintro e w6 ⟨rfl, hb6⟩; dsimp only)
    have hT6 := hT5.later hb6
    clear t0 t1 t2 t3 s0 s1 s2 s3 hb6 hT5 CW
    go_wp2_with (go_at_call 12; (with_reducible refine (CE1.out _ hT6.below).mono ?_); rintro e w7 ⟨rfl, hb7⟩)
    go_ret
    exact ⟨rfl, up_call hT6.below hb7⟩
  | zero =>
    have CG := Lib.hid (fun (W : World) (hb : Below w.heap.size w W) => chain_good t hf A t.vars.length c W (ra W hb) hz)
    have CO : Hid (∀ W, Below w.heap.size w W → OfCall w w.heap.size t A c W) := Lib.hid (fun W hb => chainOf_any w w.heap.size (Nat.le_refl _) t hf A c h hnc W hb)
    have CE0 : Hid (∀ (W : World), Below w.heap.size w W → Calls Tryd.prog 12 #[.nilIface, .int .i64 0] W (TrueBelow W)) := Lib.hid (CE.out 0)
    have HR : Hid (RightB t) := Lib.hid hf
    have e0 : within1 t u = P.fault (tagT u.lang u.script u.region u.vars) := by unfold within1; rw [if_pos hf]
    have hIC : ∀ W, Below w.heap.size w W → RightB u → Calls Tryd.prog 15 #[.agg #[.string t.lang, .string t.script, .string t.region, .slice A t.vars.length c], .agg #[.string u.lang, .string u.script, .string u.region, .slice A' u.vars.length c']] W
        fun e w' => e = .returned (.bool (decide (u ∈ chainB t))) ∧ Below W.heap.size W w' := fun W hb hu => inChain_any ⟨t, A, c⟩ ⟨u, A', c'⟩ hf hu W (ra W hb) (rb W hb) hnc
    have CI := Lib.hid hIC
    rw [hf] at CR
    clear h h' hz hz' hnc hnc' hmx hE hlt0 hlt1 hm he ra rb hf hIC
    unfold tagV at CG
    have hsz5 := size_few HR.out
    go_enter Tryd.func3, Tryd.ntmps3
    go_upto_region 2 with (go_at_call 8; (with_reducible refine (CF.out _ hT0.below).mono ?_); rintro e w1 ⟨rfl, hb1⟩)
    have hT1 := hT0.later hb1
    obtain ⟨t0, t1, t2, t3, -, -, -, -⟩ := hT1.cells
    clear hb1 hT0 CF
    go_upto_region 5 with (go_at_call 9; (with_reducible refine (CR.out _ hT1.below).mono ?_); rintro e w2 ⟨rfl, hb2⟩)
    have hT2 := hT1.later hb2
    clear t0 t1 t2 t3
    obtain ⟨t0, t1, t2, t3, -, -, -, -⟩ := hT2.cells
    clear hb2 hT1 CR
    go_upto_region 6 with (go_at_call 10; (with_reducible refine (CO.out _ hT2.below).mono ?_); rintro e w3 ⟨A3, c3, ys, rfl, hys, hown3, hvs3, hb3⟩)
    have hT3 := hT2.later hb3
    have hY : TagsAt w3 w3.heap.size A3 (sizeB t + 1) ys := ⟨chain_length hys, Reads.of_own hown3, fun z hz => ⟨(hvs3 z hz).1, ((hvs3 z hz).2.below hT3.below).more hT3.below.size⟩⟩
    clear t0 t1 t2 t3 hown3 hvs3
    obtain ⟨t0, t1, t2, t3, -, -, -, -⟩ := hT3.cells
    clear hb3 hT2 CO
    go_upto_region 7 with (go_at_call 11; (with_reducible refine (CG.out _ hT3.below).mono ?_); rintro e w4 ⟨A4, c4, xs, rfl, hxs, hc4, hO4, hb4⟩; dsimp only)
    have hT4 := hT3.later hb4
    have hY4 := hY.later hb4
    clear t0 t1 t2 t3 hb4 hT3 CG hY
    go_upto_region 8 with (go_at_call 12; (with_reducible refine (CE0.out _ hT4.below).mono ?_); rintro e w5 ⟨rfl, hb5⟩)
    have hT5 := hT4.later hb5
    have hS := Lib.hid (same_end (c' := c3) hxs hys HR.out (hO4.later hb5) (hY4.later hb5) (by omega))
    clear hb5 hT4 hO4 hY4 hc4
    go_upto_region 10 with (go_at_call 13; (with_reducible refine hS.out.mono ?_); rintro e w6 ⟨rfl, hb6⟩)
    have hT6 := hT5.later hb6
    clear hb6 hT5 hS
    obtain ⟨-, -, -, -, s0, s1, s2, s3⟩ := hT6.cells
    cases hg : P.fault (tagT u.lang u.script u.region u.vars) with
    | succ k =>
      rw [hg] at CU e0
      have e2 : withinB t u = false := by unfold withinB; rw [e0]; simp
      rw [e0, e2, errV_succ] at CW
      have CE1 := Lib.hid (CE.out (k + 1))
      rw [errV_succ] at CE1
      clear e0 e2 CE CE0 hg CI
      have hk0 : ((k + 1 : Nat) : Int) ≠ 0 := by omega
      generalize ((k + 1 : Nat) : Int) = z at *
      have hk1 : (z == 0) = false := by simpa using hk0
      go_upto_region 11 with (go_at_call 9; (with_reducible refine (CU.out _ hT6.below).mono ?_); rintro e w7 ⟨rfl, hb7⟩)
      have hT7 := hT6.later hb7
      clear s0 s1 s2 s3
      obtain ⟨t0, t1, t2, t3, s0, s1, s2, s3⟩ := hT7.cells
      clear hb7 hT6 CU
      go_upto_region 12 with (go_at_call 14; (with_reducible refine (CW.out _ hT7.below).mono ?_); rintro e w8 ⟨rfl, hb8⟩; dsimp only)
      have hT8 := hT7.later hb8
      clear t0 t1 t2 t3 s0 s1 s2 s3 hb8 hT7 CW
      go_wp2_with (go_at_call 12; (with_reducible refine (CE1.out _ hT8.below).mono ?_); rintro e w9 ⟨rfl, hb9⟩)
      go_ret
      exact ⟨rfl, up_call hT8.below hb9⟩
    | zero =>
      rw [hg] at CU e0
      have e2 : withinB t u = decide (u ∈ chainB t) := by unfold withinB; rw [e0]; simp
      rw [e0, e2, errV_zero] at CW
      have CI2 := Lib.hid (fun (W : World) (hb : Below w.heap.size w W) => CI.out W hb hg)
      clear e0 e2 CE hg CI
      generalize decide (u ∈ chainB t) = b at *
      go_upto_region 11 with (go_at_call 9; (with_reducible refine (CU.out _ hT6.below).mono ?_); rintro e w7 ⟨rfl, hb7⟩)
      have hT7 := hT6.later hb7
      clear s0 s1 s2 s3
      obtain ⟨t0, t1, t2, t3, s0, s1, s2, s3⟩ := hT7.cells
      clear hb7 hT6 CU
      go_upto_region 12 with (go_at_call 14; (with_reducible refine (CW.out _ hT7.below).mono ?_); rintro e w8 ⟨rfl, hb8⟩; dsimp only)
      have hT8 := hT7.later hb8
      clear t0 t1 t2 t3 s0 s1 s2 s3 hb8 hT7 CW
      go_upto_region 13 with (go_at_call 12; (with_reducible refine (CE0.out _ hT8.below).mono ?_); rintro e w9 ⟨rfl, hb9⟩)
      have hT9 := hT8.later hb9
      clear hb9 hT8 CE0
      obtain ⟨t0, t1, t2, t3, s0, s1, s2, s3⟩ := hT9.cells
      cases b
      all_goals
        go_wp2_with (go_at_call 15; (with_reducible refine (CI2.out _ hT9.below).mono ?_); rintro e w10 ⟨rfl, hb10⟩)
        go_ret
        exact ⟨rfl, up_call hT9.below hb10⟩
end Go.Proofs.YtlmldcjgjogoiaaDoor
