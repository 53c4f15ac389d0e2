/- The law ChainOwn, walked: it returns true for every tag and every text; what lay in memory stays as it was. -/
import Derived.Test.YtlmldcjgjogoiaaDoorOwnWords
namespace Go.Proofs.YtlmldcjgjogoiaaDoor
open Go.RowKit Go.Maps
attribute [local go_sem ↓] Go.wp_at_zero Go.wp_at_succ

set_option maxHeartbeats 8000000 in
set_option maxRecDepth 100000 in
theorem ownLaw_any (t : TagB) (s : ByteArray) (A : Option Addr) (n c : Nat) (w : World) (h : Reads w w.heap.size 1 A n (sv t.vars)) (hz : Sized t n) (hnc : n ≤ c) (hroom : n * 16 ≤ 140737488355328)
    (mx : Int) (hmx : w.cell? ⟨1, 0, none⟩ = some (.int .i64 mx)) :
    Calls Tryd.prog 6 #[.agg #[.string t.lang, .string t.script, .string t.region, .slice A n c], .string s] w (TrueBelow w) := by
  obtain rfl : n = t.vars.length := h.len.symm
  have hlt0 := World.block_lt_of_cell? w _ hmx
  have hm : ∀ W, Below w.heap.size w W → W.cell? ⟨1, 0, none⟩ = some (.int .i64 mx) := fun W hb => by rw [hb.cell hlt0]; exact hmx
  have hT0 := TagAt.new (L := t.lang) (S := t.script) (R := t.region) (c := c) w h
  have hB0 := up_alloc (Below.refl w.heap.size w) (.cells (tagCs t.lang t.script t.region A t.vars.length c) 24)
  have hCC := copy_one t A c (w.alloc (.cells (tagCs t.lang t.script t.region A t.vars.length c) 24)) hT0.reads hnc hroom
  rw [show (w.alloc (.cells (tagCs t.lang t.script t.region A t.vars.length c) 24)).heap.size = w.heap.size + 1 from by simp] at hCC
  have CC := Lib.hid hCC; clear hCC
  have CP := Lib.hid (fun (W : World) (hb : Below w.heap.size w W) => parse_some parse_enus W mx (hm W hb) (by decide))
  have ra : ∀ W, Below w.heap.size w W → Reads W W.heap.size 1 A t.vars.length (sv t.vars) := fun W hb => (h.below hb).more hb.size
  have HRA := Lib.hid ra; have HZ := Lib.hid hz
  have HT0 := Lib.hid hT0
  clear h hz hm hmx hlt0 ra hroom hnc hT0
  go_enter Tryd.func6, Tryd.ntmps6
  go_upto_region 2 with (go_at_call 19; (with_reducible refine CC.out.mono ?_); rintro e w1 ⟨g0, cc, A1, c1, rfl, hcc, p0, p1, p2, p3, hc1, hr1, hb1⟩; (have hT1 := (((HT0.out.alloc (.cells #[.string t.lang, .string t.script, .string t.region, .slice A t.vars.length c] 24)).later hb1).alloc (.cells (tagCs t.lang t.script t.region A1 t.vars.length c1) 24))); (have hB1 := up_alloc (up_call (up_alloc hB0 (.cells #[.string t.lang, .string t.script, .string t.region, .slice A t.vars.length c] 24)) hb1) (.cells (tagCs t.lang t.script t.region A1 t.vars.length c1) 24)); (have hU1 := TagAt.new (L := t.lang) (S := t.script) (R := t.region) (c := c1) w1 hr1))
  clear hb1 hr1 p0 p1 p2 p3 hcc CC HT0 hB0
  generalize w1.alloc (.cells (tagCs t.lang t.script t.region A1 t.vars.length c1) 24) = w2 at *
  generalize w1.heap.size = g5 at *
  have hP2 : ∀ W, Below w2.heap.size w2 W → TagAt W w.heap.size t.lang t.script t.region A t.vars.length c t.vars ∧ TagAt W g5 t.lang t.script t.region A1 t.vars.length c1 t.vars := fun W hb => ⟨hT1.later hb, hU1.later hb⟩
  have hCP : ∀ W, Below w2.heap.size w2 W → Calls Tryd.prog 20 #[.string ⟨#[101, 110, 45, 117, 115]⟩] W (ParsedTo W enus) := fun W hb => CP.out W (up_call hB1 hb)
  have hST : ∀ W, Below w2.heap.size w2 W → Calls Tryd.prog 21 #[.agg #[.string t.lang, .string t.script, .string t.region, .slice A1 t.vars.length c1], .agg #[.string t.lang, .string t.script, .string t.region, .slice A t.vars.length c]] W
      fun e w' => e = .returned (.bool true) ∧ Below W.heap.size W w' := fun W hb => by
    have := sameTag_any t.lang t.script t.region A1 t.vars.length c1 t.vars t.lang t.script t.region A t.vars.length c t.vars W (hP2 W hb).2.reads (hP2 W hb).1.reads HZ.out.few HZ.out.few
    rw [same_self] at this
    exact this
  obtain ⟨t0, t1, t2, t3⟩ := hT1.cells
  obtain ⟨u0, u1, u2, u3⟩ := hU1.cells
  have hBr := Below.refl w2.heap.size w2
  have HP2 := Lib.hid hP2; have HCP := Lib.hid hCP; have HST := Lib.hid hST
  clear hP2 hCP hST CP HRA hT1 hU1
  cases hf : P.fault (tagT t.lang t.script t.region t.vars) with
  | succ k =>
    have hC1 : ∀ W, Below w2.heap.size w2 W → _ := fun W hb => chain_bad t k hf A1 t.vars.length c1 W (HP2.out W hb).2.reads HZ.out
    have hC2 : ∀ W, Below w2.heap.size w2 W → _ := fun W hb => chain_bad t k hf A t.vars.length c W (HP2.out W hb).1.reads HZ.out
    unfold tagV at hC1 hC2
    rw [errV_succ] at hC1 hC2
    generalize ((k + 1 : Nat) : Int) = z at *
    have HC1 := Lib.hid hC1; have HC2 := Lib.hid hC2
    clear hC1 hC2 hf
    go_upto_region 3 with (go_at_call 11; (with_reducible refine (HC1.out _ hBr).mono ?_); rintro e w3 ⟨rfl, hb3⟩; dsimp only)
    obtain ⟨t0', t1', t2', t3'⟩ := (HP2.out _ hb3).1.cells
    clear t0 t1 t2 t3 u0 u1 u2 u3
    go_upto_region 4 with (go_at_call 11; (with_reducible refine (HC2.out _ hb3).mono ?_); rintro e w4 ⟨rfl, hb4⟩; dsimp only)
    have hb4' := up_call hb3 hb4
    clear t0' t1' t2' t3'
    go_upto_region 5 with (go_at_call 20; (with_reducible refine (HCP.out _ hb4').mono ?_); rintro e w5 ⟨A5, n5, c5, rfl, hrd5, hb5⟩; unfold enus; dsimp only)
    have hb5' := up_alloc (up_call hb4' hb5) (.cells #[.string ⟨#[101, 110]⟩, .string ⟨#[]⟩, .string ⟨#[85, 83]⟩, .slice A5 n5 c5] 24)
    go_quiet (fail)
    go_wp2_with fail
    have hb6 := below_drewN hb5' nq
    go_loopw [12] (fun i wr => i = .int .i64 0 ∧ Below w2.heap.size w2 wr) (fun _ _ => 0)
    case atStart => exact ⟨rfl, hb6⟩
    case round =>
      obtain ⟨rfl, hb⟩ := hrel
      obtain ⟨t0, t1, t2, t3⟩ := (HP2.out _ hb).1.cells
      obtain ⟨u0, u1, u2, u3⟩ := (HP2.out _ hb).2.cells
      go_wp2_with (go_at_call 21; (with_reducible refine (HST.out _ hb).mono ?_); rintro e w7 ⟨rfl, hb7⟩)
      go_ret
      exact ⟨rfl, up_call hB1 (up_call hb hb7)⟩
  | zero =>
    have HR : Hid (RightB t) := Lib.hid hf
    have hC1 : ∀ W, Below w2.heap.size w2 W → _ := fun W hb => chain_good t hf A1 t.vars.length c1 W (HP2.out W hb).2.reads HZ.out
    have hC2 : ∀ W, Below w2.heap.size w2 W → _ := fun W hb => chain_good t hf A t.vars.length c W (HP2.out W hb).1.reads HZ.out
    unfold tagV at hC1 hC2
    have HC1 := Lib.hid hC1; have HC2 := Lib.hid hC2
    clear hC1 hC2 hf
    have hs5 := size_few HR.out
    go_upto_region 3 with (go_at_call 11; (with_reducible refine (HC1.out _ hBr).mono ?_); rintro e w3 ⟨A3, c3, xs, rfl, hxs, hc3, hO3, hb3⟩; dsimp only)
    obtain ⟨t0', t1', t2', t3'⟩ := (HP2.out _ hb3).1.cells
    clear t0 t1 t2 t3 u0 u1 u2 u3
    go_upto_region 4 with (go_at_call 11; (with_reducible refine (HC2.out _ hb3).mono ?_); rintro e w4 ⟨A4, c4, ys, rfl, hys, hc4, hO4, hb4⟩; dsimp only)
    have hb4' := up_call hb3 hb4
    have hxl := chain_length hxs
    have hyl := chain_length hys
    obtain ⟨g3, rfl, _, _⟩ := hO3.cellsAt (by omega) hxl
    obtain ⟨g4, rfl, _, _⟩ := hO4.cellsAt (by omega) hyl
    have hW4 := writing_start hO3 hO4 hb3 hb4
    clear t0' t1' t2' t3' hO3 hO4
    go_upto_region 5 with (go_at_call 20; (with_reducible refine (HCP.out _ hb4').mono ?_); rintro e w5 ⟨A5, n5, c5, rfl, hrd5, hb5⟩; unfold enus; dsimp only)
    have hW5 := (hW4.later hb5).later (up_alloc (Below.refl w5.heap.size w5) (.cells #[.string ⟨#[101, 110]⟩, .string ⟨#[]⟩, .string ⟨#[85, 83]⟩, .slice A5 n5 c5] 24))
    go_quiet (fail)
    go_wp2_with fail
    have hW6 := hW5.later (below_drewN (Below.refl _ _) nq)
    have HXS := Lib.hid hxs; have HYS := Lib.hid hys
    clear hW4 hW5 hb5 hrd5 hb4 hb4' hb3 hxs hys HC1 HC2 HCP
    go_loopw [12] (fun i wr => ∃ m : Nat, m ≤ sizeB t + 1 ∧ i = .int .i64 m ∧ Writing w2 wr w2.heap.size w3.heap.size (.slice (some ⟨g3, 0, none⟩) (sizeB t + 1) c3) (.slice (some ⟨g4, 0, none⟩) (sizeB t + 1) c4) m xs ys) (fun i _ => 100 - (intOf i).toNat)
    case atStart => exact ⟨0, Nat.zero_le _, rfl, hW6⟩
    case round =>
      obtain ⟨m, hm, rfl, hW⟩ := hrel
      clear hW6
      by_cases hlt : m < sizeB t + 1
      · have hmx : m < xs.length := by omega
        have hx : xs[m]? = some xs[m] := List.getElem?_eq_getElem hmx
        have hx3 := rowC_get xs m _ hx 3 (by omega)
        have hmi : (m : Int) < (sizeB t : Int) + 1 := by omega
        have hm5 : m ≤ 5 := by omega
        generalize xs[m] = x at *
        have hstart := hW.next
        have hown0 := (hW.rest m x hx (Nat.le_refl _)).2
        have hfewx : x.t.vars.length ≤ 3 := few_right (right_chain HR.out x.t (by rw [← HXS.out]; exact List.mem_map.2 ⟨x, List.mem_of_getElem? hx, rfl⟩))
        clear hW
        go_wp2_with fail
        go_loopw [13] (fun jv wr => ∃ (jj : Nat) (us : List Value), jj ≤ x.t.vars.length ∧ jv = .int .i64 jj ∧ Writing w2 wr w2.heap.size w3.heap.size (.slice (some ⟨g3, 0, none⟩) (sizeB t + 1) c3) (.slice (some ⟨g4, 0, none⟩) (sizeB t + 1) c4) (m + 1) xs ys ∧ wr.ownsRow w2.heap.size 9 1 x.vs x.t.vars.length us) (fun jv _ => 100 - (intOf jv).toNat)
        case atStart => exact ⟨0, _, Nat.zero_le _, rfl, hstart, hown0⟩
        case round =>
          obtain ⟨jj, us, hjj, rfl, hW, hown⟩ := hrel
          clear hstart hown0
          have hrow := hW.row
          rw [hxl] at hrow
          have hcell : wr.cell? ⟨g3, m * 4 + 3, none⟩ = some x.vs := (hrow.cellAt (m * 4 + 3) (by omega)).trans (by simpa using hx3)
          clear hrow
          by_cases hjl : jj < x.t.vars.length
          · obtain ⟨gz, capz, hv, _, hgz⟩ := hown.form (by omega)
            have hA : x.A = some ⟨gz, 0, none⟩ := by injection hv
            have hvs : x.vs = .slice (some ⟨gz, 0, none⟩) x.t.vars.length x.c := by simp [TagX.vs, hA]
            have hwr := hW.write (j := jj) (u := .string s) hx hA hown
            rw [hvs] at hcell
            have hown' := hown
            rw [hvs] at hown'
            have husl : jj < us.length := by have := hown.1; omega
            have hc2 : wr.cell? ⟨gz, jj, none⟩ = some us[jj] := (hown'.cellAt jj (by omega)).trans (List.getElem?_eq_getElem husl)
            have hf2 := hown'.frozenAt jj
            have HWR := Lib.hid hwr
            clear hwr hW hown hown' hv
            have hji : (jj : Int) < (x.t.vars.length : Int) := by omega
            go_wp2_with fail
            go_roundw
            case rel => exact ⟨jj + 1, _, by omega, by go_num, HWR.out.1, HWR.out.2⟩
            case measure => simp [intOf]; omega
          · have hTl := hW.tail hxl (by omega) hc3
            obtain ⟨_, _, e1, _, hY⟩ := hW.second.tags
            rw [hyl] at hY e1
            injection e1 with e1 _ e2
            subst e1; subst e2
            have hTr := hY.rest (j := m + 1) (by omega) hc4
            have hTT : ∀ W, Below wr.heap.size wr W → Calls Tryd.prog 13 #[.slice (if c3 = m + 1 then some ⟨g3, 0, none⟩ else some ⟨g3, (m + 1) * 4, none⟩) (sizeB t - m) (c3 - (m + 1)), .slice (if c4 = m + 1 then some ⟨g4, 0, none⟩ else some ⟨g4, (m + 1) * 4, none⟩) (sizeB t - m) (c4 - (m + 1))] W
                fun e w' => e = .returned (.bool true) ∧ Below W.heap.size W w' := fun W hW' => by
              have := tags_any _ _ _ _ (c3 - (m + 1)) (c4 - (m + 1)) _ _ W (hTl.later hW') (hTr.later hW') (by omega) (by omega) (fun x hx => chain_vars HR.out HXS.out x (List.mem_of_mem_drop hx)) (fun x hx => chain_vars HR.out HYS.out x (List.mem_of_mem_drop hx))
              rw [List.map_drop, List.map_drop, HXS.out, HYS.out, decide_eq_true rfl, add_zero_block, add_zero_block, show sizeB t + 1 - (m + 1) = sizeB t - m from by omega] at this
              exact this
            have HW := Lib.hid hW
            clear hW hTl hTr hY hown
            have hw64 : IntKind.i64.wrap ((m : Int) + 1) = (m : Int) + 1 := by rw [IntKind.wrap_i64]; omega
            have hl0 : (0 : Int) ≤ (m : Int) + 1 := by omega
            have hl1 : (m : Int) + 1 ≤ (sizeB t : Int) + 1 := by omega
            have hBw := Below.refl wr.heap.size wr
            by_cases h3 : c3 = m + 1 <;> by_cases h4 : c4 = m + 1
            all_goals
              first
                | subst h3; rw [if_pos rfl, Nat.sub_self] at hTT
                | rw [if_neg h3] at hTT
              first
                | subst h4; rw [if_pos rfl, Nat.sub_self] at hTT
                | rw [if_neg h4] at hTT
              first
                | (have h0 : sizeB t - m = 0 := by omega
                   rw [h0] at hTT)
                | skip
              have HTT := Lib.hid hTT
              clear hTT
              go_wp2_with fail
              (go_region_held3 (fun wx => Below wr.heap.size wr wx)
                (first | assumption | exact Below.drew (by assumption))
                (first | (go_at_call 13; (with_reducible refine (HTT.out _ ?_).mono ?_); (first | assumption | exact Below.drew (by assumption)); rintro e w7 ⟨rfl, hb7⟩; (have hb8 : Below wr.heap.size wr w7 := by first | exact up_call (by assumption) hb7 | exact up_call (Below.drew (by assumption)) hb7))))
              go_wp2_with fail
              go_roundw
              case rel => exact ⟨m + 1, by omega, by go_num, HW.out.later hb8⟩
              case measure => simp [intOf]; omega
      · have hme : m = sizeB t + 1 := by omega
        subst hme
        have hb := hW.below
        obtain ⟨t0, t1, t2, t3⟩ := (HP2.out _ hb).1.cells
        obtain ⟨u0, u1, u2, u3⟩ := (HP2.out _ hb).2.cells
        go_wp2_with (go_at_call 21; (with_reducible refine (HST.out _ hb).mono ?_); rintro e w7 ⟨rfl, hb7⟩)
        go_ret
        exact ⟨rfl, up_call hB1 (up_call hb hb7)⟩
end Go.Proofs.YtlmldcjgjogoiaaDoor
