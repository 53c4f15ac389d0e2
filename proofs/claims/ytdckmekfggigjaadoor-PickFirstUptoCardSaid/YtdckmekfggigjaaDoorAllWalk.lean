/- The program's All: the faults of Check of the tag, then of those that there are; else the places of those that are of its kind, a row of the call's own. -/
import Derived.Test.YtdckmekfggigjaaDoorRefRows
namespace Go.Proofs.YtdckmekfggigjaaDoor
open Go.RowKit Go.Maps
attribute [local go_sem ↓] Go.wp_at_zero Go.wp_at_succ

theorem int_info : (Tryd.prog.info? 3).map (fun i => (i.zero, i.size, i.bytes)) = some (some (.int .i64 0), 1, 8) := by kernel_rfl
/-- what All tells of right tags -/
def allA (u : TagB) (hs : List TagB) : List Nat := if faultsB (u :: hs) = 0 then allB u hs else []
/-- what All tells -/
def AllPost (w : World) (u : TagB) (hs : List TagB) (e : Ending) (w' : World) : Prop :=
  ∃ v, e = .returned (.tuple #[v, errV (faultsB (u :: hs))]) ∧ w'.ownsRow w.heap.size 3 1 v (allA u hs).length (iv (allA u hs)) ∧ Below w.heap.size w w'
theorem within_bad {t u : TagB} (h : faultB t ≠ 0) : within1 t u = faultB t ∧ withinB t u = false := by
  have e : within1 t u = faultB t := if_neg h
  exact ⟨e, by unfold withinB; rw [e, decide_eq_false h]; rfl⟩
theorem within_good {t u : TagB} (h : faultB t = 0) (hu : faultB u = 0) : within1 t u = 0 ∧ withinB t u = decide (u ∈ chainB t) := by
  have e : within1 t u = 0 := (if_pos h).trans hu
  exact ⟨e, by unfold withinB; rw [e]; simp⟩
abbrev WithinX (x y : TagX) (b : Bool) (v : Value) (W : World) : Prop :=
  Calls Tryd.prog 18 #[argX x, argX y] W fun e w' => e = .returned (.tuple #[.bool b, v]) ∧ Below W.heap.size W w'
theorem within_x (x y : TagX) (hz : Sized x.t x.t.vars.length) (hz' : Sized y.t y.t.vars.length) (W : World) (h : Reads W W.heap.size 1 x.A x.t.vars.length (sv x.t.vars)) (h' : Reads W W.heap.size 1 y.A y.t.vars.length (sv y.t.vars)) :
    WithinX x y (withinB x.t y.t) (errV (within1 x.t y.t)) W :=
  within_any x.t y.t x.A _ x.c y.A _ y.c W h h' hz hz'

set_option maxHeartbeats 8000000 in
set_option maxRecDepth 100000 in
theorem all_any (u : TagX) (A : Option Addr) (n c : Nat) (xs : List TagX) (w : World) (hU : Reads w w.heap.size 1 u.A u.t.vars.length (sv u.t.vars)) (h : TagsAt w w.heap.size A n xs) (hn : n * 72 ≤ 140737488355328) (hzu : Sized u.t u.t.vars.length) (hz : SizedAll xs) :
    Calls Tryd.prog 16 #[argX u, .slice A n c] w (AllPost w u.t (tagsB xs)) := by
  obtain ⟨i0, hi0, hz0, hz1, hz2⟩ := info_parts int_info
  have HL := Lib.hid h.len
  have hT := TagAt.new (L := u.t.lang) (S := u.t.script) (R := u.t.region) (c := u.c) w hU
  have hB := up_alloc (Below.refl w.heap.size w) (.cells (tagCs u.t.lang u.t.script u.t.region u.A u.t.vars.length u.c) 29)
  have rd : ∀ W : World, Below w.heap.size w W → Reads W W.heap.size 1 u.A u.t.vars.length (sv u.t.vars) := fun W hW => (hU.below hW).more hW.size
  have C1 : ∀ W : World, Below w.heap.size w W → CheckCall u (errV (faultB u.t)) W := fun W hW => check_x u hzu W (rd W hW)
  cases hf : faultB u.t with
  | succ f =>
    have hF : faultsB (u.t :: tagsB xs) = f + 1 := by rw [faults_cons, hf, if_neg (by omega)]
    have hA : allA u.t (tagsB xs) = [] := by unfold allA; rw [hF, if_neg (by omega)]
    rw [hf, errV_succ] at C1
    have HC := Lib.hid C1
    unfold AllPost
    rw [hF, hA, errV_succ]
    obtain ⟨t0, t1, t2, t3⟩ := hT.cells
    clear C1 hf hF hA h hz hU hT rd
    go_enter Tryd.func16, Tryd.ntmps16
    go_wp2_with (go_at_call 33; (with_reducible refine (HC.out _ hB).mono ?_); rintro e w1 ⟨rfl, hb1⟩)
    exact bodyPost_ret (v := .tuple #[.slice none 0 0, .iface 24 (.int .i64 ((f + 1 : Nat) : Int))]) (by simp [results, Tryd.results16, go_sem]) rfl ⟨_, rfl, World.ownsRow_nil _ _ _ _, up_call hB hb1⟩
  | zero =>
    have hF : faultsB (u.t :: tagsB xs) = faultsB (tagsB xs) := by rw [faults_cons, hf, if_pos rfl]
    rw [hf, errV_zero] at C1
    have HC := Lib.hid C1
    have HF := Lib.hid hF
    have HU := Lib.hid hf
    obtain ⟨t0, t1, t2, t3⟩ := hT.cells
    clear C1 hf hF hU
    go_enter Tryd.func16, Tryd.ntmps16
    go_wp2_with (go_at_call 33; (with_reducible refine (HC.out _ hB).mono ?_); rintro e w1 ⟨rfl, hb1⟩; (have hB1 := up_call hB hb1); (have hT1 := hT.later hb1))
    clear t0 t1 t2 t3 HC hT
    go_loopw [7, 19] (fun v i wr => ∃ k : Nat, k ≤ n ∧ i = .int .i64 k ∧ wr.ownsRow w.heap.size 3 1 v (allB u.t ((tagsB xs).take k)).length (iv (allB u.t ((tagsB xs).take k))) ∧ Below w.heap.size w wr ∧ TagAt wr w.heap.size u.t.lang u.t.script u.t.region u.A u.t.vars.length u.c u.t.vars ∧ Hid (∀ t ∈ (tagsB xs).take k, RightB t)) (fun _ i _ => n - (intOf i).toNat)
    case atStart => exact ⟨0, Nat.zero_le _, rfl, World.ownsRow_nil _ _ _ _, hB1, hT1, Lib.hid (by simp)⟩
    case round =>
      obtain ⟨k, hk, rfl, hown, hb, hTr, hall⟩ := hrel
      by_cases hlt : k < n
      · have hkx : k < xs.length := by have := HL.out; omega
        have hXr := (h.below hb).more hb.size
        obtain ⟨ad, rfl, hadb, x0, x1, x2, x3, hxc, hxr⟩ := hXr.at_ (List.getElem?_eq_getElem hkx)
        rw [← add_of_add, add_pos _ _ (by omega)] at x1 x2 x3
        have hT2 := hTr.alloc (.cells (TagX.cells xs[k]).toArray 29)
        obtain ⟨t0, t1, t2, t3⟩ := hT2.cells
        have hb1' := up_alloc hb (.cells (TagX.cells xs[k]).toArray 29)
        have hown1 := own_later hown ((Below.refl wr.heap.size wr).alloc (Nat.le_refl _) (.cells (TagX.cells xs[k]).toArray 29))
        have CW : ∀ W : World, Below w.heap.size w W → WithinX xs[k] u (withinB xs[k].t u.t) (errV (within1 xs[k].t u.t)) W := fun W hW =>
          within_x _ u (hz _ (List.getElem_mem hkx)) hzu W ((((h.below hW).more hW.size).vars _ (List.getElem_mem hkx)).2) (rd W hW)
        have E1 := Lib.hid (tags_take xs k hkx)
        have E2 := Lib.hid (tags_get xs k hkx)
        have hkl : ((tagsB xs).take k).length = k := by simp; omega
        have hak := all_length u.t ((tagsB xs).take k)
        rw [hkl] at hak
        have HKL := Lib.hid hkl
        clear hXr hxr hTr hT1 hown hkl
        generalize xs[k] = x at *
        cases hf : faultB x.t with
        | succ f =>
          obtain ⟨e1, e2⟩ := within_bad (t := x.t) (u := u.t) (by rw [hf]; omega)
          have hF : faultsB (u.t :: tagsB xs) = f + 1 := by rw [HF.out, ← hf]; exact faults_at _ k _ E2.out hall.out (by rw [hf]; omega)
          have hA : allA u.t (tagsB xs) = [] := by unfold allA; rw [hF, if_neg (by omega)]
          rw [e1, e2, hf, errV_succ] at CW
          have HCW := Lib.hid CW
          have HF2 := Lib.hid hF
          have HA := Lib.hid hA
          clear CW e1 e2 hf hF hA h hown1
          go_wp2_with (go_at_call 18; (with_reducible refine (HCW.out _ hb1').mono ?_); rintro e w2 ⟨rfl, hb2⟩; dsimp only)
          refine bodyPost_ret (v := .tuple #[.slice none 0 0, .iface 24 (.int .i64 ((f + 1 : Nat) : Int))]) (by simp [results, Tryd.results16, go_sem]) rfl ?_
          unfold AllPost
          rw [HF2.out, HA.out, errV_succ]
          exact ⟨_, rfl, World.ownsRow_nil _ _ _ _, up_call hb1' hb2⟩
        | zero =>
          obtain ⟨e1, e2⟩ := within_good (t := x.t) (u := u.t) hf HU.out
          have hsn := all_snoc u.t ((tagsB xs).take k) x.t
          rw [← E1.out, HKL.out] at hsn
          have HRK : Hid (∀ t ∈ (tagsB xs).take (k + 1), RightB t) := Lib.hid (by rw [E1.out]; exact right_snoc hall.out hf)
          rw [e1, e2, errV_zero] at CW
          by_cases hd : u.t ∈ chainB x.t
          · rw [decide_eq_true hd] at CW
            rw [if_pos hd] at hsn
            have HCW := Lib.hid CW
            have HSN := Lib.hid hsn
            clear CW e1 e2 hf h hsn hd
            generalize allB u.t ((tagsB xs).take k) = la at *
            go_wp2_with (first
              | (go_at_call 18; (with_reducible refine (HCW.out _ hb1').mono ?_); rintro e w2 ⟨rfl, hb2⟩; (have hB2 := up_call hb1' hb2); (have hT3 := hT2.later hb2); (have hown2 := own_later hown1 hb2); (have hB3 := up_alloc hB2 (.cells #[.int .i64 (k : Nat)] 3)); (have hT4 := hT3.alloc (.cells #[.int .i64 (k : Nat)] 3)); (have hown3 := own_later hown2 ((Below.refl w2.heap.size w2).alloc (Nat.le_refl _) (.cells #[.int .i64 (k : Nat)] 3))); (have hrd3 := Reads.of_own (own_lit w2 (iv [k]) 3 (base := 0) (Nat.zero_le _) (by simp [maxLen]))); dsimp only)
              | (at_builtin; refine wpList_append_any _ rfl (.tmp 34) (.tmp 36) _ rfl w.heap.size 3 i0 _ 1 8 Tryd.underlying38 hi0 hz0 hz1 hz2 rfl (by omega) _ la.length (iv la) rfl hown3 _ _ 1 1 (iv [k]) rfl hrd3 (iv_one [k]) (by unfold maxLen; omega) (by omega) hB3.size ?_; intro v6 w6 hown6 hg6 hat6))
            have hB6 : Below w.heap.size w w6 := hB3.grown hg6 hB3.size (fun j hj => (hown3.lt j hj).1)
            have hT6 : TagAt w6 w.heap.size u.t.lang u.t.script u.t.region u.A u.t.vars.length u.c u.t.vars := ⟨hT4.blk.grown hg6 (Ne.symm (own_blk_ne hown3 hT4.blk (by decide))), rd _ hB6⟩
            go_roundw
            case rel => exact ⟨k + 1, by omega, by go_num, by rw [HSN.out, iv_snoc, List.length_append]; exact hown6, hB6, hT6, HRK⟩
            case measure => simp [intOf]; omega
          · rw [decide_eq_false hd] at CW
            rw [if_neg hd, List.append_nil] at hsn
            have HCW := Lib.hid CW
            have HSN := Lib.hid hsn
            clear CW e1 e2 hf h hsn hd
            go_wp2_with (go_at_call 18; (with_reducible refine (HCW.out _ hb1').mono ?_); rintro e w2 ⟨rfl, hb2⟩; (have hB2 := up_call hb1' hb2); (have hT3 := hT2.later hb2); (have hown2 := own_later hown1 hb2); dsimp only)
            go_roundw
            case rel => exact ⟨k + 1, by omega, by go_num, by rw [HSN.out]; exact hown2, hB2, hT3, HRK⟩
            case measure => simp [intOf]; omega
      · have hall' : (tagsB xs).take k = tagsB xs := List.take_of_length_le (by have := HL.out; simp; omega)
        rw [hall'] at hown
        have hfz : faultsB (tagsB xs) = 0 := faults_zero.2 (by have := hall.out; rwa [hall'] at this)
        have hA : allA u.t (tagsB xs) = allB u.t (tagsB xs) := if_pos (HF.out.trans hfz)
        have HA := Lib.hid hA
        have HZ : Hid (faultsB (u.t :: tagsB xs) = 0) := Lib.hid (HF.out.trans hfz)
        clear h hall' hfz hA
        go_wp2_with fail
        refine bodyPost_ret (v := .tuple #[u7, .nilIface]) (by simp [results, Tryd.results16, go_sem]) rfl ?_
        unfold AllPost
        rw [HZ.out, HA.out, errV_zero]
        exact ⟨_, rfl, hown, hb⟩
end Go.Proofs.YtdckmekfggigjaaDoor
