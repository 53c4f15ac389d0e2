/- The program's checkAll, firstPlaces and Pick: the first fault of the wanted tags, then of those that there are; else the first place of the first one in a chain; else ErrNone. -/
import Derived.Test.YtdckmekfggigjaaDoorPickMath
import Derived.Test.YtdckmekfggigjaaDoorWithin
import Derived.Test.YtdckmekfggigjaaDoorEnds
import Derived.Maps.OwnSet
namespace Go.Proofs.YtdckmekfggigjaaDoor
open Go.RowKit Go.Maps
attribute [local go_sem ↓] Go.wp_at_zero Go.wp_at_succ

/-- the tags of a row -/
abbrev tagsB (xs : List TagX) : List TagB := xs.map (·.t)
/-- each tag of a row is of a size that a call bears -/
abbrev SizedAll (xs : List TagX) : Prop := ∀ x ∈ xs, Sized x.t x.t.vars.length
theorem tags_take (xs : List TagX) (k : Nat) (h : k < xs.length) : (tagsB xs).take (k + 1) = (tagsB xs).take k ++ [xs[k].t] := by
  rw [List.take_succ_eq_append_getElem (by simpa using h)]; simp
theorem tags_get (xs : List TagX) (k : Nat) (h : k < xs.length) : (tagsB xs)[k]? = some xs[k].t := by simp [h]
theorem right_snoc {l : List TagB} {t : TagB} (h : ∀ u ∈ l, RightB u) (ht : faultB t = 0) : ∀ u ∈ l ++ [t], RightB u := by
  intro u hu
  rcases List.mem_append.1 hu with hu | hu
  · exact h u hu
  · simp at hu; subst hu; exact ht
abbrev argX (x : TagX) : Value := .agg #[.string x.t.lang, .string x.t.script, .string x.t.region, .slice x.A x.t.vars.length x.c]
abbrev CheckCall (x : TagX) (v : Value) (W : World) : Prop :=
  Calls Tryd.prog 33 #[argX x] W fun e w' => e = .returned v ∧ Below W.heap.size W w'
theorem check_x (x : TagX) (hz : Sized x.t x.t.vars.length) (W : World) (h : Reads W W.heap.size 1 x.A x.t.vars.length (sv x.t.vars)) : CheckCall x (errV (faultB x.t)) W :=
  check_any x.t.lang x.t.script x.t.region x.A x.t.vars.length x.c x.t.vars W h hz.vars hz.few hz.lang hz.script hz.region

set_option maxHeartbeats 4000000 in
set_option maxRecDepth 100000 in
theorem checkAll_any (A : Option Addr) (n c : Nat) (xs : List TagX) (w : World) (h : TagsAt w w.heap.size A n xs) (hn : n < maxLen) (hz : SizedAll xs) :
    Calls Tryd.prog 27 #[.slice A n c] w fun e w' => e = .returned (errV (faultsB (tagsB xs))) ∧ Below w.heap.size w w' := by
  have HL := Lib.hid h.len
  unfold maxLen at hn
  go_enter Tryd.func27, Tryd.ntmps27
  go_wp2_with fail
  go_loopw [8] (fun i wr => ∃ k : Nat, k ≤ n ∧ i = .int .i64 k ∧ Below w.heap.size w wr ∧ Hid (∀ t ∈ (tagsB xs).take k, RightB t)) (fun i _ => n - (intOf i).toNat)
  case atStart => exact ⟨0, Nat.zero_le _, rfl, Below.refl _ _, Lib.hid (by simp)⟩
  case round =>
    obtain ⟨k, hk, rfl, hb, hall⟩ := hrel
    by_cases hlt : k < n
    · have hkx : k < xs.length := by have := HL.out; omega
      have hXr := (h.below hb).more hb.size
      obtain ⟨ad, rfl, hadb, x0, x1, x2, x3, hxc, hxr⟩ := hXr.at_ (List.getElem?_eq_getElem hkx)
      rw [← add_of_add, add_pos _ _ (by omega)] at x1 x2 x3
      have hb1 := up_alloc hb (.cells (TagX.cells xs[k]).toArray 29)
      have CC : ∀ W : World, Below w.heap.size w W → CheckCall xs[k] (errV (faultB xs[k].t)) W := fun W hW =>
        check_x _ (hz _ (List.getElem_mem hkx)) W ((((h.below hW).more hW.size).vars _ (List.getElem_mem hkx)).2)
      have E1 := Lib.hid (tags_take xs k hkx)
      have E2 := Lib.hid (tags_get xs k hkx)
      clear hXr hxr h
      generalize xs[k] = x at *
      cases hf : faultB x.t with
      | zero =>
        have HF := Lib.hid hf
        rw [hf, errV_zero] at CC
        have HC := Lib.hid CC
        clear CC hf
        go_wp2_with (go_at_call 33; (with_reducible refine (HC.out _ hb1).mono ?_); rintro e w2 ⟨rfl, hb2⟩)
        go_roundw
        case rel => exact ⟨k + 1, by omega, by go_num, up_call hb1 hb2, Lib.hid (by rw [E1.out]; exact right_snoc hall.out HF.out)⟩
        case measure => simp [intOf]; omega
      | succ f =>
        have hF : faultsB (tagsB xs) = f + 1 := by rw [← hf]; exact faults_at _ k _ E2.out hall.out (by rw [hf]; omega)
        rw [hf, errV_succ] at CC
        have HC := Lib.hid CC
        have HF := Lib.hid hF
        clear CC hf hF
        go_wp2_with (go_at_call 33; (with_reducible refine (HC.out _ hb1).mono ?_); rintro e w2 ⟨rfl, hb2⟩)
        go_ret
        exact ⟨ret_err (a := f + 1) HF.out.symm, up_call hb1 hb2⟩
    · have hall' : (tagsB xs).take k = tagsB xs := List.take_of_length_le (by have := HL.out; simp; omega)
      go_wp2_with fail
      go_ret
      exact ⟨ret_err (a := 0) (by have := hall.out; rw [hall'] at this; exact (faults_zero.2 this).symm), hb⟩

/-- a tag's text, as a key -/
abbrev keyT (t : TagB) : Lit := .string (textT t).data.toList
theorem key_inj {t u : TagB} (hr : RightB t) (hu : RightB u) (h : keyT t = keyT u) : t = u := by
  have h1 := text_same hr hu
  injection h with h
  rw [toList_data, toList_data, h] at h1
  simpa using h1.symm
/-- a map that tells where each of some tags is for the first time -/
def Places (D : DataW Unit) (l : List TagB) : Prop :=
  ∀ u, RightB u → (has D (keyT u) = (idxB l u).isSome ∧ ∀ i z, idxB l u = some i → D.atKey (keyT u) z = .lit (.int .i64 i))
theorem places_nil : Places (.map []) [] := fun u _ => ⟨rfl, fun i z h => by simp [idxB] at h⟩
theorem places_old {D : DataW Unit} {l : List TagB} {t : TagB} (h : Places D l) (hr : RightB t) (hh : has D (keyT t) = true) : Places D (l ++ [t]) := by
  intro u hu
  have h0 := h t hr
  rw [hh] at h0
  obtain ⟨j, hj⟩ := Option.isSome_iff_exists.1 h0.1.symm
  have e : idxB (l ++ [t]) u = idxB l u := by
    rw [idx_snoc]
    by_cases htu : t = u
    · subst htu; rw [hj]; rfl
    · rw [if_neg htu]; simp
  rw [e]
  exact h u hu
theorem places_new {D : DataW Unit} {l : List TagB} {t : TagB} (hm : IsMap D) (h : Places D l) (hr : RightB t) (hh : has D (keyT t) = false) : Places (D.put (keyT t) (.lit (.int .i64 (l.length : Nat)))) (l ++ [t]) := by
  intro u hu
  have h0 := (h t hr).1
  rw [hh] at h0
  have hn : idxB l t = none := by cases hi : idxB l t with | none => rfl | some i => rw [hi] at h0; cases h0
  rw [idx_snoc]
  by_cases htu : t = u
  · subst htu
    rw [hn, if_pos rfl]
    refine ⟨by rw [has_put_same hm (show WideAt.IsKeyLit (keyT t) from trivial)]; rfl, fun i z hi => ?_⟩
    simp at hi; subst hi
    rw [atKey_put_same hm (show WideAt.IsKeyLit (keyT t) from trivial)]
  · rw [if_neg htu]
    have hk : keyT u ≠ keyT t := fun e => htu (key_inj hu hr e).symm
    rw [has_put_other hk, Option.or_none]
    refine ⟨(h u hu).1, fun i z hi => ?_⟩
    rw [atKey_put_other hk]
    exact (h u hu).2 i z hi
theorem wf_nat' {k : Nat} (h : k < maxLen) : (Lit.int .i64 (k : Nat)).wf = true := by
  unfold maxLen at h
  simp only [Lit.wf, Bool.and_eq_true, decide_eq_true_eq, show IntKind.i64.min = -9223372036854775808 from by decide, show IntKind.i64.max = 9223372036854775807 from by decide]
  omega
theorem zeroInt (w : World) : (zeroValue 3).run Tryd.prog w = .ok (.int .i64 0) w := by kernel_rfl
abbrev PlacesAt (w : World) (b n : Nat) (D : DataW Unit) : Prop := w.ownsMap Tryd.prog 9 (plainElem Tryd.prog 3) b n D
theorem textX {x : TagX} (hr : RightB x.t) (W : World) (h : Reads W W.heap.size 1 x.A x.t.vars.length (sv x.t.vars)) :
    Calls Tryd.prog 24 #[argX x] W fun e w' => e = .returned (.string (textT x.t)) ∧ Below W.heap.size W w' := by
  have hk := known (n := x.t.vars.length) hr rfl
  exact text_any _ _ _ x.A _ x.c _ W h hk.few hk.short
theorem text_len {t : TagB} (hr : RightB t) : (textT t).size ≤ maxLen := by
  have hk := known (n := t.vars.length) hr rfl
  have := hk.size; have := hk.len; have := hk.lens
  unfold maxLen textT
  omega
theorem below_map {w w' : World} {b : Nat} {n : Nat} {D : DataW Unit} (h : PlacesAt w b n D) (hb : Below w.heap.size w w') : PlacesAt w' b n D := h.kept (below_grown hb none) (by simp)

set_option maxHeartbeats 4000000 in
set_option maxRecDepth 100000 in
theorem firstPlaces_any (A : Option Addr) (n c : Nat) (xs : List TagX) (w : World) (h : TagsAt w w.heap.size A n xs) (hn : n < maxLen) (hr : ∀ t ∈ tagsB xs, RightB t) :
    Calls Tryd.prog 28 #[.slice A n c] w fun e w' => ∃ D, e = .returned (.map (some w.heap.size)) ∧ PlacesAt w' w.heap.size n D ∧ Places D (tagsB xs) ∧ Below w.heap.size w w' := by
  have hmm := @run_makeMap Tryd.prog
  have HL := Lib.hid h.len
  have hn' := hn
  unfold maxLen at hn
  go_enter Tryd.func28, Tryd.ntmps28
  go_wp2_with fail
  go_loopw [12] (fun i wr => ∃ (k : Nat) (D : DataW Unit), k ≤ n ∧ i = .int .i64 k ∧ PlacesAt wr w.heap.size k D ∧ Below w.heap.size w wr ∧ Hid (Places D ((tagsB xs).take k))) (fun i _ => n - (intOf i).toNat)
  case atStart => exact ⟨0, _, Nat.zero_le _, rfl, World.ownsMap_made _ _ _ _, (Below.refl _ _).alloc (Nat.le_refl _) _, Lib.hid places_nil⟩
  case round =>
    obtain ⟨k, D, hk, rfl, hown, hb, hp⟩ := hrel
    by_cases hlt : k < n
    · have hkx : k < xs.length := by have := HL.out; omega
      have hXr := (h.below hb).more hb.size
      obtain ⟨ad, rfl, hadb, x0, x1, x2, x3, hxc, hxr⟩ := hXr.at_ (List.getElem?_eq_getElem hkx)
      rw [← add_of_add, add_pos _ _ (by omega)] at x1 x2 x3
      have hrx : RightB xs[k].t := hr _ (List.mem_map.2 ⟨_, List.getElem_mem hkx, rfl⟩)
      have hb1 := up_alloc hb (.cells (TagX.cells xs[k]).toArray 29)
      have hown1 := hown.alloc (.cells (TagX.cells xs[k]).toArray 29)
      have CT := Lib.hid (fun (W : World) (hW : Below w.heap.size w W) => textX hrx W ((((h.below hW).more hW.size).vars _ (List.getElem_mem hkx)).2))
      have E1 := Lib.hid (tags_take xs k hkx)
      have hkey : keyOf Tryd.prog 9 (.string (textT xs[k].t)) = some (keyT xs[k].t) := WideMaps.keyOf_string_mk Tryd.underlying9 (text_len hrx)
      have HK := Lib.hid hkey
      have hlen : ((tagsB xs).take k).length = k := by simp; omega
      cases hh : has D (keyT xs[k].t)
      · have HP : Hid (Places (D.put (keyT xs[k].t) (.lit (.int .i64 (k : Nat)))) ((tagsB xs).take (k + 1))) := Lib.hid (by
          have := places_new hown.isMap hp.out hrx hh
          rw [hlen] at this
          rw [E1.out]; exact this)
        have HH := Lib.hid hh
        clear hXr hxr h hrx hkey hlen E1 hp hh hown
        generalize xs[k] = x at *
        generalize textT x.t = T at *
        go_wp2_with (first
          | (go_at_call 24; (with_reducible refine (CT.out _ hb1).mono ?_); rintro e w2 ⟨rfl, hb2⟩; (have hown2 := below_map hown1 hb2); (have hB2 := up_call hb1 hb2))
          | (at_lookup; refine wpList_lookup_own_ok_int _ rfl _ _ 57 rfl 9 3 .i64 keyed Tryd.underlying57 Tryd.underlying3 (zeroInt _) w.heap.size k _ rfl hown2 _ _ rfl HK.out ?_; intro cc hcc _; rw [HH.out]; clear hcc)
          | (at_mapUpdate; refine wpList_mapUpdate_own _ rfl _ _ _ 57 rfl 9 3 keyed Tryd.underlying57 (plainElem (H := Unit) Tryd.prog 3) w.heap.size k _ rfl hown2 (by unfold maxLen; omega) _ _ _ rfl rfl HK.out (.lit (.int .i64 (k : Nat))) [] (plainElem_int Tryd.underlying3 (wf_nat' (by unfold maxLen; omega))) ?_; intro w3 hown3 hgrow3))
        go_roundw
        case rel => exact ⟨k + 1, _, by omega, by go_num, hown3, hB2.grown hgrow3 hB2.size (fun j hj => by cases hj; exact Nat.le_refl _), HP⟩
        case measure => simp [intOf]; omega
      · have HP : Hid (Places D ((tagsB xs).take (k + 1))) := Lib.hid (by rw [E1.out]; exact places_old hp.out hrx hh)
        have HH := Lib.hid hh
        clear hXr hxr h hrx hkey hlen E1 hp hh hown
        generalize xs[k] = x at *
        generalize textT x.t = T at *
        go_wp2_with (first
          | (go_at_call 24; (with_reducible refine (CT.out _ hb1).mono ?_); rintro e w2 ⟨rfl, hb2⟩; (have hown2 := below_map hown1 hb2); (have hB2 := up_call hb1 hb2))
          | (at_lookup; refine wpList_lookup_own_ok_int _ rfl _ _ 57 rfl 9 3 .i64 keyed Tryd.underlying57 Tryd.underlying3 (zeroInt _) w.heap.size k _ rfl hown2 _ _ rfl HK.out ?_; intro cc hcc _; rw [HH.out]; clear hcc))
        go_roundw
        case rel => exact ⟨k + 1, D, by omega, by go_num, hown2.mono (by omega), hB2, HP⟩
        case measure => simp [intOf]; omega
    · have hk' : k = n := by omega
      have hall' : (tagsB xs).take k = tagsB xs := List.take_of_length_le (by have := HL.out; simp; omega)
      go_wp2_with fail
      go_ret
      exact ⟨D, rfl, by rw [← hk']; exact hown, by have := hp.out; rwa [hall'] at this, hb⟩

/-- the fault that Pick tells, and the place -/
def pickE (ws hs : List TagB) : Nat := if faultsB (ws ++ hs) = 0 then (if (pickB ws hs).isSome then 0 else 2) else faultsB (ws ++ hs)
def pickI (ws hs : List TagB) : Nat := if faultsB (ws ++ hs) = 0 then (pickB ws hs).getD 0 else 0
theorem pick_bad {ws hs : List TagB} {f : Nat} (h : faultsB (ws ++ hs) = f + 1) : pickE ws hs = f + 1 ∧ pickI ws hs = 0 := by
  unfold pickE pickI
  rw [h, if_neg (by omega), if_neg (by omega)]
  exact ⟨rfl, rfl⟩
theorem pick_found {ws hs : List TagB} {i : Nat} (h : faultsB (ws ++ hs) = 0) (hp : pickB ws hs = some i) : pickE ws hs = 0 ∧ pickI ws hs = i := by
  unfold pickE pickI
  rw [h, hp]
  exact ⟨rfl, rfl⟩
theorem pick_not {ws hs : List TagB} (h : faultsB (ws ++ hs) = 0) (hp : pickB ws hs = none) : pickE ws hs = 2 ∧ pickI ws hs = 0 := by
  unfold pickE pickI
  rw [h, hp]
  exact ⟨rfl, rfl⟩
theorem ret_pick {a b c d : Nat} (h : a = b) (h' : c = d) : Ending.returned (.tuple #[.int .i64 (a : Nat), errV c]) = .returned (.tuple #[.int .i64 (b : Nat), errV d]) := by rw [h, h']

set_option maxHeartbeats 8000000 in
set_option maxRecDepth 100000 in
theorem pick_any (A : Option Addr) (n c : Nat) (xs : List TagX) (A' : Option Addr) (m c' : Nat) (ys : List TagX) (w : World) (h : TagsAt w w.heap.size A n xs) (h' : TagsAt w w.heap.size A' m ys) (hn : n < maxLen) (hm : m < maxLen) (hz : SizedAll xs) (hz' : SizedAll ys) :
    Calls Tryd.prog 12 #[.slice A n c, .slice A' m c'] w fun e w' => e = .returned (.tuple #[.int .i64 (pickI (tagsB xs) (tagsB ys) : Nat), errV (pickE (tagsB xs) (tagsB ys))]) ∧ Below w.heap.size w w' := by
  have C1 := Lib.hid (checkAll_any A n c xs w h hn hz)
  have C2 : Hid (∀ W, Below w.heap.size w W → Calls Tryd.prog 27 #[.slice A' m c'] W fun e w' => e = .returned (errV (faultsB (tagsB ys))) ∧ Below W.heap.size W w') :=
    Lib.hid (fun W hW => checkAll_any A' m c' ys W ((h'.below hW).more hW.size) hm hz')
  have HL := Lib.hid h.len
  have hfa := faults_append (tagsB xs) (tagsB ys)
  cases hf : faultsB (tagsB xs) with
  | succ f =>
    rw [hf, if_neg (by omega)] at hfa
    obtain ⟨e1, e2⟩ := pick_bad hfa
    have C1' := C1.out
    rw [hf, errV_succ] at C1'
    have HC := Lib.hid C1'
    rw [e1, e2, errV_succ]
    clear C1 C1' C2 h h' hz hz' hf hfa e1 e2 hn hm HL
    go_enter Tryd.func12, Tryd.ntmps12
    go_wp2_with (go_at_call 27; (with_reducible refine HC.out.mono ?_); rintro e w1 ⟨rfl, hb1⟩)
    exact bodyPost_ret (v := .tuple #[.int .i64 0, .iface 24 (.int .i64 ((f + 1 : Nat) : Int))]) (by simp [results, Tryd.results12, go_sem]) rfl ⟨rfl, hb1⟩
  | zero =>
    rw [hf, if_pos rfl] at hfa
    have C1' := C1.out
    rw [hf, errV_zero] at C1'
    have HC := Lib.hid C1'
    cases hg : faultsB (tagsB ys) with
    | succ f =>
      rw [hg] at hfa
      obtain ⟨e1, e2⟩ := pick_bad hfa
      have C2' := C2.out
      rw [hg, errV_succ] at C2'
      have HC2 := Lib.hid C2'
      rw [e1, e2, errV_succ]
      clear C1 C1' C2 C2' h h' hz hz' hf hfa e1 e2 hn hm HL hg
      go_enter Tryd.func12, Tryd.ntmps12
      go_wp2_with (first
        | (go_at_call 27; (with_reducible refine HC.out.mono ?_); rintro e w1 ⟨rfl, hb1⟩)
        | (go_at_call 27; (with_reducible refine (HC2.out _ hb1).mono ?_); rintro e w2 ⟨rfl, hb2⟩))
      exact bodyPost_ret (v := .tuple #[.int .i64 0, .iface 24 (.int .i64 ((f + 1 : Nat) : Int))]) (by simp [results, Tryd.results12, go_sem]) rfl ⟨rfl, up_call hb1 hb2⟩
    | zero =>
      rw [hg] at hfa
      have C2' := C2.out
      rw [hg, errV_zero] at C2'
      have HC2 := Lib.hid C2'
      have hrx := faults_zero.1 hf
      have hry := faults_zero.1 hg
      have CF : Hid (∀ W, Below w.heap.size w W → Calls Tryd.prog 28 #[.slice A' m c'] W fun e w' => ∃ D, e = .returned (.map (some W.heap.size)) ∧ PlacesAt w' W.heap.size m D ∧ Places D (tagsB ys) ∧ Below W.heap.size W w') :=
        Lib.hid (fun W hW => firstPlaces_any A' m c' ys W ((h'.below hW).more hW.size) hm hry)
      have HFA := Lib.hid hfa
      have HRX := Lib.hid hrx
      clear C1 C1' C2 C2' h' hz' hf hfa hg hrx hry hm
      unfold maxLen at hn
      go_enter Tryd.func12, Tryd.ntmps12
      go_wp2_with (first
        | (go_at_call 27; (with_reducible refine HC.out.mono ?_); rintro e w1 ⟨rfl, hb1⟩)
        | (go_at_call 27; (with_reducible refine (HC2.out _ hb1).mono ?_); rintro e w2 ⟨rfl, hb2⟩; (have hB2 := up_call hb1 hb2))
        | (go_at_call 28; (with_reducible refine (CF.out _ hB2).mono ?_); rintro e w3 ⟨D, rfl, hP3, hD, hb3⟩; (have hB3 := up_call hB2 hb3)))
      have HD := Lib.hid hD
      clear HC HC2 CF hD
      generalize w2.heap.size = gb at *
      go_loopw [31] (fun i wr => ∃ k : Nat, k ≤ n ∧ i = .int .i64 k ∧ Below w.heap.size w wr ∧ PlacesAt wr gb m D ∧ Hid (∀ v ∈ (tagsB xs).take k, ∀ s ∈ chainB v, idxB (tagsB ys) s = none)) (fun i _ => n - (intOf i).toNat)
      case atStart => exact ⟨0, Nat.zero_le _, rfl, hB3, hP3, Lib.hid (by simp)⟩
      case round =>
        obtain ⟨k, hk, rfl, hb, hP, hno⟩ := hrel
        by_cases hlt : k < n
        · have hkx : k < xs.length := by have := HL.out; omega
          have hXr := (h.below hb).more hb.size
          obtain ⟨ad, rfl, hadb, x0, x1, x2, x3, hxc, hxr⟩ := hXr.at_ (List.getElem?_eq_getElem hkx)
          rw [← add_of_add, add_pos _ _ (by omega)] at x1 x2 x3
          have hrk : RightB xs[k].t := HRX.out _ (List.mem_map.2 ⟨_, List.getElem_mem hkx, rfl⟩)
          have hB4 := up_alloc hb (.cells (TagX.cells xs[k]).toArray 29)
          have hP4 := hP.alloc (.cells (TagX.cells xs[k]).toArray 29)
          have CG : Hid (∀ W : World, Below w.heap.size w W → Calls Tryd.prog 29 #[argX xs[k]] W (ChainPost W xs[k].t)) := Lib.hid (fun W hW =>
            chain_good xs[k].t hrk xs[k].A _ xs[k].c W ((((h.below hW).more hW.size).vars _ (List.getElem_mem hkx)).2) (hz _ (List.getElem_mem hkx)))
          have E1 := Lib.hid (tags_take xs k hkx)
          have E2 := Lib.hid (tags_get xs k hkx)
          have HR := Lib.hid hrk
          clear hXr hxr hrk
          generalize xs[k] = x at *
          go_wp2_with (go_at_call 29; (with_reducible refine (CG.out _ hB4).mono ?_); rintro e w5 ⟨A5, c5, zs, rfl, hzs, hc5, hO5, hb5⟩; (have hB5 := up_call hB4 hb5); (have hP5 := below_map hP4 hb5); dsimp only)
          obtain ⟨A1, c1, e1, _, hZ⟩ := hO5.tags
          have hzl := chain_length hzs
          rw [hzl] at hZ e1
          injection e1 with e1 _ e3
          subst e1; subst e3
          have hs5 := size_few HR.out
          have HZS := Lib.hid hzs
          clear hO5 hzs CG x0 x1 x2 x3 hP4
          go_loopw [45] (fun i wr => ∃ j : Nat, j ≤ sizeB x.t + 1 ∧ i = .int .i64 j ∧ Below w5.heap.size w5 wr ∧ Hid (∀ s ∈ (chainB x.t).take j, idxB (tagsB ys) s = none)) (fun i _ => sizeB x.t + 1 - (intOf i).toNat)
          case atStart => exact ⟨0, Nat.zero_le _, rfl, Below.refl _ _, Lib.hid (by simp)⟩
          case round =>
            obtain ⟨j, hj, rfl, hbj, hnj⟩ := hrel
            by_cases hlj : j < sizeB x.t + 1
            · have hjz : j < zs.length := by omega
              have hZr := (hZ.below hbj).more hbj.size
              obtain ⟨az, rfl, hazb, z0, z1, z2, z3, hzc, hzr⟩ := hZr.at_ (List.getElem?_eq_getElem hjz)
              rw [← add_of_add, add_pos _ _ (by omega)] at z1 z2 z3
              have hcj : (chainB x.t)[j]? = some zs[j].t := by rw [← HZS.out]; simp [hjz]
              have hrz : RightB zs[j].t := right_chain HR.out _ (List.mem_of_getElem? hcj)
              have hbj1 := up_alloc hbj (.cells (TagX.cells zs[j]).toArray 29)
              have hPj := (below_map hP5 hbj).alloc (.cells (TagX.cells zs[j]).toArray 29)
              have CT := Lib.hid (fun (W : World) (hW : Below w5.heap.size w5 W) => textX hrz W ((((hZ.below hW).more hW.size).vars _ (List.getElem_mem hjz)).2))
              have hkey : keyOf Tryd.prog 9 (.string (textT zs[j].t)) = some (keyT zs[j].t) := WideMaps.keyOf_string_mk Tryd.underlying9 (text_len hrz)
              have HK := Lib.hid hkey
              have hpl := HD.out _ hrz
              have HCJ := Lib.hid hcj
              clear hZr hzr hrz hkey hcj
              generalize zs[j] = z at *
              cases hi : idxB (tagsB ys) z.t with
              | none =>
                rw [hi] at hpl
                have HH : Hid (has D (keyT z.t) = false) := Lib.hid hpl.1
                have HN : Hid (∀ s ∈ (chainB x.t).take (j + 1), idxB (tagsB ys) s = none) := Lib.hid (by
                  rw [List.take_add_one, HCJ.out]
                  intro s hs
                  rcases List.mem_append.1 hs with hs | hs
                  · exact hnj.out s hs
                  · simp at hs; subst hs; exact hi)
                clear hpl hi HCJ
                generalize textT z.t = T at *
                go_wp2_with (first
                  | (go_at_call 24; (with_reducible refine (CT.out _ hbj1).mono ?_); rintro e w6 ⟨rfl, hb6⟩; (have hP6 := below_map hPj hb6); (have hB6 := up_call hbj1 hb6))
                  | (at_lookup; refine wpList_lookup_own_ok_int _ rfl _ _ 57 rfl 9 3 .i64 keyed Tryd.underlying57 Tryd.underlying3 (zeroInt _) gb m _ rfl hP6 _ _ rfl HK.out ?_; intro cc hcc _; rw [HH.out]; clear hcc))
                go_roundw
                case rel => exact ⟨j + 1, by omega, by go_num, hB6, HN⟩
                case measure => simp [intOf]; omega
              | some p =>
                rw [hi] at hpl
                have HH : Hid (has D (keyT z.t) = true) := Lib.hid hpl.1
                have HA : Hid (∀ d, D.atKey (keyT z.t) d = .lit (.int .i64 p)) := Lib.hid (fun d => hpl.2 p d rfl)
                have HP : Hid (pickB (tagsB xs) (tagsB ys) = some p) := Lib.hid (pick_at E2.out hno.out HCJ.out hnj.out hi)
                clear hpl hi HCJ
                generalize textT z.t = T at *
                go_wp2_with (first
                  | (go_at_call 24; (with_reducible refine (CT.out _ hbj1).mono ?_); rintro e w6 ⟨rfl, hb6⟩; (have hP6 := below_map hPj hb6); (have hB6 := up_call hbj1 hb6))
                  | (at_lookup; refine wpList_lookup_own_ok_int _ rfl _ _ 57 rfl 9 3 .i64 keyed Tryd.underlying57 Tryd.underlying3 (zeroInt _) gb m _ rfl hP6 _ _ rfl HK.out ?_; intro cc hcc _; rw [HH.out]; (have HCC : Hid (cc = p) := Lib.hid (by rw [HA.out] at hcc; injection hcc with hcc; injection hcc with _ hcc; exact hcc.symm)); clear hcc))
                obtain ⟨e1, e2⟩ := pick_found HFA.out HP.out
                exact bodyPost_ret (v := .tuple #[.int .i64 cc, .nilIface]) (by simp [results, Tryd.results12, go_sem]) rfl ⟨by rw [e1, e2, HCC.out]; rfl, up_call hB5 hB6⟩
            · have hall : (chainB x.t).take j = chainB x.t := List.take_of_length_le (by rw [chain_len]; omega)
              have HNK : Hid (∀ v ∈ (tagsB xs).take (k + 1), ∀ s ∈ chainB v, idxB (tagsB ys) s = none) := Lib.hid (by
                rw [E1.out]
                intro v hv
                rcases List.mem_append.1 hv with hv | hv
                · exact hno.out v hv
                · simp at hv; subst hv
                  have := hnj.out; rwa [hall] at this)
              have hPe := below_map hP5 hbj
              clear hZ hall hno hnj
              go_wp2_with fail
              go_roundw
              case rel => exact ⟨k + 1, by omega, by go_num, up_call hB5 hbj, hPe, HNK⟩
              case measure => simp [intOf]; omega
        · have hall : (tagsB xs).take k = tagsB xs := List.take_of_length_le (by have := HL.out; simp; omega)
          have HP : Hid (pickB (tagsB xs) (tagsB ys) = none) := Lib.hid (pick_none.2 (by have := hno.out; rwa [hall] at this))
          clear h hall hno
          go_wp2_with fail
          obtain ⟨e1, e2⟩ := pick_not HFA.out HP.out
          exact bodyPost_ret (v := .tuple #[.int .i64 0, .iface 24 (.int .i64 2)]) (by simp [results, Tryd.results12, go_sem]) rfl ⟨by rw [e1, e2]; rfl, hb⟩
end Go.Proofs.YtdckmekfggigjaaDoor
