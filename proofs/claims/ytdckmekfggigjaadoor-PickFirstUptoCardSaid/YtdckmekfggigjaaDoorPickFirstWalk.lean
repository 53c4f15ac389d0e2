/- The law PickFirst, walked: it returns true for all tags that are wanted, all that there are and all that are wanted behind, if those wanted are not too many; what lay in memory stays as it was. -/
import Derived.Test.YtdckmekfggigjaaDoorAllWalk
import Derived.Test.YtdckmekfggigjaaDoorTagsSame
namespace Go.Proofs.YtdckmekfggigjaaDoor
open Go.RowKit Go.Maps
attribute [local go_sem ↓] Go.wp_at_zero Go.wp_at_succ

/-- what is picked is in the chain of the first one that has any -/
theorem pick_in {ws hs : List TagB} {i p : Nat} {x t : TagB} (hx : ws[i]? = some x) (hno : ∀ v ∈ ws.take i, ∀ s ∈ chainB v, idxB hs s = none) (ht : t ∈ hs) (htx : t ∈ chainB x) (hp : pickB ws hs = some p) : ∀ y, hs[p]? = some y → y ∈ chainB x := by
  intro y hy
  cases hq : (chainB x).findSome? (idxB hs) with
  | none => exact absurd ht (idx_none.1 (List.findSome?_eq_none_iff.1 hq t htx))
  | some q =>
    have hpq := findSome_at (fun w => (chainB w).findSome? (idxB hs)) ws i x q hx (fun v hv => List.findSome?_eq_none_iff.2 (hno v hv)) hq
    have e : pickB ws hs = some q := hpq
    rw [hp] at e
    injection e with e
    subst e
    obtain ⟨s, hs1, hs2⟩ := List.exists_of_findSome?_eq_some hq
    rw [idx_some hs2] at hy
    injection hy with hy
    subst hy
    exact hs1
theorem own_lit40 (w : World) (t : TypeId) {base : Nat} (hb : base ≤ w.heap.size) : (w.alloc (.cells #[] t)).ownsRow base t 4 (.slice (some ⟨w.heap.size, 0, none⟩) 0 0) 0 [] :=
  ⟨rfl, .inr ⟨w.heap.size, 0, #[], rfl, hb, heap_alloc_new w _, Nat.le_refl _, by unfold maxLen; omega, by simp, by simp⟩⟩
/-- whether any of some tags is in a chain -/
def anyIn (l : List TagB) (x : TagB) : Bool := l.any fun t => decide (t ∈ chainB x)
theorem any_snoc (l : List TagB) (t x : TagB) : anyIn (l ++ [t]) x = (anyIn l x || decide (t ∈ chainB x)) := by simp [anyIn]
theorem any_none {l : List TagB} {x : TagB} (h : anyIn l x = false) : ∀ s ∈ chainB x, idxB l s = none := by
  intro s hs
  rw [idx_none]
  intro hm
  have : anyIn l x = true := List.any_eq_true.2 ⟨s, hm, decide_eq_true hs⟩
  rw [h] at this
  cases this
theorem any_some {l : List TagB} {x : TagB} (h : anyIn l x = true) : ∃ t ∈ l, t ∈ chainB x := by
  obtain ⟨t, h1, h2⟩ := List.any_eq_true.1 h
  exact ⟨t, h1, of_decide_eq_true h2⟩

set_option maxHeartbeats 2000000 in
/-- tags with a fault are spoilt -/
theorem spoilt_bad (A : Option Addr) (n c : Nat) (zs : List TagX) (f : Nat) (w : World) (h : TagsAt w w.heap.size A n zs) (hn : n < maxLen) (hz : SizedAll zs) (hf : faultsB (tagsB zs) = f + 1) :
    Calls Tryd.prog 19 #[.slice A n c] w (TrueBelow w) := by
  have hC := tagsFault_any A n c zs w h hn hz
  rw [hf] at hC
  have hz0 : (((f + 1 : Nat) : Int) != 0) = true := by rw [bne_iff_ne]; omega
  obtain ⟨z, hzz⟩ : ∃ z : Int, ((f + 1 : Nat) : Int) = z := ⟨_, rfl⟩
  rw [hzz] at hC hz0
  have HC := Lib.hid hC
  clear hC h hz hf hzz
  go_enter Tryd.func19, Tryd.ntmps19
  go_wp2_with (go_at_call 9; (with_reducible refine HC.out.mono ?_); rintro e w1 ⟨rfl, hb1⟩)
  go_ret
  exact ⟨rfl, hb1⟩
theorem tags_join {w : World} {A A2 A3 : Option Addr} {n l B : Nat} {xs zs : List TagX} (hx : TagsAt w B A n xs) (hz : TagsAt w B A2 l zs) (hr : Reads w B 4 A3 (n + l) (rowC xs ++ rowC zs)) : TagsAt w B A3 (n + l) (xs ++ zs) :=
  ⟨by rw [List.length_append, hx.len, hz.len], by rw [rowC_append]; exact hr, fun x hm => by
    rcases List.mem_append.1 hm with hm | hm
    · exact hx.vars x hm
    · exact hz.vars x hm⟩
theorem sized_join {xs zs : List TagX} (hx : SizedAll xs) (hz : SizedAll zs) : SizedAll (xs ++ zs) := fun x hm => by
  rcases List.mem_append.1 hm with hm | hm
  · exact hx x hm
  · exact hz x hm

set_option maxHeartbeats 16000000 in
set_option maxRecDepth 100000 in
theorem pickFirst_any (A : Option Addr) (n c : Nat) (xs : List TagX) (A' : Option Addr) (m c' : Nat) (ys : List TagX) (A2 : Option Addr) (l c2 : Nat) (zs : List TagX) (w : World) (h : TagsAt w w.heap.size A n xs) (h' : TagsAt w w.heap.size A' m ys) (h2 : TagsAt w w.heap.size A2 l zs)
    (hnl : (n + l) * 72 ≤ 140737488355328) (hm : m < maxLen) (hz : SizedAll xs) (hz' : SizedAll ys) (hz2 : SizedAll zs) :
    Calls Tryd.prog 5 #[.slice A n c, .slice A' m c', .slice A2 l c2] w (TrueBelow w) := by
  have rx : ∀ W : World, Below w.heap.size w W → TagsAt W W.heap.size A n xs := fun W hW => (h.below hW).more hW.size
  have ry : ∀ W : World, Below w.heap.size w W → TagsAt W W.heap.size A' m ys := fun W hW => (h'.below hW).more hW.size
  have rz : ∀ W : World, Below w.heap.size w W → TagsAt W W.heap.size A2 l zs := fun W hW => (h2.below hW).more hW.size
  have mxn : n < maxLen := by unfold maxLen; omega
  have mxl : l < maxLen := by unfold maxLen; omega
  obtain ⟨i1, hi1, hz3, hz4, hz5⟩ := info_parts tag_info
  have HL := Lib.hid h.len
  have HL' := Lib.hid h'.len
  have HL2 := Lib.hid h2.len
  have CT := Lib.hid (fun (W : World) (_ : Below w.heap.size w W) => tagged_any W)
  have CP : Hid (∀ W, Below w.heap.size w W → Calls Tryd.prog 12 #[.slice A n c, .slice A' m c'] W fun e w' => e = .returned (.tuple #[.int .i64 (pickI (tagsB xs) (tagsB ys) : Nat), errV (pickE (tagsB xs) (tagsB ys))]) ∧ Below W.heap.size W w') :=
    Lib.hid (fun W hW => pick_any A n c xs A' m c' ys W (rx W hW) (ry W hW) mxn hm hz hz')
  have hB0 := Below.refl w.heap.size w
  cases hf : faultsB (tagsB xs ++ tagsB ys) with
  | succ f =>
    obtain ⟨e1, e2⟩ := pick_bad hf
    have DP : Hid (∀ W, Below w.heap.size w W → Calls Tryd.prog 12 #[.slice A n c, .slice A' m c'] W fun e w' => e = .returned (.tuple #[.int .i64 0, .iface 24 (.int .i64 ((f + 1 : Nat) : Int))]) ∧ Below W.heap.size W w') :=
      Lib.hid (by have := CP.out; rw [e1, e2] at this; exact this)
    clear CP h h' h2 rx ry rz hz hz' hz2 e1 e2 hf
    go_enter Tryd.func5, Tryd.ntmps5
    go_upto_region 2 with (go_at_call 8; (with_reducible refine (CT.out _ hB0).mono ?_); rintro e w1 ⟨rfl, hb1⟩)
    go_wp2_with (go_at_call 12; (with_reducible refine (DP.out _ hb1).mono ?_); rintro e w2 ⟨rfl, hb2⟩; dsimp only)
    go_ret
    exact ⟨rfl, up_call hb1 hb2⟩
  | zero =>
    cases hp : pickB (tagsB xs) (tagsB ys) with
    | none =>
      obtain ⟨e1, e2⟩ := pick_not hf hp
      have DP : Hid (∀ W, Below w.heap.size w W → Calls Tryd.prog 12 #[.slice A n c, .slice A' m c'] W fun e w' => e = .returned (.tuple #[.int .i64 0, .iface 24 (.int .i64 2)]) ∧ Below W.heap.size W w') :=
        Lib.hid (by have := CP.out; rw [e1, e2] at this; exact this)
      clear CP h h' h2 rx ry rz hz hz' hz2 e1 e2 hf hp
      go_enter Tryd.func5, Tryd.ntmps5
      go_upto_region 2 with (go_at_call 8; (with_reducible refine (CT.out _ hB0).mono ?_); rintro e w1 ⟨rfl, hb1⟩)
      go_wp2_with (go_at_call 12; (with_reducible refine (DP.out _ hb1).mono ?_); rintro e w2 ⟨rfl, hb2⟩; dsimp only)
      go_ret
      exact ⟨rfl, up_call hb1 hb2⟩
    | some p =>
      obtain ⟨e1, e2⟩ := pick_found hf hp
      have DP : Hid (∀ W, Below w.heap.size w W → Calls Tryd.prog 12 #[.slice A n c, .slice A' m c'] W fun e w' => e = .returned (.tuple #[.int .i64 (p : Nat), .nilIface]) ∧ Below W.heap.size W w') :=
        Lib.hid (by have := CP.out; rw [e1, e2] at this; exact this)
      have hpm : p < ys.length := by have := pick_lt hp; simpa using this
      have hall := faults_zero.1 hf
      have HRX : Hid (∀ t ∈ tagsB xs, RightB t) := Lib.hid (fun t ht => hall t (List.mem_append_left _ ht))
      have HRY : Hid (∀ t ∈ tagsB ys, RightB t) := Lib.hid (fun t ht => hall t (List.mem_append_right _ ht))
      have HP := Lib.hid hp
      have RX := Lib.hid rx; have RY := Lib.hid ry; have RZ := Lib.hid rz
      have HZ := Lib.hid hz; have HZ' := Lib.hid hz'; have HZ2 := Lib.hid hz2
      have HNL := Lib.hid hnl; have HMM := Lib.hid hm
      have hpi : (p : Int) < (m : Int) := by have := HL'.out; omega
      have hp0 : decide ((p : Int) < 0) = false := by simp
      have hpn : decide (m ≤ p) = false := by simp; have := HL'.out; omega
      have hpi2 : decide ((m : Int) ≤ (p : Int)) = false := by simp; have := HL'.out; omega
      have hm63 := hm
      unfold maxLen at hm63 mxn
      clear CP h h' h2 rx ry rz hz hz' hz2 e1 e2 hf hp hall
      go_enter Tryd.func5, Tryd.ntmps5
      go_upto_region 2 with (go_at_call 8; (with_reducible refine (CT.out _ hB0).mono ?_); rintro e w1 ⟨rfl, hb1⟩)
      go_upto_region 3 with (go_at_call 12; (with_reducible refine (DP.out _ hb1).mono ?_); rintro e w2 ⟨rfl, hb2⟩; dsimp only)
      have hB2 := up_call hb1 hb2
      clear hb1 hb2 CT DP
      go_wp2_with fail
      clear hp0 hpn hpi2
      go_loopw [10, 11] (fun v i wr => ∃ k : Nat, k ≤ n ∧ i = .int .i64 k ∧ Below w.heap.size w wr ∧
        ((v = .bool false ∧ Hid (∀ s ∈ (tagsB xs).take k, ∀ u ∈ chainB s, idxB (tagsB ys) u = none)) ∨ v = .bool true)) (fun _ i _ => n - (intOf i).toNat)
      case atStart => exact ⟨0, Nat.zero_le _, rfl, hB2, .inl ⟨rfl, Lib.hid (by simp)⟩⟩
      case round =>
        obtain ⟨k, hk, rfl, hb, hat⟩ := hrel
        rcases hat with ⟨rfl, hno⟩ | rfl
        · by_cases hlt : k < n
          · have hkx : k < xs.length := by have := HL.out; omega
            obtain ⟨ad, hA, hadb, hcx, hxc, hxr⟩ := (RX.out w (Below.refl _ _)).cellsAt (List.getElem?_eq_getElem hkx)
            subst hA
            have hrk : RightB xs[k].t := HRX.out _ (List.mem_map.2 ⟨_, List.getElem_mem hkx, rfl⟩)
            have E1 := Lib.hid (tags_take xs k hkx)
            have E2 := Lib.hid (tags_get xs k hkx)
            have hzx := HZ.out _ (List.getElem_mem hkx)
            have hrdx : ∀ W : World, Below w.heap.size w W → Reads W W.heap.size 1 xs[k].A xs[k].t.vars.length (sv xs[k].t.vars) := fun W hW => (hxr.below hW).more hW.size
            have CX : Hid (∀ (y : TagX), y ∈ ys → ∀ W, Below w.heap.size w W → WithinX xs[k] y (decide (y.t ∈ chainB xs[k].t)) .nilIface W) := Lib.hid (fun y hy W hW => by
              have hry : RightB y.t := HRY.out _ (List.mem_map.2 ⟨y, hy, rfl⟩)
              have := within_x xs[k] y hzx (HZ'.out y hy) W (hrdx W hW) (((RY.out W hW).vars y hy).2)
              obtain ⟨e1, e2⟩ := within_good (t := xs[k].t) (u := y.t) hrk hry
              rw [e1, e2] at this
              exact this)
            have hki : (k : Int) < (n : Int) := by omega
            clear hxc hxr hrk hzx hrdx
            generalize xs[k] = x at *
            go_wp2_with fail
            go_loopw [10, 12] (fun v j wr => ∃ q : Nat, q ≤ m ∧ j = .int .i64 q ∧ Below w.heap.size w wr ∧ Hid (v = .bool (anyIn ((tagsB ys).take q) x.t))) (fun _ j _ => m - (intOf j).toNat)
            case atStart => exact ⟨0, Nat.zero_le _, rfl, hb, Lib.hid rfl⟩
            case round =>
              obtain ⟨q, hq, rfl, hbq, hv⟩ := hrel
              by_cases hlq : q < m
              · have hqy : q < ys.length := by have := HL'.out; omega
                obtain ⟨ad', hA', hadb', hcy, hyc, hyr⟩ := (RY.out w (Below.refl _ _)).cellsAt (List.getElem?_eq_getElem hqy)
                subst hA'
                have hpair : PairAt w wr (ad.add (k * 4)) (ad'.add (q * 4)) x ys[q] := ⟨hbq, hcx.keep hbq (by rw [block_of_add]; exact hadb), hcy.keep hbq (by rw [block_of_add]; exact hadb'), by rw [block_of_add]; exact hadb, by rw [block_of_add]; exact hadb'⟩
                have hsn := any_snoc ((tagsB ys).take q) ys[q].t x.t
                rw [← tags_take ys q hqy] at hsn
                have CW := Lib.hid (CX.out ys[q] (List.getElem_mem hqy))
                have hqi : (q : Int) < (m : Int) := by omega
                have hv' := hv.out
                clear hcy hyc hyr hv
                generalize ys[q] = y at *
                generalize decide (y.t ∈ chainB x.t) = b2 at *
                generalize anyIn ((tagsB ys).take q) x.t = b1 at *
                subst hv'
                have HSN := Lib.hid hsn
                obtain ⟨-, x0, x1, x2, x3, y0, y1, y2, y3⟩ := hpair.all
                clear hsn
                cases b1 <;> cases b2
                all_goals
                  go_wp2_with fail
                  (go_region_held3 (fun wx => PairAt w wx (ad.add (k * 4)) (ad'.add (q * 4)) x y ∧ wx.cell? (ad.add (k * 4)) = some (.string x.t.lang) ∧ wx.cell? ⟨(ad.add (k * 4)).block, (ad.add (k * 4)).off + 1, none⟩ = some (.string x.t.script) ∧ wx.cell? ⟨(ad.add (k * 4)).block, (ad.add (k * 4)).off + 2, none⟩ = some (.string x.t.region) ∧ wx.cell? ⟨(ad.add (k * 4)).block, (ad.add (k * 4)).off + 3, none⟩ = some x.vs ∧
                        wx.cell? (ad'.add (q * 4)) = some (.string y.t.lang) ∧ wx.cell? ⟨(ad'.add (q * 4)).block, (ad'.add (q * 4)).off + 1, none⟩ = some (.string y.t.script) ∧ wx.cell? ⟨(ad'.add (q * 4)).block, (ad'.add (q * 4)).off + 2, none⟩ = some (.string y.t.region) ∧ wx.cell? ⟨(ad'.add (q * 4)).block, (ad'.add (q * 4)).off + 3, none⟩ = some y.vs)
                      (first | exact PairAt.all (by assumption) | exact PairAt.all (PairAt.drew (by assumption)))
                      (first
                        | (go_at_call 18; (with_reducible refine (CW.out _ ?_).mono ?_); (first | exact PairAt.below (by assumption) | exact PairAt.below (PairAt.drew (by assumption))); rintro e wy ⟨rfl, hby⟩; dsimp only; (have hPy : PairAt w wy (ad.add (k * 4)) (ad'.add (q * 4)) x y := by first | exact PairAt.later (by assumption) hby | exact PairAt.later (PairAt.drew (by assumption)) hby))))
                  go_wp2_with fail
                  go_roundw
                all_goals first
                  | (case rel => exact ⟨q + 1, by omega, by go_num, PairAt.below (by assumption), Lib.hid (by rw [HSN.out]; rfl)⟩)
                  | (case measure => simp [intOf]; omega)
              · have hall : (tagsB ys).take q = tagsB ys := List.take_of_length_le (by have := HL'.out; simp; omega)
                have hv' := hv.out
                rw [hall] at hv'
                have hqi : ¬ (q : Int) < (m : Int) := by omega
                cases hany : anyIn (tagsB ys) x.t with
                | false =>
                  rw [hany] at hv'
                  obtain rfl := hv'
                  have HNK : Hid (∀ s ∈ (tagsB xs).take (k + 1), ∀ u ∈ chainB s, idxB (tagsB ys) u = none) := Lib.hid (by
                    rw [E1.out]
                    intro v hv
                    rcases List.mem_append.1 hv with hv | hv
                    · exact hno.out v hv
                    · simp at hv; subst hv
                      exact any_none hany)
                  clear hall hv hany hno
                  go_wp2_with fail
                  go_roundw
                  case rel => exact ⟨k + 1, by omega, by go_num, hbq, .inl ⟨rfl, HNK⟩⟩
                  case measure => simp [intOf]; omega
                | true =>
                  rw [hany] at hv'
                  obtain rfl := hv'
                  obtain ⟨t, ht1, ht2⟩ := any_some hany
                  have hin := pick_in E2.out hno.out ht1 ht2 HP.out _ (tags_get ys p hpm)
                  obtain ⟨ad', hA', hadb', hcy, hyc, hyr⟩ := (RY.out w (Below.refl _ _)).cellsAt (List.getElem?_eq_getElem hpm)
                  subst hA'
                  have hpair : PairAt w wr (ad.add (k * 4)) (ad'.add (p * 4)) x ys[p] := ⟨hbq, hcx.keep hbq (by rw [block_of_add]; exact hadb), hcy.keep hbq (by rw [block_of_add]; exact hadb'), by rw [block_of_add]; exact hadb, by rw [block_of_add]; exact hadb'⟩
                  have CW' := CX.out ys[p] (List.getElem_mem hpm)
                  rw [decide_eq_true hin] at CW'
                  have CW := Lib.hid CW'
                  clear hall hv hany hno hin ht1 ht2 hcy hyc hyr CW'
                  generalize ys[p] = y at *
                  obtain ⟨-, x0, x1, x2, x3, y0, y1, y2, y3⟩ := hpair.all
                  go_wp2_with fail
                  (go_region_held3 (fun wx => PairAt w wx (ad.add (k * 4)) (ad'.add (p * 4)) x y ∧ wx.cell? (ad.add (k * 4)) = some (.string x.t.lang) ∧ wx.cell? ⟨(ad.add (k * 4)).block, (ad.add (k * 4)).off + 1, none⟩ = some (.string x.t.script) ∧ wx.cell? ⟨(ad.add (k * 4)).block, (ad.add (k * 4)).off + 2, none⟩ = some (.string x.t.region) ∧ wx.cell? ⟨(ad.add (k * 4)).block, (ad.add (k * 4)).off + 3, none⟩ = some x.vs ∧
                        wx.cell? (ad'.add (p * 4)) = some (.string y.t.lang) ∧ wx.cell? ⟨(ad'.add (p * 4)).block, (ad'.add (p * 4)).off + 1, none⟩ = some (.string y.t.script) ∧ wx.cell? ⟨(ad'.add (p * 4)).block, (ad'.add (p * 4)).off + 2, none⟩ = some (.string y.t.region) ∧ wx.cell? ⟨(ad'.add (p * 4)).block, (ad'.add (p * 4)).off + 3, none⟩ = some y.vs)
                      (first | exact PairAt.all (by assumption) | exact PairAt.all (PairAt.drew (by assumption)))
                      (first
                        | (go_at_call 18; (with_reducible refine (CW.out _ ?_).mono ?_); (first | exact PairAt.below (by assumption) | exact PairAt.below (PairAt.drew (by assumption))); rintro e wy ⟨rfl, hby⟩; dsimp only; (have hPy : PairAt w wy (ad.add (k * 4)) (ad'.add (p * 4)) x y := by first | exact PairAt.later (by assumption) hby | exact PairAt.later (PairAt.drew (by assumption)) hby))))
                  go_wp2_with fail
                  go_roundw
                  case rel => exact ⟨k + 1, by omega, by go_num, hPy.below, .inr rfl⟩
                  case measure => simp [intOf]; omega
          · exfalso
            have hall : (tagsB xs).take k = tagsB xs := List.take_of_length_le (by have := HL.out; simp; omega)
            have := pick_none.2 (by have := hno.out; rwa [hall] at this)
            rw [HP.out] at this
            cases this
        · have own0 := own_lit40 wr 29 (base := wr.heap.size) (Nat.le_refl _)
          have hb0 := up_alloc hb (.cells #[] 29)
          have hbw0 : Below wr.heap.size wr (wr.alloc (.cells #[] 29)) := up_alloc (Below.refl _ _) _
          have rdx := (RX.out _ hb0).row
          have hnl := HNL.out
          have hfa := faults_append (tagsB (xs ++ zs)) (tagsB ys)
          have hfz := faults_append (tagsB xs) (tagsB zs)
          rw [if_pos (faults_zero.2 HRX.out), ← List.map_append] at hfz
          have hsj := sized_join HZ.out HZ2.out
          cases hg : faultsB (tagsB zs) with
          | succ f =>
            rw [hg] at hfz
            rw [hfz, if_neg (by omega)] at hfa
            obtain ⟨e1, e2⟩ := pick_bad hfa
            obtain ⟨z, hzz⟩ : ∃ z : Int, ((f + 1 : Nat) : Int) = z := ⟨_, rfl⟩
            have CJ : Hid (∀ (W : World) (A3 : Option Addr) (c3 : Nat), TagsAt W W.heap.size A3 (n + l) (xs ++ zs) → Below w.heap.size w W → Calls Tryd.prog 12 #[.slice A3 (n + l) c3, .slice A' m c'] W fun e w' => e = .returned (.tuple #[.int .i64 0, .iface 24 (.int .i64 z)]) ∧ Below W.heap.size W w') :=
              Lib.hid (fun W A3 c3 hX hW => by
                have := pick_any A3 (n + l) c3 (xs ++ zs) A' m c' ys W hX (RY.out W hW) (by unfold maxLen; omega) HMM.out hsj HZ'.out
                rw [e1, e2, errV_succ, hzz] at this
                exact this)
            have CS : Hid (∀ W, Below w.heap.size w W → Calls Tryd.prog 19 #[.slice A2 l c2] W (TrueBelow W)) :=
              Lib.hid (fun W hW => spoilt_bad A2 l c2 zs f W (RZ.out W hW) mxl HZ2.out hg)
            clear hfa hfz hsj e1 e2 hzz hg
            go_wp2_with (first
            | (at_builtin; refine wpList_append_any _ rfl (.tmp 94) (.tmp 95) _ rfl wr.heap.size 29 i1 _ 4 72 Tryd.underlying22 hi1 hz3 hz4 hz5 rfl (by omega) (.slice (some ⟨wr.heap.size, 0, none⟩) 0 0) 0 [] rfl own0 _ A n c (rowC xs) rfl rdx (rowC_one _) (by unfold maxLen; omega) (by omega) hbw0.size ?_; intro v1 w1 hown1 hg1 hat1; rw [Nat.zero_add, List.nil_append] at hown1; (have hbw1 : Below wr.heap.size wr w1 := hbw0.grown hg1 hbw0.size (fun j hj => (own0.lt j hj).1)); (have hb1 := up_call hb hbw1); (have rdz := (RZ.out _ hb1).row))
            | (at_builtin; refine wpList_append_any _ rfl (.tmp 96) (.tmp 97) _ rfl wr.heap.size 29 i1 _ 4 72 Tryd.underlying22 hi1 hz3 hz4 hz5 rfl (by omega) v1 n (rowC xs) rfl hown1 _ A2 l c2 (rowC zs) rfl rdz (rowC_one _) (by unfold maxLen; omega) (by omega) hbw1.size ?_; intro v2 w2 hown2 hg2 hat2; obtain ⟨A3, c3, rfl, hc3, hr3, _⟩ := own4_form hown2; (have hbw2 : Below wr.heap.size wr w2 := hbw1.grown hg2 hbw1.size (fun j hj => (hown1.lt j hj).1)); (have hb2 := up_call hb hbw2); (have hX3 := tags_join (RX.out _ hb2) (RZ.out _ hb2) hr3))
            | (go_at_call 12; (with_reducible refine (CJ.out _ _ _ hX3 hb2).mono ?_); rintro e w3 ⟨rfl, hb3⟩; (have hb3' := up_call hb2 hb3); dsimp only)
            | (go_at_call 19; (with_reducible refine (CS.out _ hb3').mono ?_); rintro e w4 ⟨rfl, hb4⟩))
            all_goals
              go_ret
              exact ⟨rfl, up_call hb3' hb4⟩
          | zero =>
            rw [hg] at hfz
            rw [hfz, if_pos rfl, faults_zero.2 HRY.out] at hfa
            have hpj : pickB (tagsB (xs ++ zs)) (tagsB ys) = some p := by rw [show tagsB (xs ++ zs) = tagsB xs ++ tagsB zs from List.map_append, pick_append, HP.out]; rfl
            obtain ⟨e1, e2⟩ := pick_found hfa hpj
            have CJ : Hid (∀ (W : World) (A3 : Option Addr) (c3 : Nat), TagsAt W W.heap.size A3 (n + l) (xs ++ zs) → Below w.heap.size w W → Calls Tryd.prog 12 #[.slice A3 (n + l) c3, .slice A' m c'] W fun e w' => e = .returned (.tuple #[.int .i64 (p : Nat), .nilIface]) ∧ Below W.heap.size W w') :=
              Lib.hid (fun W A3 c3 hX hW => by
                have := pick_any A3 (n + l) c3 (xs ++ zs) A' m c' ys W hX (RY.out W hW) (by unfold maxLen; omega) HMM.out hsj HZ'.out
                rw [e1, e2, errV_zero] at this
                exact this)
            clear hfa hfz hsj e1 e2 hg hpj
            go_wp2_with (first
            | (at_builtin; refine wpList_append_any _ rfl (.tmp 94) (.tmp 95) _ rfl wr.heap.size 29 i1 _ 4 72 Tryd.underlying22 hi1 hz3 hz4 hz5 rfl (by omega) (.slice (some ⟨wr.heap.size, 0, none⟩) 0 0) 0 [] rfl own0 _ A n c (rowC xs) rfl rdx (rowC_one _) (by unfold maxLen; omega) (by omega) hbw0.size ?_; intro v1 w1 hown1 hg1 hat1; rw [Nat.zero_add, List.nil_append] at hown1; (have hbw1 : Below wr.heap.size wr w1 := hbw0.grown hg1 hbw0.size (fun j hj => (own0.lt j hj).1)); (have hb1 := up_call hb hbw1); (have rdz := (RZ.out _ hb1).row))
            | (at_builtin; refine wpList_append_any _ rfl (.tmp 96) (.tmp 97) _ rfl wr.heap.size 29 i1 _ 4 72 Tryd.underlying22 hi1 hz3 hz4 hz5 rfl (by omega) v1 n (rowC xs) rfl hown1 _ A2 l c2 (rowC zs) rfl rdz (rowC_one _) (by unfold maxLen; omega) (by omega) hbw1.size ?_; intro v2 w2 hown2 hg2 hat2; obtain ⟨A3, c3, rfl, hc3, hr3, _⟩ := own4_form hown2; (have hbw2 : Below wr.heap.size wr w2 := hbw1.grown hg2 hbw1.size (fun j hj => (hown1.lt j hj).1)); (have hb2 := up_call hb hbw2); (have hX3 := tags_join (RX.out _ hb2) (RZ.out _ hb2) hr3))
            | (go_at_call 12; (with_reducible refine (CJ.out _ _ _ hX3 hb2).mono ?_); rintro e w3 ⟨rfl, hb3⟩; (have hb3' := up_call hb2 hb3); dsimp only))
            all_goals
              go_ret
              exact ⟨rfl, hb3'⟩
theorem join_few {n l : Nat} (h : n ≤ 1048576) (h' : l ≤ 1048576) : (n + l) * 72 ≤ 140737488355328 := by omega
end Go.Proofs.YtdckmekfggigjaaDoor
