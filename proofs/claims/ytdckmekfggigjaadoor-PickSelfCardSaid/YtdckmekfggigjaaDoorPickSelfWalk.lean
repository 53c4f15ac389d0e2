/- The law PickSelf, walked: it returns true for all tags that there are and every number; what lay in memory stays as it was. -/
import Derived.Test.YtdckmekfggigjaaDoorAllWalk
import Derived.Test.YtdckmekfggigjaaDoorInChain
namespace Go.Proofs.YtdckmekfggigjaaDoor
open Go.RowKit Go.Maps
attribute [local go_sem ↓] Go.wp_at_zero Go.wp_at_succ

/-- the language alone is in a tag's chain -/
theorem lang_in (t : TagB) : (⟨t.lang, empB, empB, []⟩ : TagB) ∈ chainB t := by
  have hl := chain_len t
  have hg : (chainB t)[sizeB t]? = some (chainB t)[sizeB t] := List.getElem?_eq_getElem (by omega)
  obtain ⟨h1, h2⟩ := chain_last t _ hg
  have hm := List.mem_of_getElem? hg
  generalize (chainB t)[sizeB t] = u at *
  rcases short_cases u with ⟨h3, h4⟩ | ⟨h3, h4, h5⟩ | ⟨h3, h4, h5, h6⟩ | ⟨h3, h4, h5, h6⟩
  · rw [h4] at h1; cases h1
  · rw [h5] at h1; cases h1
  · rw [h6] at h1; cases h1
  · have : u = ⟨t.lang, empB, empB, []⟩ := by
      obtain ⟨a, b, c, d⟩ := u
      simp at h2 h3 h4 h5
      subst h2; subst h3; subst h4; subst h5; rfl
    rwa [this] at hm
/-- who is there is picked -/
theorem pick_self {hs : List TagB} {i : Nat} {t : TagB} (h : hs[i]? = some t) : ∃ k, pickB [t] hs = some k ∧ hs[k]? = some t ∧ k ≤ i := by
  cases hi : idxB hs t with
  | none => exact absurd (List.mem_of_getElem? h) (idx_none.1 hi)
  | some k =>
    obtain ⟨r, hr⟩ := chain_head t
    exact ⟨k, pick_at (k := 0) (j := 0) rfl (by simp) (by rw [hr]; rfl) (by simp) hi, idx_some hi, idx_le hi h⟩
theorem fault_self {hs : List TagB} {t : TagB} (ht : t ∈ hs) (h : faultsB hs = 0) : faultsB ([t] ++ hs) = 0 := by
  rw [faults_zero] at h ⊢
  intro u hu
  rcases List.mem_append.1 hu with hu | hu
  · simp at hu; subst hu; exact h _ ht
  · exact h _ hu
theorem faults_nil_of {hs : List TagB} {t : TagB} (h : faultsB ([t] ++ hs) = 0) : faultsB hs = 0 := by
  rw [faults_zero] at h ⊢
  exact fun u hu => h u (by simp [hu])

set_option maxHeartbeats 16000000 in
set_option maxRecDepth 100000 in
theorem pickSelf_any (A : Option Addr) (n c : Nat) (xs : List TagX) (i : Int) (w : World) (h : TagsAt w w.heap.size A n xs) (hn : n * 72 ≤ 140737488355328) (hz : SizedAll xs) :
    Calls Tryd.prog 7 #[.slice A n c, .int .i64 i] w (TrueBelow w) := by
  have HL := Lib.hid h.len
  have rx : ∀ W : World, Below w.heap.size w W → TagsAt W W.heap.size A n xs := fun W hW => (h.below hW).more hW.size
  have CP := Lib.hid (fun (W : World) (_ : Below w.heap.size w W) => parse_some parse_enus W (by decide))
  have hB0 := Below.refl w.heap.size w
  go_enter Tryd.func7, Tryd.ntmps7
  go_upto_region 2 with (go_at_call 21; (with_reducible refine (CP.out _ hB0).mono ?_); rintro e w1 ⟨A1, n1, c1, rfl, hrd1, hb1⟩; unfold enus; dsimp only)
  have hB1 := up_alloc hb1 (.cells #[.string ⟨#[101, 110]⟩, .string ⟨#[]⟩, .string ⟨#[85, 83]⟩, .slice A1 n1 c1] 29)
  have y2 : (w1.alloc (.cells #[.string ⟨#[101, 110]⟩, .string ⟨#[]⟩, .string ⟨#[85, 83]⟩, .slice A1 n1 c1] 29)).cell? ⟨w1.heap.size, 2, none⟩ = some (.string ⟨#[85, 83]⟩) := (Blk.new _ _ _).cell 2
  clear hrd1 hb1
  generalize w1.alloc (.cells #[.string ⟨#[101, 110]⟩, .string ⟨#[]⟩, .string ⟨#[85, 83]⟩, .slice A1 n1 c1] 29) = w2 at *
  generalize w1.heap.size = g5 at *
  by_cases hi0 : i < 0
  · clear h rx
    go_wp2_with fail
    go_ret
    exact ⟨rfl, hB1⟩
  · by_cases hin : i < (n : Int)
    · obtain ⟨k, rfl⟩ : ∃ k : Nat, i = (k : Int) := ⟨i.toNat, by omega⟩
      have hkn : k < n := by omega
      have hkx : k < xs.length := by have := HL.out; omega
      have hgk := tags_get xs k hkx
      have hXr := rx w2 hB1
      obtain ⟨ad, rfl, hadb, ⟨x0, x1, x2, x3⟩, hxc, hxr⟩ := hXr.cellsAt (List.getElem?_eq_getElem hkx)
      have CQ : Hid (∀ W, Below w.heap.size w W → Calls Tryd.prog 12 #[.slice (some ⟨W.heap.size, 0, none⟩) 1 1, .slice (some ad) n c] (W.alloc (.cells (TagX.cells xs[k]).toArray 29)) fun e w' =>
          e = .returned (.tuple #[.int .i64 (pickI [xs[k].t] (tagsB xs) : Nat), errV (pickE [xs[k].t] (tagsB xs))]) ∧ Below (W.alloc (.cells (TagX.cells xs[k]).toArray 29)).heap.size (W.alloc (.cells (TagX.cells xs[k]).toArray 29)) w') :=
        Lib.hid (fun W hW => by
          have hX1 : TagsAt (W.alloc (.cells (TagX.cells xs[k]).toArray 29)) (W.alloc (.cells (TagX.cells xs[k]).toArray 29)).heap.size (some ⟨W.heap.size, 0, none⟩) 1 [xs[k]] := by
            refine ⟨rfl, ?_, fun x hx => ?_⟩
            · have := Reads.of_own (own_lit4 W (TagX.cells xs[k]) 29 (base := 0) (Nat.zero_le _) rfl)
              simpa [rowC] using this
            · simp at hx; subst hx
              exact ⟨hxc, ((rx _ (up_alloc hW _)).vars _ (List.getElem_mem hkx)).2⟩
          exact pick_any _ 1 1 [xs[k]] _ n c xs _ hX1 (rx _ (up_alloc hW _)) (by decide) (by unfold maxLen; omega) (fun x hx => by simp at hx; subst hx; exact hz _ (List.getElem_mem hkx)) hz)
      have CF : Hid (∀ W, Below w.heap.size w W → Calls Tryd.prog 9 #[.slice (some ad) n c] W fun e w' => e = .returned (.int .i64 (faultsB (tagsB xs) : Nat)) ∧ Below W.heap.size W w') :=
        Lib.hid (fun W hW => tagsFault_any (some ad) n c xs W (rx W hW) (by unfold maxLen; omega) hz)
      cases hf : faultsB (tagsB xs) with
      | succ f =>
        have hne : faultsB ([xs[k].t] ++ tagsB xs) ≠ 0 := fun h0 => by have := faults_nil_of h0; omega
        obtain ⟨f', hf'⟩ : ∃ f', faultsB ([xs[k].t] ++ tagsB xs) = f' + 1 := ⟨_, (Nat.succ_pred hne).symm⟩
        obtain ⟨e1, e2⟩ := pick_bad hf'
        have CQ' := CQ.out; have CF' := CF.out
        rw [e1, e2, errV_succ] at CQ'
        rw [hf] at CF'
        have hz0 : (((f + 1 : Nat) : Int) != 0) = true := by rw [bne_iff_ne]; omega
        obtain ⟨z, hzz⟩ : ∃ z : Int, ((f + 1 : Nat) : Int) = z := ⟨_, rfl⟩
        obtain ⟨z', hzz'⟩ : ∃ z' : Int, ((f' + 1 : Nat) : Int) = z' := ⟨_, rfl⟩
        rw [hzz] at CF' hz0
        rw [hzz'] at CQ'
        have DQ := Lib.hid CQ'; have DF := Lib.hid CF'
        have hkc : (k : Int) < (n : Int) := hin
        clear CQ CF CQ' CF' hf hf' hne e1 e2 hzz hzz' h rx hz hXr hxc hxr hgk
        generalize xs[k] = x at *
        go_wp2_with (first
          | (go_at_call 12; (with_reducible refine (DQ.out _ hB1).mono ?_); rintro e w3 ⟨rfl, hb3⟩; (have hB3 := up_call (up_alloc hB1 _) hb3); dsimp only)
          | (go_at_call 9; (with_reducible refine (DF.out _ hB3).mono ?_); rintro e w4 ⟨rfl, hb4⟩))
        go_ret
        exact ⟨rfl, up_call hB3 hb4⟩
      | zero =>
        have hall := faults_zero.1 hf
        obtain ⟨p, hp1, hp2, hp3⟩ := pick_self hgk
        obtain ⟨e1, e2⟩ := pick_found (fault_self (List.mem_of_getElem? hgk) hf) hp1
        have DQ : Hid (∀ W, Below w.heap.size w W → Calls Tryd.prog 12 #[.slice (some ⟨W.heap.size, 0, none⟩) 1 1, .slice (some ad) n c] (W.alloc (.cells (TagX.cells xs[k]).toArray 29)) fun e w' =>
            e = .returned (.tuple #[.int .i64 (p : Nat), .nilIface]) ∧ Below (W.alloc (.cells (TagX.cells xs[k]).toArray 29)).heap.size (W.alloc (.cells (TagX.cells xs[k]).toArray 29)) w') :=
          Lib.hid (by have := CQ.out; rw [e1, e2] at this; exact this)
        have hpx : p < xs.length := by have := (List.getElem?_eq_some_iff.1 hp2).1; simpa using this
        have hzt : xs[p].t = xs[k].t := by have := tags_get xs p hpx; rw [hp2] at this; injection this with this; exact this.symm
        have hrk : RightB xs[k].t := hall _ (List.mem_of_getElem? hgk)
        have hru : RightB ⟨xs[k].t.lang, empB, empB, []⟩ := right_chain hrk _ (lang_in _)
        have hfu : faultsB (⟨xs[k].t.lang, empB, empB, []⟩ :: tagsB xs) = 0 := (if_pos hru).trans hf
        have hal : allA ⟨xs[k].t.lang, empB, empB, []⟩ (tagsB xs) = allB ⟨xs[k].t.lang, empB, empB, []⟩ (tagsB xs) := if_pos hfu
        have CA : Hid (∀ W, Below w.heap.size w W → Calls Tryd.prog 16 #[.agg #[.string xs[k].t.lang, .string ⟨#[]⟩, .string ⟨#[]⟩, .slice none 0 0], .slice (some ad) n c] W fun e w' =>
            ∃ v, e = .returned (.tuple #[v, .nilIface]) ∧ w'.ownsRow W.heap.size 3 1 v (allB ⟨xs[k].t.lang, empB, empB, []⟩ (tagsB xs)).length (iv (allB ⟨xs[k].t.lang, empB, empB, []⟩ (tagsB xs))) ∧ Below W.heap.size W w') :=
          Lib.hid (fun W hW => by
            have := all_any ⟨⟨xs[k].t.lang, empB, empB, []⟩, none, 0⟩ (some ad) n c xs W Reads.none_ (rx W hW) hn (right_sized hru rfl) hz
            unfold AllPost at this
            rw [hal, hfu, errV_zero] at this
            exact this)
        have hmem : k ∈ allB ⟨xs[k].t.lang, empB, empB, []⟩ (tagsB xs) := mem_all.2 ⟨_, hgk, lang_in _⟩
        have hlen := all_length ⟨xs[k].t.lang, empB, empB, []⟩ (tagsB xs)
        rw [List.length_map, HL.out] at hlen
        obtain ⟨ad', hA', hadb', hcz, hzc, hzr⟩ := hXr.cellsAt (List.getElem?_eq_getElem hpx)
        injection hA' with hA'
        subst hA'
        have H1 : Hid (∀ W, Below w.heap.size w W → Calls Tryd.prog 24 #[argX xs[p]] W fun e w' => e = .returned (.string (textT xs[p].t)) ∧ Below W.heap.size W w') :=
          Lib.hid (fun W hW => textX (by rw [hzt]; exact hrk) W ((rx W hW).vars _ (List.getElem_mem hpx)).2)
        have H2 : Hid (∀ W, Below w.heap.size w W → Calls Tryd.prog 24 #[argX xs[k]] W fun e w' => e = .returned (.string (textT xs[k].t)) ∧ Below W.heap.size W w') :=
          Lib.hid (fun W hW => textX hrk W ((rx W hW).vars _ (List.getElem_mem hkx)).2)
        have heq : ((textT xs[p].t).toList == (textT xs[k].t).toList) = true := by rw [hzt]; simp
        have hpair : PairAt w2 w2 (ad.add (p * 4)) (ad.add (k * 4)) xs[p] xs[k] := ⟨Below.refl _ _, hcz, ⟨x0, x1, x2, x3⟩, by rw [block_of_add]; exact hadb', by rw [block_of_add]; exact hadb'⟩
        have hkc : (k : Int) < (n : Int) := hin
        have hpc : (p : Int) < (n : Int) := by omega
        have hpk : (p : Int) ≤ (k : Int) := by omega
        have HEQ := Lib.hid heq; have HMEM := Lib.hid hmem
        clear CQ CF hall hp1 hp2 hp3 hf e1 e2 hzt hrk hru hfu hal hXr hxc hxr hzc hzr hcz rx h hz hgk heq hmem
        generalize allB ⟨xs[k].t.lang, empB, empB, []⟩ (tagsB xs) = la at *
        generalize textT xs[p].t = T1 at *
        generalize textT xs[k].t = T2 at *
        generalize xs[p] = z at *
        generalize xs[k] = x at *
        go_upto_region 7 with (go_at_call 12; (with_reducible refine (DQ.out _ hB1).mono ?_); rintro e w3 ⟨rfl, hb3⟩; (have hB3 := up_call (up_alloc hB1 _) hb3); dsimp only)
        have hp3 := hpair.later (up_call (up_alloc (Below.refl w2.heap.size w2) _) hb3)
        clear x0 x1 x2 x3 y2
        obtain ⟨-, z0, z1, z2, z3, x0, x1, x2, x3⟩ := hp3.all
        go_upto_region 8 with (go_at_call 16; (with_reducible refine (CA.out _ hB3).mono ?_); rintro e w4 ⟨v4, rfl, hown4, hb4⟩; obtain ⟨A4, c4, rfl, hc4, hr4⟩ := own_form hown4; (have hB4 := up_call hB3 hb4); (have hp4 := hp3.later hb4); dsimp only)
        clear z0 z1 z2 z3 x0 x1 x2 x3 hown4 hp3
        go_wp2_with fail
        go_loopw [11, 12] (fun v j wr => ∃ q : Nat, q ≤ la.length ∧ j = .int .i64 q ∧ v = .bool (decide (k ∈ la.take q)) ∧ Below w4.heap.size w4 wr) (fun _ j _ => la.length - (intOf j).toNat)
        case atStart => exact ⟨0, Nat.zero_le _, rfl, by simp, Below.refl _ _⟩
        case round =>
          obtain ⟨q, hq, rfl, rfl, hb⟩ := hrel
          by_cases hql : q < la.length
          · obtain ⟨a4, u, rfl, ha4, hu, hcell⟩ := (hr4.below hb).at_ hql
            have hul : u = .int .i64 (la[q] : Nat) := by
              have : (iv la)[q]? = some (.int .i64 (la[q] : Nat)) := by simp [hql]
              rw [this] at hu; injection hu with hu; exact hu.symm
            subst hul
            have htk : la.take (q + 1) = la.take q ++ [la[q]] := List.take_succ_eq_append_getElem hql
            have hdec : decide (k ∈ la.take (q + 1)) = (decide (k ∈ la.take q) || decide (k = la[q])) := by
              rw [htk, Bool.eq_iff_iff]
              simp only [List.mem_append, List.mem_singleton, Bool.or_eq_true, decide_eq_true_eq]
            have hqi : (q : Int) < (la.length : Int) := by omega
            have hcmp : (((la[q] : Nat) : Int) == (k : Int)) = decide (k = la[q]) := by
              rw [Bool.eq_iff_iff]; simp; omega
            clear hu htk
            generalize la[q] = y at *
            have HD := Lib.hid hdec
            clear hdec
            cases hd1 : decide (k ∈ la.take q) <;> cases hd2 : decide (k = y)
            all_goals
              rw [hd2] at hcmp
              have H3 := Lib.hid hd1; have H4 := Lib.hid hd2
              clear hd1 hd2
              go_wp2_with fail
              go_roundw
            all_goals first
              | (case rel => exact ⟨q + 1, by omega, by go_num, by rw [HD.out, H3.out, H4.out]; rfl, hb⟩)
              | (case measure => simp [intOf]; omega)
          · have hqe : decide (k ∈ la.take q) = true := by
              rw [List.take_of_length_le (by omega)]; exact decide_eq_true HMEM.out
            have hqi : ¬ (q : Int) < (la.length : Int) := by omega
            rw [hqe]
            have hpr := hp4.later hb
            have heq := HEQ.out
            obtain ⟨-, z0, z1, z2, z3, x0, x1, x2, x3⟩ := hpr.all
            clear hqe hp4
            go_wp2_with fail
            (go_region_held3 (fun wx => PairAt w2 wx (ad.add (p * 4)) (ad.add (k * 4)) z x ∧ wx.cell? (ad.add (p * 4)) = some (.string z.t.lang) ∧ wx.cell? ⟨(ad.add (p * 4)).block, (ad.add (p * 4)).off + 1, none⟩ = some (.string z.t.script) ∧ wx.cell? ⟨(ad.add (p * 4)).block, (ad.add (p * 4)).off + 2, none⟩ = some (.string z.t.region) ∧ wx.cell? ⟨(ad.add (p * 4)).block, (ad.add (p * 4)).off + 3, none⟩ = some z.vs ∧
                  wx.cell? (ad.add (k * 4)) = some (.string x.t.lang) ∧ wx.cell? ⟨(ad.add (k * 4)).block, (ad.add (k * 4)).off + 1, none⟩ = some (.string x.t.script) ∧ wx.cell? ⟨(ad.add (k * 4)).block, (ad.add (k * 4)).off + 2, none⟩ = some (.string x.t.region) ∧ wx.cell? ⟨(ad.add (k * 4)).block, (ad.add (k * 4)).off + 3, none⟩ = some x.vs)
                (first | exact PairAt.all (by assumption) | exact PairAt.all (PairAt.drew (by assumption)))
                (first
                  | (go_at_call 24; (with_reducible refine (H1.out _ ?_).mono ?_); (first | exact up_call hB1 (PairAt.below (by assumption)) | exact up_call hB1 (PairAt.below (PairAt.drew (by assumption)))); rintro e wy ⟨rfl, hby⟩; (have hPy : PairAt w2 wy (ad.add (p * 4)) (ad.add (k * 4)) z x := by first | exact PairAt.later (by assumption) hby | exact PairAt.later (PairAt.drew (by assumption)) hby))
                  | (go_at_call 24; (with_reducible refine (H2.out _ ?_).mono ?_); (first | exact up_call hB1 (PairAt.below (by assumption)) | exact up_call hB1 (PairAt.below (PairAt.drew (by assumption)))); rintro e wz ⟨rfl, hbz⟩; (have hPz : PairAt w2 wz (ad.add (p * 4)) (ad.add (k * 4)) z x := by first | exact PairAt.later (by assumption) hbz | exact PairAt.later (PairAt.drew (by assumption)) hbz))))
            go_wp2_with fail
            go_ret
            exact ⟨rfl, up_call hB1 (PairAt.below (by assumption))⟩
    · clear h rx
      go_wp2_with fail
      go_ret
      exact ⟨rfl, hB1⟩
end Go.Proofs.YtdckmekfggigjaaDoor
