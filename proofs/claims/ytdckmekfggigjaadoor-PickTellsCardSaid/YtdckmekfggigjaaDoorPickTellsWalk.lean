/- The law PickTells, walked: it returns true for all tags that are wanted and all that there are; what lay in memory stays as it was. -/
import Derived.Test.YtdckmekfggigjaaDoorRefRows
import Derived.Test.YtdckmekfggigjaaDoorInChain
namespace Go.Proofs.YtdckmekfggigjaaDoor
open Go.RowKit Go.Maps
attribute [local go_sem ↓] Go.wp_at_zero Go.wp_at_succ

theorem errType_later {w W : World} (h : ErrType w) (hb : Below w.heap.size w W) : ErrType W := by
  unfold ErrType
  rw [hb.cell (World.block_lt_of_cell? w _ h)]
  exact h
/-- a place, or none, as a number -/
def atV : Option Nat → Int
  | none => -1
  | some i => i
theorem at_none {o : Option Nat} (h : o = none) : atV o = -1 := by rw [h]; rfl
theorem at_some {o : Option Nat} {i : Nat} (h : o = some i) : atV o = (i : Int) := by rw [h]; rfl

set_option maxHeartbeats 16000000 in
set_option maxRecDepth 100000 in
theorem pickTells_any (A : Option Addr) (n c : Nat) (xs : List TagX) (A' : Option Addr) (m c' : Nat) (ys : List TagX) (w : World) (h : TagsAt w w.heap.size A n xs) (h' : TagsAt w w.heap.size A' m ys) (hn : n < maxLen) (hm : m < maxLen) (hz : SizedAll xs) (hz' : SizedAll ys) (hg : ErrType w) :
    Calls Tryd.prog 3 #[.slice A n c, .slice A' m c'] w (TrueBelow w) := by
  have CT := Lib.hid (fun (W : World) (_ : Below w.heap.size w W) => tagged_any W)
  have C1 : Hid (∀ W, Below w.heap.size w W → Calls Tryd.prog 9 #[.slice A n c] W fun e w' => e = .returned (.int .i64 (faultsB (tagsB xs) : Nat)) ∧ Below W.heap.size W w') :=
    Lib.hid (fun W hW => tagsFault_any A n c xs W ((h.below hW).more hW.size) hn hz)
  have C2 : Hid (∀ W, Below w.heap.size w W → Calls Tryd.prog 9 #[.slice A' m c'] W fun e w' => e = .returned (.int .i64 (faultsB (tagsB ys) : Nat)) ∧ Below W.heap.size W w') :=
    Lib.hid (fun W hW => tagsFault_any A' m c' ys W ((h'.below hW).more hW.size) hm hz')
  have CP : Hid (∀ W, Below w.heap.size w W → Calls Tryd.prog 12 #[.slice A n c, .slice A' m c'] W fun e w' => e = .returned (.tuple #[.int .i64 (pickI (tagsB xs) (tagsB ys) : Nat), errV (pickE (tagsB xs) (tagsB ys))]) ∧ Below W.heap.size W w') :=
    Lib.hid (fun W hW => pick_any A n c xs A' m c' ys W ((h.below hW).more hW.size) ((h'.below hW).more hW.size) hn hm hz hz')
  have CE : Hid (∀ W, Below w.heap.size w W → Calls Tryd.prog 13 #[errV (pickE (tagsB xs) (tagsB ys)), .int .i64 (pickE (tagsB xs) (tagsB ys) : Nat)] W (TrueBelow W)) :=
    Lib.hid (fun W hW => error_same _ W (errType_later hg hW))
  have HL := Lib.hid h.len
  have HL' := Lib.hid h'.len
  have hfa := faults_append (tagsB xs) (tagsB ys)
  have hB0 := Below.refl w.heap.size w
  cases hf : faultsB (tagsB xs) with
  | succ f =>
    rw [hf, if_neg (by omega)] at hfa
    obtain ⟨e1, e2⟩ := pick_bad hfa
    have CP' := CP.out; have CE' := CE.out; have C1' := C1.out
    rw [e1, e2, errV_succ] at CP'
    rw [e1, errV_succ] at CE'
    rw [hf] at C1'
    have hz0 : (((f + 1 : Nat) : Int) == 0) = false := by simp; omega
    obtain ⟨z, hzz⟩ : ∃ z : Int, ((f + 1 : Nat) : Int) = z := ⟨_, rfl⟩
    rw [hzz] at CP' CE' C1' hz0
    have D1 := Lib.hid C1'; have DP := Lib.hid CP'; have DE := Lib.hid CE'
    clear C1 C2 CP CE C1' CP' CE' h h' hz hz' hg hfa hf e1 e2 hzz HL HL' hn hm
    go_enter Tryd.func3, Tryd.ntmps3
    go_upto_region 2 with (go_at_call 8; (with_reducible refine (CT.out _ hB0).mono ?_); rintro e w1 ⟨rfl, hb1⟩)
    go_upto_region 5 with (go_at_call 9; (with_reducible refine (D1.out _ hb1).mono ?_); rintro e w2 ⟨rfl, hb2⟩)
    have hB2 := up_call hb1 hb2
    go_wp2_with fail
    go_loopw [7, 8] (fun v i wr => v = .int .i64 (-1) ∧ i = .int .i64 0 ∧ Below w.heap.size w wr) (fun _ _ _ => 0)
    case atStart => exact ⟨rfl, rfl, hB2⟩
    case round =>
      obtain ⟨rfl, rfl, hb⟩ := hrel
      go_wp2_with (first
        | (go_at_call 12; (with_reducible refine (DP.out _ hb).mono ?_); rintro e w3 ⟨rfl, hb3⟩; (have hB3 := up_call hb hb3); dsimp only)
        | (go_at_call 13; (with_reducible refine (DE.out _ hB3).mono ?_); rintro e w4 ⟨rfl, hb4⟩))
      go_ret
      exact ⟨rfl, up_call hB3 hb4⟩
  | zero =>
    rw [hf, if_pos rfl] at hfa
    have C1' := C1.out
    rw [hf] at C1'
    have D1 := Lib.hid C1'
    clear C1 C1'
    cases hf' : faultsB (tagsB ys) with
    | succ f =>
      rw [hf'] at hfa
      obtain ⟨e1, e2⟩ := pick_bad hfa
      have CP' := CP.out; have CE' := CE.out; have C2' := C2.out
      rw [e1, e2, errV_succ] at CP'
      rw [e1, errV_succ] at CE'
      rw [hf'] at C2'
      have hz0 : (((f + 1 : Nat) : Int) == 0) = false := by simp; omega
      obtain ⟨z, hzz⟩ : ∃ z : Int, ((f + 1 : Nat) : Int) = z := ⟨_, rfl⟩
      rw [hzz] at CP' CE' C2' hz0
      have D2 := Lib.hid C2'; have DP := Lib.hid CP'; have DE := Lib.hid CE'
      clear C2 CP CE C2' CP' CE' h h' hz hz' hg hfa hf hf' e1 e2 hzz HL HL' hn hm
      go_enter Tryd.func3, Tryd.ntmps3
      go_upto_region 2 with (go_at_call 8; (with_reducible refine (CT.out _ hB0).mono ?_); rintro e w1 ⟨rfl, hb1⟩)
      go_upto_region 4 with (go_at_call 9; (with_reducible refine (D1.out _ hb1).mono ?_); rintro e w2 ⟨rfl, hb2⟩)
      have hB2 := up_call hb1 hb2
      go_upto_region 5 with (go_at_call 9; (with_reducible refine (D2.out _ hB2).mono ?_); rintro e w3 ⟨rfl, hb3⟩)
      have hB3 := up_call hB2 hb3
      go_wp2_with fail
      go_loopw [7, 8] (fun v i wr => v = .int .i64 (-1) ∧ i = .int .i64 0 ∧ Below w.heap.size w wr) (fun _ _ _ => 0)
      case atStart => exact ⟨rfl, rfl, hB3⟩
      case round =>
        obtain ⟨rfl, rfl, hb⟩ := hrel
        go_wp2_with (first
          | (go_at_call 12; (with_reducible refine (DP.out _ hb).mono ?_); rintro e w4 ⟨rfl, hb4⟩; (have hB4 := up_call hb hb4); dsimp only)
          | (go_at_call 13; (with_reducible refine (DE.out _ hB4).mono ?_); rintro e w5 ⟨rfl, hb5⟩))
        go_ret
        exact ⟨rfl, up_call hB4 hb5⟩
    | zero =>
      rw [hf'] at hfa
      have C2' := C2.out
      rw [hf'] at C2'
      have D2 := Lib.hid C2'
      have HFA := Lib.hid hfa
      have HRX := Lib.hid (faults_zero.1 hf)
      have HRY := Lib.hid (faults_zero.1 hf')
      clear C2 C2' hz hz' hg hfa hf hf'
      unfold maxLen at hn hm
      go_enter Tryd.func3, Tryd.ntmps3
      go_upto_region 2 with (go_at_call 8; (with_reducible refine (CT.out _ hB0).mono ?_); rintro e w1 ⟨rfl, hb1⟩)
      go_upto_region 4 with (go_at_call 9; (with_reducible refine (D1.out _ hb1).mono ?_); rintro e w2 ⟨rfl, hb2⟩)
      have hB2 := up_call hb1 hb2
      go_upto_region 5 with (go_at_call 9; (with_reducible refine (D2.out _ hB2).mono ?_); rintro e w3 ⟨rfl, hb3⟩)
      have hB3 := up_call hB2 hb3
      clear hb1 hb2 hb3 hB2 D1 D2 CT
      go_wp2_with fail
      go_loopw [7, 8] (fun v i wr => ∃ k : Nat, k ≤ n ∧ i = .int .i64 k ∧ Below w.heap.size w wr ∧
        ((v = .int .i64 (-1) ∧ Hid (∀ s ∈ (tagsB xs).take k, ∀ u ∈ chainB s, idxB (tagsB ys) u = none)) ∨ ∃ p : Nat, v = .int .i64 p ∧ Hid (pickB (tagsB xs) (tagsB ys) = some p))) (fun _ i _ => n - (intOf i).toNat)
      case atStart => exact ⟨0, Nat.zero_le _, rfl, hB3, .inl ⟨rfl, Lib.hid (by simp)⟩⟩
      case round =>
        obtain ⟨k, hk, rfl, hb, hat⟩ := hrel
        rcases hat with ⟨rfl, hno⟩ | ⟨p, rfl, hp⟩
        · by_cases hlt : k < n
          · have hkx : k < xs.length := by have := HL.out; omega
            have hXr := (h.below hb).more hb.size
            obtain ⟨ad, rfl, hadb, ⟨x0, x1, x2, x3⟩, hxc, hxr⟩ := hXr.cellsAt (List.getElem?_eq_getElem hkx)
            have hrk : RightB xs[k].t := HRX.out _ (List.mem_map.2 ⟨_, List.getElem_mem hkx, rfl⟩)
            have CO : Hid (OfCall wr wr.heap.size xs[k].t xs[k].A xs[k].c wr) := Lib.hid (chainOf_any wr wr.heap.size (Nat.le_refl _) xs[k].t hrk xs[k].A xs[k].c hxr hxc wr (Below.refl _ _))
            have E1 := Lib.hid (tags_take xs k hkx)
            have E2 := Lib.hid (tags_get xs k hkx)
            have HR := Lib.hid hrk
            clear hXr hrk hxr hxc
            generalize xs[k] = x at *
            have hki : (k : Int) < (n : Int) := by omega
            go_upto_region 10 with (go_at_call 10; (with_reducible refine CO.out.mono ?_); rintro e w5 ⟨A5, c5, zs, rfl, hzs, hown5, hvs5, hb5⟩)
            have hB5 := up_call hb hb5
            have hzl := chain_length hzs
            have hZ : TagsAt w5 w5.heap.size A5 (sizeB x.t + 1) zs := ⟨hzl, Reads.of_own hown5, fun z hz => ⟨(hvs5 z hz).1, ((hvs5 z hz).2.below hb5).more hb5.size⟩⟩
            have HZS := Lib.hid hzs
            have hs5 := size_few HR.out
            clear hzs hown5 hvs5 CO x0 x1 x2 x3
            go_wp2_with fail
            go_loopw [7, 10] (fun v i wr => ∃ j : Nat, j ≤ sizeB x.t + 1 ∧ i = .int .i64 j ∧ Below w5.heap.size w5 wr ∧
              ((v = .int .i64 (-1) ∧ Hid (∀ u ∈ (chainB x.t).take j, idxB (tagsB ys) u = none)) ∨ ∃ p : Nat, v = .int .i64 p ∧ Hid (pickB (tagsB xs) (tagsB ys) = some p))) (fun _ i _ => sizeB x.t + 1 - (intOf i).toNat)
            case atStart => exact ⟨0, Nat.zero_le _, rfl, Below.refl _ _, .inl ⟨rfl, Lib.hid (by simp)⟩⟩
            case round =>
              obtain ⟨j, hj, rfl, hbj, hat⟩ := hrel
              rcases hat with ⟨rfl, hnj⟩ | ⟨p, rfl, hp⟩
              · by_cases hlj : j < sizeB x.t + 1
                · have hjz : j < zs.length := by omega
                  obtain ⟨az, rfl, hazb, hcz, hzc, hzr⟩ := hZ.cellsAt (List.getElem?_eq_getElem hjz)
                  have hcj : (chainB x.t)[j]? = some zs[j].t := by rw [← HZS.out]; simp [hjz]
                  have hrz : RightB zs[j].t := right_chain HR.out _ (List.mem_of_getElem? hcj)
                  have HCJ := Lib.hid hcj
                  have HRZ := Lib.hid hrz
                  have H2 : Hid (∀ W, Below w5.heap.size w5 W → TagTextCall zs[j] (textT zs[j].t) W) := Lib.hid (fun W hW => tagText_x _ hrz W ((hzr.below hW).more hW.size))
                  have hji : (j : Int) < (sizeB x.t : Int) + 1 := by omega
                  clear hcj hrz hzr hzc
                  generalize zs[j] = z at *
                  go_wp2_with fail
                  go_loopw [7, 11] (fun v q wr => ∃ r : Nat, r ≤ m ∧ q = .int .i64 ((r : Int) - 1) ∧ Below w5.heap.size w5 wr ∧ Hid (v = .int .i64 (atV ((idxB ((tagsB ys).drop r) z.t).map (· + r))))) (fun _ q _ => (intOf q + 1).toNat)
                  case atStart => exact ⟨m, Nat.le_refl _, by go_num, hbj, Lib.hid (by rw [List.drop_of_length_le (by have := HL'.out; simp; omega)]; rfl)⟩
                  case round =>
                    obtain ⟨r, hr, rfl, hb6, hv⟩ := hrel
                    by_cases hr0 : r = 0
                    · subst hr0
                      cases hi : idxB (tagsB ys) z.t with
                      | none =>
                        have hv' := hv.out
                        rw [List.drop_zero, hi] at hv'
                        obtain rfl : u7 = .int .i64 (-1) := hv'
                        have HN : Hid (∀ s ∈ (chainB x.t).take (j + 1), idxB (tagsB ys) s = none) := Lib.hid (by
                          rw [List.take_add_one, HCJ.out]
                          intro s hs
                          rcases List.mem_append.1 hs with hs | hs
                          · exact hnj.out s hs
                          · simp at hs; subst hs; exact hi)
                        clear hv hi
                        go_wp2_with fail
                        go_roundw
                        case rel => exact ⟨j + 1, by omega, by go_num, hb6, .inl ⟨rfl, HN⟩⟩
                        case measure => simp [intOf]; omega
                      | some p =>
                        have hv' := hv.out
                        rw [List.drop_zero, hi] at hv'
                        obtain rfl : u7 = .int .i64 (p : Nat) := hv'
                        have HP : Hid (pickB (tagsB xs) (tagsB ys) = some p) := Lib.hid (pick_at E2.out hno.out HCJ.out hnj.out hi)
                        clear hv hi
                        go_wp2_with fail
                        go_roundw
                        case rel => exact ⟨j + 1, by omega, by go_num, hb6, .inr ⟨p, rfl, HP⟩⟩
                        case measure => simp [intOf]; omega
                    · obtain ⟨r', rfl⟩ : ∃ r', r = r' + 1 := ⟨r - 1, by omega⟩
                      have hry : r' < ys.length := by have := HL'.out; omega
                      obtain ⟨ad', rfl, hadb', hcy, hyc, hyr⟩ := h'.cellsAt (List.getElem?_eq_getElem hry)
                      have hb56 := up_call hB5 hb6
                      have hlt5 : ad'.block < w5.heap.size := Nat.lt_of_lt_of_le hadb' hB5.size
                      have hpair : PairAt w5 wr (ad'.add (r' * 4)) (az.add (j * 4)) ys[r'] z := ⟨hb6, hcy.keep hb56 (by rw [block_of_add]; exact hadb'), hcz.keep hb6 (by rw [block_of_add]; exact hazb), by rw [block_of_add]; exact hlt5, by rw [block_of_add]; exact hazb⟩
                      have hryt : RightB ys[r'].t := HRY.out _ (List.mem_map.2 ⟨_, List.getElem_mem hry, rfl⟩)
                      have H1 : Hid (∀ W, Below w5.heap.size w5 W → TagTextCall ys[r'] (textT ys[r'].t) W) := Lib.hid (fun W hW => tagText_x _ hryt W ((hyr.below (up_call hB5 hW)).more (up_call hB5 hW).size))
                      have hfrom := idx_from (tagsB ys) z.t r' ys[r'].t (tags_get ys r' hry)
                      have heq := text_same hryt HRZ.out
                      have hidx : (((r' + 1 : Nat) : Int) - 1) = (r' : Int) := by omega
                      rw [hidx]
                      have hki : (r' : Int) < (m : Int) := by omega
                      have hk0 : ¬ (r' : Int) < 0 := by omega
                      clear hcy hyc hyr hryt hcz hidx
                      generalize ys[r'] = y at *
                      obtain ⟨-, x0, x1, x2, x3, y0, y1, y2, y3⟩ := hpair.all
                      generalize textT y.t = T1 at *
                      generalize textT z.t = T2 at *
                      cases hd : decide (y.t = z.t)
                      all_goals
                        rw [hd] at heq
                        have HD := Lib.hid hd; have HEQ := Lib.hid heq; have HFR := Lib.hid hfrom
                        clear hd heq hfrom
                        go_wp2_with fail
                        (go_region_held3 (fun wx => PairAt w5 wx (ad'.add (r' * 4)) (az.add (j * 4)) y z ∧ wx.cell? (ad'.add (r' * 4)) = some (.string y.t.lang) ∧ wx.cell? ⟨(ad'.add (r' * 4)).block, (ad'.add (r' * 4)).off + 1, none⟩ = some (.string y.t.script) ∧ wx.cell? ⟨(ad'.add (r' * 4)).block, (ad'.add (r' * 4)).off + 2, none⟩ = some (.string y.t.region) ∧ wx.cell? ⟨(ad'.add (r' * 4)).block, (ad'.add (r' * 4)).off + 3, none⟩ = some y.vs ∧
                              wx.cell? (az.add (j * 4)) = some (.string z.t.lang) ∧ wx.cell? ⟨(az.add (j * 4)).block, (az.add (j * 4)).off + 1, none⟩ = some (.string z.t.script) ∧ wx.cell? ⟨(az.add (j * 4)).block, (az.add (j * 4)).off + 2, none⟩ = some (.string z.t.region) ∧ wx.cell? ⟨(az.add (j * 4)).block, (az.add (j * 4)).off + 3, none⟩ = some z.vs)
                            (first | exact PairAt.all (by assumption) | exact PairAt.all (PairAt.drew (by assumption)))
                            (first
                              | (go_at_call 11; (with_reducible refine (H1.out _ ?_).mono ?_); (first | exact PairAt.below (by assumption) | exact PairAt.below (PairAt.drew (by assumption))); rintro e wy ⟨rfl, hby⟩; (have hPy : PairAt w5 wy (ad'.add (r' * 4)) (az.add (j * 4)) y z := by first | exact PairAt.later (by assumption) hby | exact PairAt.later (PairAt.drew (by assumption)) hby))
                              | (go_at_call 11; (with_reducible refine (H2.out _ ?_).mono ?_); (first | exact PairAt.below (by assumption) | exact PairAt.below (PairAt.drew (by assumption))); rintro e wz ⟨rfl, hbz⟩; (have hPz : PairAt w5 wz (ad'.add (r' * 4)) (az.add (j * 4)) y z := by first | exact PairAt.later (by assumption) hbz | exact PairAt.later (PairAt.drew (by assumption)) hbz))))
                        rw [HEQ.out]
                        go_wp2_with fail
                        go_roundw
                      case rel => exact ⟨r', by omega, by go_num, PairAt.below (by assumption), Lib.hid (by rw [HFR.out, if_neg (of_decide_eq_false HD.out)]; exact hv.out)⟩
                      case measure => simp [intOf]
                      case rel => exact ⟨r', by omega, by go_num, PairAt.below (by assumption), Lib.hid (by rw [HFR.out, if_pos (of_decide_eq_true HD.out)]; rfl)⟩
                      case measure => simp [intOf]
                · have hall : (chainB x.t).take j = chainB x.t := List.take_of_length_le (by rw [chain_len]; omega)
                  have HNK : Hid (∀ s ∈ (tagsB xs).take (k + 1), ∀ u ∈ chainB s, idxB (tagsB ys) u = none) := Lib.hid (by
                    rw [E1.out]
                    intro v hv
                    rcases List.mem_append.1 hv with hv | hv
                    · exact hno.out v hv
                    · simp at hv; subst hv
                      have := hnj.out; rwa [hall] at this)
                  have hji : ¬ (j : Int) < (sizeB x.t : Int) + 1 := by omega
                  clear hZ hall hno hnj
                  go_wp2_with fail
                  go_roundw
                  case rel => exact ⟨k + 1, by omega, by go_num, up_call hB5 hbj, .inl ⟨rfl, HNK⟩⟩
                  case measure => simp [intOf]; omega
              · have hp0 : ¬ (p : Int) < 0 := by omega
                clear hZ hno
                go_wp2_with fail
                go_roundw
                case rel => exact ⟨k + 1, by omega, by go_num, up_call hB5 hbj, .inr ⟨p, rfl, hp⟩⟩
                case measure => simp [intOf]; omega
          · have hall : (tagsB xs).take k = tagsB xs := List.take_of_length_le (by have := HL.out; simp; omega)
            obtain ⟨e1, e2⟩ := pick_not HFA.out (pick_none.2 (by have := hno.out; rwa [hall] at this))
            have DP : Hid (∀ W, Below w.heap.size w W → Calls Tryd.prog 12 #[.slice A n c, .slice A' m c'] W fun e w' => e = .returned (.tuple #[.int .i64 0, .iface 24 (.int .i64 2)]) ∧ Below W.heap.size W w') :=
              Lib.hid (by have := CP.out; rw [e1, e2] at this; exact this)
            have DE : Hid (∀ W, Below w.heap.size w W → Calls Tryd.prog 13 #[.iface 24 (.int .i64 2), .int .i64 2] W (TrueBelow W)) :=
              Lib.hid (by have := CE.out; rw [e1] at this; exact this)
            have hki : ¬ (k : Int) < (n : Int) := by omega
            clear h h' hall hno e1 e2 CP CE
            go_wp2_with (first
              | (go_at_call 12; (with_reducible refine (DP.out _ hb).mono ?_); rintro e w4 ⟨rfl, hb4⟩; (have hB4 := up_call hb hb4); dsimp only)
              | (go_at_call 13; (with_reducible refine (DE.out _ hB4).mono ?_); rintro e w5 ⟨rfl, hb5⟩))
            go_ret
            exact ⟨rfl, up_call hB4 hb5⟩
        · obtain ⟨e1, e2⟩ := pick_found HFA.out hp.out
          have DP : Hid (∀ W, Below w.heap.size w W → Calls Tryd.prog 12 #[.slice A n c, .slice A' m c'] W fun e w' => e = .returned (.tuple #[.int .i64 (p : Nat), .nilIface]) ∧ Below W.heap.size W w') :=
            Lib.hid (by have := CP.out; rw [e1, e2] at this; exact this)
          have DE : Hid (∀ W, Below w.heap.size w W → Calls Tryd.prog 13 #[.nilIface, .int .i64 0] W (TrueBelow W)) :=
            Lib.hid (by have := CE.out; rw [e1] at this; exact this)
          have hp0 : ¬ (p : Int) < 0 := by omega
          clear h h' e1 e2 CP CE hp
          go_wp2_with (first
            | (go_at_call 12; (with_reducible refine (DP.out _ hb).mono ?_); rintro e w4 ⟨rfl, hb4⟩; (have hB4 := up_call hb hb4); dsimp only)
            | (go_at_call 13; (with_reducible refine (DE.out _ hB4).mono ?_); rintro e w5 ⟨rfl, hb5⟩))
          go_ret
          exact ⟨rfl, up_call hB4 hb5⟩
end Go.Proofs.YtdckmekfggigjaaDoor
