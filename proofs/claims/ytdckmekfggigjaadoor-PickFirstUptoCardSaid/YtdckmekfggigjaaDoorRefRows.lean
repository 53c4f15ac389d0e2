/- The reference's TagsFault; whether two rows of numbers are the same; whether two errors are of one number; whether an error is the one told. -/
import Derived.Test.YtdckmekfggigjaaDoorPickWalk
import Derived.Test.YtdckmekfggigjaaDoorRefFaultWalk
import Derived.Test.YtdckmekfggigjaaDoorTold
namespace Go.Proofs.YtdckmekfggigjaaDoor
open Go.RowKit Go.Maps
attribute [local go_sem ↓] Go.wp_at_zero Go.wp_at_succ

abbrev FaultCall (x : TagX) (v : Value) (W : World) : Prop :=
  Calls Tryd.prog 14 #[argX x] W fun e w' => e = .returned v ∧ Below W.heap.size W w'
theorem fault_x (x : TagX) (hz : Sized x.t x.t.vars.length) (hc : x.t.vars.length ≤ x.c) (W : World) (h : Reads W W.heap.size 1 x.A x.t.vars.length (sv x.t.vars)) : FaultCall x (.int .i64 (faultB x.t : Nat)) W :=
  refFault_any x.t.lang x.t.script x.t.region x.A x.t.vars.length x.c x.t.vars W h hz.vars hz.few hc hz.lang hz.region
theorem ret_num {a b : Nat} (h : a = b) : Ending.returned (.int .i64 (a : Nat)) = .returned (.int .i64 (b : Nat)) := by rw [h]

set_option maxHeartbeats 4000000 in
set_option maxRecDepth 100000 in
theorem tagsFault_any (A : Option Addr) (n c : Nat) (xs : List TagX) (w : World) (h : TagsAt w w.heap.size A n xs) (hn : n < maxLen) (hz : SizedAll xs) :
    Calls Tryd.prog 9 #[.slice A n c] w fun e w' => e = .returned (.int .i64 (faultsB (tagsB xs) : Nat)) ∧ Below w.heap.size w w' := by
  have HL := Lib.hid h.len
  unfold maxLen at hn
  go_enter Tryd.func9, Tryd.ntmps9
  go_wp2_with fail
  go_loopw [3] (fun i wr => ∃ k : Nat, k ≤ n ∧ i = .int .i64 k ∧ Below w.heap.size w wr ∧ Hid (∀ t ∈ (tagsB xs).take k, RightB t)) (fun i _ => n - (intOf i).toNat)
  case atStart => exact ⟨0, Nat.zero_le _, rfl, Below.refl _ _, Lib.hid (by simp)⟩
  case round =>
    obtain ⟨k, hk, rfl, hb, hall⟩ := hrel
    by_cases hlt : k < n
    · have hkx : k < xs.length := by have := HL.out; omega
      have hXr := (h.below hb).more hb.size
      obtain ⟨ad, rfl, hadb, x0, x1, x2, x3, hxc, hxr⟩ := hXr.at_ (List.getElem?_eq_getElem hkx)
      rw [← add_of_add, add_pos _ _ (by omega)] at x1 x2 x3
      have hbk : ((ad.add (k * 4)).block) < wr.heap.size := by rw [block_of_add]; exact hadb
      have CC : ∀ W : World, Below w.heap.size w W → FaultCall xs[k] (.int .i64 (faultB xs[k].t : Nat)) W := fun W hW =>
        fault_x _ (hz _ (List.getElem_mem hkx)) hxc W ((((h.below hW).more hW.size).vars _ (List.getElem_mem hkx)).2)
      have E1 := Lib.hid (tags_take xs k hkx)
      have E2 := Lib.hid (tags_get xs k hkx)
      clear hXr hxr h hxc
      generalize xs[k] = x at *
      cases hf : faultB x.t with
      | zero =>
        have HF := Lib.hid hf
        rw [hf] at CC
        have HC := Lib.hid CC
        clear CC hf
        go_wp2_with (go_at_call 14; (with_reducible refine (HC.out _ hb).mono ?_); rintro e w2 ⟨rfl, hb2⟩)
        go_roundw
        case rel => exact ⟨k + 1, by omega, by go_num, up_call hb hb2, Lib.hid (by rw [E1.out]; exact right_snoc hall.out HF.out)⟩
        case measure => simp [intOf]; omega
      | succ f =>
        have hF : faultsB (tagsB xs) = f + 1 := by rw [← hf]; exact faults_at _ k _ E2.out hall.out (by rw [hf]; omega)
        rw [hf] at CC
        have hz0 : (((f + 1 : Nat) : Int) != 0) = true := by rw [bne_iff_ne]; omega
        obtain ⟨z, hzz⟩ : ∃ z : Int, ((f + 1 : Nat) : Int) = z := ⟨_, rfl⟩
        rw [hzz] at CC hz0
        have HF := Lib.hid hF
        have HZ := Lib.hid hzz
        have HC := Lib.hid CC
        clear CC hf hF hzz
        go_upto_region 5 with (go_at_call 14; (with_reducible refine (HC.out _ hb).mono ?_); rintro e w2 ⟨rfl, hb2⟩)
        have y0 := (hb2.cell hbk).trans x0
        have y1 := (hb2.cell (p := ⟨(ad.add (k * 4)).block, (ad.add (k * 4)).off + 1, none⟩) hbk).trans x1
        have y2 := (hb2.cell (p := ⟨(ad.add (k * 4)).block, (ad.add (k * 4)).off + 2, none⟩) hbk).trans x2
        have y3 := (hb2.cell (p := ⟨(ad.add (k * 4)).block, (ad.add (k * 4)).off + 3, none⟩) hbk).trans x3
        have hB2 := up_call hb hb2
        clear x0 x1 x2 x3
        go_wp2_with (go_at_call 14; (with_reducible refine (HC.out _ hB2).mono ?_); rintro e w3 ⟨rfl, hb3⟩)
        go_ret
        exact ⟨(congrArg (fun z => Ending.returned (.int .i64 z)) HZ.out.symm).trans (ret_num HF.out.symm), up_call hB2 hb3⟩
    · have hall' : (tagsB xs).take k = tagsB xs := List.take_of_length_le (by have := HL.out; simp; omega)
      go_wp2_with fail
      go_ret
      exact ⟨ret_num (a := 0) (by have := hall.out; rw [hall'] at this; exact (faults_zero.2 this).symm), hb⟩

/-- numbers, as cells -/
abbrev iv (l : List Nat) : List Value := l.map fun i => Value.int .i64 (i : Nat)
theorem iv_one (l : List Nat) : ∀ u ∈ iv l, u.oneCell' = true := by
  intro u hu
  obtain ⟨i, _, rfl⟩ := List.mem_map.1 hu
  rfl
theorem iv_snoc (l : List Nat) (i : Nat) : iv (l ++ [i]) = iv l ++ [.int .i64 (i : Nat)] := by simp [iv]

set_option maxHeartbeats 2000000 in
set_option maxRecDepth 100000 in
theorem ints_same (A A' : Option Addr) (n c c' : Nat) (l : List Nat) (w : World) (B B' : Nat) (h : Reads w B 1 A n (iv l)) (h' : Reads w B' 1 A' n (iv l)) (hn : n < maxLen) :
    Calls Tryd.prog 17 #[.slice A n c, .slice A' n c'] w fun e w' => e = .returned (.bool true) ∧ Below w.heap.size w w' := by
  have hl : l.length = n := by have := h.1; simpa [iv] using this
  have HL := Lib.hid hl
  unfold maxLen at hn
  go_enter Tryd.func17, Tryd.ntmps17
  go_wp2_with fail
  go_loopw [5] (fun i wr => ∃ k d : Nat, k ≤ n ∧ i = .int .i64 k ∧ w.drewN d = wr) (fun i _ => n - (intOf i).toNat)
  case atStart => exact ⟨0, 0, Nat.zero_le _, rfl, rfl⟩
  case round =>
    obtain ⟨k, d, hk, rfl, rfl⟩ := hrel
    by_cases hlt : k < n
    · obtain ⟨ad, u, rfl, hadb, hu, hcell⟩ := h.at_ hlt
      obtain ⟨ad', u', rfl, hadb', hu', hcell'⟩ := h'.at_ hlt
      have hkl : k < l.length := by omega
      have e : (iv l)[k]? = some (.int .i64 (l[k] : Nat)) := by simp [iv, hkl]
      rw [e] at hu hu'
      injection hu with hu; injection hu' with hu'
      subst hu; subst hu'
      have hki : (k : Int) < (n : Int) := by omega
      clear h h' e
      generalize ((l[k] : Nat) : Int) = z at *
      go_wp2_with fail
      go_quiet (fail)
      go_wp2_with fail
      go_roundw
      case rel => exact ⟨k + 1, _, by omega, by go_num, rfl⟩
      case measure => simp [intOf]; omega
    · clear h h'
      go_wp2_with fail
      go_ret
      exact ⟨rfl, below_drewN (Below.refl _ _) d⟩

theorem errType_later {w W : World} (h : ErrType w) (hb : Below w.heap.size w W) : ErrType W := by
  unfold ErrType
  rw [hb.cell (World.block_lt_of_cell? w _ h)]
  exact h
set_option maxHeartbeats 2000000 in
/-- an error and its own number, and what another error tells -/
theorem told_same (k : Nat) (w : World) (hg : ErrType w) (hlt : ∀ W, Below w.heap.size w W → ErrType W) : Calls Tryd.prog 23 #[errV k, errV k] w (TrueBelow w) := by
  have HT := Lib.hid (told_any k w hg)
  have HT2 := Lib.hid (fun (W : World) (hW : Below w.heap.size w W) => told_any k W (hlt W hW))
  clear hg hlt
  generalize errV k = ev at *
  go_enter Tryd.func23, Tryd.ntmps23
  go_wp2_with (first
    | (go_at_call 30; (with_reducible refine HT.out.mono ?_); rintro e w' ⟨rfl, hb⟩)
    | (go_at_call 30; (with_reducible refine (HT2.out _ hb).mono ?_); rintro e w'' ⟨rfl, hb2⟩))
  go_ret
  exact ⟨rfl, up_call hb hb2⟩
end Go.Proofs.YtdckmekfggigjaaDoor
