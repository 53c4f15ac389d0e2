/- The reference's RelOf: the relation that a text reads as; what lay in memory stays as it was. -/
import Derived.Test.YtabglcpllfcmbaaGreatDoorRuRefCut
import Derived.Test.YtabglcpllfcmbaaGreatDoorRuRead
namespace Go.Proofs.YtabglcpllfcmbaaGreatDoor
namespace Ru
open Go.RowKit Go.Maps D

def RelP (w : World) (x : RelV) (e : Ending) (w' : World) : Prop := ∃ (A : Option Addr) (c : Nat), e = .returned (.agg #[.int .u8 x.op, .int .i64 x.mod, .bool x.nt, .slice A x.rs.length c]) ∧ x.rs.length ≤ c ∧ c ≤ maxLen ∧ w'.ownsRow w.heap.size 96 2 (.slice A x.rs.length c) x.rs.length (rgC x.rs) ∧ Below w.heap.size w w'
theorem refNumL (s : List UInt8) (w : World) (hs : s.length ≤ 4000000000) : Calls Tryz.prog 56 #[.string (str s)] w (Gives w (.int .i64 (numL s))) :=
  (refNumber_any (str s) w (by rw [ba_size, str_data]; omega)).mono fun e w' ⟨hb, h⟩ => by
    rcases h with ⟨he, h⟩ | ⟨n, he, h⟩
    · rw [str_data] at h
      rw [numL_none h]
      exact ⟨he, hb⟩
    · rw [str_data] at h
      rw [numL_some h]
      exact ⟨he, hb⟩
theorem own_up {W : World} {T : TypeId} {k n base : Nat} {v : Value} {xs : List Value} (h : W.ownsRow base T k v n xs) (o : Obj) : (W.alloc o).ownsRow base T k v n xs := own_later h ((Below.refl W.heap.size W).alloc (Nat.le_refl _) o)
theorem add_own (g j : Nat) : (⟨g, 0, none⟩ : Addr).add j = ⟨g, j, none⟩ := by unfold Addr.add; split <;> simp_all
theorem reads_at {U : World} {B n g j : Nat} {xs : List Value} {v : Value} (h : Reads U B 1 (some ⟨g, 0, none⟩) n xs) (hn : 0 < n) (hj : xs[j]? = some v) : U.cell? ⟨g, j, none⟩ = some v := by
  obtain ⟨ad, e, _, hc⟩ := h.2 hn
  injection e with e
  subst e
  have := hc j v hj
  rwa [add_own] at this
/-- boxes that lie below b, behind calls that turn nothing below b -/
structure Bu (w W : World) (b : Nat) (l : List (Nat × List Value)) : Prop where
  below : Below w.heap.size w W
  mem : MemB W w.heap.size l b
  lo : w.heap.size ≤ b
  size : b ≤ W.heap.size
theorem Bu.of {w W : World} {l : List (Nat × List Value)} (h : Bs w W l) : Bu w W W.heap.size l := ⟨h.below, h.mem, h.below.size, Nat.le_refl _⟩
theorem Bu.call {w W W' : World} {b : Nat} {l : List (Nat × List Value)} (h : Bu w W b l) (hb : Below b W W') : Bu w W' b l := ⟨h.below.trans (hb.mono h.lo), h.mem.call hb (Nat.le_refl _), h.lo, Nat.le_trans h.size hb.size⟩
theorem Bu.set {w W : World} {b : Nat} {l : List (Nat × List Value)} (h : Bu w W b l) {j p i : Nat} {vs : List Value} (hj : l[j]? = some (p, vs)) (u : Value) : Bu w (W.setCell ⟨p, i, none⟩ u) b (l.set j (p, vs.set i u)) :=
  ⟨h.below.setCell (h.mem.lt hj).2.1 u, h.mem.set u hj, h.lo, by rw [World.size_setCell]; exact h.size⟩
theorem Bu.free {w W : World} {b : Nat} {l : List (Nat × List Value)} (h : Bu w W b l) {j p i : Nat} {vs : List Value} {v : Value} (hj : l[j]? = some (p, vs)) (hi : vs[i]? = some v) : W.frozen? ⟨p, i, none⟩ = false := ((h.mem.lt hj).2.2 i v hi).2
theorem Bu.cell {w W : World} {b : Nat} {l : List (Nat × List Value)} (h : Bu w W b l) {j p i : Nat} {vs : List Value} {v : Value} (hj : l[j]? = some (p, vs)) (hi : vs[i]? = some v) : W.cell? ⟨p, i, none⟩ = some v := ((h.mem.lt hj).2.2 i v hi).1
theorem rd_blk {w : World} {g : Nat} {t : TypeId} {a b : Value} (h : Blk w g t #[a, b]) : Reads w w.heap.size 2 (some ⟨g, 0, none⟩) 1 [a, b] := ⟨rfl, fun _ => ⟨_, rfl, h.lt, fun j u hu => by
  rw [show (⟨g, 0, none⟩ : Addr).add j = ⟨g, j, none⟩ from by unfold Addr.add; split <;> simp_all, h.cell j]
  simpa using hu⟩⟩
theorem bk_new {W : World} {T : TypeId} {g : Nat} {cs : Array Value} (hg : g = W.heap.size) : Blk (W.alloc (.cells cs T)) g T cs := by subst hg; exact Blk.new W T cs
/-- a pair of one's own is put behind a row of one's own -/
theorem step_pair {ops : Array Oper} {o : Oper} {a : Act} {K : Act → World → Prop} {Q : Exit → Act → World → Prop} {E : Prop} (W : World) (hgd : o.guard = none) (s x : Operand)
    (ho : o.op = .call { callee := .builtin .append, args := #[s, x], argTypes := #[55, 55] }) (base k c3 : Nat) (A3 : Option Addr) (xs : List Value) (u v : Value) (hu : ∀ z ∈ [u, v], z.oneCell' = true)
    (hs : a.eval s = .slice A3 k c3) (hx : a.eval x = .slice (some ⟨W.heap.size, 0, none⟩) 1 1) (hown : W.ownsRow base 96 2 (.slice A3 k c3) k xs) (hbase : base ≤ W.heap.size) (hk : k ≤ 4000000001)
    (h : ∀ v' w', w'.ownsRow base 96 2 v' (k + 1) (xs ++ [u, v]) → (W.alloc (.cells #[u, v] 96)).grownBy w' (Value.slice A3 k c3).ownBlock → K (a.put o.dst v') w') :
    if Region.wanted o (yielded ops a.tmps) = true then Oper.wp Tryz.prog o a (W.alloc (.cells #[u, v] 96)) K Q else E := by
  obtain ⟨i0, hi0, hz0, hz1, hz2⟩ := info_parts rg_info
  exact step_append_any _ hgd s x 55 ho base 96 i0 _ 2 16 Tryz.underlying55 hi0 hz0 hz1 hz2 rfl (by omega) (.slice A3 k c3) k xs hs (own_up hown _) _ (some ⟨W.heap.size, 0, none⟩) 1 1 [u, v] hx (rd_blk (t := 96) (Blk.new W 96 #[u, v])) hu (by unfold maxLen; omega) (by omega) (by rw [World.size_alloc]; omega) (fun v' w' h1 h2 _ => h v' w' h1 h2)
theorem relOf_short {W : List (List UInt8)} (h : W.length < 3) : relOfW W = zero := by
  unfold relOfW
  split
  · simp at h
  · simp only [List.length_cons] at h; omega
  · rfl
theorem relOf_odd {w0 : List UInt8} {t : List (List UInt8)} (h : w0.length ≠ 1) : relOfW (w0 :: t) = zero := by
  unfold relOfW
  split
  · rename_i he; injection he with he _; subst he; exact absurd rfl h
  · rename_i he; injection he with he _; subst he; exact absurd rfl h
  · rfl
theorem relOf_mod {o : UInt8} {b c d : List UInt8} : relOfW [[o], [37], b, c, d] = tailOf o (numL b) c d := rfl
theorem relOf_plain {o : UInt8} {a b : List UInt8} {t : List (List UInt8)} (h : ¬ (a = [37] ∧ t.length = 2)) : relOfW ([o] :: a :: b :: t) = tailOf o 0 a b := by
  match t with
  | [c, d] =>
    have : a ≠ [37] := fun ha => h ⟨ha, rfl⟩
    simp [relOfW, this]
  | [] => rfl
  | [_] => rfl
  | _ :: _ :: _ :: _ => rfl
set_option maxHeartbeats 8000000 in
set_option maxRecDepth 100000 in
theorem refRelOf_any (s : List UInt8) (w : World) (hs : s.length ≤ 4000000000) : Calls Tryz.prog 30 #[.string (str s)] w (RelP w (relOfL s)) := by
  obtain ⟨i0, hi0, hz0, hz1, hz2⟩ := info_parts rg_info
  have HB1 := Lib.hid (bs_one w [.int .u8 0, .int .i64 0, .bool false, .slice none 0 0] 57)
  have CS := Lib.hid fun (U : World) => refCutL s [32] U hs (by simp) (by decide)
  have CN := Lib.hid fun (p : List UInt8) (U : World) (hp : p.length ≤ 4000000000) => refNumL p U hp
  have CC := Lib.hid fun (p sep : List UInt8) (U : World) (hp : p.length ≤ 4000000000) (h0 : sep ≠ []) (h9 : sep.length ≤ 100) => refCutL p sep U hp h0 h9
  have HLE := Lib.hid fun (p : List UInt8) (hp : p ∈ cutL [32] s) => Nat.le_trans (cut_le_all [32] s p hp) hs
  have HREL : Hid (relOfL s = relOfW (cutL [32] s)) := Lib.hid rfl
  have HMANY := Lib.hid (Nat.le_trans (cut_many [32] s (by simp)) (Nat.succ_le_succ hs))
  generalize relOfL s = x at *
  generalize cutL [32] s = W at *
  generalize hg0 : W.length = N at *
  have HN := Lib.hid hg0
  clear hg0 hs
  go_enter Tryz.func30, Tryz.ntmps30
  go_upto_region 3 with (go_at_call 29; (with_reducible refine (CS.out _).mono ?_); rintro e w1 ⟨A, c, rfl, hAc, hcm, hown, hb1⟩)
  have HB2 := Lib.hid ((HB1.out.call hb1).alloc [.int .u8 0, .int .i64 0, .bool false, .slice none 0 0] 57)
  have hlt2 : w1.heap.size < (w1.alloc (.cells #[.int .u8 0, .int .i64 0, .bool false, .slice none 0 0] 57)).heap.size := by simp
  have hown2 := own_up hown (.cells #[.int .u8 0, .int .i64 0, .bool false, .slice none 0 0] 57)
  have hRD1 := (Reads.of_own hown).alloc (Nat.le_refl _) (.cells #[.int .u8 0, .int .i64 0, .bool false, .slice none 0 0] 57)
  have hba : w.heap.size < (w.alloc (.cells #[.int .u8 0, .int .i64 0, .bool false, .slice none 0 0] 57)).heap.size := by simp
  generalize (w.alloc (.cells #[.int .u8 0, .int .i64 0, .bool false, .slice none 0 0] 57)).heap.size = b1 at *
  obtain ⟨w2, hw2⟩ : ∃ U, w1.alloc (.cells #[.int .u8 0, .int .i64 0, .bool false, .slice none 0 0] 57) = U := ⟨_, rfl⟩
  rw [hw2] at HB2 hlt2 hown2 hRD1 ⊢
  clear hw2 hown hb1 CS
  rw [HN.out] at hAc hown2 hRD1 ⊢
  unfold maxLen at hcm
  by_cases h3 : N < 3
  · have hi : (N : Int) < 3 := by omega
    have HE : Hid (x = zero) := Lib.hid (by rw [HREL.out, relOf_short (by have := HN.out; omega)])
    clear h3

    have z0 := HB2.out.cell (j := 0) (i := 0) rfl rfl
    have z1 := HB2.out.cell (j := 0) (i := 1) rfl rfl
    have z2 := HB2.out.cell (j := 0) (i := 2) rfl rfl
    have z3 := HB2.out.cell (j := 0) (i := 3) rfl rfl
    have y0 := HB2.out.cell (j := 1) (i := 0) rfl rfl
    have f0 := HB2.out.free (j := 1) (i := 0) rfl rfl
    have y1 := HB2.out.cell (j := 1) (i := 1) rfl rfl
    have f1 := HB2.out.free (j := 1) (i := 1) rfl rfl
    have y2 := HB2.out.cell (j := 1) (i := 2) rfl rfl
    have f2 := HB2.out.free (j := 1) (i := 2) rfl rfl
    have y3 := HB2.out.cell (j := 1) (i := 3) rfl rfl
    have f3 := HB2.out.free (j := 1) (i := 3) rfl rfl
    go_wp2_with fail
    have HB9 := (((HB2.out.set (j := 1) (i := 0) rfl (.int .u8 0)).set (j := 1) (i := 1) rfl (.int .i64 0)).set (j := 1) (i := 2) rfl (.bool false)).set (j := 1) (i := 3) rfl (.slice none 0 0)
    exact bodyPost_ret (v := .agg #[.int .u8 0, .int .i64 0, .bool false, .slice none 0 0]) (by simp [results, Tryz.results30, go_sem, y0, y1, y2, y3]) rfl ⟨none, 0, by rw [HE.out]; rfl, by rw [HE.out]; exact Nat.le_refl _, Nat.zero_le _, by rw [HE.out]; exact World.ownsRow_nil _ _ _ _, HB9.below⟩

  · have hi : ¬ ((N : Int) < 3) := by omega
    obtain ⟨w0, a, b, t, rfl⟩ : ∃ w0 a b t, W = w0 :: a :: b :: t := by
      match W, HN.out with
      | w0 :: a :: b :: t, _ => exact ⟨w0, a, b, t, rfl⟩
      | [], h => simp at h; omega
      | [_], h => simp at h; omega
      | [_, _], h => simp at h; omega
    obtain ⟨A', c', he, -, -, -, hg⟩ := own_shape hown2
    obtain ⟨g, hg⟩ := hg (by omega)
    injection he with he _ hcc
    subst hcc
    rw [hg] at he
    subst he
    have HX := Lib.hid fun (U : World) (hU : Below w1.heap.size w2 U) (j : Nat) (v : Value) (hj : (strC (w0 :: a :: b :: t))[j]? = some v) => reads_at (hRD1.below hU) (by omega) hj
    have x0 := HX.out _ (Below.refl _ _) 0 (.string (str w0)) (by simp [strC])
    clear hg
    by_cases h1 : w0.length = 1
    · obtain ⟨o, rfl⟩ := List.length_eq_one_iff.1 h1
      have hs1 : ((str [o]).size : Int) = 1 := by rw [ba_size, str_data]; rfl
      have q0 := HB2.out.cell (j := 0) (i := 0) rfl rfl
      have g0 := HB2.out.free (j := 0) (i := 0) rfl rfl
      clear h1
      go_upto_region 6 with fail
      rw [show ∀ h, (str [o])[0]'h = o from fun _ => rfl]
      have HB3 := Lib.hid (HB2.out.set (j := 0) (i := 0) rfl (.int .u8 (o.toNat : Int)))
      have hbl3 : Below w1.heap.size w2 (w2.setCell ⟨w1.heap.size, 0, none⟩ (.int .u8 (o.toNat : Int))) := (Below.refl w1.heap.size w2).setCell (p := ⟨w1.heap.size, 0, none⟩) (Nat.le_refl w1.heap.size) _
      obtain ⟨w3, hw3⟩ : ∃ U, w2.setCell ⟨w1.heap.size, 0, none⟩ (.int .u8 (o.toNat : Int)) = U := ⟨_, rfl⟩
      rw [hw3] at HB3 hbl3 ⊢
      clear hw3 x0 q0 g0 hRD1 hown2
      have x1 := HX.out _ hbl3 1 (.string (str a)) (by simp [strC])
      go_cut [34] (fun s34 wx => s34 = .bool (decide (a = [37] ∧ t.length = 2)) ∧ w3 = wx)
      case first =>
        by_cases ha : a = [37]
        · subst ha
          by_cases h5 : t.length = 2
          · have hi5 : (N : Int) = 5 := by have := HN.out; simp at this; omega
            go_wp2_with fail
            go_meet
            exact ⟨by simp [h5], rfl⟩
          · have hi5 : ¬ ((N : Int) = 5) := by have := HN.out; simp at this; omega
            go_wp2_with fail
            go_meet
            exact ⟨by simpa [h5] using hi5, rfl⟩
        · have hab : (a == [37]) = false := by simpa using ha
          go_wp2_with fail
          go_meet
          exact ⟨by simp [ha], rfl⟩
      case rest =>
        obtain ⟨rfl, rfl⟩ := hcut
        clear x1
        obtain ⟨bt, hbt⟩ : ∃ y, decide (a = [37] ∧ t.length = 2) = y := ⟨_, rfl⟩
        rw [hbt]
        have HBT := Lib.hid hbt
        clear hbt
        go_upto_if 34 with fail
        go_cut [3] (fun s3 wx => ∃ (mod : Int) (k0 n0 c0 : Nat) (a' b' : List UInt8), s3 = .slice (some ⟨g, k0, none⟩) n0 c0 ∧ 3 ≤ n0 ∧ n0 ≤ c0 ∧ c0 ≤ 2 ^ 63 - 1 ∧ Below w1.heap.size w2 wx ∧ Bs w wx [(w1.heap.size, [.int .u8 (o.toNat : Int), .int .i64 mod, .bool false, .slice none 0 0]), (w.heap.size, [.int .u8 0, .int .i64 0, .bool false, .slice none 0 0])] ∧ relOfW ([o] :: a :: b :: t) = tailOf o mod a' b' ∧ (strC ([o] :: a :: b :: t))[k0 + 1]? = some (.string (str a')) ∧ (strC ([o] :: a :: b :: t))[k0 + 2]? = some (.string (str b')) ∧ b'.length ≤ 4000000000)
        case first =>
          cases bt
          rotate_left
          · obtain ⟨rfl, h2⟩ := of_decide_eq_true HBT.out
            match t, h2 with
            | [c1, d1], _ =>
              obtain rfl : 5 = N := HN.out
              have x2 := HX.out _ hbl3 2 (.string (str b)) (by simp [strC])
              have hbs : b.length ≤ 4000000000 := HLE.out b (by simp)
              have CNb := Lib.hid (CN.out b w3 hbs)
              go_upto_region 8 with (go_at_call 56; (with_reducible refine (CNb.out).mono ?_); rintro e w4 ⟨rfl, hb4⟩; (have HB4 := Lib.hid (HB3.out.call hb4)); (have q1 := HB4.out.cell (j := 0) (i := 1) rfl rfl); (have g1 := HB4.out.free (j := 0) (i := 1) rfl rfl))
              have HB5 := Lib.hid (HB4.out.set (j := 0) (i := 1) rfl (.int .i64 (numL b)))
              have hbl4 : Below w1.heap.size w3 w4 := hb4.mono (by have := hbl3.size; omega)
              have hbl5 := (hbl3.trans hbl4).setCell (p := ⟨w1.heap.size, 1, none⟩) (Nat.le_refl w1.heap.size) (.int .i64 (numL b))
              have hc2 : ¬ (c = 2) := by omega
              go_wp2_with fail
              go_meet
              exact ⟨numL b, 2, 3, c - 2, c1, d1, rfl, by omega, by omega, by omega, hbl5, HB5.out, rfl, by simp [strC], by simp [strC], HLE.out d1 (by simp)⟩
          · have hx := relOf_plain (o := o) (a := a) (b := b) (t := t) (of_decide_eq_false HBT.out)
            go_wp2_with fail
            go_meet
            exact ⟨0, 0, N, c, a, b, rfl, by omega, hAc, hcm, hbl3, HB3.out, hx, by simp [strC], by simp [strC], HLE.out b (by simp)⟩
        case rest =>
          obtain ⟨mod, k0, n0, c0, a', b', rfl, hn0, hc0, hc1, hbl6, hbs6, hx, ha', hb', hbl⟩ := hcut
          have HB6 := Lib.hid hbs6
          have x1 := HX.out _ hbl6 (k0 + 1) _ ha'
          have q2 := HB6.out.cell (j := 0) (i := 2) rfl rfl
          have g2 := HB6.out.free (j := 0) (i := 2) rfl rfl
          have hn1 : (1 : Int) < (n0 : Int) := by omega
          have hn2 : (2 : Int) < (n0 : Int) := by omega
          clear hbs6 ha' hbl3 HBT
          go_upto_region 10 with fail
          have HB7 := Lib.hid (HB6.out.set (j := 0) (i := 2) rfl (.bool (a' == [33, 61])))
          have hbl7 : Below w1.heap.size w2 (wc.setCell ⟨w1.heap.size, 2, none⟩ (.bool (a' == [33, 61]))) := hbl6.setCell (p := ⟨w1.heap.size, 2, none⟩) (Nat.le_refl w1.heap.size) _
          obtain ⟨w7, hw7⟩ : ∃ U, wc.setCell ⟨w1.heap.size, 2, none⟩ (.bool (a' == [33, 61])) = U := ⟨_, rfl⟩
          rw [hw7] at HB7 hbl7 ⊢
          have HLO7 : Hid (w1.heap.size < w7.heap.size) := Lib.hid (HB7.out.mem.lt (j := 0) rfl).1
          clear hw7 q2 g2 x1 HB6 hbl6
          have HREL2 : Hid (x = ⟨o.toNat, mod, a' == [33, 61], (cutL [44] b').map rgOfL⟩) := Lib.hid (by rw [HREL.out, hx]; rfl)
          generalize (a' == [33, 61]) = nt at *
          have x2 := HX.out _ hbl7 (k0 + 2) _ hb'
          have CL := Lib.hid (CC.out b' [44] w7 hbl (by simp) (by decide))
          have HPC := Lib.hid fun (p : List UInt8) (hp : p ∈ cutL [44] b') => Nat.le_trans (cut_le_all [44] b' p hp) hbl
          have HM0 := Lib.hid (Nat.le_trans (cut_many [44] b' (by simp)) (Nat.succ_le_succ hbl))
          generalize cutL [44] b' = pcs at *
          clear hx hb' hbl HREL HX HMANY
          go_upto_region 11 with (go_at_call 29; (with_reducible refine (CL.out).mono ?_); rintro e w8 ⟨A8, c8, rfl, hc8, hm8, hown8, hb8⟩)
          have HB8 := Lib.hid (HB7.out.call hb8)
          have HU8 := Lib.hid (Bu.of HB8.out)
          generalize hM : pcs.length = M at *
          have HM := Lib.hid hM
          clear hM
          have hM63 : M ≤ 4000000001 := HM0.out
          clear HB7 HB8 CL hb8
          go_wp2_with fail
          go_loopw [6, 7] (fun i _ wr => ∃ (k : Nat) (done : List (Int × Int)) (A3 : Option Addr) (c3 : Nat), k ≤ M ∧ done.length = k ∧ i = .int .i64 k ∧ Hid (Bu w wr w8.heap.size [(w1.heap.size, [.int .u8 (o.toNat : Int), .int .i64 mod, .bool nt, .slice A3 k c3]), (w.heap.size, [.int .u8 0, .int .i64 0, .bool false, .slice none 0 0])]) ∧ wr.ownsRow w8.heap.size 96 2 (.slice A3 k c3) k (rgC done) ∧ wr.ownsRow w7.heap.size 9 1 (.slice A8 M c8) M (strC pcs) ∧ Hid (done = (pcs.take k).map rgOfL)) (fun i _ _ => M - (intOf i).toNat)
          case atStart => exact ⟨0, [], none, 0, Nat.zero_le _, rfl, rfl, HU8, World.ownsRow_nil _ _ _ _, hown8, Lib.hid rfl⟩
          case round =>
            obtain ⟨k, done, A3, c3, hk, hdl, rfl, HU, hown3, hownP, HD⟩ := hrel
            by_cases hlt : k < M
            · have hkr : k < pcs.length := by have := HM.out; omega
              have hki : (k : Int) < (M : Int) := by omega
              have hki0 : (0 : Int) ≤ (k : Int) := by omega
              obtain ⟨ad, u, rfl, hadb, hu, x0⟩ := (Reads.of_own hownP).at_ (k := k) hlt
              have hu2 : u = .string (str pcs[k]) := by
                rw [strC_get, List.getElem?_eq_getElem hkr] at hu
                injection hu with hu
                exact hu.symm
              rw [hu2] at x0
              have hpl := HPC.out pcs[k] (List.getElem_mem hkr)
              have CP := Lib.hid (CC.out pcs[k] [46, 46] wr hpl (by simp) (by decide))
              have HTK : Hid ((pcs.take (k + 1)).map rgOfL = done ++ [rgOfL pcs[k]]) := Lib.hid (by rw [List.take_succ_eq_append_getElem hkr, List.map_append, ← HD.out]; rfl)
              clear hu hu2
              generalize pcs[k] = pc at *
              go_upto_region 15 with (go_at_call 29; (with_reducible refine (CP.out).mono ?_); rintro e w14 ⟨A14, c14, rfl, hc14, hm14, hown14, hb14⟩)
              generalize hpp : cutL [46, 46] pc = pp at *
              have hL0 : 0 < pp.length := by rw [← hpp]; exact List.length_pos_iff.2 (cut_ne _ _)
              have HRG : Hid (rgOfL pc = (numL (pp.headD []), numL (pp.getLastD []))) := Lib.hid (by rw [← hpp]; rfl)
              have HPL := Lib.hid fun (p : List UInt8) (hp : p ∈ pp) => (by rw [← hpp] at hp; exact Nat.le_trans (cut_le_all [46, 46] pc p hp) hpl : p.length ≤ 4000000000)
              have hLm : pp.length ≤ 4000000001 := by rw [← hpp]; exact Nat.le_trans (cut_many [46, 46] pc (by simp)) (Nat.succ_le_succ hpl)
              clear hpp CP
              obtain ⟨q, hq⟩ : ∃ q, pp.length = q + 1 := ⟨pp.length - 1, by omega⟩
              obtain ⟨A', c', he, -, -, -, hg⟩ := own_shape hown14
              obtain ⟨g14, hg⟩ := hg (by omega)
              injection he with he _ hcc
              rw [hg] at he
              subst he hcc
              have z3 := (HU.out.call (hb14.mono HU.out.size)).cell (j := 0) (i := 3) rfl rfl
              have hR14 := Reads.of_own hown14
              obtain ⟨p0, hp0⟩ : ∃ p, pp[0]? = some p := ⟨pp[0], List.getElem?_eq_getElem (by omega)⟩
              obtain ⟨p1, hp1⟩ : ∃ p, pp[q]? = some p := ⟨pp[q], List.getElem?_eq_getElem (by omega)⟩
              have x0' := reads_at hR14 hL0 (j := 0) (v := .string (str p0)) (by simp [strC, hp0])
              have x1' := reads_at hR14 hL0 (j := q) (v := .string (str p1)) (by simp [strC, hp1])
              have hl0 := HPL.out p0 (List.mem_of_getElem? hp0)
              have hl1 := HPL.out p1 (List.mem_of_getElem? hp1)
              rw [hq] at hc14 ⊢
              have hqi : ((q : Int) + 1 - 1) = (q : Int) := by omega
              have hqw : IntKind.i64.wrap (q : Int) = (q : Int) := by rw [IntKind.wrap_i64]; omega
              have hq0 : (0 : Int) ≤ (q : Int) := by omega
              have hq1 : (q : Int) < (q : Int) + 1 := by omega
              have HRG2 : Hid (rgOfL pc = (numL p0, numL p1)) := Lib.hid (by
                rw [HRG.out, show pp.headD [] = p0 from by cases pp with | nil => simp at hp0 | cons a l => simpa using hp0, show pp.getLastD [] = p1 from by rw [List.getLastD_eq_getLast?, List.getLast?_eq_getElem?, hq, Nat.add_sub_cancel, hp1]; rfl])
              have hlt14 : g14 < w14.heap.size := World.block_lt_of_cell? w14 _ x1'
              have hltb : w1.heap.size < w14.heap.size := World.block_lt_of_cell? w14 _ z3
              have hO14 := own_later hown3 hb14
              have hP14 := own_later hownP hb14
              have hR14 : Below w8.heap.size wr w14 := hb14.mono HU.out.size
              have h2c : ∀ u ∈ [Value.int .i64 (numL p0), Value.int .i64 (numL p1)], u.oneCell' = true := by intro u hu; simp at hu; rcases hu with rfl | rfl <;> rfl
              have hs8 := HU.out.size
              have hlo8 : w1.heap.size < w8.heap.size := (HU.out.mem.lt (j := 0) rfl).1
              have hlo7 : w1.heap.size < w7.heap.size := HLO7.out
              clear hg x0 hown3 hownP hown14
              go_region_law (first
                | (go_simp; go_at_call 56; (with_reducible refine (CN.out p0 _ hl0).mono ?_); rintro e w15 ⟨rfl, hb15⟩; (have hB15 : Below w14.heap.size w14 w15 := bel_call (w := w14) (by repeat (first | exact Below.refl _ _ | with_reducible refine Below.drew ?_)) hb15); (have y1 := (hB15.cell (p := ⟨g14, q, none⟩) hlt14).trans x1'); (have y3 := (hB15.cell (p := ⟨w1.heap.size, 3, none⟩) hltb).trans z3))
                | (go_simp; go_at_call 56; (with_reducible refine (CN.out p1 _ hl1).mono ?_); rintro e w16 ⟨rfl, hb16⟩; (have hB16 : Below w14.heap.size w14 w16 := bel_call (w := w14) (by repeat (first | exact hB15 | with_reducible refine Below.drew ?_)) hb16); (have y3' := (hB16.cell (p := ⟨w1.heap.size, 3, none⟩) hltb).trans z3); (have hL16 : w8.heap.size ≤ w16.heap.size := Nat.le_trans hs8 (Nat.le_trans hb14.size hB16.size)); (have hR16 := hR14.trans (hB16.mono (Nat.le_trans hs8 hb14.size))); (have hO16 := own_later hO14 hB16); (have hP16 := own_later hP14 hB16); (have y3a : (w16.alloc (.cells #[.int .i64 (numL p0), .int .i64 (numL p1)] 96)).cell? ⟨w1.heap.size, 3, none⟩ = _ := (((Below.refl w16.heap.size w16).alloc (Nat.le_refl _) (.cells #[.int .i64 (numL p0), .int .i64 (numL p1)] 96)).cell (p := ⟨w1.heap.size, 3, none⟩) (World.block_lt_of_cell? w16 _ y3')).trans y3'))
                | (refine step_pair w16 (by rfl) (.tmp 63) (.tmp 76) (by rfl) w8.heap.size k c3 A3 (rgC done) _ _ h2c (by rfl) (by rfl) hO16 hL16 (by omega) ?_; intro v17 w17 hown17 hg17; (have hB17 : Below w8.heap.size wr w17 := Below.grown (hR16.alloc hL16 _) hg17 (by rw [World.size_alloc]; omega) (fun j hj => (hO14.lt j hj).1)); (have hP17 := (own_up hP16 _).kept hg17 (own_types hP14 hO14 (by decide))); (have HU17 := Lib.hid (HU.out.call hB17)); (have t3 := HU17.out.cell (j := 0) (i := 3) rfl rfl); (have t3' := HU17.out.free (j := 0) (i := 3) rfl rfl); (obtain ⟨A7, c7, rfl, hc7, hm7, -, -⟩ := own_shape hown17)))
              all_goals
                (try go_wp2_with fail)
                go_roundw
                case rel => exact ⟨k + 1, done ++ [rgOfL pc], A7, c7, by omega, by simp [hdl], by go_num, Lib.hid (HU17.out.set (j := 0) (i := 3) rfl (.slice A7 (k + 1) c7)), own_set (by rw [rgC_snoc, HRG2.out]; exact hown17) hlo8 3 _, own_set hP17 hlo7 3 _, Lib.hid HTK.out.symm⟩
                case measure => simp [intOf]; omega
            · have hki : ¬ ((k : Int) < (M : Int)) := by omega
              have HE : Hid (x = ⟨o.toNat, mod, nt, done⟩) := Lib.hid (by rw [HREL2.out, HD.out, List.take_of_length_le (by have := HM.out; omega)])
              obtain ⟨A', c', he, hc3, hm3, -, -⟩ := own_shape hown3
              injection he with hea _ hec
              subst hea hec
              subst hdl
              have hR8 : w.heap.size < w8.heap.size := (HU.out.mem.lt (j := 1) rfl).1

              have z0 := HU.out.cell (j := 0) (i := 0) rfl rfl
              have z1 := HU.out.cell (j := 0) (i := 1) rfl rfl
              have z2 := HU.out.cell (j := 0) (i := 2) rfl rfl
              have z3 := HU.out.cell (j := 0) (i := 3) rfl rfl
              have y0 := HU.out.cell (j := 1) (i := 0) rfl rfl
              have f0 := HU.out.free (j := 1) (i := 0) rfl rfl
              have y1 := HU.out.cell (j := 1) (i := 1) rfl rfl
              have f1 := HU.out.free (j := 1) (i := 1) rfl rfl
              have y2 := HU.out.cell (j := 1) (i := 2) rfl rfl
              have f2 := HU.out.free (j := 1) (i := 2) rfl rfl
              have y3 := HU.out.cell (j := 1) (i := 3) rfl rfl
              have f3 := HU.out.free (j := 1) (i := 3) rfl rfl
              go_wp2_with fail
              have HB9 := (((HU.out.set (j := 1) (i := 0) rfl (.int .u8 (o.toNat : Int))).set (j := 1) (i := 1) rfl (.int .i64 mod)).set (j := 1) (i := 2) rfl (.bool nt)).set (j := 1) (i := 3) rfl (.slice A3 done.length c3)
              exact bodyPost_ret (v := .agg #[.int .u8 (o.toNat : Int), .int .i64 mod, .bool nt, .slice A3 done.length c3]) (by simp [results, Tryz.results30, go_sem, y0, y1, y2, y3]) rfl ⟨A3, c3, by rw [HE.out], by rw [HE.out]; exact hc3, hm3, by rw [HE.out]; exact own_base (own_set (own_set (own_set (own_set hown3 hR8 0 (.int .u8 (o.toNat : Int))) hR8 1 (.int .i64 mod)) hR8 2 (.bool nt)) hR8 3 (.slice A3 done.length c3)) (Nat.le_of_lt hR8), HB9.below⟩

    · have HE : Hid (x = zero) := Lib.hid (by rw [HREL.out, relOf_odd h1])
      have hs0 : ¬ (((str w0).size : Int) = 1) := by rw [ba_size, str_data]; omega
      clear hRD1

      have z0 := HB2.out.cell (j := 0) (i := 0) rfl rfl
      have z1 := HB2.out.cell (j := 0) (i := 1) rfl rfl
      have z2 := HB2.out.cell (j := 0) (i := 2) rfl rfl
      have z3 := HB2.out.cell (j := 0) (i := 3) rfl rfl
      have y0 := HB2.out.cell (j := 1) (i := 0) rfl rfl
      have f0 := HB2.out.free (j := 1) (i := 0) rfl rfl
      have y1 := HB2.out.cell (j := 1) (i := 1) rfl rfl
      have f1 := HB2.out.free (j := 1) (i := 1) rfl rfl
      have y2 := HB2.out.cell (j := 1) (i := 2) rfl rfl
      have f2 := HB2.out.free (j := 1) (i := 2) rfl rfl
      have y3 := HB2.out.cell (j := 1) (i := 3) rfl rfl
      have f3 := HB2.out.free (j := 1) (i := 3) rfl rfl
      go_wp2_with fail
      have HB9 := (((HB2.out.set (j := 1) (i := 0) rfl (.int .u8 0)).set (j := 1) (i := 1) rfl (.int .i64 0)).set (j := 1) (i := 2) rfl (.bool false)).set (j := 1) (i := 3) rfl (.slice none 0 0)
      exact bodyPost_ret (v := .agg #[.int .u8 0, .int .i64 0, .bool false, .slice none 0 0]) (by simp [results, Tryz.results30, go_sem, y0, y1, y2, y3]) rfl ⟨none, 0, by rw [HE.out]; rfl, by rw [HE.out]; exact Nat.le_refl _, Nat.zero_le _, by rw [HE.out]; exact World.ownsRow_nil _ _ _ _, HB9.below⟩
end Ru
end Go.Proofs.YtabglcpllfcmbaaGreatDoor
