/- The program's operands of a number: what stands ahead of the point and behind it, with and without the noughts at the end; what lay in memory stays as it was. -/
import Derived.Test.YteedhnpdffnfjaaDoorDecGround
import Derived.Test.YteedhnpdffnfjaaDoorDecFacts
import Derived.Test.YteedhnpdffnfjaaDoorBoxes
import Derived.Deep.RegionHeld3
import Derived.Deep.DeepCutAuto
import Derived.Deep.DrawnRows
namespace Go.Proofs.YteedhnpdffnfjaaDoor
namespace D
open Go.RowKit

set_option maxHeartbeats 2000000 in
theorem trim_any (k f : Nat) (w : World) (hk : k ≤ 9) (hf : f < 1000000000) : Calls Tryd.prog 22 #[.int .i64 (k : Int), .int .i64 (f : Int)] w fun e w' =>
    e = .returned (.tuple #[.int .i64 ((trail k f : Nat) : Int), .int .i64 ((f / 10 ^ (k - trail k f) : Nat) : Int)]) ∧ w = w' := by
  generalize ht : trail k f = t
  generalize hq : f / 10 ^ (k - t) = q
  go_enter Tryd.func22, Tryd.ntmps22
  go_wp2_with fail
  go_loopw [0, 1] (fun a b wr => ∃ k' f' : Nat, a = .int .i64 (k' : Int) ∧ b = .int .i64 (f' : Int) ∧ k' ≤ k ∧ f' ≤ f ∧ trail k' f' = t ∧ f' / 10 ^ (k' - t) = q ∧ w = wr) (fun a _ _ => (intOf a).toNat)
  case atStart => exact ⟨k, f, rfl, rfl, Nat.le_refl _, Nat.le_refl _, ht, hq, rfl⟩
  case round =>
    obtain ⟨k', f', rfl, rfl, hk', hf', ht', hq', rfl⟩ := hrel
    cases k' with
    | zero =>
      have e1 : t = 0 := by rw [← ht']; rfl
      have e2 : f' = q := by rw [← hq', e1]; simp
      subst e1; subst e2
      go_wp2_with fail
      go_ret2
      exact ⟨rfl, rfl⟩
    | succ k' =>
      by_cases h0 : f' % 10 = 0
      · have e1 : trail k' (f' / 10) = t := by rw [← ht']; show _ = if f' % 10 = 0 then _ else _; rw [if_pos h0]
        have hl := trail_le k' (f' / 10)
        have e2 : f' / 10 / 10 ^ (k' - t) = q := by rw [← hq', show k' + 1 - t = 1 + (k' - t) by omega, pow_split, Nat.pow_one, Nat.div_div_eq_div_mul]
        have e3 : (f' : Int).tmod 10 = 0 := by rw [Int.tmod_eq_emod_of_nonneg (by omega)]; omega
        go_wp2_with fail
        go_roundw
        case rel => exact ⟨k', f' / 10, by go_num, by rw [show (f' : Int) / 10 = ((f' / 10 : Nat) : Int) by omega], by omega, by omega, e1, e2, trivial⟩
        case measure => simp [intOf]
      · have e1 : t = k' + 1 := by rw [← ht']; show (if f' % 10 = 0 then _ else _) = _; rw [if_neg h0]
        have e2 : f' = q := by rw [← hq', e1]; simp
        have e3 : ¬ (f' : Int).tmod 10 = 0 := by rw [Int.tmod_eq_emod_of_nonneg (by omega)]; omega
        subst e1; subst e2
        go_wp2_with fail
        go_ret2
        exact ⟨rfl, rfl⟩

/-- a number's operands as a value -/
abbrev opsL (i v w f t : Int) : List Value := [.int .i64 i, .int .i64 v, .int .i64 w, .int .i64 f, .int .i64 t]
def opsA (i v w f t : Int) : Value := .agg #[.int .i64 i, .int .i64 v, .int .i64 w, .int .i64 f, .int .i64 t]

theorem trim_ops {c s : Int} (h : Right c s) (w : World) : Calls Tryd.prog 22 #[.int .i64 s, .int .i64 (opsF c s)] w fun e w' =>
    e = .returned (.tuple #[.int .i64 (opsW c s), .int .i64 (opsT c s)]) ∧ w = w' := by
  obtain ⟨_, ⟨_, hb⟩, _⟩ := ops_bounds h
  obtain ⟨h0, h9, _, _⟩ := h
  have hb' := ten_le_nine h0 h9
  have hs : s = (s.toNat : Int) := by omega
  have := trim_any s.toNat (c.natAbs % 10 ^ s.toNat) w (by omega) (by unfold opsF at hb; omega)
  rw [← hs] at this
  exact this
theorem ops_div {m s : Int} (hm : 0 ≤ m) : m / ten s = opsI m s ∧ m % ten s = opsF m s := by
  unfold opsI opsF
  rw [ten_cast s.toNat rfl]
  obtain ⟨n, rfl⟩ := Int.eq_ofNat_of_zero_le hm
  exact ⟨rfl, rfl⟩
/-- five cells of a box, written -/
abbrev put5 (W : World) (p : Nat) (a b c d e : Value) : World := ((((W.setCell ⟨p, 0, none⟩ a).setCell ⟨p, 1, none⟩ b).setCell ⟨p, 2, none⟩ c).setCell ⟨p, 3, none⟩ d).setCell ⟨p, 4, none⟩ e
theorem Bs.put5 {w W : World} {l : List (Nat × List Value)} {p : Nat} {v0 v1 v2 v3 v4 : Value} (h : Bs w W ((p, [v0, v1, v2, v3, v4]) :: l)) (a b c d e : Value) : Bs w (D.put5 W p a b c d e) ((p, [a, b, c, d, e]) :: l) :=
  ((((h.set (j := 0) (i := 0) rfl a).set (j := 0) (i := 1) rfl b).set (j := 0) (i := 2) rfl c).set (j := 0) (i := 3) rfl d).set (j := 0) (i := 4) rfl e

set_option maxHeartbeats 4000000 in
theorem of_pos (sg m s : Int) (hm : 0 ≤ m) (h : Right (sg * m) s) (hsg : sg = 1 ∨ (sg = -1 ∧ 0 < m)) (w : World) : Calls Tryd.prog 14 #[.agg #[.int .i64 (sg * m), .int .i64 s]] w
    (Gives w (.tuple #[.agg #[.int .i64 (opsI m s), .int .i64 s, .int .i64 (opsW m s), .int .i64 (opsF m s), .int .i64 (opsT m s)], .nilIface])) := by
  have CK := Lib.hid fun W => check_any (sg * m) s W
  simp only [fault_ok h, errV_zero] at CK
  have H0 : Hid (Bs w _ [(w.heap.size + 1, opsL 0 0 0 0 0), _]) := Lib.hid (bs_two w [.int .i64 (sg * m), .int .i64 s] (opsL 0 0 0 0 0) 36 41)
  have hR : Right m s := by rcases hsg with rfl | ⟨rfl, _⟩ <;> unfold Right at * <;> omega
  have CT := Lib.hid fun W => trim_ops hR W
  obtain ⟨ed, er⟩ := ops_div (s := s) hm
  obtain ⟨h0, h9, hc0, hc1⟩ := hR
  clear h
  rcases hsg with rfl | ⟨rfl, hpos⟩
  all_goals
    first
      | (simp only [Int.one_mul] at CK H0 ⊢)
      | (simp only [Int.neg_one_mul] at CK H0 ⊢)
    go_enter Tryd.func14, Tryd.ntmps14
    go_upto_region 2 with (first
      | (go_at_call 12; (with_reducible refine (CK.out _).mono ?_); rintro e w1 ⟨rfl, hb1⟩))
    have H1 := Lib.hid (H0.out.call hb1)
    clear hb1
    obtain ⟨r0, r1, r2, r3, r4, d0, d1, -⟩ := H1.out.cells
    go_upto_region 5 with fail
    go_wp2_with fail
    go_loopw [6, 25] (fun p i wr => ∃ k : Nat, (k : Int) ≤ s ∧ i = .int .i64 k ∧ p = .int .i64 (ten k) ∧ w1 = wr) (fun _ i _ => s.toNat - (intOf i).toNat)
    case atStart => exact ⟨0, h0, rfl, rfl, rfl⟩
    case round =>
      obtain ⟨k, hk, rfl, rfl, rfl⟩ := hrel
      by_cases hlt : (k : Int) < s
      · have b0 := ten_pos (k : Int)
        have b1 := ten_le_nine (a := (k : Int)) (by omega) (by omega)
        have e1 := ten_next k
        go_wp2_with fail
        go_roundw
        case rel => exact ⟨k + 1, by omega, by go_num, by rw [e1], trivial⟩
        case measure => simp [intOf]; omega
      · obtain rfl : (k : Int) = s := by omega
        go_wp2_with fail
        have b0 := ten_pos (k : Int)
        have b1 := ten_le_nine (a := (k : Int)) (by omega) (by omega)
        have hu0 : (ten (k : Int) == 0) = false := by simp; omega
        go_quiet (fail)
        simp only [ed, er]
        have H2 := Lib.hid (H1.out.drewN nq)
        clear r0 r1 r2 r3 r4 d0 d1
        generalize w1.drewN nq = w2 at *
        obtain ⟨r0, r1, r2, r3, r4, d0, d1, -⟩ := H2.out.cells
        have f0 := H2.out.free (j := 0) (i := 0) rfl rfl
        have f1 := H2.out.free (j := 0) (i := 1) rfl rfl
        have f2 := H2.out.free (j := 0) (i := 2) rfl rfl
        have f3 := H2.out.free (j := 0) (i := 3) rfl rfl
        have f4 := H2.out.free (j := 0) (i := 4) rfl rfl
        go_wp2_with (first
          | (go_at_call 22; (with_reducible refine (CT.out _).mono ?_); rintro e w' ⟨rfl, rfl⟩; dsimp only))
        have H3 := H2.out.put5 (.int .i64 (opsI m k)) (.int .i64 k) (.int .i64 (opsW m k)) (.int .i64 (opsF m k)) (.int .i64 (opsT m k))
        obtain ⟨z0, z1, z2, z3, z4, -⟩ := H3.cells
        refine bodyPost_ret (v := .tuple #[.agg #[.int .i64 (opsI m k), .int .i64 k, .int .i64 (opsW m k), .int .i64 (opsF m k), .int .i64 (opsT m k)], .nilIface]) ?_ rfl ⟨rfl, H3.below⟩
        simp [results, Tryd.results14, go_sem, z0, z1, z2, z3, z4]
theorem of_ok {c s : Int} (h : Right c s) (w : World) : Calls Tryd.prog 14 #[.agg #[.int .i64 c, .int .i64 s]] w
    (Gives w (.tuple #[.agg #[.int .i64 (opsI c s), .int .i64 s, .int .i64 (opsW c s), .int .i64 (opsF c s), .int .i64 (opsT c s)], .nilIface])) := by
  by_cases hc : 0 ≤ c
  · have := of_pos 1 c s hc (by rwa [Int.one_mul]) (.inl rfl) w
    rwa [Int.one_mul] at this
  · have := of_pos (-1) (-c) s (by omega) (by rwa [show -1 * -c = c by omega]) (.inr ⟨rfl, by omega⟩) w
    obtain ⟨e1, e2, e3, e4⟩ := ops_neg c s
    rwa [show -1 * -c = c by omega, e1, e2, e3, e4] at this
set_option maxHeartbeats 2000000 in
theorem of_no {c s : Int} (h : ¬ Right c s) (w : World) : Calls Tryd.prog 14 #[.agg #[.int .i64 c, .int .i64 s]] w
    (Gives w (.tuple #[.agg #[.int .i64 0, .int .i64 0, .int .i64 0, .int .i64 0, .int .i64 0], .iface 30 (.int .i64 1)])) := by
  have CK := Lib.hid fun W => check_any c s W
  simp only [fault_no h, errV_one] at CK
  have H0 : Hid (Bs w _ [(w.heap.size + 1, opsL 0 0 0 0 0), _]) := Lib.hid (bs_two w [.int .i64 c, .int .i64 s] (opsL 0 0 0 0 0) 36 41)
  clear h
  go_enter Tryd.func14, Tryd.ntmps14
  go_upto_region 2 with (first
    | (go_at_call 12; (with_reducible refine (CK.out _).mono ?_); rintro e w1 ⟨rfl, hb1⟩))
  have H1 := Lib.hid (H0.out.call hb1)
  clear hb1
  obtain ⟨r0, r1, r2, r3, r4, d0, d1, -⟩ := H1.out.cells
  have f0 := H1.out.free (j := 0) (i := 0) rfl rfl
  have f1 := H1.out.free (j := 0) (i := 1) rfl rfl
  have f2 := H1.out.free (j := 0) (i := 2) rfl rfl
  have f3 := H1.out.free (j := 0) (i := 3) rfl rfl
  have f4 := H1.out.free (j := 0) (i := 4) rfl rfl
  go_wp2_with fail
  have H3 := H1.out.put5 (.int .i64 0) (.int .i64 0) (.int .i64 0) (.int .i64 0) (.int .i64 0)
  obtain ⟨z0, z1, z2, z3, z4, -⟩ := H3.cells
  refine bodyPost_ret (v := .tuple #[.agg #[.int .i64 0, .int .i64 0, .int .i64 0, .int .i64 0, .int .i64 0], .iface 30 (.int .i64 1)]) ?_ rfl ⟨rfl, H3.below⟩
  simp [results, Tryd.results14, go_sem, z0, z1, z2, z3, z4]
theorem one_and_half (w : World) : Calls Tryd.prog 14 #[.agg #[.int .i64 150, .int .i64 2]] w
    (Gives w (.tuple #[.agg #[.int .i64 1, .int .i64 2, .int .i64 1, .int .i64 50, .int .i64 5], .nilIface])) := by
  have h : Right 150 2 := by decide +kernel
  have := of_ok h w
  rwa [show opsI 150 2 = 1 by decide +kernel, show opsW 150 2 = 1 by decide +kernel, show opsF 150 2 = 50 by decide +kernel, show opsT 150 2 = 5 by decide +kernel] at this
end D
end Go.Proofs.YteedhnpdffnfjaaDoor
