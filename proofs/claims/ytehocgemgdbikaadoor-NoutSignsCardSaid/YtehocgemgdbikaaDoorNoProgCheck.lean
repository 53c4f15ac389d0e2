/- The program's Check of signs, and of a pattern and signs. -/
import Derived.Test.YtehocgemgdbikaaDoorNoSays
import Derived.Test.YtehocgemgdbikaaDoorNpCheck
namespace Go.Proofs.YtehocgemgdbikaaDoor
namespace No
open Go.RowKit Go.Maps D Ru Np

theorem sign_table : ((List.range 256).all fun n => signL.contains (UInt8.ofNat n) == (n == 46 || n == 44 || n == 39 || n == 95)) = true := by decide +kernel
theorem sign_is (c : UInt8) : signL.contains c = (c.toNat == 46 || c.toNat == 44 || c.toNat == 39 || c.toNat == 95) := by
  have h := List.all_eq_true.1 sign_table c.toNat (List.mem_range.2 c.toNat_lt)
  rw [beq_iff_eq] at h
  rw [← h]
  simp
theorem isSign_any (c : UInt8) (w : World) : Calls Tryd.prog 41 #[.int .u8 c.toNat] w fun e w' => e = .returned (.bool (signL.contains c)) ∧ w = w' := by
  have hb : c.toNat < 256 := c.toNat_lt
  rw [sign_is]
  generalize c.toNat = n at *
  rcases (show n = 46 ∨ n = 44 ∨ n = 39 ∨ n = 95 ∨ (n ≠ 46 ∧ n ≠ 44 ∧ n ≠ 39 ∧ n ≠ 95) by omega) with rfl | rfl | rfl | rfl | h
  · go_enter Tryd.func41, Tryd.ntmps41
    go_wp2
    go_ret
    exact ⟨rfl, rfl⟩
  · go_enter Tryd.func41, Tryd.ntmps41
    go_wp2
    go_ret
    exact ⟨rfl, rfl⟩
  · go_enter Tryd.func41, Tryd.ntmps41
    go_wp2
    go_ret
    exact ⟨rfl, rfl⟩
  · go_enter Tryd.func41, Tryd.ntmps41
    go_wp2
    go_ret
    exact ⟨rfl, rfl⟩
  · have e1 : ((n : Int) == 46) = false := beq_eq_false_iff_ne.2 (by omega)
    have e2 : ((n : Int) == 44) = false := beq_eq_false_iff_ne.2 (by omega)
    have e3 : ((n : Int) == 39) = false := beq_eq_false_iff_ne.2 (by omega)
    have e4 : ((n : Int) == 95) = false := beq_eq_false_iff_ne.2 (by omega)
    have HR := Lib.hid (show (n == 46 || n == 44 || n == 39 || n == 95) = false by simp; omega)
    generalize (n == 46 || n == 44 || n == 39 || n == 95) = R at *
    go_enter Tryd.func41, Tryd.ntmps41
    go_wp2_with fail
    go_ret
    exact ⟨by rw [HR.out]; rfl, rfl⟩
set_option maxHeartbeats 1000000 in
theorem holds_any (pt cm : UInt8) (g : Nat) (w : World) (h0 : w.cell? ⟨g, 0, none⟩ = some (.int .u8 pt.toNat)) (h1 : w.cell? ⟨g, 1, none⟩ = some (.int .u8 cm.toNat)) :
    Calls Tryd.prog 42 #[.func (.func 41) #[] #[], .slice (some ⟨g, 0, none⟩) 2 2] w fun e w' => e = .returned (.bool (signL.contains pt && signL.contains cm)) ∧ w = w' := by
  have C0 := Lib.hid (isSign_any pt w)
  have C1 := Lib.hid (isSign_any cm w)
  generalize signL.contains pt = A at *
  generalize signL.contains cm = B at *
  generalize (pt.toNat : Int) = p at *
  generalize (cm.toNat : Int) = q at *
  go_enter Tryd.func42, Tryd.ntmps42
  go_wp2_with fail
  go_loopw [9] (fun i wr => ∃ k : Nat, k ≤ 2 ∧ i = .int .i64 k ∧ w = wr ∧ Hid ((0 < k → A = true) ∧ (1 < k → B = true))) (fun i _ => 2 - (intOf i).toNat)
  case atStart => exact ⟨0, by omega, rfl, rfl, Lib.hid ⟨fun h => absurd h (by omega), fun h => absurd h (by omega)⟩⟩
  case round =>
    obtain ⟨k, hk, rfl, rfl, hall⟩ := hrel
    rcases (show k = 0 ∨ k = 1 ∨ k = 2 by omega) with rfl | rfl | rfl
    · cases A with
      | true =>
        go_wp2_with (go_at_call 41; (with_reducible refine (C0.out).mono ?_); rintro e w' ⟨rfl, rfl⟩)
        go_roundw
        case rel => exact ⟨1, by omega, by go_num, trivial, Lib.hid ⟨fun _ => trivial, fun h => absurd h (by omega)⟩⟩
        case measure => simp [intOf]
      | false =>
        go_wp2_with (go_at_call 41; (with_reducible refine (C0.out).mono ?_); rintro e w' ⟨rfl, rfl⟩)
        go_ret
        exact ⟨ret_bool rfl, rfl⟩
    · cases B with
      | true =>
        go_wp2_with (go_at_call 41; (with_reducible refine (C1.out).mono ?_); rintro e w' ⟨rfl, rfl⟩)
        go_roundw
        case rel => exact ⟨2, by omega, by go_num, trivial, Lib.hid ⟨fun _ => hall.out.1 (by omega), fun _ => trivial⟩⟩
        case measure => simp [intOf]
      | false =>
        go_wp2_with (go_at_call 41; (with_reducible refine (C1.out).mono ?_); rintro e w' ⟨rfl, rfl⟩)
        go_ret
        exact ⟨ret_bool (by rw [Bool.and_false]), rfl⟩
    · have HA := Lib.hid (hall.out.1 (by omega))
      have HB := Lib.hid (hall.out.2 (by omega))
      go_wp2_with fail
      go_ret
      exact ⟨ret_bool (by rw [HA.out, HB.out]; rfl), rfl⟩
set_option maxHeartbeats 1000000 in
theorem check_any (pt cm : UInt8) (w : World) : Calls Tryd.prog 26 #[symV pt cm] w (Gives w (errV (symF pt cm))) := by
  have HB : Hid (Bs w _ [_]) := Lib.hid (bs_one w (symC pt cm) 25)
  have CH := Lib.hid (holds_any pt cm (w.heap.size + 1) ((w.alloc (.cells (symC pt cm).toArray 25)).alloc (.cells #[.int .u8 pt.toNat, .int .u8 cm.toNat] 5)) (by simp) (by simp))
  have HB2 : Hid (Below w.heap.size w ((w.alloc (.cells (symC pt cm).toArray 25)).alloc (.cells #[.int .u8 pt.toNat, .int .u8 cm.toNat] 5))) := Lib.hid (bel_alloc (bel_alloc (Below.refl _ _) _) _)
  have HC : Hid (∀ i v, (symC pt cm)[i]? = some v → ((w.alloc (.cells (symC pt cm).toArray 25)).alloc (.cells #[.int .u8 pt.toNat, .int .u8 cm.toNat] 5)).cell? ⟨w.heap.size, i, none⟩ = some v) := Lib.hid fun i v h => by
    have := (HB.out.call (Below.refl _ _)).alloc [.int .u8 pt.toNat, .int .u8 cm.toNat] 5
    exact this.cell (j := 1) (i := i) (v := v) rfl h
  have HF : Hid (symF pt cm = if pt ≠ cm ∧ signL.contains pt = true ∧ signL.contains cm = true then 0 else 3) := Lib.hid rfl
  have HE : Hid (pt = cm ↔ (pt.toNat : Int) = (cm.toNat : Int)) := Lib.hid ⟨fun h => by rw [h], fun h => UInt8.toNat_inj.1 (by omega)⟩
  generalize symF pt cm = F at *
  generalize signL.contains pt = A at *
  generalize signL.contains cm = B at *
  obtain ⟨d0, d1, -⟩ := HB.out.cells
  have k0 := HC.out 0 _ rfl
  have k1 := HC.out 1 _ rfl
  generalize hW : (w.alloc (.cells (symC pt cm).toArray 25)).alloc (.cells #[.int .u8 pt.toNat, .int .u8 cm.toNat] 5) = W at *
  by_cases hAB : (A && B) = true
  · rw [hAB] at CH
    by_cases he : pt = cm
    · obtain rfl : F = 3 := by rw [HF.out, if_neg fun h => h.1 he]
      subst he
      clear HF HE hAB
      go_enter Tryd.func26, Tryd.ntmps26
      go_wp2_with (go_at_call 42; (with_reducible refine (CH.out).mono ?_); rintro e w' ⟨rfl, rfl⟩)
      go_ret
      exact ⟨rfl, HB2.out⟩
    · rw [Bool.and_eq_true] at hAB
      obtain rfl : F = 0 := by rw [HF.out, if_pos ⟨he, hAB⟩]
      have hne : ((pt.toNat : Int) == (cm.toNat : Int)) = false := beq_eq_false_iff_ne.2 fun h => he (HE.out.2 h)
      clear HF HE hAB he
      go_enter Tryd.func26, Tryd.ntmps26
      go_wp2_with (go_at_call 42; (with_reducible refine (CH.out).mono ?_); rintro e w' ⟨rfl, rfl⟩)
      go_ret
      exact ⟨rfl, HB2.out⟩
  · rw [Bool.not_eq_true] at hAB
    rw [hAB] at CH
    obtain rfl : F = 3 := by
      rw [HF.out, if_neg fun h => ?_]
      rw [h.2.1, h.2.2] at hAB
      cases hAB
    clear HF HE hAB
    go_enter Tryd.func26, Tryd.ntmps26
    go_wp2_with (go_at_call 42; (with_reducible refine (CH.out).mono ?_); rintro e w' ⟨rfl, rfl⟩)
    go_ret
    exact ⟨rfl, HB2.out⟩
set_option maxHeartbeats 1000000 in
theorem both_any (p : PatV) (pt cm : UInt8) (w : World) (h1 : p.pre.length ≤ 140737488355328) (h2 : p.suf.length ≤ 140737488355328) :
    Calls Tryd.prog 12 #[patV p, symV pt cm] w (Gives w (errV (baseF p pt cm))) := by
  have HB : Hid (Bs w _ [(w.heap.size + 1, symC pt cm), (w.heap.size, patC p)]) := Lib.hid (by
    have := (bs_one w (patC p) 23).alloc (symC pt cm) 25
    simp only [World.size_alloc] at this
    exact this)
  have CP := Lib.hid fun W => Np.check_any p W h1 h2
  have CS := Lib.hid fun W => check_any pt cm W
  have HF : Hid (baseF p pt cm = if patF p = 0 then symF pt cm else patF p) := Lib.hid rfl
  clear h1 h2
  obtain ⟨pre, suf, a, b, m, g, g2⟩ := p
  generalize baseF ⟨pre, suf, a, b, m, g, g2⟩ pt cm = F at *
  generalize patF ⟨pre, suf, a, b, m, g, g2⟩ = P at *
  obtain ⟨d0, d1, p0, p1, p2, p3, p4, p5, p6, -⟩ := HB.out.cells
  by_cases h : P = 0
  · obtain rfl : F = symF pt cm := by rw [HF.out, if_pos h]
    subst h
    rw [show errV 0 = .nilIface from rfl] at CP
    generalize symF pt cm = F at *
    clear HF
    go_enter Tryd.func12, Tryd.ntmps12
    go_upto_region 4 with (go_at_call 19; (with_reducible refine (CP.out _).mono ?_); rintro e w1 ⟨rfl, hb1⟩)
    have HB1 := Lib.hid (HB.out.call hb1)
    clear d0 d1 p0 p1 p2 p3 p4 p5 p6
    obtain ⟨d0, d1, p0, p1, p2, p3, p4, p5, p6, -⟩ := HB1.out.cells
    go_wp2_with (go_at_call 26; (with_reducible refine (CS.out _).mono ?_); rintro e w2 ⟨rfl, hb2⟩)
    go_ret
    exact ⟨rfl, (HB1.out.call hb2).below⟩
  · obtain rfl : F = P := by rw [HF.out, if_neg h]
    rw [show errV F = .iface 54 (.int .i64 F) from if_neg h] at *
    clear HF CS h
    go_enter Tryd.func12, Tryd.ntmps12
    go_wp2_with (go_at_call 19; (with_reducible refine (CP.out _).mono ?_); rintro e w1 ⟨rfl, hb1⟩)
    go_ret
    exact ⟨rfl, (HB.out.call hb1).below⟩
theorem check_ok (w : World) : ∀ (pt cm : UInt8) (W : World), Below w.heap.size w W → Calls Tryd.prog 26 #[symV pt cm] W (Gives W (errV (symF pt cm))) := fun pt cm W _ => check_any pt cm W
end No
end Go.Proofs.YtehocgemgdbikaaDoor
