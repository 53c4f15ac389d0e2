/- The reference's SymFault and Trimmed; what lay in memory stays as it was. -/
import Derived.Test.YtehocgemgdbikaaGreatDoorNoSym
import Derived.Test.YtehocgemgdbikaaGreatDoorDecTwo
import Derived.Test.YtehocgemgdbikaaGreatDoorNpVal
import Derived.Test.YtehocgemgdbikaaGreatDoorGrConv
import Derived.Test.YtehocgemgdbikaaGreatDoorRefOnly
import Derived.Test.YtehocgemgdbikaaGreatDoorDecWord
import Derived.Deep.LoopGhost
namespace Go.Proofs.YtehocgemgdbikaaGreatDoor
namespace No
open Go.RowKit D Ru Np

theorem only_sign (c : UInt8) (W : World) : Calls Tryz.prog 17 #[.string (str [c]), .string ⟨#[46, 44, 39, 95]⟩, .int .i64 1, .int .i64 1] W (Drawn W (.bool (signL.contains c))) := by
  have := refOnly_any (str [c]) ⟨#[46, 44, 39, 95]⟩ 1 1 W (by rw [D.ba_size, str_data]; unfold maxLen; simp) (by unfold maxLen; decide)
  rw [str_data, str_data] at this
  have e : fillsB (amongB [46, 44, 39, 95]) [c] 1 1 = signL.contains c := by unfold fillsB amongB signL; simp
  rw [e] at this
  exact this
set_option maxHeartbeats 4000000 in
set_option maxRecDepth 100000 in
theorem refSymFault_any (pt cm : UInt8) (w : World) : Calls Tryz.prog 7 #[symV pt cm] w (Gives w (.bool (decide (¬ SymOk pt cm)))) := by
  have HB0 : Hid (Bs w _ [_]) := Lib.hid (bs_one w (symC pt cm) 25)
  dsimp only [symV, symC] at HB0 ⊢
  obtain ⟨d0, d1, -⟩ := HB0.out.cells
  have hc1 := fun W : World => Gr.conv_one W pt
  have hc2 := fun W : World => Gr.conv_one W cm
  have O1 := Lib.hid (only_sign pt)
  have O2 := Lib.hid (only_sign cm)
  by_cases h1 : pt = cm
  · have hr : decide (¬ SymOk pt cm) = true := decide_eq_true fun h => h.1 h1
    rw [hr]
    have hn : ((pt.toNat : Int) == (cm.toNat : Int)) = true := by rw [h1]; simp
    have hB := HB0.out.below
    clear hr h1 O1 O2 hc1 hc2
    generalize (pt.toNat : Int) = a at *
    generalize (cm.toNat : Int) = b at *
    go_enter Tryz.func7, Tryz.ntmps7
    go_wp2_with fail
    go_ret
    exact ⟨rfl, hB⟩
  · have hn : ((pt.toNat : Int) == (cm.toNat : Int)) = false := by
      rw [beq_eq_false_iff_ne]; intro e; exact h1 (UInt8.toNat_inj.1 (by omega))
    cases h2 : signL.contains pt
    · have hr : decide (¬ SymOk pt cm) = true := decide_eq_true fun h => by rw [h.2.1] at h2; cases h2
      rw [hr]
      rw [h2] at O1
      clear hr h1 h2 O2 hc2
      generalize str [pt] = PT at *
      generalize hpa : (pt.toNat : Int) = a at *
      generalize (cm.toNat : Int) = b at *
      go_enter Tryz.func7, Tryz.ntmps7
      go_upto_region 1 with fail
      generalize w.alloc (.cells #[.int .u8 a, .int .u8 b] 25) = W0 at *
      go_wp2_with (go_at_call 17; (with_reducible refine (O1.out _).mono ?_); rintro e w1 ⟨rfl, k1, rfl⟩; (have H1 := Lib.hid ((HB0.out.alloc [.int .u8 a] 5).drewN k1)))
      go_ret
      exact ⟨rfl, H1.out.below⟩
    · rw [h2] at O1
      have hr : decide (¬ SymOk pt cm) = !(signL.contains cm) := by
        rw [Bool.eq_iff_iff, decide_eq_true_iff, show SymOk pt cm ↔ signL.contains cm = true from ⟨fun h => h.2.2, fun h => ⟨h1, h2, h⟩⟩]; simp
      rw [hr]
      clear hr
      cases h3 : signL.contains cm
      all_goals
        rw [h3] at O2
        clear h1 h2 h3
        generalize str [pt] = PT at *
        generalize str [cm] = CM at *
        generalize (pt.toNat : Int) = a at *
        generalize (cm.toNat : Int) = b at *
        go_enter Tryz.func7, Tryz.ntmps7
        go_upto_region 1 with fail
        generalize w.alloc (.cells #[.int .u8 a, .int .u8 b] 25) = W0 at *
        go_wp2_with (first
          | (go_at_call 17; (with_reducible refine (O1.out _).mono ?_); rintro e w1 ⟨rfl, k1, rfl⟩; (have H1 := Lib.hid ((HB0.out.alloc [.int .u8 a] 5).drewN k1)); (obtain ⟨-, e0, e1, -⟩ := H1.out.cells); (generalize (W0.alloc (.cells #[.int .u8 a] 5)).drewN k1 = W1 at *))
          | (go_at_call 17; (with_reducible refine (O2.out _).mono ?_); rintro e w2 ⟨rfl, k2, rfl⟩; (have H2 := Lib.hid ((H1.out.alloc [.int .u8 b] 5).drewN k2))))
        go_ret
        exact ⟨rfl, H2.out.below⟩
theorem tmod_ten (c : Int) : (c.tmod 10 == 0) = decide (c % 10 = 0) := by
  rw [Bool.eq_iff_iff, beq_iff_eq, decide_eq_true_iff, ← Int.dvd_iff_tmod_eq_zero, ← Int.dvd_iff_emod_eq_zero]
theorem tdiv_ten {c : Int} (h : c % 10 = 0) : c.tdiv 10 = c / 10 := by
  rw [Int.tdiv_eq_ediv_of_dvd (Int.dvd_of_emod_eq_zero h)]
theorem trim_yes {c : Int} {s : Nat} (h : c % 10 = 0) : trimI c (s + 1) = trimI (c / 10) s := by
  conv => lhs; unfold trimI
  rw [if_pos h]
theorem trim_no {c : Int} {s : Nat} (h : ¬ c % 10 = 0) : trimI c (s + 1) = (c, s + 1) := by
  unfold trimI
  rw [if_neg h]
set_option maxHeartbeats 4000000 in
set_option maxRecDepth 100000 in
theorem refTrimmed_any (c : Int) (s : Nat) (w : World) (hc0 : -1000000000000000000 ≤ c) (hc1 : c ≤ 1000000000000000000) (hs : s ≤ 1000) :
    Calls Tryz.prog 21 #[.agg #[.int .i64 c, .int .i64 s]] w (Gives w (decV (trimI c s).1 (trimI c s).2)) := by
  have HB0 : Hid (Bs w _ [_, _]) := Lib.hid ((bs_one w [.int .i64 c, .int .i64 s] 27).alloc [.int .i64 0, .int .i64 0] 27)
  rw [World.size_alloc] at HB0
  go_enter Tryz.func21, Tryz.ntmps21
  go_wp2_with fail
  go_loopg [] s (fun g wx => ∃ z : Int, -1000000000000000000 ≤ z ∧ z ≤ 1000000000000000000 ∧ g ≤ 1000 ∧ Hid (Bs w wx [(w.heap.size + 1, [.int .i64 0, .int .i64 0]), (w.heap.size, [.int .i64 z, .int .i64 g])]) ∧ Hid (trimI z g = trimI c s))
  case atStart => exact ⟨c, hc0, hc1, hs, HB0, Lib.hid rfl⟩
  case round =>
    obtain ⟨z, hz0, hz1, hg, HB, HT⟩ := hrel
    obtain ⟨t0, t1, z0, z1, -⟩ := HB.out.cells
    have f0 := HB.out.free (j := 0) (i := 0) rfl rfl
    have f1 := HB.out.free (j := 0) (i := 1) rfl rfl
    have f2 := HB.out.free (j := 1) (i := 0) rfl rfl
    have f3 := HB.out.free (j := 1) (i := 1) rfl rfl
    cases gk with
    | zero =>
      have ht : trimI c s = (z, 0) := HT.out.symm
      go_wp2_with fail
      have HF := (HB.out.set (j := 0) (i := 0) rfl (.int .i64 z)).set (j := 0) (i := 1) rfl (.int .i64 0)
      obtain ⟨r0, r1, -⟩ := HF.cells
      have hF := HF.below
      clear HF
      generalize (wr.setCell ⟨w.heap.size + 1, 0, none⟩ (.int .i64 z)).setCell ⟨w.heap.size + 1, 1, none⟩ (.int .i64 0) = W2 at *
      refine bodyPost_ret (v := decV (trimI c s).1 (trimI c s).2) ?_ rfl ⟨rfl, hF⟩
      rw [ht]
      simp [results, Tryz.results21, go_sem, r0, r1, decV]
    | succ g =>
      by_cases hm : z % 10 = 0
      · have hm1 : (z.tmod 10 == 0) = true := by rw [tmod_ten, decide_eq_true hm]
        have hd := tdiv_ten hm
        have hw : IntKind.i64.wrap (z / 10) = z / 10 := by rw [IntKind.wrap_i64]; omega
        have HT2 : Hid (trimI (z / 10) g = trimI c s) := Lib.hid (by rw [← trim_yes hm]; exact HT.out)
        clear hm
        go_wp2_with fail
        have HF := Lib.hid ((HB.out.set (j := 1) (i := 0) rfl (.int .i64 (z / 10))).set (j := 1) (i := 1) rfl (.int .i64 g))
        go_roundg g
        case measure => omega
        case rel => exact ⟨z / 10, by omega, by omega, by omega, HF, HT2⟩
      · have hm1 : (z.tmod 10 == 0) = false := by rw [tmod_ten, decide_eq_false hm]
        have ht : trimI c s = (z, g + 1) := by rw [← HT.out, trim_no hm]
        clear hm
        go_wp2_with fail
        have HF := (HB.out.set (j := 0) (i := 0) rfl (.int .i64 z)).set (j := 0) (i := 1) rfl (.int .i64 ((g : Int) + 1))
        obtain ⟨r0, r1, -⟩ := HF.cells
        have hF := HF.below
        clear HF
        generalize (wr.setCell ⟨w.heap.size + 1, 0, none⟩ (.int .i64 z)).setCell ⟨w.heap.size + 1, 1, none⟩ (.int .i64 ((g : Int) + 1)) = W2 at *
        refine bodyPost_ret (v := decV (trimI c s).1 (trimI c s).2) ?_ rfl ⟨rfl, hF⟩
        rw [ht]
        simp [results, Tryz.results21, go_sem, r0, r1, decV]
end No
end Go.Proofs.YtehocgemgdbikaaGreatDoor
