/- The program's Round of a number: the number rounded, or what is wrong; what lay in memory stays as it was. -/
import Derived.Test.YtehocgemgdbikaaDoorDecGround
import Derived.Test.YtehocgemgdbikaaDoorDecDivide
import Derived.Test.YtehocgemgdbikaaDoorDecTwo
import Derived.Deep.RegionHeld3
import Derived.Deep.DeepCutAuto
import Derived.Deep.DrawnRows
namespace Go.Proofs.YtehocgemgdbikaaDoor
namespace D
open Go.RowKit

set_option maxHeartbeats 8000000 in
theorem round_any (c s t way : Int) (w : World) : Calls Tryd.prog 13 #[.agg #[.int .i64 c, .int .i64 s], .int .i64 t, .int .i64 way] w (Gives w (roundV c s t way)) := by
  have HB := Lib.hid fun (wx : World) (hb : Below ((w.alloc (box c s)).alloc (box 0 0)).heap.size ((w.alloc (box c s)).alloc (box 0 0)) wx) => (Boxes.new w c s 0 0).call (lt_two w _ _) hb
  have CK := Lib.hid fun W => check_any c s W
  have CS := Lib.hid fun W => scaleFits_any t W
  by_cases h1 : Right c s
  · by_cases h2 : 0 ≤ t ∧ t ≤ 9
    · by_cases h3 : 1 ≤ way ∧ way ≤ 5
      · by_cases h4 : t < s
        · have hF : roundF c s t way = 0 := roundF_zero.2 ⟨h1, h2, h3, fewer_room h1 h4⟩
          have hrc : rc c s t way = rnd way c (ten (s - t)) := by unfold rc; exact rnd_fewer way (by omega) h1.2.1
          have hroom := fewer_room (way := way) h1 h4
          rw [hrc] at hroom
          rw [roundV_ok hF, hrc]
          simp only [fault_ok h1, errV_zero] at CK
          simp only [h2, and_self, decide_true] at CS
          have CT : Hid (∀ W : World, Calls Tryd.prog 30 #[.int .i64 (s - t)] W fun e w' => e = .returned (.int .i64 (ten (s - t))) ∧ W = w') := Lib.hid fun W => tens_any (s - t) W (by omega) (by have := h1.2.1; omega)
          have CD : Hid (∀ W : World, Calls Tryd.prog 29 #[.int .i64 c, .int .i64 (ten (s - t)), .int .i64 way] W (Drawn W (.int .i64 (rnd way c (ten (s - t)))))) := Lib.hid fun W => divide_any c (ten (s - t)) way W (ten_pos _) (ten_le_nine (by omega) (by have := h1.2.1; omega)) h1.2.2.1 h1.2.2.2 h3.1 h3.2
          obtain ⟨h10, h11, h12, h13⟩ := h1
          obtain ⟨h20, h21⟩ := h2
          obtain ⟨h30, h31⟩ := h3
          clear hF hrc
          generalize rnd way c (ten (s - t)) = r at *
          generalize ten (s - t) = u at *
          go_enter Tryd.func13, Tryd.ntmps13
          go_upto_region 2 with (first
            | (go_at_call 27; (with_reducible refine (CK.out _).mono ?_); rintro e w1 ⟨rfl, hb1⟩))
          have hBX := HB.out _ hb1
          have HX := Lib.hid hBX
          obtain ⟨hb, x0, x1, r0, r1, f0, f1⟩ := hBX
          clear hb hb1 CK
          go_upto_region 9 with (first
            | (go_at_call 28; (with_reducible refine (CS.out _).mono ?_); rintro e w' ⟨rfl, rfl⟩))
          have hws : IntKind.i64.wrap (s - t) = s - t := by rw [IntKind.wrap_i64]; omega
          have hS0 : w1.cell? ⟨w.heap.size, 0, none⟩ = some (.int .i64 c) ∧ w1.cell? ⟨w.heap.size, 1, none⟩ = some (.int .i64 s) := ⟨x0, x1⟩
          go_region_held3 (fun wx => wx.cell? ⟨w.heap.size, 0, none⟩ = some (.int .i64 c) ∧ wx.cell? ⟨w.heap.size, 1, none⟩ = some (.int .i64 s))
            (first | exact ⟨x0, x1⟩ | (refine ⟨?_, ?_⟩; (simpa using x0); (simpa using x1)) | (refine ⟨kept ?_ _ _, kept ?_ _ _⟩; (simpa using x0); (simpa using x1)))
            (first
              | (go_at_call 30; (with_reducible refine (CT.out _).mono ?_); rintro e wy ⟨rfl, rfl⟩)
              | (go_at_call 29; (with_reducible refine (CD.out _).mono ?_); rintro e wz ⟨rfl, dn, rfl⟩))
          go_wp2_with fail
          have zz := fun n => stored (wx := w1.drewN n) (by simpa using HX.out.r0) (by simpa using HX.out.r1) (.int .i64 r) (.int .i64 t)
          have z0 := fun n => (zz n).1
          have z1 := fun n => (zz n).2
          refine bodyPost_ret (v := .tuple #[.agg #[.int .i64 r, .int .i64 t], .nilIface]) ?_ rfl ⟨rfl, ?_⟩
          · simp [results, Tryd.results13, go_sem, z0, z1]
          · exact up_set (up_set (up_drewN HX.out.below _) (Nat.le_succ _) _) (Nat.le_succ _) _
        · have hst : s ≤ t := by omega
          have hrc : rc c s t way = c * ten (t - s) := rnd_more way hst h2.2
          have CE : Hid (∀ W : World, Calls Tryd.prog 31 #[.int .i64 c, .int .i64 (t - s), .int .i64 1000000000000000] W (Drawn W _)) := Lib.hid fun W => extend_any c (t - s) 1000000000000000 W (by omega) (by have := h1.1; omega) h1.2.2.1 h1.2.2.2 (by decide) (by decide)
          simp only [fault_ok h1, errV_zero] at CK
          simp only [h2, and_self, decide_true] at CS
          by_cases hfit : -1000000000000000 ≤ c * ten (t - s) ∧ c * ten (t - s) ≤ 1000000000000000
          · have hF : roundF c s t way = 0 := roundF_zero.2 ⟨h1, h2, h3, by rw [hrc]; exact hfit⟩
            rw [roundV_ok hF, hrc]
            simp only [hfit, and_self, if_true, decide_true] at CE
            obtain ⟨h10, h11, h12, h13⟩ := h1
            obtain ⟨h20, h21⟩ := h2
            obtain ⟨h30, h31⟩ := h3
            clear hF hrc
            generalize c * ten (t - s) = r at *
            go_enter Tryd.func13, Tryd.ntmps13
            go_upto_region 2 with (first
              | (go_at_call 27; (with_reducible refine (CK.out _).mono ?_); rintro e w1 ⟨rfl, hb1⟩))
            have hBX := HB.out _ hb1
            have HX := Lib.hid hBX
            obtain ⟨hb, x0, x1, r0, r1, f0, f1⟩ := hBX
            clear hb hb1 CK
            go_wp2_with (first
              | (go_at_call 28; (with_reducible refine (CS.out _).mono ?_); rintro e w' ⟨rfl, rfl⟩)
              | (go_at_call 31; (with_reducible refine (CE.out _).mono ?_); rintro e w' ⟨rfl, dn, rfl⟩; dsimp only))
            have zz := fun n => stored (wx := w1.drewN n) (by simpa using HX.out.r0) (by simpa using HX.out.r1) (.int .i64 r) (.int .i64 t)
            have z0 := fun n => (zz n).1
            have z1 := fun n => (zz n).2
            refine bodyPost_ret (v := .tuple #[.agg #[.int .i64 r, .int .i64 t], .nilIface]) ?_ rfl ⟨rfl, ?_⟩
            · simp [results, Tryd.results13, go_sem, z0, z1]
            · exact up_set (up_set (up_drewN HX.out.below _) (Nat.le_succ _) _) (Nat.le_succ _) _
          · have hF : roundF c s t way = 1 := by
              unfold roundF
              simp only [h1, h2, h3, hrc, hfit, not_true, not_false_iff, if_true, if_false, and_self]
            rw [roundV_one hF]
            simp only [hfit, if_false, decide_false] at CE
            obtain ⟨h10, h11, h12, h13⟩ := h1
            obtain ⟨h20, h21⟩ := h2
            obtain ⟨h30, h31⟩ := h3
            clear hF hrc hfit
            go_enter Tryd.func13, Tryd.ntmps13
            go_upto_region 2 with (first
              | (go_at_call 27; (with_reducible refine (CK.out _).mono ?_); rintro e w1 ⟨rfl, hb1⟩))
            have hBX := HB.out _ hb1
            have HX := Lib.hid hBX
            obtain ⟨hb, x0, x1, r0, r1, f0, f1⟩ := hBX
            clear hb hb1 CK
            go_wp2_with (first
              | (go_at_call 28; (with_reducible refine (CS.out _).mono ?_); rintro e w' ⟨rfl, rfl⟩)
              | (go_at_call 31; (with_reducible refine (CE.out _).mono ?_); rintro e w' ⟨rfl, dn, rfl⟩; dsimp only))
            have zz := fun n => stored (wx := w1.drewN n) (by simpa using HX.out.r0) (by simpa using HX.out.r1) (.int .i64 0) (.int .i64 0)
            have z0 := fun n => (zz n).1
            have z1 := fun n => (zz n).2
            refine bodyPost_ret (v := .tuple #[.agg #[.int .i64 0, .int .i64 0], .iface 54 (.int .i64 1)]) ?_ rfl ⟨rfl, ?_⟩
            · simp [results, Tryd.results13, go_sem, z0, z1]
            · exact up_set (up_set (up_drewN HX.out.below _) (Nat.le_succ _) _) (Nat.le_succ _) _
      · have hF : roundF c s t way = 3 := by
          unfold roundF
          simp only [h1, h2, h3, not_true, not_false_iff, if_true, if_false, and_self]
        rw [roundV_three hF]
        simp only [fault_ok h1, errV_zero] at CK
        simp only [h2, and_self, decide_true] at CS
        clear hF h1 h2
        by_cases h30 : way < 1
        all_goals
          try (have h31 : 5 < way := by omega)
          go_enter Tryd.func13, Tryd.ntmps13
          go_upto_region 2 with (first
            | (go_at_call 27; (with_reducible refine (CK.out _).mono ?_); rintro e w1 ⟨rfl, hb1⟩))
          have hBX := HB.out _ hb1
          have HX := Lib.hid hBX
          obtain ⟨hb, x0, x1, r0, r1, f0, f1⟩ := hBX
          clear hb hb1 CK
          go_wp2_with (first
            | (go_at_call 28; (with_reducible refine (CS.out _).mono ?_); rintro e w' ⟨rfl, rfl⟩))
          obtain ⟨z0, z1⟩ := stored (wx := w1) HX.out.r0 HX.out.r1 (.int .i64 0) (.int .i64 0)
          refine bodyPost_ret (v := .tuple #[.agg #[.int .i64 0, .int .i64 0], .iface 54 (.int .i64 3)]) ?_ rfl ⟨rfl, ?_⟩
          · simp [results, Tryd.results13, go_sem, z0, z1]
          · exact up_set (up_set HX.out.below (Nat.le_succ _) _) (Nat.le_succ _) _
    · have hF : roundF c s t way = 1 := by
        unfold roundF
        simp only [h1, h2, not_true, not_false_iff, if_true, if_false]
      rw [roundV_one hF]
      simp only [fault_ok h1, errV_zero] at CK
      simp only [h2, decide_false] at CS
      clear hF h1 h2
      go_enter Tryd.func13, Tryd.ntmps13
      go_upto_region 2 with (first
        | (go_at_call 27; (with_reducible refine (CK.out _).mono ?_); rintro e w1 ⟨rfl, hb1⟩))
      have hBX := HB.out _ hb1
      have HX := Lib.hid hBX
      obtain ⟨hb, x0, x1, r0, r1, f0, f1⟩ := hBX
      clear hb hb1 CK
      go_wp2_with (first
        | (go_at_call 28; (with_reducible refine (CS.out _).mono ?_); rintro e w' ⟨rfl, rfl⟩))
      obtain ⟨z0, z1⟩ := stored (wx := w1) HX.out.r0 HX.out.r1 (.int .i64 0) (.int .i64 0)
      refine bodyPost_ret (v := .tuple #[.agg #[.int .i64 0, .int .i64 0], .iface 54 (.int .i64 1)]) ?_ rfl ⟨rfl, ?_⟩
      · simp [results, Tryd.results13, go_sem, z0, z1]
      · exact up_set (up_set HX.out.below (Nat.le_succ _) _) (Nat.le_succ _) _
  · have hF : roundF c s t way = 1 := by
      unfold roundF
      simp only [h1, not_false_iff, if_true]
    rw [roundV_one hF]
    simp only [fault_no h1, errV_one] at CK
    clear hF h1
    go_enter Tryd.func13, Tryd.ntmps13
    go_upto_region 2 with (first
      | (go_at_call 27; (with_reducible refine (CK.out _).mono ?_); rintro e w1 ⟨rfl, hb1⟩))
    have hBX := HB.out _ hb1
    have HX := Lib.hid hBX
    obtain ⟨hb, x0, x1, r0, r1, f0, f1⟩ := hBX
    clear hb hb1 CK
    go_wp2_with fail
    obtain ⟨z0, z1⟩ := stored (wx := w1) HX.out.r0 HX.out.r1 (.int .i64 0) (.int .i64 0)
    refine bodyPost_ret (v := .tuple #[.agg #[.int .i64 0, .int .i64 0], .iface 54 (.int .i64 1)]) ?_ rfl ⟨rfl, ?_⟩
    · simp [results, Tryd.results13, go_sem, z0, z1]
    · exact up_set (up_set HX.out.below (Nat.le_succ _) _) (Nat.le_succ _) _
end D
end Go.Proofs.YtehocgemgdbikaaDoor
