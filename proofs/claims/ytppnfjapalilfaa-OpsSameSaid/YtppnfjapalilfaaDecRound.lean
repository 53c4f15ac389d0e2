/- The program's Round of a number: the number rounded, or what is wrong; what lay in memory stays as it was. -/
import Derived.Test.YtppnfjapalilfaaDecCheck
import Derived.Test.YtppnfjapalilfaaDecDivide
import Derived.Deep.RegionHeld3
import Derived.Deep.DeepCutAuto
import Derived.Deep.DrawnRows
namespace Go.Proofs.Ytppnfjapalilfaa
namespace D
open Go.RowKit

/-- the answer of Round -/
def roundV (c s t way : Int) : Value := .tuple #[if roundF c s t way = 0 then decV (rc c s t way) t else decV 0 0, errV (roundF c s t way)]
theorem roundV_ok {c s t way : Int} (h : roundF c s t way = 0) : roundV c s t way = .tuple #[.agg #[.int .i64 (rc c s t way), .int .i64 t], .nilIface] := by unfold roundV; rw [h]; rfl
theorem roundV_one {c s t way : Int} (h : roundF c s t way = 1) : roundV c s t way = .tuple #[.agg #[.int .i64 0, .int .i64 0], .iface 38 (.int .i64 1)] := by unfold roundV; rw [h]; rfl
theorem roundV_three {c s t way : Int} (h : roundF c s t way = 3) : roundV c s t way = .tuple #[.agg #[.int .i64 0, .int .i64 0], .iface 38 (.int .i64 3)] := by unfold roundV; rw [h]; rfl

theorem roundV_no {c s t way : Int} (h : roundF c s t way ≠ 0) : roundV c s t way = .tuple #[.agg #[.int .i64 0, .int .i64 0], .iface 38 (.int .i64 (roundF c s t way))] := by
  unfold roundV errV
  rw [if_neg h, if_neg h]; rfl
/-- the two boxes of Round, behind its first call -/
structure Boxes (w wx : World) (c s d t : Int) : Prop where
  below : Below w.heap.size w wx
  c0 : wx.cell? ⟨w.heap.size, 0, none⟩ = some (.int .i64 c)
  c1 : wx.cell? ⟨w.heap.size, 1, none⟩ = some (.int .i64 s)
  r0 : wx.cell? ⟨w.heap.size + 1, 0, none⟩ = some (.int .i64 d)
  r1 : wx.cell? ⟨w.heap.size + 1, 1, none⟩ = some (.int .i64 t)
  f0 : wx.frozen? ⟨w.heap.size + 1, 0, none⟩ = false
  f1 : wx.frozen? ⟨w.heap.size + 1, 1, none⟩ = false
theorem Boxes.new (w : World) (c s d t : Int) : Boxes w ((w.alloc (box c s)).alloc (box d t)) c s d t :=
  ⟨up_alloc (up_alloc (Below.refl _ _) _) _, by simp, by simp, by simp, by simp, by simp, by simp⟩
theorem lt_two (w : World) (x y : Obj) : w.heap.size + 1 < ((w.alloc x).alloc y).heap.size := by simp
theorem Boxes.call {w wx wy : World} {c s d t : Int} (h : Boxes w wx c s d t) (hx : w.heap.size + 1 < wx.heap.size) (hb : Below wx.heap.size wx wy) : Boxes w wy c s d t :=
  ⟨up_call h.below hb, (hb.cell (by show w.heap.size < _; omega)).trans h.c0, (hb.cell (by show w.heap.size < _; omega)).trans h.c1, (hb.cell hx).trans h.r0, (hb.cell hx).trans h.r1, (hb.frozen hx).trans h.f0, (hb.frozen hx).trans h.f1⟩
theorem dn_zero (w : World) : ∃ n, w.drewN n = w := ⟨0, rfl⟩
theorem dn_drew {w wx : World} (h : ∃ n, w.drewN n = wx) : ∃ n, w.drewN n = wx.drew := by
  obtain ⟨n, rfl⟩ := h
  exact ⟨n + 1, rfl⟩
theorem dn_drewN {w wx : World} (h : ∃ n, w.drewN n = wx) (d : Nat) : ∃ n, w.drewN n = wx.drewN d := by
  obtain ⟨n, rfl⟩ := h
  exact ⟨n + d, by rw [World.drewN_drewN]⟩
theorem stored {wx : World} {g : Nat} {x y : Value} (h0 : wx.cell? ⟨g, 0, none⟩ = some x) (h1 : wx.cell? ⟨g, 1, none⟩ = some y) (a b : Value) :
    ((wx.setCell ⟨g, 0, none⟩ a).setCell ⟨g, 1, none⟩ b).cell? ⟨g, 0, none⟩ = some a ∧ ((wx.setCell ⟨g, 0, none⟩ a).setCell ⟨g, 1, none⟩ b).cell? ⟨g, 1, none⟩ = some b := by
  have e0 : (wx.setCell ⟨g, 0, none⟩ a).cell? ⟨g, 0, none⟩ = some a := World.cell?_setCell_same' _ _ _ (by rw [h0]; rfl)
  have e1 : (wx.setCell ⟨g, 0, none⟩ a).cell? ⟨g, 1, none⟩ = some y := by rw [World.cell?_setCell_other (a := ⟨g, 0, none⟩) (b := ⟨g, 1, none⟩) (h := by simp)]; exact h1
  exact ⟨by rw [World.cell?_setCell_other (a := ⟨g, 1, none⟩) (b := ⟨g, 0, none⟩) (h := by simp)]; exact e0, World.cell?_setCell_same' _ _ _ (by rw [e1]; rfl)⟩
theorem kept {wx : World} {g o : Nat} {x : Value} (h : wx.cell? ⟨g, o, none⟩ = some x) (a b : Value) : ((wx.setCell ⟨g + 1, 0, none⟩ a).setCell ⟨g + 1, 1, none⟩ b).cell? ⟨g, o, none⟩ = some x := by
  rw [World.cell?_setCell_far _ _ _ _ (by simp), World.cell?_setCell_far _ _ _ _ (by simp)]; exact h
theorem up_set {w wx : World} (h : Below w.heap.size w wx) {b o : Nat} (hb : w.heap.size ≤ b) (v : Value) : Below w.heap.size w (wx.setCell ⟨b, o, none⟩ v) := h.setCell hb v

set_option maxHeartbeats 8000000 in
theorem round_any (c s t way : Int) (w : World) : Calls Try.prog 7 #[.agg #[.int .i64 c, .int .i64 s], .int .i64 t, .int .i64 way] w (Gives w (roundV c s t way)) := by
  have HB := Lib.hid fun (wx : World) (hb : Below ((w.alloc (box c s)).alloc (box 0 0)).heap.size ((w.alloc (box c s)).alloc (box 0 0)) wx) => (Boxes.new w c s 0 0).call (lt_two w _ _) hb
  have CK := Lib.hid fun W => check_any c s W
  have CS := Lib.hid fun W => scaleFits_any t W
  by_cases h1 : Right c s
  · by_cases h2 : 0 ≤ t ∧ t ≤ 9
    · by_cases h3 : 1 ≤ way ∧ way ≤ 5
      · by_cases h4 : t < s
        · have hF : roundF c s t way = 0 := roundF_zero.2 ⟨h1, h2, h3, fewer_room h1 h4⟩
          have hrc : rc c s t way = rnd way c (ten (s - t)) := by unfold rc; exact rnd_fewer way (by omega) h1.2.1
          have hroom := fewer_room (way := way) h1 h4
          rw [hrc] at hroom
          rw [roundV_ok hF, hrc]
          simp only [fault_ok h1, errV_zero] at CK
          simp only [h2, and_self, decide_true] at CS
          have CT : Hid (∀ W : World, Calls Try.prog 12 #[.int .i64 (s - t)] W fun e w' => e = .returned (.int .i64 (ten (s - t))) ∧ W = w') := Lib.hid fun W => tens_any (s - t) W (by omega) (by have := h1.2.1; omega)
          have CD : Hid (∀ W : World, Calls Try.prog 11 #[.int .i64 c, .int .i64 (ten (s - t)), .int .i64 way] W (Drawn W (.int .i64 (rnd way c (ten (s - t)))))) := Lib.hid fun W => divide_any c (ten (s - t)) way W (ten_pos _) (ten_le_nine (by omega) (by have := h1.2.1; omega)) h1.2.2.1 h1.2.2.2 h3.1 h3.2
          obtain ⟨h10, h11, h12, h13⟩ := h1
          obtain ⟨h20, h21⟩ := h2
          obtain ⟨h30, h31⟩ := h3
          clear hF hrc
          generalize rnd way c (ten (s - t)) = r at *
          generalize ten (s - t) = u at *
          go_enter Try.func7, Try.ntmps7
          go_upto_region 2 with (first
            | (go_at_call 8; (with_reducible refine (CK.out _).mono ?_); rintro e w1 ⟨rfl, hb1⟩))
          have hBX := HB.out _ hb1
          have HX := Lib.hid hBX
          obtain ⟨hb, x0, x1, r0, r1, f0, f1⟩ := hBX
          clear hb hb1 CK
          go_upto_region 9 with (first
            | (go_at_call 10; (with_reducible refine (CS.out _).mono ?_); rintro e w' ⟨rfl, rfl⟩))
          have hws : IntKind.i64.wrap (s - t) = s - t := by rw [IntKind.wrap_i64]; omega
          have hS0 : w1.cell? ⟨w.heap.size, 0, none⟩ = some (.int .i64 c) ∧ w1.cell? ⟨w.heap.size, 1, none⟩ = some (.int .i64 s) := ⟨x0, x1⟩
          go_region_held3 (fun wx => wx.cell? ⟨w.heap.size, 0, none⟩ = some (.int .i64 c) ∧ wx.cell? ⟨w.heap.size, 1, none⟩ = some (.int .i64 s))
            (first | exact ⟨x0, x1⟩ | (refine ⟨?_, ?_⟩; (simpa using x0); (simpa using x1)) | (refine ⟨kept ?_ _ _, kept ?_ _ _⟩; (simpa using x0); (simpa using x1)))
            (first
              | (go_at_call 12; (with_reducible refine (CT.out _).mono ?_); rintro e wy ⟨rfl, rfl⟩)
              | (go_at_call 11; (with_reducible refine (CD.out _).mono ?_); rintro e wz ⟨rfl, dn, rfl⟩))
          go_wp2_with fail
          have zz := fun n => stored (wx := w1.drewN n) (by simpa using HX.out.r0) (by simpa using HX.out.r1) (.int .i64 r) (.int .i64 t)
          have z0 := fun n => (zz n).1
          have z1 := fun n => (zz n).2
          refine bodyPost_ret (v := .tuple #[.agg #[.int .i64 r, .int .i64 t], .nilIface]) ?_ rfl ⟨rfl, ?_⟩
          · simp [results, Try.results7, go_sem, z0, z1]
          · exact up_set (up_set (up_drewN HX.out.below _) (Nat.le_succ _) _) (Nat.le_succ _) _
        · have hst : s ≤ t := by omega
          have hrc : rc c s t way = c * ten (t - s) := rnd_more way hst h2.2
          have CE : Hid (∀ W : World, Calls Try.prog 13 #[.int .i64 c, .int .i64 (t - s), .int .i64 1000000000000000] W (Drawn W _)) := Lib.hid fun W => extend_any c (t - s) 1000000000000000 W (by omega) (by have := h1.1; omega) h1.2.2.1 h1.2.2.2 (by decide) (by decide)
          simp only [fault_ok h1, errV_zero] at CK
          simp only [h2, and_self, decide_true] at CS
          by_cases hfit : -1000000000000000 ≤ c * ten (t - s) ∧ c * ten (t - s) ≤ 1000000000000000
          · have hF : roundF c s t way = 0 := roundF_zero.2 ⟨h1, h2, h3, by rw [hrc]; exact hfit⟩
            rw [roundV_ok hF, hrc]
            simp only [hfit, and_self, if_true, decide_true] at CE
            obtain ⟨h10, h11, h12, h13⟩ := h1
            obtain ⟨h20, h21⟩ := h2
            obtain ⟨h30, h31⟩ := h3
            clear hF hrc
            generalize c * ten (t - s) = r at *
            go_enter Try.func7, Try.ntmps7
            go_upto_region 2 with (first
              | (go_at_call 8; (with_reducible refine (CK.out _).mono ?_); rintro e w1 ⟨rfl, hb1⟩))
            have hBX := HB.out _ hb1
            have HX := Lib.hid hBX
            obtain ⟨hb, x0, x1, r0, r1, f0, f1⟩ := hBX
            clear hb hb1 CK
            go_wp2_with (first
              | (go_at_call 10; (with_reducible refine (CS.out _).mono ?_); rintro e w' ⟨rfl, rfl⟩)
              | (go_at_call 13; (with_reducible refine (CE.out _).mono ?_); rintro e w' ⟨rfl, dn, rfl⟩; dsimp only))
            have zz := fun n => stored (wx := w1.drewN n) (by simpa using HX.out.r0) (by simpa using HX.out.r1) (.int .i64 r) (.int .i64 t)
            have z0 := fun n => (zz n).1
            have z1 := fun n => (zz n).2
            refine bodyPost_ret (v := .tuple #[.agg #[.int .i64 r, .int .i64 t], .nilIface]) ?_ rfl ⟨rfl, ?_⟩
            · simp [results, Try.results7, go_sem, z0, z1]
            · exact up_set (up_set (up_drewN HX.out.below _) (Nat.le_succ _) _) (Nat.le_succ _) _
          · have hF : roundF c s t way = 1 := by
              unfold roundF
              simp only [h1, h2, h3, hrc, hfit, not_true, not_false_iff, if_true, if_false, and_self]
            rw [roundV_one hF]
            simp only [hfit, if_false, decide_false] at CE
            obtain ⟨h10, h11, h12, h13⟩ := h1
            obtain ⟨h20, h21⟩ := h2
            obtain ⟨h30, h31⟩ := h3
            clear hF hrc hfit
            go_enter Try.func7, Try.ntmps7
            go_upto_region 2 with (first
              | (go_at_call 8; (with_reducible refine (CK.out _).mono ?_); rintro e w1 ⟨rfl, hb1⟩))
            have hBX := HB.out _ hb1
            have HX := Lib.hid hBX
            obtain ⟨hb, x0, x1, r0, r1, f0, f1⟩ := hBX
            clear hb hb1 CK
            go_wp2_with (first
              | (go_at_call 10; (with_reducible refine (CS.out _).mono ?_); rintro e w' ⟨rfl, rfl⟩)
              | (go_at_call 13; (with_reducible refine (CE.out _).mono ?_); rintro e w' ⟨rfl, dn, rfl⟩; dsimp only))
            have zz := fun n => stored (wx := w1.drewN n) (by simpa using HX.out.r0) (by simpa using HX.out.r1) (.int .i64 0) (.int .i64 0)
            have z0 := fun n => (zz n).1
            have z1 := fun n => (zz n).2
            refine bodyPost_ret (v := .tuple #[.agg #[.int .i64 0, .int .i64 0], .iface 38 (.int .i64 1)]) ?_ rfl ⟨rfl, ?_⟩
            · simp [results, Try.results7, go_sem, z0, z1]
            · exact up_set (up_set (up_drewN HX.out.below _) (Nat.le_succ _) _) (Nat.le_succ _) _
      · have hF : roundF c s t way = 3 := by
          unfold roundF
          simp only [h1, h2, h3, not_true, not_false_iff, if_true, if_false, and_self]
        rw [roundV_three hF]
        simp only [fault_ok h1, errV_zero] at CK
        simp only [h2, and_self, decide_true] at CS
        clear hF h1 h2
        by_cases h30 : way < 1
        all_goals
          try (have h31 : 5 < way := by omega)
          go_enter Try.func7, Try.ntmps7
          go_upto_region 2 with (first
            | (go_at_call 8; (with_reducible refine (CK.out _).mono ?_); rintro e w1 ⟨rfl, hb1⟩))
          have hBX := HB.out _ hb1
          have HX := Lib.hid hBX
          obtain ⟨hb, x0, x1, r0, r1, f0, f1⟩ := hBX
          clear hb hb1 CK
          go_wp2_with (first
            | (go_at_call 10; (with_reducible refine (CS.out _).mono ?_); rintro e w' ⟨rfl, rfl⟩))
          obtain ⟨z0, z1⟩ := stored (wx := w1) HX.out.r0 HX.out.r1 (.int .i64 0) (.int .i64 0)
          refine bodyPost_ret (v := .tuple #[.agg #[.int .i64 0, .int .i64 0], .iface 38 (.int .i64 3)]) ?_ rfl ⟨rfl, ?_⟩
          · simp [results, Try.results7, go_sem, z0, z1]
          · exact up_set (up_set HX.out.below (Nat.le_succ _) _) (Nat.le_succ _) _
    · have hF : roundF c s t way = 1 := by
        unfold roundF
        simp only [h1, h2, not_true, not_false_iff, if_true, if_false]
      rw [roundV_one hF]
      simp only [fault_ok h1, errV_zero] at CK
      simp only [h2, decide_false] at CS
      clear hF h1 h2
      go_enter Try.func7, Try.ntmps7
      go_upto_region 2 with (first
        | (go_at_call 8; (with_reducible refine (CK.out _).mono ?_); rintro e w1 ⟨rfl, hb1⟩))
      have hBX := HB.out _ hb1
      have HX := Lib.hid hBX
      obtain ⟨hb, x0, x1, r0, r1, f0, f1⟩ := hBX
      clear hb hb1 CK
      go_wp2_with (first
        | (go_at_call 10; (with_reducible refine (CS.out _).mono ?_); rintro e w' ⟨rfl, rfl⟩))
      obtain ⟨z0, z1⟩ := stored (wx := w1) HX.out.r0 HX.out.r1 (.int .i64 0) (.int .i64 0)
      refine bodyPost_ret (v := .tuple #[.agg #[.int .i64 0, .int .i64 0], .iface 38 (.int .i64 1)]) ?_ rfl ⟨rfl, ?_⟩
      · simp [results, Try.results7, go_sem, z0, z1]
      · exact up_set (up_set HX.out.below (Nat.le_succ _) _) (Nat.le_succ _) _
  · have hF : roundF c s t way = 1 := by
      unfold roundF
      simp only [h1, not_false_iff, if_true]
    rw [roundV_one hF]
    simp only [fault_no h1, errV_one] at CK
    clear hF h1
    go_enter Try.func7, Try.ntmps7
    go_upto_region 2 with (first
      | (go_at_call 8; (with_reducible refine (CK.out _).mono ?_); rintro e w1 ⟨rfl, hb1⟩))
    have hBX := HB.out _ hb1
    have HX := Lib.hid hBX
    obtain ⟨hb, x0, x1, r0, r1, f0, f1⟩ := hBX
    clear hb hb1 CK
    go_wp2_with fail
    obtain ⟨z0, z1⟩ := stored (wx := w1) HX.out.r0 HX.out.r1 (.int .i64 0) (.int .i64 0)
    refine bodyPost_ret (v := .tuple #[.agg #[.int .i64 0, .int .i64 0], .iface 38 (.int .i64 1)]) ?_ rfl ⟨rfl, ?_⟩
    · simp [results, Try.results7, go_sem, z0, z1]
    · exact up_set (up_set HX.out.below (Nat.le_succ _) _) (Nat.le_succ _) _
end D
end Go.Proofs.Ytppnfjapalilfaa
