/- S.Rel and S.Rule of the same are true; what lay in memory stays as it was. -/
import Derived.Test.YtabglcpllfcmbaaGreatDoorRuGround
import Derived.ChangeKeysEq
namespace Go.Proofs.YtabglcpllfcmbaaGreatDoor
namespace Ru
open Go.RowKit D

/-- two ranges are the same just if both ends are -/
theorem eq_pair (w : World) (a b a' b' : Int) : (Op.equalIn 10000 96 (.agg #[.int .i64 a, .int .i64 b]) (.agg #[.int .i64 a', .int .i64 b'])).run Tryz.prog w = .ok (a == a' && b == b') w := by
  obtain ⟨i, hi⟩ : ∃ i, Tryz.prog.info? 3 = some i := Option.isSome_iff_exists.1 (by kernel_rfl)
  rw [run_equalIn_array w 9999 _ _ Tryz.underlying96 hi, show Tryz.prog.cellsOf 3 = 1 from by kernel_rfl]
  have e := fun (x y : Int) => run_equalIn_int (P := Tryz.prog) w 9998 3 .i64 .i64 x y Tryz.underlying3
  simp [Op.eqItems, List.range, List.range.loop, part, isAgg, run_underlying Tryz.underlying3, e]
  by_cases h : a = a' <;> by_cases h' : b = b' <;> simp [h, h']
attribute [local go_sem] eq_pair

set_option maxHeartbeats 4000000 in
set_option maxRecDepth 100000 in
theorem relSame_any (op mod : Int) (nt : Bool) (rs : List (Int × Int)) (A B : Option Addr) (n c d : Nat) (w : World) (ha : RgsAt w w.heap.size A n rs) (hb : RgsAt w w.heap.size B n rs) (hl : rs.length = n) (hn : n ≤ maxLen) :
    Calls Tryz.prog 35 #[.agg #[.int .u8 op, .int .i64 mod, .bool nt, .slice A n c], .agg #[.int .u8 op, .int .i64 mod, .bool nt, .slice B n d]] w (TrueB w) := by
  have H0 : Hid (Bs w _ [_, _]) := Lib.hid (bs_two w [.int .u8 op, .int .i64 mod, .bool nt, .slice A n c] [.int .u8 op, .int .i64 mod, .bool nt, .slice B n d] 57 57)
  have HA := Lib.hid ha
  have HB := Lib.hid hb
  have HL := Lib.hid hl
  unfold maxLen at hn
  clear ha hb hl
  go_enter Tryz.func35, Tryz.ntmps35
  go_upto_region 1 with fail
  obtain ⟨v0, hv0⟩ : ∃ V', (w.alloc (.cells #[.int .u8 op, .int .i64 mod, .bool nt, .slice A n c] 57)).alloc (.cells #[.int .u8 op, .int .i64 mod, .bool nt, .slice B n d] 57) = V' := ⟨_, rfl⟩
  rw [hv0] at H0 ⊢
  clear hv0
  obtain ⟨e0, e1, e2, e3, d0, d1, d2, d3, -⟩ := H0.out.cells
  go_wp2_with fail
  go_loopw [4, 5] (fun _ i wr => ∃ k : Nat, k ≤ n ∧ i = .int .i64 k ∧ Hid (Bs w wr [(w.heap.size + 1, [.int .u8 op, .int .i64 mod, .bool nt, .slice B n d]), (w.heap.size, [.int .u8 op, .int .i64 mod, .bool nt, .slice A n c])])) (fun _ i _ => n - (intOf i).toNat)
  case atStart => exact ⟨0, Nat.zero_le _, rfl, H0⟩
  case round =>
    clear e0 e1 e2 e3 d0 d1 d2 d3
    obtain ⟨k, hk, rfl, HW⟩ := hrel
    obtain ⟨e0, e1, e2, e3, d0, d1, d2, d3, -⟩ := HW.out.cells
    by_cases hlt : k < n
    · have hkr : k < rs.length := by have := HL.out; omega
      obtain ⟨ad, rfl, -, x0, x1⟩ := rg_at (n := n) (HA.out.below HW.out.below) hkr
      obtain ⟨bd, rfl, -, y0, y1⟩ := rg_at (n := n) (HB.out.below HW.out.below) hkr
      rw [← add_of_add, add_pos _ _ (by omega)] at x1 y1
      generalize rs[k] = rk at *
      obtain ⟨a, b⟩ := rk
      dsimp only at x0 x1 y0 y1
      have hki : (k : Int) < (n : Int) := by omega
      go_wp2_with fail
      go_quiet (fail)
      go_wp2_with fail
      go_roundw
      case rel => exact ⟨k + 1, by omega, by go_num, Lib.hid (HW.out.drewN nq)⟩
      case measure => simp [intOf]; omega
    · have hki : ¬ ((k : Int) < (n : Int)) := by omega
      clear hlt hk
      go_wp2_with fail
      go_ret
      exact ⟨rfl, HW.out.below⟩

set_option maxHeartbeats 4000000 in
set_option maxRecDepth 100000 in
theorem ruleSame_any (A B : Option Addr) (n c d : Nat) (ps qs : List PartX) (w : World) (ha : RuleAt w w.heap.size A n ps) (hb : RuleAt w w.heap.size B n qs) (he : ruleV ps = ruleV qs) (hn : n ≤ maxLen) (hz : Few ps) :
    Calls Tryz.prog 12 #[.slice A n c, .slice B n d] w (TrueB w) := by
  have HA := Lib.hid ha
  have HB := Lib.hid hb
  have HE := Lib.hid he
  have HL := Lib.hid ha.len
  have HM := Lib.hid hb.len
  have HZ := Lib.hid hz
  unfold maxLen at hn
  clear ha hb hz he
  go_enter Tryz.func12, Tryz.ntmps12
  go_wp2_with fail
  go_loopw [4, 5, 6, 7] (fun _ i _ _ wr => ∃ k : Nat, k ≤ n ∧ i = .int .i64 k ∧ Below w.heap.size w wr) (fun _ i _ _ _ => n - (intOf i).toNat)
  case atStart => exact ⟨0, Nat.zero_le _, rfl, Below.refl _ _⟩
  case round =>
    obtain ⟨k, hk, rfl, hbw⟩ := hrel
    by_cases hlt : k < n
    · have hkp : k < ps.length := by have := HL.out; omega
      have hkq : k < qs.length := by have := HM.out; omega
      have HV : Hid (relsV ps[k].xs = relsV qs[k].xs) := Lib.hid (by
        have := congrArg (fun l => l[k]?) HE.out
        simpa [ruleV, List.getElem?_eq_getElem hkp, List.getElem?_eq_getElem hkq] using this)
      obtain ⟨ad, rfl, -, -, -, -⟩ := ((HA.out.below hbw).more hbw.size).at_ (List.getElem?_eq_getElem hkp)
      obtain ⟨bd, rfl, -, -, -, -⟩ := ((HB.out.below hbw).more hbw.size).at_ (List.getElem?_eq_getElem hkq)
      have HC : Hid (∀ W', Below w.heap.size w W' → W'.cell? (ad.add k) = some (.slice ps[k].A ps[k].xs.length ps[k].c) ∧ RelsAt W' W'.heap.size ps[k].A ps[k].xs.length ps[k].xs) := Lib.hid fun W' hW => by
        obtain ⟨ad', e, _, y0, _, y1⟩ := ((HA.out.below hW).more hW.size).at_ (List.getElem?_eq_getElem hkp)
        injection e with e; subst e
        exact ⟨y0, y1⟩
      have HD : Hid (∀ W', Below w.heap.size w W' → W'.cell? (bd.add k) = some (.slice qs[k].A qs[k].xs.length qs[k].c) ∧ RelsAt W' W'.heap.size qs[k].A qs[k].xs.length qs[k].xs) := Lib.hid fun W' hW => by
        obtain ⟨ad', e, _, y0, _, y1⟩ := ((HB.out.below hW).more hW.size).at_ (List.getElem?_eq_getElem hkq)
        injection e with e; subst e
        exact ⟨y0, y1⟩
      have HP := Lib.hid (HZ.out _ (List.getElem_mem hkp))
      have hsl : ps[k].xs.length = qs[k].xs.length := by have := congrArg List.length HV.out; simpa [relsV] using this
      generalize ps[k] = p at *
      generalize qs[k] = q at *
      obtain ⟨pA, pc, xs⟩ := p
      obtain ⟨qA, qc, ys⟩ := q
      dsimp only at *
      have hki : (k : Int) < (n : Int) := by omega
      have hxl := HP.out.1
      unfold maxLen at hxl
      rw [← hsl] at HD
      have HYL : Hid (ys.length = xs.length) := Lib.hid hsl.symm
      clear hsl
      generalize hln : xs.length = m at *
      have HXL := Lib.hid hln
      clear hln
      obtain ⟨x0, -⟩ := HC.out _ hbw
      obtain ⟨z0, -⟩ := HD.out _ hbw
      go_wp2_with fail
      go_quiet (fail)
      go_wp2_with fail
      clear x0 z0
      have hbn : Below w.heap.size w (wr.drewN nq) := bel_call hbw ⟨rfl, rfl, rfl, by simp, fun _ _ => by simp⟩
      generalize wr.drewN nq = w1 at *
      go_loopw [4, 6, 7] (fun _ j _ wi => ∃ q : Nat, q ≤ m ∧ j = .int .i64 q ∧ Below w.heap.size w wi) (fun _ j _ _ => m - (intOf j).toNat)
      case atStart => exact ⟨0, Nat.zero_le _, rfl, hbn⟩
      case round =>
        obtain ⟨q, hq, rfl, hbi⟩ := hrel
        obtain ⟨x0, hrels⟩ := HC.out _ hbi
        obtain ⟨z0, hrely⟩ := HD.out _ hbi
        by_cases hqm : q < m
        · have hqx : q < xs.length := by have := HXL.out; omega
          have hqy : q < ys.length := by have := HXL.out; have := HYL.out; omega
          have hqi : (q : Int) < (m : Int) := by omega
          have hv : xs[q].v = ys[q].v := by
            have := congrArg (fun l => l[q]?) HV.out
            simpa [relsV, List.getElem?_eq_getElem hqx, List.getElem?_eq_getElem hqy] using this
          obtain ⟨a2, rfl, -, y0, y1, y2, y3, -, -⟩ := hrels.at_ (List.getElem?_eq_getElem hqx)
          obtain ⟨b2, rfl, -, u0, u1, u2, u3, -, -⟩ := hrely.at_ (List.getElem?_eq_getElem hqy)
          rw [← add_of_add, add_pos _ _ (by omega)] at y1 y2 y3 u1 u2 u3
          have HS : Hid (∀ wx, Below wr.heap.size wr wx → Below wr.heap.size wr wx ∧ wx.cell? (ad.add k) = some (.slice (some a2) m pc) ∧ wx.cell? (a2.add (q * 4)) = some (.int .u8 xs[q].v.op) ∧ wx.cell? ⟨(a2.add (q * 4)).block, (a2.add (q * 4)).off + 1, none⟩ = some (.int .i64 xs[q].v.mod) ∧ wx.cell? ⟨(a2.add (q * 4)).block, (a2.add (q * 4)).off + 2, none⟩ = some (.bool xs[q].v.nt) ∧ wx.cell? ⟨(a2.add (q * 4)).block, (a2.add (q * 4)).off + 3, none⟩ = some (.slice xs[q].A xs[q].v.rs.length xs[q].c) ∧
              wx.cell? (bd.add k) = some (.slice (some b2) m qc) ∧ wx.cell? (b2.add (q * 4)) = some (.int .u8 xs[q].v.op) ∧ wx.cell? ⟨(b2.add (q * 4)).block, (b2.add (q * 4)).off + 1, none⟩ = some (.int .i64 xs[q].v.mod) ∧ wx.cell? ⟨(b2.add (q * 4)).block, (b2.add (q * 4)).off + 2, none⟩ = some (.bool xs[q].v.nt) ∧ wx.cell? ⟨(b2.add (q * 4)).block, (b2.add (q * 4)).off + 3, none⟩ = some (.slice ys[q].A xs[q].v.rs.length ys[q].c)) := Lib.hid fun wx hb => by
            obtain ⟨s0, hr2⟩ := HC.out _ (bel_call hbi hb)
            obtain ⟨t0, hr3⟩ := HD.out _ (bel_call hbi hb)
            obtain ⟨a3, e, _, y0, y1, y2, y3, _, _⟩ := hr2.at_ (List.getElem?_eq_getElem hqx)
            obtain ⟨b3, e', _, u0, u1, u2, u3, _, _⟩ := hr3.at_ (List.getElem?_eq_getElem hqy)
            injection e with e; subst e
            injection e' with e'; subst e'
            rw [← add_of_add, add_pos _ _ (by omega)] at y1 y2 y3 u1 u2 u3
            have u3 : wx.cell? _ = some (.slice ys[q].A ys[q].v.rs.length ys[q].c) := u3
            rw [← hv] at u0 u1 u2 u3
            exact ⟨hb, s0, y0, y1, y2, y3, t0, u0, u1, u2, u3⟩
          have CX := Lib.hid fun (W' : World) (hW : Below wr.heap.size wr W') => by
            obtain ⟨_, hr2⟩ := HC.out _ (bel_call hbi hW)
            obtain ⟨_, hr3⟩ := HD.out _ (bel_call hbi hW)
            have hg := hr2.rgs _ (List.getElem_mem hqx)
            have hh := hr3.rgs _ (List.getElem_mem hqy)
            rw [← hv] at hh
            exact relSame_any xs[q].v.op xs[q].v.mod xs[q].v.nt xs[q].v.rs xs[q].A ys[q].A xs[q].v.rs.length xs[q].c ys[q].c W' hg.2 hh.2 rfl (HP.out.2 _ (List.getElem_mem hqx))
          clear x0 z0 y0 y1 y2 y3 u0 u1 u2 u3 hrels hrely hv
          generalize xs[q] = x at *
          generalize ys[q] = y at *
          obtain ⟨⟨op, mod, nt, rs⟩, xA, xc⟩ := x
          obtain ⟨yv, yA, yc⟩ := y
          dsimp only at *
          generalize rs.length = rl at *
          obtain ⟨x0, y0, y1, y2, y3, z0, u0, u1, u2, u3⟩ := (HS.out _ (Below.refl _ _)).2
          go_wp2_with fail
          have hB0 := (HS.out _ (Below.refl _ _)).1
          go_region_held3 (fun wx => Below wr.heap.size wr wx ∧ wx.cell? (ad.add k) = some (.slice (some a2) m pc) ∧ wx.cell? (a2.add (q * 4)) = some (.int .u8 op) ∧ wx.cell? ⟨(a2.add (q * 4)).block, (a2.add (q * 4)).off + 1, none⟩ = some (.int .i64 mod) ∧ wx.cell? ⟨(a2.add (q * 4)).block, (a2.add (q * 4)).off + 2, none⟩ = some (.bool nt) ∧ wx.cell? ⟨(a2.add (q * 4)).block, (a2.add (q * 4)).off + 3, none⟩ = some (.slice xA rl xc) ∧
              wx.cell? (bd.add k) = some (.slice (some b2) m qc) ∧ wx.cell? (b2.add (q * 4)) = some (.int .u8 op) ∧ wx.cell? ⟨(b2.add (q * 4)).block, (b2.add (q * 4)).off + 1, none⟩ = some (.int .i64 mod) ∧ wx.cell? ⟨(b2.add (q * 4)).block, (b2.add (q * 4)).off + 2, none⟩ = some (.bool nt) ∧ wx.cell? ⟨(b2.add (q * 4)).block, (b2.add (q * 4)).off + 3, none⟩ = some (.slice yA rl yc))
            (first | exact HS.out _ (by assumption) | exact HS.out _ (Below.drew (by assumption)))
            (first
              | (go_at_call 35; (with_reducible refine (CX.out _ ?_).mono ?_); (first | assumption | exact Below.drew (by assumption)); rintro e wy ⟨rfl, hby⟩; (have hTy : Below wr.heap.size wr wy := by first | exact bel_call (by assumption) hby | exact bel_call (Below.drew (by assumption)) hby)))
          go_wp2_with fail
          go_roundw
          case rel => exact ⟨q + 1, by omega, by go_num, bel_call hbi hTy⟩
          case measure => simp [intOf]; omega
        · have hqi : ¬ ((q : Int) < (m : Int)) := by omega
          clear hqm hq
          go_wp2_with fail
          go_roundw
          case rel => exact ⟨k + 1, by omega, by go_num, hbi⟩
          case measure => simp [intOf]; omega
    · have hki : ¬ ((k : Int) < (n : Int)) := by omega
      clear hlt hk
      go_wp2_with fail
      go_ret
      exact ⟨rfl, hbw⟩
end Ru
end Go.Proofs.YtabglcpllfcmbaaGreatDoor
