/- The program's hold: for each of five rules if it is there and holds; what lay in memory stays as it was. -/
import Derived.Test.YteedhnpdffnfjaaDoorPlRead
namespace Go.Proofs.YteedhnpdffnfjaaDoor
namespace Ru
open Go.RowKit Go.Maps D

set_option maxRecDepth 100000 in
theorem slots_index (a b c d e : Value) (k : Nat) (v : Value) (hv : [a, b, c, d, e][k]? = some v) (w : World) : (Instr.index 50 (.agg #[a, b, c, d, e]) (.int .i64 (k : Int))).run Tryd.prog w = .ok v w := by
  have i0 : (Instr.index 50 (.agg #[a, b, c, d, e]) (.int .i64 0)).run Tryd.prog w = .ok (a) w := by kernel_rfl
  have i1 : (Instr.index 50 (.agg #[a, b, c, d, e]) (.int .i64 1)).run Tryd.prog w = .ok (b) w := by kernel_rfl
  have i2 : (Instr.index 50 (.agg #[a, b, c, d, e]) (.int .i64 2)).run Tryd.prog w = .ok (c) w := by kernel_rfl
  have i3 : (Instr.index 50 (.agg #[a, b, c, d, e]) (.int .i64 3)).run Tryd.prog w = .ok (d) w := by kernel_rfl
  have i4 : (Instr.index 50 (.agg #[a, b, c, d, e]) (.int .i64 4)).run Tryd.prog w = .ok (e) w := by kernel_rfl
  match k, hv with
  | 0, hv => injection hv with hv; subst hv; exact i0
  | 1, hv => injection hv with hv; subst hv; exact i1
  | 2, hv => injection hv with hv; subst hv; exact i2
  | 3, hv => injection hv with hv; subst hv; exact i3
  | 4, hv => injection hv with hv; subst hv; exact i4
  | k + 5, hv => simp at hv
theorem eql_nil (w : World) : (binOp .eql 48 (.slice none 0 0) (.slice none 0 0)).run Tryd.prog w = .ok (.bool true) w := Lib.run_eql_slice_nil w 48 83 none 0 0 0 0 Tryd.underlying48
theorem eql_some (ad : Addr) (n c : Nat) (w : World) : (binOp .eql 48 (.slice (some ad) n c) (.slice none 0 0)).run Tryd.prog w = .ok (.bool false) w := Lib.run_eql_slice_nil w 48 83 (some ad) n c 0 0 Tryd.underlying48
theorem bs_4 (w : World) (vs us xs ys : List Value) (t u y z : TypeId) : Bs w ((((w.alloc (.cells vs.toArray t)).alloc (.cells us.toArray u)).alloc (.cells xs.toArray y)).alloc (.cells ys.toArray z)) [(w.heap.size + 3, ys), (w.heap.size + 2, xs), (w.heap.size + 1, us), (w.heap.size, vs)] := by
  have := (bs_3 w vs us xs t u y).alloc ys z
  rwa [show (((w.alloc (.cells vs.toArray t)).alloc (.cells us.toArray u)).alloc (.cells xs.toArray y)).heap.size = w.heap.size + 3 from by simp] at this
def HoldP (w : World) (b0 b1 b2 b3 b4 : Bool) (e : Ending) (w' : World) : Prop := e = .returned (.tuple #[.agg #[.bool b0, .bool b1, .bool b2, .bool b3, .bool b4], .nilIface]) ∧ Below w.heap.size w w'
set_option maxHeartbeats 4000000 in
set_option maxRecDepth 100000 in
theorem hold_any (z o t f m : List UInt8) (v0 v1 v2 v3 v4 : Value) (base : Nat) (I V W F T : Int) (w : World) (h0 : SlotAt w base z v0) (h1 : SlotAt w base o v1) (h2 : SlotAt w base t v2) (h3 : SlotAt w base f v3) (h4 : SlotAt w base m v4)
    (hI : I64 I) (hV : I64 V) (hW : I64 W) (hF : I64 F) (hT : I64 T) :
    Calls Tryd.prog 18 #[.agg #[v0, v1, v2, v3, v4], .agg #[.int .i64 I, .int .i64 V, .int .i64 W, .int .i64 F, .int .i64 T]] w (HoldP w (hitB I V W F T z) (hitB I V W F T o) (hitB I V W F T t) (hitB I V W F T f) (hitB I V W F T m)) := by
  have HX := Lib.hid fun (k : Nat) (v : Value) (hv : [v0, v1, v2, v3, v4][k]? = some v) (W' : World) => slots_index v0 v1 v2 v3 v4 k v hv W'
  have HB0 := Lib.hid (bs_4 w [v0, v1, v2, v3, v4] [.int .i64 I, .int .i64 V, .int .i64 W, .int .i64 F, .int .i64 T] [.bool false, .bool false, .bool false, .bool false, .bool false] [.bool false, .bool false, .bool false, .bool false, .bool false] 50 41 54 54)
  have HSL : Hid (∀ (j : Nat) (x : List UInt8) (v : Value), [z, o, t, f, m][j]? = some x → [v0, v1, v2, v3, v4][j]? = some v → SlotAt w base x v) := Lib.hid (by
    intro j x v hx hv
    match j, hx, hv with
    | 0, hx, hv => injection hx with hx; injection hv with hv; subst hx; subst hv; exact h0
    | 1, hx, hv => injection hx with hx; injection hv with hv; subst hx; subst hv; exact h1
    | 2, hx, hv => injection hx with hx; injection hv with hv; subst hx; subst hv; exact h2
    | 3, hx, hv => injection hx with hx; injection hv with hv; subst hx; subst hv; exact h3
    | 4, hx, hv => injection hx with hx; injection hv with hv; subst hx; subst hv; exact h4
    | j + 5, hx, hv => simp at hx)
  have HH := Lib.hid fun (x : List UInt8) (v : Value) (h : SlotAt w base x v) (hx : x ≠ []) => slot_holds h hx I V W F T hI hV hW hF hT
  have HHN : Hid (hitB I V W F T [] = false) := Lib.hid rfl
  generalize hitB I V W F T = hit at *
  have HGET : Hid (∀ (P : List UInt8 → Value → Prop) (vs : List Value), vs.length = 5 → (∀ (j : Nat) (x : List UInt8) (v : Value), [z, o, t, f, m][j]? = some x → vs[j]? = some v → P x v) → ∃ v0 v1 v2 v3 v4, vs = [v0, v1, v2, v3, v4] ∧ P z v0 ∧ P o v1 ∧ P t v2 ∧ P f v3 ∧ P m v4) := Lib.hid (by
    intro P vs hv h
    obtain ⟨a, b, c, d, e, rfl⟩ := get5 hv
    exact ⟨a, b, c, d, e, rfl, h 0 _ _ rfl rfl, h 1 _ _ rfl rfl, h 2 _ _ rfl rfl, h 3 _ _ rfl rfl, h 4 _ _ rfl rfl⟩)
  have HT5 : Hid ([z, o, t, f, m].length = 5 ∧ [v0, v1, v2, v3, v4].length = 5) := Lib.hid ⟨rfl, rfl⟩
  clear h0 h1 h2 h3 h4 hI hV hW hF hT
  obtain ⟨q0, q1, q2, q3, q4, r0, r1, r2, r3, r4, c0, c1, c2, c3, c4, x0, x1, x2, x3, x4, -⟩ := HB0.out.cells
  go_enter Tryd.func18, Tryd.ntmps18
  go_wp2_with fail
  clear q0 q1 q2 q3 q4 r0 r1 r2 r3 r4 c0 c1 c2 c3 c4 x0 x1 x2 x3 x4
  go_loopw [12] (fun i wr => ∃ (k : Nat) (bs : List Value), k ≤ 5 ∧ i = .int .i64 k ∧ Hid (bs.length = 5) ∧ Hid (Bs w wr [(w.heap.size + 3, bs), (w.heap.size + 2, [.bool false, .bool false, .bool false, .bool false, .bool false]), (w.heap.size + 1, [.int .i64 I, .int .i64 V, .int .i64 W, .int .i64 F, .int .i64 T]), (w.heap.size, [v0, v1, v2, v3, v4])]) ∧ Hid (∀ (j : Nat) (x : List UInt8) (b : Value), j < k → [z, o, t, f, m][j]? = some x → bs[j]? = some b → b = .bool (hit x)) ∧ Hid (∀ (j : Nat) (b : Value), k ≤ j → bs[j]? = some b → b = .bool false)) (fun i _ => 5 - (intOf i).toNat)
  case atStart => exact ⟨0, _, Nat.zero_le _, rfl, Lib.hid rfl, HB0, Lib.hid fun j _ _ h => absurd h (Nat.not_lt_zero _), Lib.hid fun j v _ h => by
    match j, h with
    | 0, h | 1, h | 2, h | 3, h | 4, h => injection h with h; exact h.symm
    | j + 5, h => simp at h⟩
  case round =>
    obtain ⟨k, bs, hk, rfl, HL, HB, HOK, HNIL⟩ := hrel
    by_cases hlt : k < 5
    · have hki : (k : Int) < 5 := by omega
      have hki0 : (0 : Int) ≤ (k : Int) := by omega
      obtain ⟨x, hx⟩ : ∃ x, [z, o, t, f, m][k]? = some x := ⟨_, List.getElem?_eq_getElem (by rw [HT5.out.1]; exact hlt)⟩
      obtain ⟨v, hv⟩ : ∃ v, [v0, v1, v2, v3, v4][k]? = some v := ⟨_, List.getElem?_eq_getElem (by rw [HT5.out.2]; exact hlt)⟩
      obtain ⟨b, hb⟩ : ∃ b, bs[k]? = some b := ⟨_, List.getElem?_eq_getElem (by rw [HL.out]; exact hlt)⟩
      have hbn := HNIL.out k b (Nat.le_refl _) hb
      subst hbn
      have HXK := HX.out k v hv
      have hsl := HSL.out k x v hx hv
      have HXG := Lib.hid hx
      have HBG := Lib.hid hb
      clear hx hb hv
      by_cases h0 : x = []
      · obtain rfl : v = .slice none 0 0 := by
          rcases hsl with h | h
          · exact h.2
          · exact absurd h0 h.1
        subst h0
        clear hsl
        have hin := eql_nil
        go_wp2_with fail
        go_roundw
        case rel => exact ⟨k + 1, bs, by omega, by go_num, HL, HB, Lib.hid (fun j y u hj hy hu => by
          rcases Nat.lt_succ_iff_lt_or_eq.1 hj with hj | rfl
          · exact HOK.out j y u hj hy hu
          · have e1 := HXG.out.symm.trans hy
            have e2 := HBG.out.symm.trans hu
            injection e1 with e1; injection e2 with e2
            subst e1; subst e2
            rw [HHN.out]), Lib.hid fun j u hj hu => HNIL.out j u (by omega) hu⟩
        case measure => simp [intOf]; omega
      · obtain ⟨⟨ad, n, c, rfl⟩, hC⟩ := HH.out x v hsl h0
        have CH := Lib.hid (hC wr HB.out.below)
        clear hsl hC h0
        have hin := eql_some ad n c
        have z0 := HB.out.cell (j := 2) (i := 0) rfl rfl
        have z1 := HB.out.cell (j := 2) (i := 1) rfl rfl
        have z2 := HB.out.cell (j := 2) (i := 2) rfl rfl
        have z3 := HB.out.cell (j := 2) (i := 3) rfl rfl
        have z4 := HB.out.cell (j := 2) (i := 4) rfl rfl
        go_wp2_with (go_at_call 25; (with_reducible refine (CH.out).mono ?_); rintro e w2 ⟨rfl, hb2⟩; (have HB2 := Lib.hid (HB.out.call hb2)); (have y0 := HB2.out.cell (j := 0) (i := k) rfl HBG.out); (have y1 := HB2.out.free (j := 0) (i := k) rfl HBG.out); dsimp only)
        go_roundw
        case rel => exact ⟨k + 1, bs.set k (.bool (hit x)), by omega, by go_num, Lib.hid (by rw [List.length_set]; exact HL.out), Lib.hid (HB2.out.set (j := 0) (i := k) rfl (.bool (hit x))), Lib.hid (fun j y u hj hy hu => by
          rcases Nat.lt_succ_iff_lt_or_eq.1 hj with hj | rfl
          · rw [List.getElem?_set_ne (by omega)] at hu
            exact HOK.out j y u hj hy hu
          · have e1 := HXG.out.symm.trans hy
            rw [List.getElem?_set_self (by rw [HL.out]; exact hlt)] at hu
            injection e1 with e1; injection hu with hu
            subst e1; subst hu
            rfl), Lib.hid fun j u hj hu => by
            rw [List.getElem?_set_ne (by omega)] at hu
            exact HNIL.out j u (by omega) hu⟩
        case measure => simp [intOf]; omega
    · obtain rfl : k = 5 := by omega
      obtain ⟨u0, u1, u2, u3, u4, rfl, rfl, rfl, rfl, rfl, rfl⟩ := HGET.out (fun x b => b = .bool (hit x)) bs HL.out (fun j x v hx hv => HOK.out j x v (by have := (List.getElem?_eq_some_iff.1 hv).1; rw [HL.out] at this; exact this) hx hv)
      clear HOK HNIL
      have z0 := HB.out.cell (j := 0) (i := 0) rfl rfl
      have z1 := HB.out.cell (j := 0) (i := 1) rfl rfl
      have z2 := HB.out.cell (j := 0) (i := 2) rfl rfl
      have z3 := HB.out.cell (j := 0) (i := 3) rfl rfl
      have z4 := HB.out.cell (j := 0) (i := 4) rfl rfl
      have y0 := HB.out.cell (j := 1) (i := 0) rfl rfl
      have y1 := HB.out.cell (j := 1) (i := 1) rfl rfl
      have y2 := HB.out.cell (j := 1) (i := 2) rfl rfl
      have y3 := HB.out.cell (j := 1) (i := 3) rfl rfl
      have y4 := HB.out.cell (j := 1) (i := 4) rfl rfl
      have f0 := HB.out.free (j := 1) (i := 0) rfl rfl
      have f1 := HB.out.free (j := 1) (i := 1) rfl rfl
      have f2 := HB.out.free (j := 1) (i := 2) rfl rfl
      have f3 := HB.out.free (j := 1) (i := 3) rfl rfl
      have f4 := HB.out.free (j := 1) (i := 4) rfl rfl
      go_wp2_with fail
      have HB9 := ((((HB.out.set (j := 1) (i := 0) rfl (.bool (hit z))).set (j := 1) (i := 1) rfl (.bool (hit o))).set (j := 1) (i := 2) rfl (.bool (hit t))).set (j := 1) (i := 3) rfl (.bool (hit f))).set (j := 1) (i := 4) rfl (.bool (hit m))
      exact bodyPost_ret (v := .tuple #[.agg #[.bool (hit z), .bool (hit o), .bool (hit t), .bool (hit f), .bool (hit m)], .nilIface]) (by simp [results, Tryd.results18, go_sem, y0, y1, y2, y3, y4]) rfl ⟨rfl, HB9.below⟩
end Ru
end Go.Proofs.YteedhnpdffnfjaaDoor
