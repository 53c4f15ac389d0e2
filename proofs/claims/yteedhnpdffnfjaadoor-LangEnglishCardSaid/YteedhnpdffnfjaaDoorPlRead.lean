/- The program's read, and Check: the rules of five texts; what lay in memory stays as it was. -/
import Derived.Test.YteedhnpdffnfjaaDoorPlMath
namespace Go.Proofs.YteedhnpdffnfjaaDoor
namespace Ru
open Go.RowKit Go.Maps D

set_option maxRecDepth 100000 in
theorem texts_index (z o t f m : ByteArray) (k : Nat) (v : Value) (hv : [Value.string z, .string o, .string t, .string f, .string m][k]? = some v) (w : World) : (Instr.index 57 (.agg #[Value.string z, .string o, .string t, .string f, .string m]) (.int .i64 (k : Int))).run Tryd.prog w = .ok v w := by
  have i0 : (Instr.index 57 (.agg #[Value.string z, .string o, .string t, .string f, .string m]) (.int .i64 0)).run Tryd.prog w = .ok (.string z) w := by kernel_rfl
  have i1 : (Instr.index 57 (.agg #[Value.string z, .string o, .string t, .string f, .string m]) (.int .i64 1)).run Tryd.prog w = .ok (.string o) w := by kernel_rfl
  have i2 : (Instr.index 57 (.agg #[Value.string z, .string o, .string t, .string f, .string m]) (.int .i64 2)).run Tryd.prog w = .ok (.string t) w := by kernel_rfl
  have i3 : (Instr.index 57 (.agg #[Value.string z, .string o, .string t, .string f, .string m]) (.int .i64 3)).run Tryd.prog w = .ok (.string f) w := by kernel_rfl
  have i4 : (Instr.index 57 (.agg #[Value.string z, .string o, .string t, .string f, .string m]) (.int .i64 4)).run Tryd.prog w = .ok (.string m) w := by kernel_rfl
  match k, hv with
  | 0, hv => injection hv with hv; subst hv; exact i0
  | 1, hv => injection hv with hv; subst hv; exact i1
  | 2, hv => injection hv with hv; subst hv; exact i2
  | 3, hv => injection hv with hv; subst hv; exact i3
  | 4, hv => injection hv with hv; subst hv; exact i4
  | k + 5, hv => simp at hv
def textsV (ts : List (List UInt8)) : List Value := ts.map fun t => .string (str t)
theorem bs_3 (w : World) (vs us xs : List Value) (t u y : TypeId) : Bs w (((w.alloc (.cells vs.toArray t)).alloc (.cells us.toArray u)).alloc (.cells xs.toArray y)) [(w.heap.size + 2, xs), (w.heap.size + 1, us), (w.heap.size, vs)] := by
  have := (bs_two w vs us t u).alloc xs y
  rwa [show ((w.alloc (.cells vs.toArray t)).alloc (.cells us.toArray u)).heap.size = w.heap.size + 2 from by simp] at this
/-- the rules of five texts -/
def ReadYes (w : World) (z o t f m : List UInt8) (e : Ending) (w' : World) : Prop := ∃ v0 v1 v2 v3 v4 : Value, e = .returned (.tuple #[.agg #[v0, v1, v2, v3, v4], .nilIface]) ∧ SlotAt w' w.heap.size z v0 ∧ SlotAt w' w.heap.size o v1 ∧ SlotAt w' w.heap.size t v2 ∧ SlotAt w' w.heap.size f v3 ∧ SlotAt w' w.heap.size m v4 ∧ Below w.heap.size w w'
def ReadNo (w : World) (e : Ending) (w' : World) : Prop := e = .returned (.tuple #[.agg #[.slice none 0 0, .slice none 0 0, .slice none 0 0, .slice none 0 0, .slice none 0 0], .iface 30 (.int .i64 3)]) ∧ Below w.heap.size w w'
theorem SlotAt.shape {w : World} {base : Nat} {t : List UInt8} {v : Value} (h : SlotAt w base t v) : ∃ (A : Option Addr) (n c : Nat), v = .slice A n c := by
  rcases h with ⟨_, h⟩ | ⟨_, _, _, ps, ad, c, _, h, _⟩
  · exact ⟨none, 0, 0, h⟩
  · exact ⟨some ad, ps.length, c, h⟩
def RightS (z o t f m : List UInt8) : Prop := ∀ x ∈ [z, o, t, f, m], RightT x
def ReadP (w : World) (z o t f m : List UInt8) (e : Ending) (w' : World) : Prop := (RightS z o t f m ∧ ReadYes w z o t f m e w') ∨ (¬ RightS z o t f m ∧ ReadNo w e w')
theorem get5 {vs : List Value} (h : vs.length = 5) : ∃ a b c d e, vs = [a, b, c, d, e] := by
  match vs, h with
  | [a, b, c, d, e], _ => exact ⟨a, b, c, d, e, rfl⟩
set_option maxHeartbeats 4000000 in
set_option maxRecDepth 100000 in
theorem read_any (z o t f m : List UInt8) (w : World) (hs : ∀ x ∈ [z, o, t, f, m], x.length ≤ 1073741824) (hE : Env w) :
    Calls Tryd.prog 17 #[.agg #[.string (str z), .string (str o), .string (str t), .string (str f), .string (str m)]] w (ReadP w z o t f m) := by
  have HX := Lib.hid fun (k : Nat) (v : Value) (hv : [Value.string (str z), .string (str o), .string (str t), .string (str f), .string (str m)][k]? = some v) (W : World) => texts_index (str z) (str o) (str t) (str f) (str m) k v hv W
  have HB0 := Lib.hid (bs_3 w [.string (str z), .string (str o), .string (str t), .string (str f), .string (str m)] [.slice none 0 0, .slice none 0 0, .slice none 0 0, .slice none 0 0, .slice none 0 0] [.slice none 0 0, .slice none 0 0, .slice none 0 0, .slice none 0 0, .slice none 0 0] 23 50 50)
  have HTX : Hid ([Value.string (str z), .string (str o), .string (str t), .string (str f), .string (str m)] = textsV [z, o, t, f, m]) := Lib.hid rfl
  have HS := Lib.hid hs
  have HY := Lib.hid fun (x : List UInt8) (W : World) (hx : x.length ≤ 1073741824) (hW : Env W) (h : IsRule x (ruleOfL x)) => parse_yes (str x) (ruleOfL x) W (by rw [ba_size, str_data]; exact hx) hW (by rw [str_data]; exact h)
  have HN := Lib.hid fun (x : List UInt8) (W : World) (hx : x.length ≤ 1073741824) (hW : Env W) (h : ¬ IsRule x (ruleOfL x)) => parse_nil (str x) W (by rw [ba_size, str_data]; exact hx) hW (by rw [str_data]; exact is_none h)
  have HE := Lib.hid hE
  have HRS : Hid (RightS z o t f m ↔ ∀ x ∈ [z, o, t, f, m], RightT x) := Lib.hid Iff.rfl
  have HT5 : Hid ([z, o, t, f, m].length = 5) := Lib.hid rfl
  have HGET : Hid (∀ (P : List UInt8 → Value → Prop) (vs : List Value), vs.length = 5 → (∀ (j : Nat) (x : List UInt8) (v : Value), [z, o, t, f, m][j]? = some x → vs[j]? = some v → P x v) → ∃ v0 v1 v2 v3 v4, vs = [v0, v1, v2, v3, v4] ∧ P z v0 ∧ P o v1 ∧ P t v2 ∧ P f v3 ∧ P m v4) := Lib.hid (by
    intro P vs hv h
    obtain ⟨a, b, c, d, e, rfl⟩ := get5 hv
    exact ⟨a, b, c, d, e, rfl, h 0 _ _ rfl rfl, h 1 _ _ rfl rfl, h 2 _ _ rfl rfl, h 3 _ _ rfl rfl, h 4 _ _ rfl rfl⟩)
  clear hs hE
  obtain ⟨r0, r1, r2, r3, r4, c0, c1, c2, c3, c4, x0, x1, x2, x3, x4, -⟩ := HB0.out.cells
  go_enter Tryd.func17, Tryd.ntmps17
  go_wp2_with fail
  clear r0 r1 r2 r3 r4 c0 c1 c2 c3 c4 x0 x1 x2 x3 x4
  go_loopw [20] (fun i wr => ∃ (k : Nat) (vs : List Value), k ≤ 5 ∧ i = .int .i64 k ∧ Hid (vs.length = 5) ∧ Hid (Bs w wr [(w.heap.size + 2, vs), (w.heap.size + 1, [.slice none 0 0, .slice none 0 0, .slice none 0 0, .slice none 0 0, .slice none 0 0]), (w.heap.size, [.string (str z), .string (str o), .string (str t), .string (str f), .string (str m)])]) ∧ Hid (∀ (j : Nat) (x : List UInt8) (v : Value), j < k → [z, o, t, f, m][j]? = some x → vs[j]? = some v → RightT x ∧ SlotAt wr (w.heap.size + 3) x v) ∧ Hid (∀ (j : Nat) (v : Value), k ≤ j → vs[j]? = some v → v = .slice none 0 0)) (fun i _ => 5 - (intOf i).toNat)
  case atStart => exact ⟨0, _, Nat.zero_le _, rfl, Lib.hid rfl, HB0, Lib.hid fun j _ _ h => absurd h (Nat.not_lt_zero _), Lib.hid fun j v _ h => by
    match j, h with
    | 0, h | 1, h | 2, h | 3, h | 4, h => injection h with h; exact h.symm
    | j + 5, h => simp at h⟩
  case round =>
    obtain ⟨k, vs, hk, rfl, HL, HB, HOK, HNIL⟩ := hrel
    by_cases hlt : k < 5
    · have hki : (k : Int) < 5 := by omega
      have hki0 : (0 : Int) ≤ (k : Int) := by omega
      obtain ⟨x, hx⟩ : ∃ x, [z, o, t, f, m][k]? = some x := ⟨_, List.getElem?_eq_getElem (by rw [HT5.out]; exact hlt)⟩
      obtain ⟨v, hv⟩ : ∃ v, vs[k]? = some v := ⟨_, List.getElem?_eq_getElem (by rw [HL.out]; exact hlt)⟩
      have hvn := HNIL.out k v (Nat.le_refl _) hv
      subst hvn
      have HXK := HX.out k (.string (str x)) (by rw [HTX.out]; unfold textsV; rw [List.getElem?_map, hx]; rfl)
      have hxm : x ∈ [z, o, t, f, m] := List.mem_of_getElem? hx
      have hxl := HS.out x hxm
      have HXM := Lib.hid hxm
      have HXG := Lib.hid hx
      have HVG := Lib.hid hv
      clear hxm hx hv
      by_cases h0 : x = []
      · subst h0
        go_wp2_with fail
        go_roundw
        case rel => exact ⟨k + 1, vs, by omega, by go_num, HL, HB, Lib.hid (fun j y v hj hy hv => by
          rcases Nat.lt_succ_iff_lt_or_eq.1 hj with hj | rfl
          · exact HOK.out j y v hj hy hv
          · have e1 := HXG.out.symm.trans hy
            have e2 := HVG.out.symm.trans hv
            injection e1 with e1; injection e2 with e2
            subst e1; subst e2
            exact ⟨.inl rfl, .inl ⟨rfl, rfl⟩⟩), Lib.hid fun j v hj hv => HNIL.out j v (by omega) hv⟩
        case measure => simp [intOf]; omega
      · have hxe : (x == []) = false := by simpa using h0
        have HX0 := Lib.hid h0
        by_cases hR : IsRule x (ruleOfL x)
        · have CY := Lib.hid (HY.out x wr hxl (HE.out.later HB.out.below) hR)
          have HRX := Lib.hid hR
          have hsz : w.heap.size + 3 ≤ wr.heap.size := (HB.out.mem.lt (j := 0) rfl).1
          clear hR h0
          go_wp2_with (go_at_call 24; (with_reducible refine (CY.out).mono ?_); rintro e w2 ⟨ps, A, c, hr, rfl, hc, hown, hb2⟩; (have HB2 := Lib.hid (HB.out.call hb2)); (have y0 := HB2.out.cell (j := 0) (i := k) rfl HVG.out); (have y1 := HB2.out.free (j := 0) (i := k) rfl HVG.out); dsimp only)
          go_roundw
          case rel => exact ⟨k + 1, vs.set k (.slice A ps.length c), by omega, by go_num, Lib.hid (by rw [List.length_set]; exact HL.out), Lib.hid (HB2.out.set (j := 0) (i := k) rfl (.slice A ps.length c)), Lib.hid (fun j y v hj hy hv => by
            rcases Nat.lt_succ_iff_lt_or_eq.1 hj with hj | rfl
            · rw [List.getElem?_set_ne (by omega)] at hv
              obtain ⟨h1, h2⟩ := HOK.out j y v hj hy hv
              exact ⟨h1, (h2.later hb2).set (by omega) _ _⟩
            · have e1 := HXG.out.symm.trans hy
              rw [List.getElem?_set_self (by rw [HL.out]; exact hlt)] at hv
              injection e1 with e1; injection hv with hv
              subst e1; subst hv
              exact ⟨.inr HRX.out, ((slot_new HX0.out hxl HRX.out hr hown).base_ hsz).set (by omega) _ _⟩), Lib.hid fun j v hj hv => by
              rw [List.getElem?_set_ne (by omega)] at hv
              exact HNIL.out j v (by omega) hv⟩
          case measure => simp [intOf]; omega
        · have CN := Lib.hid (HN.out x wr hxl (HE.out.later HB.out.below) hR)
          have HNO : Hid (¬ RightS z o t f m) := Lib.hid fun h => (HRS.out.1 h x HXM.out).elim HX0.out hR
          clear hR h0
          go_wp2_with (go_at_call 24; (with_reducible refine (CN.out).mono ?_); rintro e w2 ⟨rfl, hb2⟩; (have HB2 := Lib.hid (HB.out.call hb2)); (have y0 := HB2.out.cell (j := 1) (i := 0) rfl rfl); (have y1 := HB2.out.cell (j := 1) (i := 1) rfl rfl); (have y2 := HB2.out.cell (j := 1) (i := 2) rfl rfl); (have y3 := HB2.out.cell (j := 1) (i := 3) rfl rfl); (have y4 := HB2.out.cell (j := 1) (i := 4) rfl rfl); (have f0 := HB2.out.free (j := 1) (i := 0) rfl rfl); (have f1 := HB2.out.free (j := 1) (i := 1) rfl rfl); (have f2 := HB2.out.free (j := 1) (i := 2) rfl rfl); (have f3 := HB2.out.free (j := 1) (i := 3) rfl rfl); (have f4 := HB2.out.free (j := 1) (i := 4) rfl rfl); dsimp only)
          have HB9 := ((((HB2.out.set (j := 1) (i := 0) rfl (.slice none 0 0)).set (j := 1) (i := 1) rfl (.slice none 0 0)).set (j := 1) (i := 2) rfl (.slice none 0 0)).set (j := 1) (i := 3) rfl (.slice none 0 0)).set (j := 1) (i := 4) rfl (.slice none 0 0)
          exact bodyPost_ret (v := .tuple #[.agg #[.slice none 0 0, .slice none 0 0, .slice none 0 0, .slice none 0 0, .slice none 0 0], .iface 30 (.int .i64 3)]) (by simp [results, Tryd.results17, go_sem, y0, y1, y2, y3, y4]) rfl (.inr ⟨HNO.out, rfl, HB9.below⟩)
    · obtain rfl : k = 5 := by omega
      obtain ⟨v0, v1, v2, v3, v4, rfl, g0, g1, g2, g3, g4⟩ := HGET.out (fun x v => RightT x ∧ SlotAt wr (w.heap.size + 3) x v) vs HL.out (fun j x v hx hv => HOK.out j x v (by have := (List.getElem?_eq_some_iff.1 hv).1; rw [HL.out] at this; exact this) hx hv)
      have HYES : Hid (RightS z o t f m) := Lib.hid (HRS.out.2 fun x hx => by
        simp only [List.mem_cons, List.not_mem_nil, or_false] at hx
        rcases hx with rfl | rfl | rfl | rfl | rfl
        · exact g0.1
        · exact g1.1
        · exact g2.1
        · exact g3.1
        · exact g4.1)
      obtain ⟨A0, n0, c0, rfl⟩ := g0.2.shape
      obtain ⟨A1, n1, c1, rfl⟩ := g1.2.shape
      obtain ⟨A2, n2, c2, rfl⟩ := g2.2.shape
      obtain ⟨A3, n3, c3, rfl⟩ := g3.2.shape
      obtain ⟨A4, n4, c4, rfl⟩ := g4.2.shape
      have HG := Lib.hid (And.intro g0.2 (And.intro g1.2 (And.intro g2.2 (And.intro g3.2 g4.2))))
      clear g0 g1 g2 g3 g4 HOK HNIL
      have z0 := HB.out.cell (j := 0) (i := 0) rfl rfl
      have z1 := HB.out.cell (j := 0) (i := 1) rfl rfl
      have z2 := HB.out.cell (j := 0) (i := 2) rfl rfl
      have z3 := HB.out.cell (j := 0) (i := 3) rfl rfl
      have z4 := HB.out.cell (j := 0) (i := 4) rfl rfl
      have y0 := HB.out.cell (j := 1) (i := 0) rfl rfl
      have y1 := HB.out.cell (j := 1) (i := 1) rfl rfl
      have y2 := HB.out.cell (j := 1) (i := 2) rfl rfl
      have y3 := HB.out.cell (j := 1) (i := 3) rfl rfl
      have y4 := HB.out.cell (j := 1) (i := 4) rfl rfl
      have f0 := HB.out.free (j := 1) (i := 0) rfl rfl
      have f1 := HB.out.free (j := 1) (i := 1) rfl rfl
      have f2 := HB.out.free (j := 1) (i := 2) rfl rfl
      have f3 := HB.out.free (j := 1) (i := 3) rfl rfl
      have f4 := HB.out.free (j := 1) (i := 4) rfl rfl
      go_wp2_with fail
      have HB9 := ((((HB.out.set (j := 1) (i := 0) rfl (.slice A0 n0 c0)).set (j := 1) (i := 1) rfl (.slice A1 n1 c1)).set (j := 1) (i := 2) rfl (.slice A2 n2 c2)).set (j := 1) (i := 3) rfl (.slice A3 n3 c3)).set (j := 1) (i := 4) rfl (.slice A4 n4 c4)
      obtain ⟨g0, g1, g2, g3, g4⟩ := HG.out
      have hg : w.heap.size + 1 < w.heap.size + 3 := by omega
      have hz : w.heap.size ≤ w.heap.size + 3 := by omega
      have K : ∀ {x : List UInt8} {v : Value}, SlotAt wr (w.heap.size + 3) x v → SlotAt (((((wr.setCell ⟨w.heap.size + 1, 0, none⟩ (.slice A0 n0 c0)).setCell ⟨w.heap.size + 1, 1, none⟩ (.slice A1 n1 c1)).setCell ⟨w.heap.size + 1, 2, none⟩ (.slice A2 n2 c2)).setCell ⟨w.heap.size + 1, 3, none⟩ (.slice A3 n3 c3)).setCell ⟨w.heap.size + 1, 4, none⟩ (.slice A4 n4 c4)) w.heap.size x v := fun h => (((((h.set hg 0 (.slice A0 n0 c0)).set hg 1 (.slice A1 n1 c1)).set hg 2 (.slice A2 n2 c2)).set hg 3 (.slice A3 n3 c3)).set hg 4 (.slice A4 n4 c4)).base_ hz
      exact bodyPost_ret (v := .tuple #[.agg #[(.slice A0 n0 c0), (.slice A1 n1 c1), (.slice A2 n2 c2), (.slice A3 n3 c3), (.slice A4 n4 c4)], .nilIface]) (by simp [results, Tryd.results17, go_sem, y0, y1, y2, y3, y4]) rfl (.inl ⟨HYES.out, (.slice A0 n0 c0), (.slice A1 n1 c1), (.slice A2 n2 c2), (.slice A3 n3 c3), (.slice A4 n4 c4), rfl, K g0, K g1, K g2, K g3, K g4, HB9.below⟩)
end Ru
end Go.Proofs.YteedhnpdffnfjaaDoor
