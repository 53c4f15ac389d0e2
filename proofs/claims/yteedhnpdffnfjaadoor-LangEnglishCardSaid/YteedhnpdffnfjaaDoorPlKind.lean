/- The program's Kind and Check: what five texts tell of a number; what lay in memory stays as it was. -/
import Derived.Test.YteedhnpdffnfjaaDoorPlHold
import Derived.Test.YteedhnpdffnfjaaDoorOpsWalk
namespace Go.Proofs.YteedhnpdffnfjaaDoor
namespace Ru
open Go.RowKit Go.Maps D

/-- the names of the kinds that have rules -/
def Names (w : World) : Prop := ∀ j, j < 5 → w.cell? ⟨0, j, none⟩ = some (.string (str (kindL j)))
theorem Names.later {w W : World} (h : Names w) (hb : Below w.heap.size w W) : Names W := fun j hj => (hb.cell (p := ⟨0, j, none⟩) (World.block_lt_of_cell? w _ (h j hj))).trans (h j hj)
/-- the first place that holds -/
theorem first_get : ∀ {bs : List Bool}, firstB bs < bs.length → bs[firstB bs]? = some true ∧ ∀ j, j < firstB bs → bs[j]? = some false
  | [], h => by simp at h
  | true :: l, _ => ⟨rfl, fun j hj => absurd hj (Nat.not_lt_zero _)⟩
  | false :: l, h => by
    have h' : firstB l < l.length := by simpa [firstB] using h
    obtain ⟨h1, h2⟩ := first_get h'
    refine ⟨by simpa [firstB] using h1, fun j hj => ?_⟩
    cases j with
    | zero => rfl
    | succ j => simpa using h2 j (by simpa [firstB] using hj)
set_option maxHeartbeats 2000000 in
set_option maxRecDepth 100000 in
theorem index_any (bs : List Bool) (n i g : Nat) (w : World) (hn : bs.length = n) (hm : n ≤ 5) (hc : ∀ (j : Nat) (b : Bool), bs[j]? = some b → w.cell? ⟨g, j, none⟩ = some (.bool b)) (hg : g < w.heap.size) (hi : bs[i]? = some true) (hf : ∀ j, j < i → bs[j]? = some false) :
    Calls Tryd.prog 19 #[.slice (some ⟨g, 0, none⟩) n n, .bool true] w (Gives w (.int .i64 i)) := by
  have hin : i < n := by have := (List.getElem?_eq_some_iff.1 hi).1; omega
  have HC := Lib.hid fun (U : World) (hU : Below w.heap.size w U) (j : Nat) (b : Bool) (h : bs[j]? = some b) => (hU.cell (p := ⟨g, j, none⟩) hg).trans (hc j b h)
  have HI := Lib.hid hi
  have HF := Lib.hid hf
  clear hc hn hi hf
  go_enter Tryd.func19, Tryd.ntmps19
  go_wp2_with fail
  go_loopw [8] (fun v wr => ∃ k : Nat, k ≤ i ∧ v = .int .i64 k ∧ Below w.heap.size w wr) (fun v _ => n - (intOf v).toNat)
  case atStart => exact ⟨0, Nat.zero_le _, rfl, Below.refl _ _⟩
  case round =>
    obtain ⟨k, hk, rfl, hb⟩ := hrel
    have hki : (k : Int) < (n : Int) := by omega
    have hki0 : (0 : Int) ≤ (k : Int) := by omega
    by_cases hlt : k < i
    · have x0 := HC.out wr hb k false (HF.out k hlt)
      go_wp2_with fail
      go_roundw
      case rel => exact ⟨k + 1, by omega, by go_num, hb⟩
      case measure => simp [intOf]; omega
    · obtain rfl : k = i := by omega
      have x0 := HC.out wr hb k true HI.out
      go_wp2_with fail
      go_ret
      exact ⟨rfl, hb⟩
def KindYes (w : World) (t : ByteArray) (e : Ending) (w' : World) : Prop := e = .returned (.tuple #[.string t, .nilIface]) ∧ Below w.heap.size w w'
def KindNo (w : World) (k : Nat) (e : Ending) (w' : World) : Prop := e = .returned (.tuple #[.string ⟨#[]⟩, .iface 30 (.int .i64 k)]) ∧ Below w.heap.size w w'
theorem read_yes {args : Array Value} {w : World} {z o t f m : List UInt8} (h : Calls Tryd.prog 17 args w (ReadP w z o t f m)) (hR : RightS z o t f m) : Calls Tryd.prog 17 args w (ReadYes w z o t f m) :=
  h.mono fun _ _ h => h.elim (fun h => h.2) (fun h => absurd hR h.1)
theorem read_no {args : Array Value} {w : World} {z o t f m : List UInt8} (h : Calls Tryd.prog 17 args w (ReadP w z o t f m)) (hR : ¬ RightS z o t f m) : Calls Tryd.prog 17 args w (ReadNo w) :=
  h.mono fun _ _ h => h.elim (fun h => absurd h.1 hR) (fun h => h.2)
set_option maxHeartbeats 4000000 in
set_option maxRecDepth 100000 in
theorem kind_bad (z o t f m : List UInt8) (c s : Int) (w : World) (hs : ∀ x ∈ [z, o, t, f, m], x.length ≤ 1073741824) (hE : Env w) :
    (¬ RightS z o t f m → Calls Tryd.prog 11 #[.agg #[.string (str z), .string (str o), .string (str t), .string (str f), .string (str m)], .agg #[.int .i64 c, .int .i64 s]] w (KindNo w 3)) ∧
    (RightS z o t f m → ¬ Right c s → Calls Tryd.prog 11 #[.agg #[.string (str z), .string (str o), .string (str t), .string (str f), .string (str m)], .agg #[.int .i64 c, .int .i64 s]] w (KindNo w 1)) := by
  have HB0 := Lib.hid (bs_two w [.string (str z), .string (str o), .string (str t), .string (str f), .string (str m)] [.int .i64 c, .int .i64 s] 23 36)
  have HR := Lib.hid (read_any z o t f m _ hs (hE.later HB0.out.below))
  obtain ⟨d0, d1, x0, x1, x2, x3, x4, -⟩ := HB0.out.cells
  clear hs hE
  constructor
  · intro h
    have CY := Lib.hid (read_no HR.out h)
    clear h HR
    go_enter Tryd.func11, Tryd.ntmps11
    go_wp2_with (go_at_call 17; (with_reducible refine (CY.out).mono ?_); rintro e w2 ⟨rfl, hb2⟩; (have HB2 := Lib.hid ((HB0.out.call hb2).alloc [.slice none 0 0, .slice none 0 0, .slice none 0 0, .slice none 0 0, .slice none 0 0] 50)); dsimp only)
    exact bodyPost_ret (v := .tuple #[.string ⟨#[]⟩, .iface 30 (.int .i64 3)]) (by simp [results, Tryd.results11, go_sem]) rfl ⟨rfl, HB2.out.below⟩
  · intro h hd
    have CY := Lib.hid (read_yes HR.out h)
    have CO := Lib.hid fun W => of_no hd W
    clear h HR hd
    go_enter Tryd.func11, Tryd.ntmps11
    go_upto_region 4 with (go_at_call 17; (with_reducible refine (CY.out).mono ?_); rintro e w2 ⟨v0, v1, v2, v3, v4, rfl, s0, s1, s2, s3, s4, hb2⟩; (obtain ⟨A0, n0, k0, rfl⟩ := s0.shape); (obtain ⟨A1, n1, k1, rfl⟩ := s1.shape); (obtain ⟨A2, n2, k2, rfl⟩ := s2.shape); (obtain ⟨A3, n3, k3, rfl⟩ := s3.shape); (obtain ⟨A4, n4, k4, rfl⟩ := s4.shape); (have HB2 := Lib.hid ((HB0.out.call hb2).alloc [.slice A0 n0 k0, .slice A1 n1 k1, .slice A2 n2 k2, .slice A3 n3 k3, .slice A4 n4 k4] 50)); dsimp only)
    obtain ⟨-, -, -, -, -, q0, q1, -⟩ := HB2.out.cells
    go_wp2_with (go_at_call 14; (with_reducible refine (CO.out _).mono ?_); rintro e w3 ⟨rfl, hb3⟩; (have HB3 := Lib.hid ((HB2.out.call hb3).alloc [.int .i64 0, .int .i64 0, .int .i64 0, .int .i64 0, .int .i64 0] 41)); dsimp only)
    exact bodyPost_ret (v := .tuple #[.string ⟨#[]⟩, .iface 30 (.int .i64 1)]) (by simp [results, Tryd.results11, go_sem]) rfl ⟨rfl, HB3.out.below⟩
theorem ops_i64 {c s : Int} (h : Right c s) : I64 (opsI c s) ∧ I64 s ∧ I64 (opsW c s) ∧ I64 (opsF c s) ∧ I64 (opsT c s) := by
  obtain ⟨⟨h1, h2⟩, ⟨h3, h4⟩, h5, h6⟩ := ops_bounds h
  have h7 : ten s ≤ 1000000000 := ten_le_nine h.1 h.2.1
  have h8 := ops_w c s h.1
  have h9 := h.1
  have h10 := h.2.1
  unfold I64
  exact ⟨by omega, by omega, by omega, by omega, by omega⟩
set_option maxRecDepth 100000 in
theorem eql_hold (b0 b1 b2 b3 b4 : Bool) (w : World) : (binOp .eql 54 (.agg #[.bool b0, .bool b1, .bool b2, .bool b3, .bool b4]) (.agg #[.bool false, .bool false, .bool false, .bool false, .bool false])).run Tryd.prog w = .ok (.bool (!(b0 || b1 || b2 || b3 || b4))) w := by
  cases b0 <;> cases b1 <;> cases b2 <;> cases b3 <;> cases b4 <;> kernel_rfl
/-- the five names are six kinds -/
theorem kind_first {b0 b1 b2 b3 b4 : Bool} : (b0 = true ∧ firstB [b0, b1, b2, b3, b4] = 0) ∨ (b0 = false ∧ b1 = true ∧ firstB [b0, b1, b2, b3, b4] = 1) ∨ (b0 = false ∧ b1 = false ∧ b2 = true ∧ firstB [b0, b1, b2, b3, b4] = 2) ∨ (b0 = false ∧ b1 = false ∧ b2 = false ∧ b3 = true ∧ firstB [b0, b1, b2, b3, b4] = 3) ∨ (b0 = false ∧ b1 = false ∧ b2 = false ∧ b3 = false ∧ b4 = true ∧ firstB [b0, b1, b2, b3, b4] = 4) ∨ (b0 = false ∧ b1 = false ∧ b2 = false ∧ b3 = false ∧ b4 = false ∧ firstB [b0, b1, b2, b3, b4] = 5) := by
  cases b0 <;> cases b1 <;> cases b2 <;> cases b3 <;> cases b4 <;> decide
set_option maxHeartbeats 4000000 in
set_option maxRecDepth 100000 in
theorem kind_good (z o t f m : List UInt8) (c s : Int) (w : World) (hs : ∀ x ∈ [z, o, t, f, m], x.length ≤ 1073741824) (hE : Env w) (hN : Names w) (hr : RightS z o t f m) (hd : Right c s) :
    Calls Tryd.prog 11 #[.agg #[.string (str z), .string (str o), .string (str t), .string (str f), .string (str m)], .agg #[.int .i64 c, .int .i64 s]] w (KindYes w (str (kindS [z, o, t, f, m] (opsI c s) s (opsW c s) (opsF c s) (opsT c s)))) := by
  have HB0 := Lib.hid (bs_two w [.string (str z), .string (str o), .string (str t), .string (str f), .string (str m)] [.int .i64 c, .int .i64 s] 23 36)
  have CY := Lib.hid (read_yes (read_any z o t f m _ hs (hE.later HB0.out.below)) hr)
  have CO := Lib.hid fun W => of_ok hd W
  have CH := Lib.hid fun (v0 v1 v2 v3 v4 : Value) (base : Nat) (W : World) (h0 : SlotAt W base z v0) (h1 : SlotAt W base o v1) (h2 : SlotAt W base t v2) (h3 : SlotAt W base f v3) (h4 : SlotAt W base m v4) =>
    hold_any z o t f m v0 v1 v2 v3 v4 base (opsI c s) s (opsW c s) (opsF c s) (opsT c s) W h0 h1 h2 h3 h4 (ops_i64 hd).1 (ops_i64 hd).2.1 (ops_i64 hd).2.2.1 (ops_i64 hd).2.2.2.1 (ops_i64 hd).2.2.2.2
  have HNM := Lib.hid fun (W : World) (hW : Below w.heap.size w W) => hN.later hW
  have HKS : Hid (kindS [z, o, t, f, m] (opsI c s) s (opsW c s) (opsF c s) (opsT c s) = kindL (firstB [hitB (opsI c s) s (opsW c s) (opsF c s) (opsT c s) z, hitB (opsI c s) s (opsW c s) (opsF c s) (opsT c s) o, hitB (opsI c s) s (opsW c s) (opsF c s) (opsT c s) t, hitB (opsI c s) s (opsW c s) (opsF c s) (opsT c s) f, hitB (opsI c s) s (opsW c s) (opsF c s) (opsT c s) m])) := Lib.hid rfl
  obtain ⟨d0, d1, x0, x1, x2, x3, x4, -⟩ := HB0.out.cells
  clear hs hE hN hr hd
  generalize kindS [z, o, t, f, m] (opsI c s) s (opsW c s) (opsF c s) (opsT c s) = KS at *
  generalize hitB (opsI c s) s (opsW c s) (opsF c s) (opsT c s) z = b0 at *
  generalize hitB (opsI c s) s (opsW c s) (opsF c s) (opsT c s) o = b1 at *
  generalize hitB (opsI c s) s (opsW c s) (opsF c s) (opsT c s) t = b2 at *
  generalize hitB (opsI c s) s (opsW c s) (opsF c s) (opsT c s) f = b3 at *
  generalize hitB (opsI c s) s (opsW c s) (opsF c s) (opsT c s) m = b4 at *
  generalize opsI c s = oI at *
  generalize opsW c s = oW at *
  generalize opsF c s = oF at *
  generalize opsT c s = oT at *
  go_enter Tryd.func11, Tryd.ntmps11
  go_upto_region 4 with (go_at_call 17; (with_reducible refine (CY.out).mono ?_); rintro e w2 ⟨v0, v1, v2, v3, v4, rfl, s0, s1, s2, s3, s4, hb2⟩; (obtain ⟨A0, n0, k0, rfl⟩ := s0.shape); (obtain ⟨A1, n1, k1, rfl⟩ := s1.shape); (obtain ⟨A2, n2, k2, rfl⟩ := s2.shape); (obtain ⟨A3, n3, k3, rfl⟩ := s3.shape); (obtain ⟨A4, n4, k4, rfl⟩ := s4.shape); (have HB2 := Lib.hid ((HB0.out.call hb2).alloc [.slice A0 n0 k0, .slice A1 n1 k1, .slice A2 n2 k2, .slice A3 n3 k3, .slice A4 n4 k4] 50)); dsimp only)
  have HSL := Lib.hid (And.intro s0 (And.intro s1 (And.intro s2 (And.intro s3 s4))))
  have hb2a := (Below.refl w2.heap.size w2).alloc (Nat.le_refl _) (.cells #[.slice A0 n0 k0, .slice A1 n1 k1, .slice A2 n2 k2, .slice A3 n3 k3, .slice A4 n4 k4] 50)
  obtain ⟨-, -, -, -, -, q0, q1, -⟩ := HB2.out.cells
  clear d0 d1 x0 x1 x2 x3 x4 s0 s1 s2 s3 s4 CY
  go_upto_region 7 with (go_at_call 14; (with_reducible refine (CO.out _).mono ?_); rintro e w3 ⟨rfl, hb3⟩; (have HB3 := Lib.hid ((HB2.out.call hb3).alloc [.int .i64 oI, .int .i64 s, .int .i64 oW, .int .i64 oF, .int .i64 oT] 41)); dsimp only)
  have hb3a := bel_alloc (bel_call hb2a hb3) (.cells #[.int .i64 oI, .int .i64 s, .int .i64 oW, .int .i64 oF, .int .i64 oT] 41)
  obtain ⟨p0, p1, p2, p3, p4, r0, r1, r2, r3, r4, -⟩ := HB3.out.cells
  have CH2 := Lib.hid (CH.out _ _ _ _ _ _ _ (HSL.out.1.later hb3a) (HSL.out.2.1.later hb3a) (HSL.out.2.2.1.later hb3a) (HSL.out.2.2.2.1.later hb3a) (HSL.out.2.2.2.2.later hb3a))
  clear q0 q1 CO CH HSL
  go_upto_region 10 with (go_at_call 18; (with_reducible refine (CH2.out).mono ?_); rintro e w4 ⟨rfl, hb4⟩; (have HB4 := Lib.hid ((HB3.out.call hb4).alloc [.bool b0, .bool b1, .bool b2, .bool b3, .bool b4] 54)); dsimp only)
  have HB4c := Lib.hid fun (j : Nat) (b : Bool) (h : [b0, b1, b2, b3, b4][j]? = some b) => HB4.out.cell (j := 0) (i := j) (v := .bool b) rfl (by
    match j, h with
    | 0, h | 1, h | 2, h | 3, h | 4, h => injection h with h; subst h; rfl
    | j + 5, h => simp at h)
  have hlt4 := (HB4.out.mem.lt (j := 0) rfl).1
  have hbw := HB4.out.below
  obtain ⟨y0, y1, y2, y3, y4, -⟩ := HB4.out.cells
  have HEQ := Lib.hid fun (W : World) => eql_hold b0 b1 b2 b3 b4 W
  clear p0 p1 p2 p3 p4 r0 r1 r2 r3 r4 CH2
  rcases kind_first (b0 := b0) (b1 := b1) (b2 := b2) (b3 := b3) (b4 := b4) with ⟨rfl, hf⟩ | ⟨rfl, rfl, hf⟩ | ⟨rfl, rfl, rfl, hf⟩ | ⟨rfl, rfl, rfl, rfl, hf⟩ | ⟨rfl, rfl, rfl, rfl, rfl, hf⟩ | ⟨rfl, rfl, rfl, rfl, rfl, hf⟩
  · have hk : KS = kindL 0 := by rw [HKS.out, hf]
    have he : ∀ W : World, (binOp .eql 54 (.agg #[.bool true, .bool b1, .bool b2, .bool b3, .bool b4]) (.agg #[.bool false, .bool false, .bool false, .bool false, .bool false])).run Tryd.prog W = .ok (.bool false) W := fun W => HEQ.out W
    have CI := Lib.hid (index_any [true, b1, b2, b3, b4] 5 0 _ _ rfl (by omega) HB4c.out hlt4 rfl (fun j hj => by omega))
    clear hf HKS HEQ
    subst hk
    go_wp2_with (go_at_call 19; (with_reducible refine (CI.out).mono ?_); rintro e w5 ⟨rfl, hb5⟩; (have hB5 := bel_call hbw hb5); (have z0 := HNM.out _ hB5 0 (by omega)))
    exact bodyPost_ret (v := .tuple #[.string (str (kindL 0)), .nilIface]) (by simp [results, Tryd.results11, go_sem]) rfl ⟨rfl, hB5⟩
  · have hk : KS = kindL 1 := by rw [HKS.out, hf]
    have he : ∀ W : World, (binOp .eql 54 (.agg #[.bool false, .bool true, .bool b2, .bool b3, .bool b4]) (.agg #[.bool false, .bool false, .bool false, .bool false, .bool false])).run Tryd.prog W = .ok (.bool false) W := fun W => HEQ.out W
    have CI := Lib.hid (index_any [false, true, b2, b3, b4] 5 1 _ _ rfl (by omega) HB4c.out hlt4 rfl (fun j hj => by match j, hj with
    | 0, _ => rfl))
    clear hf HKS HEQ
    subst hk
    go_wp2_with (go_at_call 19; (with_reducible refine (CI.out).mono ?_); rintro e w5 ⟨rfl, hb5⟩; (have hB5 := bel_call hbw hb5); (have z0 := HNM.out _ hB5 1 (by omega)))
    exact bodyPost_ret (v := .tuple #[.string (str (kindL 1)), .nilIface]) (by simp [results, Tryd.results11, go_sem]) rfl ⟨rfl, hB5⟩
  · have hk : KS = kindL 2 := by rw [HKS.out, hf]
    have he : ∀ W : World, (binOp .eql 54 (.agg #[.bool false, .bool false, .bool true, .bool b3, .bool b4]) (.agg #[.bool false, .bool false, .bool false, .bool false, .bool false])).run Tryd.prog W = .ok (.bool false) W := fun W => HEQ.out W
    have CI := Lib.hid (index_any [false, false, true, b3, b4] 5 2 _ _ rfl (by omega) HB4c.out hlt4 rfl (fun j hj => by match j, hj with
    | 0, _ | 1, _ => rfl))
    clear hf HKS HEQ
    subst hk
    go_wp2_with (go_at_call 19; (with_reducible refine (CI.out).mono ?_); rintro e w5 ⟨rfl, hb5⟩; (have hB5 := bel_call hbw hb5); (have z0 := HNM.out _ hB5 2 (by omega)))
    exact bodyPost_ret (v := .tuple #[.string (str (kindL 2)), .nilIface]) (by simp [results, Tryd.results11, go_sem]) rfl ⟨rfl, hB5⟩
  · have hk : KS = kindL 3 := by rw [HKS.out, hf]
    have he : ∀ W : World, (binOp .eql 54 (.agg #[.bool false, .bool false, .bool false, .bool true, .bool b4]) (.agg #[.bool false, .bool false, .bool false, .bool false, .bool false])).run Tryd.prog W = .ok (.bool false) W := fun W => HEQ.out W
    have CI := Lib.hid (index_any [false, false, false, true, b4] 5 3 _ _ rfl (by omega) HB4c.out hlt4 rfl (fun j hj => by match j, hj with
    | 0, _ | 1, _ | 2, _ => rfl))
    clear hf HKS HEQ
    subst hk
    go_wp2_with (go_at_call 19; (with_reducible refine (CI.out).mono ?_); rintro e w5 ⟨rfl, hb5⟩; (have hB5 := bel_call hbw hb5); (have z0 := HNM.out _ hB5 3 (by omega)))
    exact bodyPost_ret (v := .tuple #[.string (str (kindL 3)), .nilIface]) (by simp [results, Tryd.results11, go_sem]) rfl ⟨rfl, hB5⟩
  · have hk : KS = kindL 4 := by rw [HKS.out, hf]
    have he : ∀ W : World, (binOp .eql 54 (.agg #[.bool false, .bool false, .bool false, .bool false, .bool true]) (.agg #[.bool false, .bool false, .bool false, .bool false, .bool false])).run Tryd.prog W = .ok (.bool false) W := fun W => HEQ.out W
    have CI := Lib.hid (index_any [false, false, false, false, true] 5 4 _ _ rfl (by omega) HB4c.out hlt4 rfl (fun j hj => by match j, hj with
    | 0, _ | 1, _ | 2, _ | 3, _ => rfl))
    clear hf HKS HEQ
    subst hk
    go_wp2_with (go_at_call 19; (with_reducible refine (CI.out).mono ?_); rintro e w5 ⟨rfl, hb5⟩; (have hB5 := bel_call hbw hb5); (have z0 := HNM.out _ hB5 4 (by omega)))
    exact bodyPost_ret (v := .tuple #[.string (str (kindL 4)), .nilIface]) (by simp [results, Tryd.results11, go_sem]) rfl ⟨rfl, hB5⟩
  · have hk : KS = kindL 5 := by rw [HKS.out, hf]
    have he : ∀ W : World, (binOp .eql 54 (.agg #[.bool false, .bool false, .bool false, .bool false, .bool false]) (.agg #[.bool false, .bool false, .bool false, .bool false, .bool false])).run Tryd.prog W = .ok (.bool true) W := fun W => HEQ.out W
    clear hf HKS HEQ
    subst hk
    go_wp2_with fail
    exact bodyPost_ret (v := .tuple #[.string (str (kindL 5)), .nilIface]) (by simp [results, Tryd.results11, go_sem, kindL]) rfl ⟨rfl, hbw⟩
end Ru
end Go.Proofs.YteedhnpdffnfjaaDoor
