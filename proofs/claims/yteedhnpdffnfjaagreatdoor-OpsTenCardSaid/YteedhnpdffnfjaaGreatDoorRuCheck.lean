/- The program's operands: a map of what each operand is, made anew by each call; what it tells of a key. And what follows from it. -/
import Derived.Test.YteedhnpdffnfjaaGreatDoorRuGround
import Derived.Maps.OwnSet
import Derived.Test.YteedhnpdffnfjaaGreatDoorGround
namespace Go.Proofs.YteedhnpdffnfjaaGreatDoor
namespace Ru
open Go.RowKit Go.Maps D

/-- an entry put into a map that is being made -/
theorem wpList_insert_own {H : Type} {P : Program} (w : World) {ops : Array Oper} {rest : List Oper} {o : Oper} {a : Act} {Q : Exit → Act → World → Prop}
    (hg : o.guard = none) (m x v : Operand) (t : TypeId) (hop : o.op = Op.insert t m x v)
    (k e : TypeId) (K : Keyed P k) (ht : P.underlying t = some (.map k e)) (R : Value → Option (DataW H × List MemPlace)) (b n : Nat) (D : DataW H)
    (hm : a.eval m = .map (some b)) (hown : w.ownsMap P k R b n D) (hn : n < maxLen) (key val : Value) (kl : Lit) (hx : a.eval x = key) (hv : a.eval v = val) (hkey : keyOf P k key = some kl)
    (d : DataW H) (ps : List MemPlace) (hval : R val = some (d, ps))
    (hK : ∀ w', w'.ownsMap P k R b (n + 1) (D.put kl d) → w.grownBy w' (some b) → wpList P ops Q rest (a.put o.dst undef) w') :
    wpList P ops Q (o :: rest) a w := by
  refine wpList_plain hg fun K' hK' => ?_
  obtain ⟨w', hrun, r1, r2⟩ := hown.update K ht hn hkey hval
  unfold Oper.wp
  simp [execOp, hop, hm, hx, hv, hrun, Result.andThen]
  exact hK' _ _ (hK w' r1 r2)

/-- a map made -/
theorem wpList_makeMap_any {H : Type} {P : Program} (w : World) {ops : Array Oper} {rest : List Oper} {o : Oper} {a : Act} {Q : Exit → Act → World → Prop}
    (hg : o.guard = none) (t : TypeId) (hop : o.op = Op.makeMap t none) (k : TypeId) (R : Value → Option (DataW H × List MemPlace))
    (hK : ∀ W, W.ownsMap P k R w.heap.size 0 (.map []) → Below w.heap.size w W → wpList P ops Q rest (a.put o.dst (.map (some w.heap.size))) W) : wpList P ops Q (o :: rest) a w := by
  refine wpList_plain hg fun K' hK' => ?_
  have hmm := @run_makeMap P t w
  unfold Oper.wp
  simp [execOp, hop, hmm, Result.andThen]
  exact hK' _ _ (hK _ (World.ownsMap_made _ _ _ _) ((Below.refl _ _).alloc (Nat.le_refl _) _))
theorem bel_map {W w w' : World} {b : Nat} (h : Below W.heap.size W w) (hg : w.grownBy w' (some b)) (hb : W.heap.size ≤ b) : Below W.heap.size W w' := h.grown hg h.size (fun j hj => by cases hj; exact hb)

theorem keyed8 : Keyed Tryz.prog 5 := int_keyed Tryz.underlying5
theorem zeroI (w : World) : (zeroValue 3).run Tryz.prog w = .ok (.int .i64 0) w := by kernel_rfl
abbrev keyB (c : Int) : Lit := .int .u8 c
def I64 (x : Int) : Prop := -9223372036854775808 ≤ x ∧ x ≤ 9223372036854775807
theorem wf_i64 {x : Int} (h : I64 x) : (Lit.int .i64 x).wf = true := by
  unfold I64 at h
  simp only [Lit.wf, Bool.and_eq_true, decide_eq_true_eq, show IntKind.i64.min = -9223372036854775808 from by decide, show IntKind.i64.max = 9223372036854775807 from by decide]
  omega
theorem key_byte {c : Int} (h : 0 ≤ c ∧ c < 256) : keyOf Tryz.prog 5 (.int .u8 c) = some (keyB c) := Maps.keyOf_int_mk Tryz.underlying5 (by
  simp only [Lit.wf, Bool.and_eq_true, decide_eq_true_eq, show IntKind.u8.min = 0 from by decide, show IntKind.u8.max = 255 from by decide]
  omega)
abbrev putI (D : DataW Unit) (c x : Int) : DataW Unit := D.put (keyB c) (.lit (.int .i64 x))
/-- what each operand is -/
def opsD5 (I V W F T : Int) : DataW Unit := putI (putI (putI (putI (putI (.map []) 105 I) 118 V) 119 W) 102 F) 116 T
def opsD (I V W F T : Int) : DataW Unit := if T = 0 then putI (opsD5 I V W F T) 110 I else opsD5 I V W F T
theorem has_putI {D : DataW Unit} (h : IsMap D) (c x k : Int) : has (putI D c x) (keyB k) = (decide (k = c) || has D (keyB k)) := by
  by_cases hk : k = c
  · subst hk
    rw [has_put_same h (show WideAt.IsKeyLit (keyB k) from trivial)]
    simp
  · rw [has_put_other (fun e => hk (by injection e)), decide_eq_false hk, Bool.false_or]
theorem at_putI {D : DataW Unit} (h : IsMap D) (c x k : Int) (z : DataW Unit) : (putI D c x).atKey (keyB k) z = if k = c then .lit (.int .i64 x) else D.atKey (keyB k) z := by
  by_cases hk : k = c
  · subst hk
    rw [atKey_put_same h (show WideAt.IsKeyLit (keyB k) from trivial), if_pos rfl]
  · rw [atKey_put_other (fun e => hk (by injection e)), if_neg hk]
theorem map_putI {D : DataW Unit} (h : IsMap D) (c x : Int) : IsMap (putI D c x) := by
  obtain ⟨es, rfl⟩ := h
  exact ⟨_, rfl⟩
theorem map_nil : IsMap (.map [] : DataW Unit) := ⟨[], rfl⟩
theorem map_five (I V W F T : Int) : IsMap (opsD5 I V W F T) := map_putI (map_putI (map_putI (map_putI (map_putI map_nil _ _) _ _) _ _) _ _) _ _
theorem has_five (I V W F T k : Int) : has (opsD5 I V W F T) (keyB k) = decide (k = 105 ∨ k = 118 ∨ k = 119 ∨ k = 102 ∨ k = 116) := by
  unfold opsD5
  rw [has_putI (map_putI (map_putI (map_putI (map_putI map_nil _ _) _ _) _ _) _ _), has_putI (map_putI (map_putI (map_putI map_nil _ _) _ _) _ _), has_putI (map_putI (map_putI map_nil _ _) _ _), has_putI (map_putI map_nil _ _), has_putI map_nil]
  show (decide (k = 116) || (decide (k = 102) || (decide (k = 119) || (decide (k = 118) || (decide (k = 105) || false))))) = _
  rw [Bool.eq_iff_iff]
  simp only [Bool.or_eq_true, decide_eq_true_eq, Bool.false_eq_true, or_false]
  constructor
  · rintro (h | h | h | h | h) <;> simp [h]
  · rintro (h | h | h | h | h) <;> simp [h]
theorem at_five (I V W F T k : Int) (z : DataW Unit) : (opsD5 I V W F T).atKey (keyB k) z = if k = 116 then .lit (.int .i64 T) else if k = 102 then .lit (.int .i64 F) else if k = 119 then .lit (.int .i64 W) else if k = 118 then .lit (.int .i64 V) else if k = 105 then .lit (.int .i64 I) else z := by
  unfold opsD5
  rw [at_putI (map_putI (map_putI (map_putI (map_putI map_nil _ _) _ _) _ _) _ _), at_putI (map_putI (map_putI (map_putI map_nil _ _) _ _) _ _), at_putI (map_putI (map_putI map_nil _ _) _ _), at_putI (map_putI map_nil _ _), at_putI map_nil]
  rfl
/-- is an operand asked for that equals some number? -/
def asks (op T : Int) : Bool := decide (opOk op ∧ ¬ (op = 110 ∧ T ≠ 0))
theorem ops_has (I V W F T op : Int) : has (opsD I V W F T) (keyB op) = asks op T := by
  unfold opsD asks
  by_cases hT : T = 0
  · rw [if_pos hT, has_putI (map_five ..), has_five, Bool.eq_iff_iff, Bool.or_eq_true, decide_eq_true_iff, decide_eq_true_iff, decide_eq_true_iff]
    unfold opOk
    constructor
    · rintro (h | h | h | h | h | h) <;> exact ⟨by simp [h], fun hh => hh.2 hT⟩
    · rintro ⟨h | h | h | h | h | h, -⟩ <;> simp [h]
  · rw [if_neg hT, has_five, Bool.eq_iff_iff, decide_eq_true_iff, decide_eq_true_iff]
    unfold opOk
    constructor
    · rintro (h | h | h | h | h) <;> exact ⟨by simp [h], fun hh => absurd (h.symm.trans hh.1) (by decide)⟩
    · rintro ⟨h | h | h | h | h | h, h2⟩
      · exact absurd ⟨h, hT⟩ h2
      all_goals simp [h]
theorem ops_at {I V W F T op : Int} (h : asks op T = true) (z : DataW Unit) : (opsD I V W F T).atKey (keyB op) z = .lit (.int .i64 (opV op I V W F T)) := by
  have h := of_decide_eq_true h
  unfold opsD opV
  by_cases hT : T = 0
  · rw [if_pos hT, at_putI (map_five ..), at_five]
    rcases h.1 with rfl | rfl | rfl | rfl | rfl | rfl <;> rfl
  · rw [if_neg hT, at_five]
    rcases h.1 with rfl | rfl | rfl | rfl | rfl | rfl <;> first | rfl | exact absurd ⟨rfl, hT⟩ h.2
abbrev MapAt (w : World) (b n : Nat) (D : DataW Unit) : Prop := w.ownsMap Tryz.prog 5 (plainElem (H := Unit) Tryz.prog 3) b n D
/-- a map that tells what each operand is -/
abbrev OpsAt (w : World) (b : Nat) (I V W F T : Int) : Prop := MapAt w b 6 (opsD I V W F T)
theorem grown_none {w w' : World} (hb : Below w.heap.size w w') : w.grownBy w' none := ⟨hb.os, hb.tape, hb.output, hb.size, fun k hk _ => hb.block k hk⟩
theorem map_later {w w' : World} {b n : Nat} {D : DataW Unit} (h : MapAt w b n D) (hb : Below w.heap.size w w') : MapAt w' b n D := h.kept (grown_none hb) (by simp)

def OpsPost (w : World) (I V W F T : Int) (e : Ending) (w' : World) : Prop := ∃ b, e = .returned (.map (some b)) ∧ OpsAt w' b I V W F T ∧ Below w.heap.size w w'
set_option maxHeartbeats 4000000 in
set_option maxRecDepth 100000 in
theorem operands_any (I V W F T : Int) (w : World) (hI : I64 I) (hV : I64 V) (hW : I64 W) (hF : I64 F) (hT : I64 T) :
    Calls Tryz.prog 42 #[.agg #[.int .i64 I, .int .i64 V, .int .i64 W, .int .i64 F, .int .i64 T]] w (OpsPost w I V W F T) := by
  have HD5 : Hid (putI (putI (putI (putI (putI (.map []) 105 I) 118 V) 119 W) 102 F) 116 T = opsD5 I V W F T) := Lib.hid rfl
  have HD : Hid ((T = 0 → putI (opsD5 I V W F T) 110 I = opsD I V W F T) ∧ (¬ T = 0 → opsD5 I V W F T = opsD I V W F T)) := Lib.hid ⟨fun h => (if_pos h).symm, fun h => (if_neg h).symm⟩
  have wI := Lib.hid (wf_i64 hI); have wV := Lib.hid (wf_i64 hV); have wW := Lib.hid (wf_i64 hW); have wF := Lib.hid (wf_i64 hF); have wT := Lib.hid (wf_i64 hT)
  clear hI hV hW hF hT
  have H0 : Hid (Bs w _ [_]) := Lib.hid (bs_one w [.int .i64 I, .int .i64 V, .int .i64 W, .int .i64 F, .int .i64 T] 45)
  go_enter Tryz.func42, Tryz.ntmps42
  go_upto_region 1 with fail
  obtain ⟨v0, hv0⟩ : ∃ V', w.alloc (.cells #[.int .i64 I, .int .i64 V, .int .i64 W, .int .i64 F, .int .i64 T] 45) = V' := ⟨_, rfl⟩
  rw [hv0] at H0 ⊢
  clear hv0
  obtain ⟨o0, o1, o2, o3, o4, -⟩ := H0.out.cells
  go_upto_region 2 with (first
    | (refine wpList_makeMap_any _ rfl _ rfl 5 (plainElem (H := Unit) Tryz.prog 3) ?_; intro w1 hown1 hB1; clear o0 o1 o2 o3 o4; obtain ⟨o0, o1, o2, o3, o4, -⟩ := (H0.out.call hB1).cells)
    | (refine wpList_insert_own _ rfl _ _ _ 94 rfl 5 3 keyed8 Tryz.underlying94 (plainElem (H := Unit) Tryz.prog 3) v0.heap.size 0 _ rfl hown1 (by unfold maxLen; omega) (.int .u8 105) (.int .i64 I) _ rfl rfl (key_byte (by omega)) (.lit (.int .i64 I)) [] (plainElem_int Tryz.underlying3 wI.out) ?_; intro w2 hown2 hg2; (have hB2 := bel_map hB1 hg2 (Nat.le_refl _)); clear o0 o1 o2 o3 o4; obtain ⟨o0, o1, o2, o3, o4, -⟩ := (H0.out.call hB2).cells)
    | (refine wpList_insert_own _ rfl _ _ _ 94 rfl 5 3 keyed8 Tryz.underlying94 (plainElem (H := Unit) Tryz.prog 3) v0.heap.size 1 _ rfl hown2 (by unfold maxLen; omega) (.int .u8 118) (.int .i64 V) _ rfl rfl (key_byte (by omega)) (.lit (.int .i64 V)) [] (plainElem_int Tryz.underlying3 wV.out) ?_; intro w3 hown3 hg3; (have hB3 := bel_map hB2 hg3 (Nat.le_refl _)); clear o0 o1 o2 o3 o4; obtain ⟨o0, o1, o2, o3, o4, -⟩ := (H0.out.call hB3).cells)
    | (refine wpList_insert_own _ rfl _ _ _ 94 rfl 5 3 keyed8 Tryz.underlying94 (plainElem (H := Unit) Tryz.prog 3) v0.heap.size 2 _ rfl hown3 (by unfold maxLen; omega) (.int .u8 119) (.int .i64 W) _ rfl rfl (key_byte (by omega)) (.lit (.int .i64 W)) [] (plainElem_int Tryz.underlying3 wW.out) ?_; intro w4 hown4 hg4; (have hB4 := bel_map hB3 hg4 (Nat.le_refl _)); clear o0 o1 o2 o3 o4; obtain ⟨o0, o1, o2, o3, o4, -⟩ := (H0.out.call hB4).cells)
    | (refine wpList_insert_own _ rfl _ _ _ 94 rfl 5 3 keyed8 Tryz.underlying94 (plainElem (H := Unit) Tryz.prog 3) v0.heap.size 3 _ rfl hown4 (by unfold maxLen; omega) (.int .u8 102) (.int .i64 F) _ rfl rfl (key_byte (by omega)) (.lit (.int .i64 F)) [] (plainElem_int Tryz.underlying3 wF.out) ?_; intro w5 hown5 hg5; (have hB5 := bel_map hB4 hg5 (Nat.le_refl _)); clear o0 o1 o2 o3 o4; obtain ⟨o0, o1, o2, o3, o4, -⟩ := (H0.out.call hB5).cells)
    | (refine wpList_insert_own _ rfl _ _ _ 94 rfl 5 3 keyed8 Tryz.underlying94 (plainElem (H := Unit) Tryz.prog 3) v0.heap.size 4 _ rfl hown5 (by unfold maxLen; omega) (.int .u8 116) (.int .i64 T) _ rfl rfl (key_byte (by omega)) (.lit (.int .i64 T)) [] (plainElem_int Tryz.underlying3 wT.out) ?_; intro w6 hown6 hg6; (have hB6 := bel_map hB5 hg6 (Nat.le_refl _)); clear o0 o1 o2 o3 o4; obtain ⟨o0, o1, o2, o3, o4, -⟩ := (H0.out.call hB6).cells))
  have hown7 : MapAt w6 v0.heap.size 5 (opsD5 I V W F T) := by rw [← HD5.out]; exact hown6
  clear hown1 hown2 hown3 hown4 hown5 hown6 hg2 hg3 hg4 hg5 hg6 hB1 hB2 hB3 hB4 hB5 HD5 w1 w2 w3 w4 w5
  by_cases hT : T = 0
  · have HE := Lib.hid (HD.out.1 hT)
    subst hT
    go_wp2_with (first
      | (at_mapUpdate; refine wpList_mapUpdate_own _ rfl _ _ _ 94 rfl 5 3 keyed8 Tryz.underlying94 (plainElem (H := Unit) Tryz.prog 3) v0.heap.size 5 _ rfl hown7 (by unfold maxLen; omega) (.int .u8 110) (.int .i64 I) _ rfl rfl (key_byte (by omega)) (.lit (.int .i64 I)) [] (plainElem_int Tryz.underlying3 wI.out) ?_; intro w8 hown8 hg8; (have hB8 := bel_map hB6 hg8 (Nat.le_refl _))))
    go_ret
    exact ⟨_, rfl, by unfold OpsAt; rw [← HE.out]; exact hown8, bel_call H0.out.below hB8⟩
  · have HE := Lib.hid (HD.out.2 hT)
    have hTb : (T == 0) = false := by simpa using hT
    clear hT
    go_wp2_with fail
    go_ret
    exact ⟨_, rfl, by have := hown7.mono (n' := 6) (by omega); rwa [HE.out] at this, bel_call H0.out.below hB6⟩
end Ru
end Go.Proofs.YteedhnpdffnfjaaGreatDoor

/- The program's inBounds, areRanges and check: what is wrong with a rule; what lay in memory stays as it was. And what follows from it. -/
namespace Go.Proofs.YteedhnpdffnfjaaGreatDoor
namespace Ru
open Go.RowKit Go.Maps D

theorem up_call {w wx wy : World} (h : Below w.heap.size w wx) (hb : Below wx.heap.size wx wy) : Below w.heap.size w wy := bel_call h hb
def inB (x : Int) : Bool := decide (0 ≤ x ∧ x ≤ 1000000)
theorem inBounds_any (x : Int) (W : World) : Calls Tryz.prog 63 #[.int .i64 x] W (GivesB W (inB x)) := by
  go_enter Tryz.func63, Tryz.ntmps63
  by_cases h0 : 0 ≤ x
  · by_cases h1 : x ≤ 1000000
    · have HE : Hid (inB x = true) := Lib.hid (decide_eq_true ⟨h0, h1⟩)
      go_wp2_with fail
      go_ret
      exact ⟨ret_b HE.out.symm, Below.refl _ _⟩
    · have HE : Hid (inB x = false) := Lib.hid (decide_eq_false fun h => h1 h.2)
      go_wp2_with fail
      go_ret
      exact ⟨ret_b HE.out.symm, Below.refl _ _⟩
  · have HE : Hid (inB x = false) := Lib.hid (decide_eq_false fun h => h0 h.1)
    go_wp2_with fail
    go_ret
    exact ⟨ret_b HE.out.symm, Below.refl _ _⟩

def rgB (r : Int × Int) : Bool := inB r.1 && inB r.2 && !decide (r.2 < r.1)
theorem rgB_eq (r : Int × Int) : rgB r = decide (rgOk r) := by
  unfold rgB inB
  rw [Bool.eq_iff_iff, Bool.and_eq_true, Bool.and_eq_true, decide_eq_true_iff, decide_eq_true_iff, Bool.not_eq_true', decide_eq_false_iff_not, decide_eq_true_iff, show rgOk r ↔ (0 ≤ r.1 ∧ r.1 ≤ r.2 ∧ r.2 ≤ 1000000) from Iff.rfl]
  constructor
  · rintro ⟨⟨⟨h1, h2⟩, h3, h4⟩, h5⟩; exact ⟨h1, by omega, h4⟩
  · rintro ⟨h1, h2, h3⟩; exact ⟨⟨⟨h1, by omega⟩, by omega, h3⟩, by omega⟩
def rgsB (rs : List (Int × Int)) : Bool := decide (rs ≠ [] ∧ ∀ r ∈ rs, rgOk r)
set_option maxHeartbeats 4000000 in
set_option maxRecDepth 100000 in
theorem areRanges_any (A : Option Addr) (n c : Nat) (rs : List (Int × Int)) (w : World) (hr : RgsAt w w.heap.size A n rs) (hl : rs.length = n) (hn : n ≤ maxLen) :
    Calls Tryz.prog 64 #[.slice A n c] w (GivesB w (rgsB rs)) := by
  have HR := Lib.hid hr
  have HL := Lib.hid hl
  have HF : Hid ((∀ r ∈ rs, ¬ rgOk r → rgsB rs = false) ∧ ((∀ r ∈ rs, rgOk r) → rgsB rs = decide (0 < n))) := Lib.hid ⟨fun r hm h => decide_eq_false fun hh => h (hh.2 r hm), fun h => by
    unfold rgsB
    rw [decide_eq_decide]
    constructor
    · intro hh; have := List.length_pos_iff.2 hh.1; omega
    · intro hh; exact ⟨List.length_pos_iff.1 (by omega), h⟩⟩
  generalize rgsB rs = res at *
  unfold maxLen at hn
  clear hr hl
  go_enter Tryz.func64, Tryz.ntmps64
  go_wp2_with fail
  go_loopw [7] (fun i wr => ∃ k : Nat, k ≤ n ∧ i = .int .i64 k ∧ Below w.heap.size w wr ∧ Hid (∀ r ∈ rs.take k, rgOk r)) (fun i _ => n - (intOf i).toNat)
  case atStart => exact ⟨0, Nat.zero_le _, rfl, Below.refl _ _, Lib.hid (by simp)⟩
  case round =>
    obtain ⟨k, hk, rfl, hb, HA⟩ := hrel
    by_cases hlt : k < n
    · have hkr : k < rs.length := by have := HL.out; omega
      obtain ⟨ad, rfl, hadb, x0, x1⟩ := rg_at ((HR.out.below hb).more hb.size) hkr
      rw [← add_of_add, add_pos _ _ (by omega)] at x1
      have HM := Lib.hid (List.getElem_mem hkr)
      have HK : Hid (rs.take (k + 1) = rs.take k ++ [rs[k]]) := Lib.hid (List.take_succ_eq_append_getElem hkr)
      generalize rs[k] = r at *
      obtain ⟨a, b⟩ := r
      dsimp only at *
      have hki : (k : Int) < (n : Int) := by omega
      have HB0 : Hid (Bs wr _ [_]) := Lib.hid (bs_one wr [.int .i64 a, .int .i64 b] 115)
      have HG : Hid (rgB (a, b) = (inB a && inB b && !decide (b < a))) := Lib.hid rfl
      have HGD : Hid (rgB (a, b) = decide (rgOk (a, b))) := Lib.hid (rgB_eq (a, b))
      have CA := Lib.hid fun W => inBounds_any a W
      have CB := Lib.hid fun W => inBounds_any b W
      have hout : Below w.heap.size w wr := hb
      cases ha : inB a with
      | false =>
        have HE : Hid (res = false) := Lib.hid (HF.out.1 _ HM.out (by rw [HG.out, ha] at HGD; exact of_decide_eq_false HGD.out.symm))
        rw [ha] at CA
        clear ha HG HGD
        go_wp2_with (go_at_call 63; (with_reducible refine (CA.out _).mono ?_); rintro e w2 ⟨rfl, hb2⟩; (have HB2 := Lib.hid (HB0.out.call hb2)))
        go_ret
        exact ⟨ret_b HE.out.symm, up_call hout HB2.out.below⟩
      | true =>
        rw [ha] at CA HG
        cases hb' : inB b with
        | false =>
          have HE : Hid (res = false) := Lib.hid (HF.out.1 _ HM.out (by rw [HG.out, hb'] at HGD; exact of_decide_eq_false HGD.out.symm))
          rw [hb'] at CB
          clear ha HG HGD hb'
          go_wp2_with (first
            | (go_at_call 63; (with_reducible refine (CA.out _).mono ?_); rintro e w2 ⟨rfl, hb2⟩; (have HB2 := Lib.hid (HB0.out.call hb2)); (obtain ⟨z0, z1, -⟩ := HB2.out.cells))
            | (go_at_call 63; (with_reducible refine (CB.out _).mono ?_); rintro e w3 ⟨rfl, hb3⟩; (have HB3 := Lib.hid (HB2.out.call hb3))))
          go_ret
          exact ⟨ret_b HE.out.symm, up_call hout HB3.out.below⟩
        | true =>
          rw [hb'] at CB HG
          by_cases hba : b < a
          · have HE : Hid (res = false) := Lib.hid (HF.out.1 _ HM.out (by rw [HG.out, decide_eq_true hba] at HGD; exact of_decide_eq_false HGD.out.symm))
            clear ha HG HGD hb'
            go_wp2_with (first
              | (go_at_call 63; (with_reducible refine (CA.out _).mono ?_); rintro e w2 ⟨rfl, hb2⟩; (have HB2 := Lib.hid (HB0.out.call hb2)); (obtain ⟨z0, z1, -⟩ := HB2.out.cells))
              | (go_at_call 63; (with_reducible refine (CB.out _).mono ?_); rintro e w3 ⟨rfl, hb3⟩; (have HB3 := Lib.hid (HB2.out.call hb3)); (obtain ⟨y0, y1, -⟩ := HB3.out.cells)))
            go_ret
            exact ⟨ret_b HE.out.symm, up_call hout HB3.out.below⟩
          · have HE : Hid (rgOk (a, b)) := Lib.hid (by rw [HG.out, decide_eq_false hba] at HGD; exact of_decide_eq_true HGD.out.symm)
            clear ha HG HGD hb'
            go_wp2_with (first
              | (go_at_call 63; (with_reducible refine (CA.out _).mono ?_); rintro e w2 ⟨rfl, hb2⟩; (have HB2 := Lib.hid (HB0.out.call hb2)); (obtain ⟨z0, z1, -⟩ := HB2.out.cells))
              | (go_at_call 63; (with_reducible refine (CB.out _).mono ?_); rintro e w3 ⟨rfl, hb3⟩; (have HB3 := Lib.hid (HB2.out.call hb3)); (obtain ⟨y0, y1, -⟩ := HB3.out.cells)))
            go_roundw
            case rel => exact ⟨k + 1, by omega, by go_num, up_call hout HB3.out.below, Lib.hid (by
              rw [HK.out]
              intro z hz
              rcases List.mem_append.1 hz with hz | hz
              · exact HA.out z hz
              · obtain rfl := List.mem_singleton.1 hz; exact HE.out)⟩
            case measure => simp [intOf]; omega
    · have hki : ¬ ((k : Int) < (n : Int)) := by omega
      have HE : Hid (res = decide (0 < n)) := Lib.hid (HF.out.2 (by have := HA.out; rwa [List.take_of_length_le (by have := HL.out; omega)] at this))
      clear hlt hk
      go_wp2_with fail
      go_ret
      exact ⟨ret_b (by rw [HE.out]), hb⟩
end Ru
end Go.Proofs.YteedhnpdffnfjaaGreatDoor

/- The program's check: what is wrong with a rule; what lay in memory stays as it was. -/
namespace Go.Proofs.YteedhnpdffnfjaaGreatDoor
namespace Ru
open Go.RowKit Go.Maps D

/-- operands are bytes -/
def Byt (ps : List PartX) : Prop := ∀ p ∈ ps, ∀ x ∈ p.xs, 0 ≤ x.v.op ∧ x.v.op < 256
def GivesE (w : World) (k : Nat) (e : Ending) (w' : World) : Prop := e = .returned (errV k) ∧ Below w.heap.size w w'
theorem ret_e {F k : Nat} (h : F = k) : Ending.returned (errV k) = .returned (errV F) := by rw [h]
theorem ret_e3 {F : Nat} (h : F = 3) : Ending.returned (.iface 37 (.int .i64 3)) = .returned (errV F) := by rw [h]; rfl
theorem ret_e4 {F : Nat} (h : F = 4) : Ending.returned (.iface 37 (.int .i64 4)) = .returned (errV F) := by rw [h]; rfl
theorem ret_e0 {F : Nat} (h : F = 0) : Ending.returned .nilIface = .returned (errV F) := by rw [h]; rfl
theorem rel_asks (op mod : Int) (nt : Bool) (rs : List (Int × Int)) : relOk ⟨op, mod, nt, rs⟩ ↔ (asks op 0 = true ∧ inB mod = true ∧ rgsB rs = true) := by
  unfold asks inB rgsB relOk
  rw [decide_eq_true_iff, decide_eq_true_iff, decide_eq_true_iff]
  constructor
  · rintro ⟨h1, h2, h3⟩; exact ⟨⟨h1, fun h => h.2 rfl⟩, h2, h3⟩
  · rintro ⟨h1, h2, h3⟩; exact ⟨h1.1, h2, h3⟩

set_option maxHeartbeats 4000000 in
set_option maxRecDepth 100000 in
theorem check_any (A : Option Addr) (n c : Nat) (ps : List PartX) (w : World) (h : RuleAt w w.heap.size A n ps) (hn : n ≤ maxLen) (hz : Few ps) (hy : Byt ps) (ht : total (ruleV ps) < 4611686018427387904) :
    Calls Tryz.prog 41 #[.slice A n c] w (GivesE w (ruleF (ruleV ps))) := by
  have HT := Lib.hid fun i => Nat.lt_of_le_of_lt (total_le (ruleV ps) i) ht
  have HL := Lib.hid h.len
  have HR := Lib.hid h
  have HZ := Lib.hid hz
  have HY := Lib.hid hy
  have HF : Hid ((¬ ruleOk (ruleV ps) → ruleF (ruleV ps) = 3) ∧ (ruleOk (ruleV ps) → ruleF (ruleV ps) = if 20 < total (ruleV ps) then 4 else 0)) := Lib.hid ⟨fault_bad, fault_ok⟩
  generalize ruleF (ruleV ps) = F at *
  have CO := Lib.hid (operands_any 0 0 0 0 0 w (by unfold I64; omega) (by unfold I64; omega) (by unfold I64; omega) (by unfold I64; omega) (by unfold I64; omega))
  unfold maxLen at hn
  clear ht h hz hy
  by_cases h0 : n = 0
  · subst h0
    have HE : Hid (¬ ruleOk (ruleV ps)) := Lib.hid fun h => h.1 (by have := List.eq_nil_of_length_eq_zero HL.out; subst this; rfl)
    go_enter Tryz.func41, Tryz.ntmps41
    go_wp2_with fail
    go_ret
    exact ⟨ret_e3 (HF.out.1 HE.out), Below.refl _ _⟩
  · have HNE : Hid (ruleV ps ≠ []) := Lib.hid fun e => h0 (by have := congrArg List.length e; simp [ruleV] at this; have := HL.out; simp_all)
    have h0i : ((n : Int) == 0) = false := by rw [beq_eq_false_iff_ne]; omega
    go_enter Tryz.func41, Tryz.ntmps41
    go_wp2_with (go_at_call 42; (with_reducible refine CO.out.mono ?_); rintro e w1 ⟨mb, rfl, hM1, hb1⟩)
    clear h0 h0i CO
    go_loopw [4, 19] (fun s i wr => ∃ k : Nat, k ≤ n ∧ i = .int .i64 k ∧ s = .int .i64 (total ((ruleV ps).take k) : Nat) ∧ Below w.heap.size w wr ∧ OpsAt wr mb 0 0 0 0 0 ∧ Hid (∀ p ∈ (ruleV ps).take k, partOk p)) (fun _ i _ => n - (intOf i).toNat)
    case atStart => exact ⟨0, Nat.zero_le _, rfl, rfl, hb1, hM1, Lib.hid (by simp)⟩
    case round =>
      obtain ⟨k, hk, rfl, rfl, hb, hM, HA⟩ := hrel
      by_cases hlt : k < n
      · have hkp : k < ps.length := by have := HL.out; omega
        obtain ⟨ad, rfl, -, -, -, -⟩ := ((HR.out.below hb).more hb.size).at_ (List.getElem?_eq_getElem hkp)
        have HC : Hid (∀ W, Below w.heap.size w W → W.cell? (ad.add k) = some (.slice ps[k].A ps[k].xs.length ps[k].c) ∧ RelsAt W W.heap.size ps[k].A ps[k].xs.length ps[k].xs) := Lib.hid fun W hW => by
          obtain ⟨ad', e, _, y0, _, y1⟩ := ((HR.out.below hW).more hW.size).at_ (List.getElem?_eq_getElem hkp)
          injection e with e; subst e
          exact ⟨y0, y1⟩
        have HP := Lib.hid (HZ.out _ (List.getElem_mem hkp))
        have HYP := Lib.hid (HY.out _ (List.getElem_mem hkp))
        have HK : Hid ((ruleV ps).take (k + 1) = (ruleV ps).take k ++ [relsV ps[k].xs]) := Lib.hid (by rw [List.take_succ_eq_append_getElem (by simpa [ruleV] using hkp)]; simp [ruleV])
        have HM : Hid (relsV ps[k].xs ∈ ruleV ps) := Lib.hid (List.mem_map.2 ⟨_, List.getElem_mem hkp, rfl⟩)
        have hT := HT.out (k + 1)
        rw [HK.out, total_snoc] at hT
        have HPL : Hid ((relsV ps[k].xs).length = ps[k].xs.length) := Lib.hid (by simp [relsV])
        rw [HPL.out] at hT
        generalize ps[k] = p at *
        obtain ⟨pA, pc, xs⟩ := p
        dsimp only at *
        have hki : (k : Int) < (n : Int) := by omega
        obtain ⟨x0, -⟩ := HC.out _ hb
        have hxl := HP.out.1
        unfold maxLen at hxl
        have HS : Hid (total ((ruleV ps).take k) + xs.length = total ((ruleV ps).take (k + 1))) := Lib.hid (by rw [HK.out, total_snoc, HPL.out])
        have HA2 : Hid (partOk (relsV xs) → ∀ p ∈ (ruleV ps).take (k + 1), partOk p) := Lib.hid fun h p hp => by
          rw [HK.out] at hp
          rcases List.mem_append.1 hp with hp | hp
          · exact HA.out p hp
          · obtain rfl := List.mem_singleton.1 hp; exact h
        have HB2 : Hid (¬ partOk (relsV xs) → F = 3) := Lib.hid fun h => HF.out.1 fun hr => h (hr.2 _ HM.out)
        clear HK
        generalize total ((ruleV ps).take k) = tk at *
        generalize hln : xs.length = m at *
        by_cases hm0 : m = 0
        · have HE : Hid (F = 3) := Lib.hid (HB2.out fun h => h.1 (by have := List.eq_nil_of_length_eq_zero (hln.trans hm0); subst this; rfl))
          subst hm0
          clear hln
          go_wp2_with fail
          go_ret
          exact ⟨ret_e3 HE.out, hb⟩
        · have HXN : Hid (relsV xs ≠ []) := Lib.hid fun e => hm0 (by have := congrArg List.length e; simp [relsV] at this; subst this; simpa using hln.symm)
          have HXL := Lib.hid hln
          have hm0j : ¬ (m : Int) = 0 := by omega
          have hm0i : ((m : Int) == 0) = false := by rw [beq_eq_false_iff_ne]; omega
          clear hln hm0
          go_wp2_with fail
          clear hm0j hm0i x0
          go_loopw [29] (fun j wi => ∃ q : Nat, q ≤ m ∧ j = .int .i64 q ∧ Below w.heap.size w wi ∧ OpsAt wi mb 0 0 0 0 0 ∧ Hid (∀ x ∈ (relsV xs).take q, relOk x)) (fun j _ => m - (intOf j).toNat)
          case atStart => exact ⟨0, Nat.zero_le _, rfl, hb, hM, Lib.hid (by simp)⟩
          case round =>
            obtain ⟨q, hq, rfl, hbi, hMi, HQ⟩ := hrel
            obtain ⟨x0, hrels⟩ := HC.out _ hbi
            by_cases hqm : q < m
            · have hqx : q < xs.length := by have := HXL.out; omega
              obtain ⟨a2, rfl, ha2b, y0, y1, y2, y3, hrc, hrg⟩ := hrels.at_ (List.getElem?_eq_getElem hqx)
              rw [← add_of_add, add_pos _ _ (by omega)] at y1 y2 y3
              have CX := Lib.hid fun (W : World) (hW : Below w.heap.size w W) => by
                obtain ⟨_, hr2⟩ := HC.out _ hW
                have hg := hr2.rgs _ (List.getElem_mem hqx)
                exact areRanges_any xs[q].A xs[q].v.rs.length xs[q].c xs[q].v.rs W hg.2 rfl (HP.out.2 _ (List.getElem_mem hqx))
              have HQ2 : Hid ((relsV xs).take (q + 1) = (relsV xs).take q ++ [xs[q].v]) := Lib.hid (by rw [List.take_succ_eq_append_getElem (by simpa [relsV] using hqx)]; simp [relsV])
              have HQM : Hid (xs[q].v ∈ relsV xs) := Lib.hid (List.mem_map.2 ⟨_, List.getElem_mem hqx, rfl⟩)
              have HBY := Lib.hid (HYP.out _ (List.getElem_mem hqx))
              clear hrels hrg hrc
              generalize xs[q] = x at *
              obtain ⟨⟨op, mod, nt, rs⟩, xA, xc⟩ := x
              dsimp only at *
              have hqi : (q : Int) < (m : Int) := by omega
              have HRO := Lib.hid (rel_asks op mod nt rs)
              have HBAD : Hid (¬ (asks op 0 = true ∧ inB mod = true ∧ rgsB rs = true) → F = 3) := Lib.hid fun hno => HB2.out fun h => hno (HRO.out.1 (h.2 _ HQM.out))
              have HB0 : Hid (Bs wr _ [_]) := Lib.hid (bs_one wr [.int .u8 op, .int .i64 mod, .bool nt, .slice xA rs.length xc] 89)
              have hMb : OpsAt _ mb 0 0 0 0 0 := map_later hMi HB0.out.below
              have CM := Lib.hid fun W => inBounds_any mod W
              cases ha : asks op 0 with
              | false =>
                have HE : Hid (F = 3) := Lib.hid (HBAD.out (by rw [ha]; simp))
                have HAS : Hid (has (opsD 0 0 0 0 0) (keyB op) = false) := Lib.hid (by rw [ops_has, ha])
                go_wp2_with (first
                  | (at_lookup; refine wpList_lookup_own_ok_int _ rfl _ _ 94 rfl 5 3 .i64 keyed8 Tryz.underlying94 Tryz.underlying3 (zeroI _) mb 6 _ rfl hMb _ _ rfl (key_byte HBY.out) ?_; intro cc hcc _; rw [HAS.out]; clear hcc))
                go_ret
                exact ⟨ret_e3 HE.out, up_call hbi HB0.out.below⟩
              | true =>
                have HAS : Hid (has (opsD 0 0 0 0 0) (keyB op) = true) := Lib.hid (by rw [ops_has, ha])
                rw [ha] at HRO HBAD
                obtain ⟨d0, d1, d2, d3, -⟩ := HB0.out.cells
                clear ha
                cases hi : inB mod with
                | false =>
                  have HE : Hid (F = 3) := Lib.hid (HBAD.out (by rw [hi]; simp))
                  rw [hi] at CM
                  clear hi HRO HBAD
                  go_wp2_with (first
                    | (at_lookup; refine wpList_lookup_own_ok_int _ rfl _ _ 94 rfl 5 3 .i64 keyed8 Tryz.underlying94 Tryz.underlying3 (zeroI _) mb 6 _ rfl hMb _ _ rfl (key_byte HBY.out) ?_; intro cc hcc _; rw [HAS.out]; clear hcc)
                    | (go_at_call 63; (with_reducible refine (CM.out _).mono ?_); rintro e w2 ⟨rfl, hb2⟩; (have HB2' := Lib.hid (HB0.out.call hb2)); (have hM2 := map_later hMb hb2); (obtain ⟨z0, z1, z2, z3, -⟩ := HB2'.out.cells)))
                  go_ret
                  exact ⟨ret_e3 HE.out, up_call hbi HB2'.out.below⟩
                | true =>
                  rw [hi] at CM HRO HBAD
                  clear hi
                  cases hr : rgsB rs with
                  | false =>
                    have HE : Hid (F = 3) := Lib.hid (HBAD.out (by rw [hr]; simp))
                    rw [hr] at CX
                    clear hr HRO HBAD
                    go_wp2_with (first
                      | (at_lookup; refine wpList_lookup_own_ok_int _ rfl _ _ 94 rfl 5 3 .i64 keyed8 Tryz.underlying94 Tryz.underlying3 (zeroI _) mb 6 _ rfl hMb _ _ rfl (key_byte HBY.out) ?_; intro cc hcc _; rw [HAS.out]; clear hcc)
                      | (go_at_call 63; (with_reducible refine (CM.out _).mono ?_); rintro e w2 ⟨rfl, hb2⟩; (have HB2' := Lib.hid (HB0.out.call hb2)); (have hM2 := map_later hMb hb2); (obtain ⟨z0, z1, z2, z3, -⟩ := HB2'.out.cells))
                      | (go_at_call 64; (with_reducible refine (CX.out _ (up_call hbi HB2'.out.below)).mono ?_); rintro e w3 ⟨rfl, hb3⟩; (have HB3 := Lib.hid (HB2'.out.call hb3)); (have hM3 := map_later hM2 hb3)))
                    go_ret
                    exact ⟨ret_e3 HE.out, up_call hbi HB3.out.below⟩
                  | true =>
                    have HOK : Hid (relOk ⟨op, mod, nt, rs⟩) := Lib.hid (HRO.out.2 ⟨rfl, rfl, hr⟩)
                    rw [hr] at CX
                    clear hr HRO HBAD
                    go_wp2_with (first
                      | (at_lookup; refine wpList_lookup_own_ok_int _ rfl _ _ 94 rfl 5 3 .i64 keyed8 Tryz.underlying94 Tryz.underlying3 (zeroI _) mb 6 _ rfl hMb _ _ rfl (key_byte HBY.out) ?_; intro cc hcc _; rw [HAS.out]; clear hcc)
                      | (go_at_call 63; (with_reducible refine (CM.out _).mono ?_); rintro e w2 ⟨rfl, hb2⟩; (have HB2' := Lib.hid (HB0.out.call hb2)); (have hM2 := map_later hMb hb2); (obtain ⟨z0, z1, z2, z3, -⟩ := HB2'.out.cells))
                      | (go_at_call 64; (with_reducible refine (CX.out _ (up_call hbi HB2'.out.below)).mono ?_); rintro e w3 ⟨rfl, hb3⟩; (have HB3 := Lib.hid (HB2'.out.call hb3)); (have hM3 := map_later hM2 hb3)))
                    go_roundw
                    case rel => exact ⟨q + 1, by omega, by go_num, up_call hbi HB3.out.below, hM3, Lib.hid (by
                      rw [HQ2.out]
                      intro z hz
                      rcases List.mem_append.1 hz with hz | hz
                      · exact HQ.out z hz
                      · obtain rfl := List.mem_singleton.1 hz; exact HOK.out)⟩
                    case measure => simp [intOf]; omega
            · have hqi : ¬ ((q : Int) < (m : Int)) := by omega
              obtain rfl : q = m := by omega
              have HPO : Hid (partOk (relsV xs)) := Lib.hid ⟨HXN.out, fun x hx => HQ.out x (by rw [List.take_of_length_le (by have := HXL.out; simp [relsV]; omega)]; exact hx)⟩
              clear hqm hq
              go_wp2_with fail
              go_roundw
              case rel => exact ⟨k + 1, by omega, by go_num, by rw [← HS.out]; go_num, hbi, hMi, Lib.hid (HA2.out HPO.out)⟩
              case measure => simp [intOf]; omega
      · have hki : ¬ ((k : Int) < (n : Int)) := by omega
        have HALL : Hid ((ruleV ps).take k = ruleV ps) := Lib.hid (List.take_of_length_le (by have := HL.out; simp [ruleV]; omega))
        have HFF : Hid (F = if 20 < total (ruleV ps) then 4 else 0) := Lib.hid (HF.out.2 ⟨HNE.out, by have := HA.out; rwa [HALL.out] at this⟩)
        have hT := HT.out k
        rw [HALL.out] at hT ⊢
        generalize total (ruleV ps) = T at *
        clear hlt hk
        by_cases h20 : 20 < T
        · have h20i : (20 : Int) < (T : Int) := by omega
          have HE : Hid (F = 4) := Lib.hid (HFF.out.trans (if_pos h20))
          clear h20
          go_wp2_with fail
          go_ret
          exact ⟨ret_e4 HE.out, hb⟩
        · have h20i : ¬ ((20 : Int) < (T : Int)) := by omega
          have HE : Hid (F = 0) := Lib.hid (HFF.out.trans (if_neg h20))
          clear h20
          go_wp2_with fail
          go_ret
          exact ⟨ret_e0 HE.out, hb⟩
end Ru
end Go.Proofs.YteedhnpdffnfjaaGreatDoor

/- The program's isAmong, relHolds: whether a relation holds, by a map of what each operand is; what lay in memory stays as it was. -/
namespace Go.Proofs.YteedhnpdffnfjaaGreatDoor
namespace Ru
open Go.RowKit Go.Maps D

/-- a box that holds a value, wherever it was made -/
def BoxAt (w : World) (g : Nat) (v : Value) : Prop := w.cell? ⟨g, 0, none⟩ = some v
theorem BoxAt.later {w w' : World} {g : Nat} {v : Value} (h : BoxAt w g v) (hb : Below w.heap.size w w') : BoxAt w' g v := (hb.cell (World.block_lt_of_cell? _ _ h)).trans h
abbrev inF (g : Nat) : Value := .func (.func 96) #[] #[.pointer (some ⟨g, 0, none⟩)]
set_option maxHeartbeats 1000000 in
theorem among1_any (a b x : Int) (g : Nat) (w : World) (hx : BoxAt w g (.int .i64 x)) :
    Calls Tryz.prog 96 #[.agg #[.int .i64 a, .int .i64 b], .pointer (some ⟨g, 0, none⟩)] w (GivesB w (inRg x (a, b))) := by
  have H0 : Hid (Bs w _ [_]) := Lib.hid (bs_one w [.int .i64 a, .int .i64 b] 115)
  obtain ⟨d0, d1, -⟩ := H0.out.cells
  have hx1 : World.cell? _ ⟨g, 0, none⟩ = some (.int .i64 x) := hx.later H0.out.below
  clear hx
  go_enter Tryz.func96, Tryz.ntmps96
  by_cases h0 : a ≤ x
  · by_cases h1 : x ≤ b
    · have HE : Hid (inRg x (a, b) = true) := Lib.hid (by unfold inRg; simp [h0, h1])
      go_wp2_with fail
      go_ret
      exact ⟨ret_b HE.out.symm, H0.out.below⟩
    · have HE : Hid (inRg x (a, b) = false) := Lib.hid (by unfold inRg; simp [h1])
      go_wp2_with fail
      go_ret
      exact ⟨ret_b HE.out.symm, H0.out.below⟩
  · have HE : Hid (inRg x (a, b) = false) := Lib.hid (by unfold inRg; simp [h0])
    go_wp2_with fail
    go_ret
    exact ⟨ret_b HE.out.symm, H0.out.below⟩

set_option maxHeartbeats 2000000 in
set_option maxRecDepth 100000 in
theorem indexRg_any (A : Option Addr) (n c : Nat) (rs : List (Int × Int)) (x : Int) (g : Nat) (w : World) (hr : RgsAt w w.heap.size A n rs) (hl : rs.length = n) (hn : n ≤ maxLen) (hx : BoxAt w g (.int .i64 x)) :
    Calls Tryz.prog 109 #[.slice A n c, inF g] w fun e w' => ∃ z : Int, e = .returned (.int .i64 z) ∧ decide (0 ≤ z) = rs.any (inRg x) ∧ Below w.heap.size w w' := by
  have HR := Lib.hid hr
  have HL := Lib.hid hl
  have HX := Lib.hid hx
  unfold maxLen at hn
  clear hr hl hx
  go_enter Tryz.func109, Tryz.ntmps109
  go_wp2_with fail
  go_loopw [8] (fun i wr => ∃ k : Nat, k ≤ n ∧ i = .int .i64 k ∧ Below w.heap.size w wr ∧ Hid ((rs.take k).any (inRg x) = false)) (fun i _ => n - (intOf i).toNat)
  case atStart => exact ⟨0, Nat.zero_le _, rfl, Below.refl _ _, Lib.hid (by simp)⟩
  case round =>
    obtain ⟨k, hk, rfl, hb, HA⟩ := hrel
    by_cases hlt : k < n
    · have hkr : k < rs.length := by have := HL.out; omega
      obtain ⟨ad, rfl, hadb, x0, x1⟩ := rg_at ((HR.out.below hb).more hb.size) hkr
      rw [← add_of_add, add_pos _ _ (by omega)] at x1
      have HM := Lib.hid (List.getElem_mem hkr)
      have HK := Lib.hid (any_take rs x k hkr)
      have hbx := HX.out.later hb
      generalize rs[k] = r at *
      obtain ⟨a, b⟩ := r
      dsimp only at *
      have hki : (k : Int) < (n : Int) := by omega
      have CC := Lib.hid (among1_any a b x g wr hbx)
      cases hi : inRg x (a, b) with
      | true =>
        have HE : Hid (decide (0 ≤ (k : Int)) = rs.any (inRg x)) := Lib.hid (by rw [decide_eq_true (by omega)]; exact (List.any_eq_true.2 ⟨_, HM.out, hi⟩).symm)
        rw [hi] at CC
        clear hi HK hbx
        go_wp2_with (go_at_call 96; (with_reducible refine CC.out.mono ?_); rintro e w2 ⟨rfl, hb2⟩)
        go_ret
        exact ⟨_, rfl, HE.out, bel_call hb hb2⟩
      | false =>
        rw [hi] at CC HK
        clear hi hbx
        go_wp2_with (go_at_call 96; (with_reducible refine CC.out.mono ?_); rintro e w2 ⟨rfl, hb2⟩)
        go_roundw
        case rel => exact ⟨k + 1, by omega, by go_num, bel_call hb hb2, Lib.hid (by rw [HK.out, HA.out]; rfl)⟩
        case measure => simp [intOf]; omega
    · have hki : ¬ ((k : Int) < (n : Int)) := by omega
      have HE : Hid (decide (0 ≤ (-1 : Int)) = rs.any (inRg x)) := Lib.hid (by
        have := HA.out
        rw [List.take_of_length_le (by have := HL.out; omega)] at this
        rw [this]; rfl)
      clear hlt hk
      go_wp2_with fail
      go_ret
      exact ⟨_, rfl, HE.out, hb⟩
set_option maxHeartbeats 1000000 in
theorem containsRg_any (A : Option Addr) (n c : Nat) (rs : List (Int × Int)) (x : Int) (g : Nat) (w : World) (hr : RgsAt w w.heap.size A n rs) (hl : rs.length = n) (hn : n ≤ maxLen) (hx : BoxAt w g (.int .i64 x)) :
    Calls Tryz.prog 95 #[.slice A n c, inF g] w (GivesB w (rs.any (inRg x))) := by
  have HI := Lib.hid (indexRg_any A n c rs x g w hr hl hn hx)
  clear hr hl hx
  generalize rs.any (inRg x) = res at *
  go_enter Tryz.func95, Tryz.ntmps95
  go_wp2_with (go_at_call 109; (with_reducible refine HI.out.mono ?_); rintro e w2 ⟨z, rfl, hd, hb2⟩; (have HD := Lib.hid hd); clear hd)
  go_ret
  exact ⟨ret_b HD.out, hb2⟩
set_option maxHeartbeats 1000000 in
theorem isAmong_any (A : Option Addr) (n c : Nat) (rs : List (Int × Int)) (x : Int) (w : World) (hr : RgsAt w w.heap.size A n rs) (hl : rs.length = n) (hn : n ≤ maxLen) :
    Calls Tryz.prog 80 #[.int .i64 x, .slice A n c] w (GivesB w (rs.any (inRg x))) := by
  have H0 : Hid (Bs w _ [_]) := Lib.hid (bs_one w [.int .i64 x] 3)
  have HC := Lib.hid (containsRg_any A n c rs x w.heap.size (w.alloc (.cells #[.int .i64 x] 3)) ((hr.below H0.out.below).more H0.out.below.size) hl hn H0.out.cells.1)
  clear hr hl
  go_enter Tryz.func80, Tryz.ntmps80
  go_wp2_with (go_at_call 95; (with_reducible refine HC.out.mono ?_); rintro e w2 ⟨rfl, hb2⟩)
  go_ret
  exact ⟨rfl, bel_call H0.out.below hb2⟩
theorem rel_not {op mod T I V W F : Int} {nt : Bool} {rs : List (Int × Int)} (hr : relOk ⟨op, mod, nt, rs⟩) (h : asks op T = false) : relH ⟨op, mod, nt, rs⟩ I V W F T = nt := by
  have h := of_decide_eq_false h
  unfold relH
  rw [if_pos]
  by_cases hc : op = 110 ∧ T ≠ 0
  · exact hc
  · exact absurd ⟨hr.1, hc⟩ h
theorem rel_so {op mod T I V W F : Int} {nt : Bool} {rs : List (Int × Int)} (h : asks op T = true) : relH ⟨op, mod, nt, rs⟩ I V W F T = (rs.any (inRg (modV mod (opV op I V W F T))) != nt) := by
  have h := of_decide_eq_true h
  unfold relH
  rw [if_neg h.2]
set_option maxHeartbeats 4000000 in
set_option maxRecDepth 100000 in
theorem relHolds_any (op mod : Int) (nt : Bool) (A : Option Addr) (n c : Nat) (rs : List (Int × Int)) (I V W F T : Int) (mb : Nat) (w : World) (hr : RgsAt w w.heap.size A n rs) (hl : rs.length = n) (hn : n ≤ maxLen) (hok : relOk ⟨op, mod, nt, rs⟩) (hM : OpsAt w mb I V W F T) :
    Calls Tryz.prog 66 #[.agg #[.int .u8 op, .int .i64 mod, .bool nt, .slice A n c], .map (some mb)] w (GivesB w (relH ⟨op, mod, nt, rs⟩ I V W F T)) := by
  have H0 : Hid (Bs w _ [_]) := Lib.hid (bs_one w [.int .u8 op, .int .i64 mod, .bool nt, .slice A n c] 89)
  obtain ⟨d0, d1, d2, d3, -⟩ := H0.out.cells
  have hM0 : OpsAt _ mb I V W F T := map_later hM H0.out.below
  have hby : 0 ≤ op ∧ op < 256 := by rcases hok.1 with h | h | h | h | h | h <;> (have h : op = _ := h; omega)
  have HBY := Lib.hid hby
  have hm : 0 ≤ mod ∧ mod ≤ 1000000 := hok.2.1
  have HN := Lib.hid fun h => rel_not (I := I) (V := V) (W := W) (F := F) (T := T) hok h
  have HS := Lib.hid fun (h : asks op T = true) => rel_so (mod := mod) (nt := nt) (rs := rs) (I := I) (V := V) (W := W) (F := F) h
  have CC := Lib.hid fun (x : Int) (W' : World) (hW : Below w.heap.size w W') => isAmong_any A n c rs x W' ((hr.below hW).more hW.size) hl hn
  have HAS := Lib.hid (ops_has I V W F T op)
  have HAT := Lib.hid fun (h : asks op T = true) => ops_at (I := I) (V := V) (W := W) (F := F) h
  generalize relH ⟨op, mod, nt, rs⟩ I V W F T = res at *
  generalize opV op I V W F T = y at *
  clear hr hl hM hby hok
  go_enter Tryz.func66, Tryz.ntmps66
  go_upto_region 1 with fail
  obtain ⟨v0, hv0⟩ : ∃ V', w.alloc (.cells #[.int .u8 op, .int .i64 mod, .bool nt, .slice A n c] 89) = V' := ⟨_, rfl⟩
  rw [hv0] at H0 hM0 d0 d1 d2 d3 ⊢
  clear hv0
  have HSX : Hid (∀ wx, Below v0.heap.size v0 wx → Below v0.heap.size v0 wx ∧ wx.cell? ⟨w.heap.size, 2, none⟩ = some (.bool nt) ∧ wx.cell? ⟨w.heap.size, 3, none⟩ = some (.slice A n c)) := Lib.hid fun wx hb => by
    obtain ⟨-, -, z2, z3, -⟩ := (H0.out.call hb).cells
    exact ⟨hb, z2, z3⟩
  cases ha : asks op T with
  | false =>
    have HE := Lib.hid (HN.out ha)
    rw [ha] at HAS
    clear ha
    go_wp2_with (first
      | (at_lookup; refine wpList_lookup_own_ok_int _ rfl _ _ 94 rfl 5 3 .i64 keyed8 Tryz.underlying94 Tryz.underlying3 (zeroI _) mb 6 _ rfl hM0 _ _ rfl (key_byte HBY.out) ?_; intro cc hcc _; rw [HAS.out]; clear hcc))
    go_ret
    exact ⟨ret_b HE.out.symm, H0.out.below⟩
  | true =>
    have HE := HS.out ha
    have HCA := Lib.hid (HAT.out ha (.lit (.int .i64 0)))
    rw [ha] at HAS
    clear ha HS HN HAT
    by_cases h0 : mod = 0
    · have HE : Hid (res = (rs.any (inRg y) != nt)) := Lib.hid (by rw [HE]; unfold modV; rw [if_neg (by omega)])
      have CY : Hid (∀ W', Below v0.heap.size v0 W' → Calls Tryz.prog 80 #[.int .i64 y, .slice A n c] W' (GivesB W' (rs.any (inRg y)))) := Lib.hid fun W' hW => CC.out y W' (bel_call H0.out.below hW)
      have h0b : (mod != 0) = false := by simp [h0]
      generalize rs.any (inRg y) = al at *
      clear h0 CC hm
      go_upto_region 6 with (first
        | (at_lookup; refine wpList_lookup_own_ok_int _ rfl _ _ 94 rfl 5 3 .i64 keyed8 Tryz.underlying94 Tryz.underlying3 (zeroI _) mb 6 _ rfl hM0 _ _ rfl (key_byte HBY.out) ?_; intro cc hcc _; rw [HAS.out]; obtain rfl : y = cc := (by rw [HCA.out] at hcc; injection hcc with hcc; injection hcc); clear hcc))
      have hB0 := Below.refl v0.heap.size v0
      go_region_held3 (fun wx => Below v0.heap.size v0 wx ∧ wx.cell? ⟨w.heap.size, 2, none⟩ = some (.bool nt) ∧ wx.cell? ⟨w.heap.size, 3, none⟩ = some (.slice A n c))
        (first | exact HSX.out _ (by assumption) | exact HSX.out _ (Below.drew (by assumption)))
        (first
          | (go_at_call 80; (with_reducible refine (CY.out _ ?_).mono ?_); (first | assumption | exact Below.drew (by assumption)); rintro e wy ⟨rfl, hby⟩; (have hTy : Below v0.heap.size v0 wy := by first | exact bel_call (by assumption) hby | exact bel_call (Below.drew (by assumption)) hby)))
      go_wp2_with fail
      go_ret
      exact ⟨ret_b HE.out.symm, bel_call H0.out.below hTy⟩
    · have hm0 : 0 < mod := by omega
      have HE : Hid (res = (rs.any (inRg (y.tmod mod)) != nt)) := Lib.hid (by rw [HE]; unfold modV; rw [if_pos hm0])
      have CY : Hid (∀ W', Below v0.heap.size v0 W' → Calls Tryz.prog 80 #[.int .i64 (y.tmod mod), .slice A n c] W' (GivesB W' (rs.any (inRg (y.tmod mod))))) := Lib.hid fun W' hW => CC.out _ W' (bel_call H0.out.below hW)
      have h0b : (mod != 0) = true := by simpa using h0
      have h0c : ¬ mod = 0 := h0
      generalize rs.any (inRg (y.tmod mod)) = al at *
      clear CC
      go_upto_region 6 with (first
        | (at_lookup; refine wpList_lookup_own_ok_int _ rfl _ _ 94 rfl 5 3 .i64 keyed8 Tryz.underlying94 Tryz.underlying3 (zeroI _) mb 6 _ rfl hM0 _ _ rfl (key_byte HBY.out) ?_; intro cc hcc _; rw [HAS.out]; obtain rfl : y = cc := (by rw [HCA.out] at hcc; injection hcc with hcc; injection hcc); clear hcc))
      have hB0 := Below.refl v0.heap.size v0
      go_region_held3 (fun wx => Below v0.heap.size v0 wx ∧ wx.cell? ⟨w.heap.size, 2, none⟩ = some (.bool nt) ∧ wx.cell? ⟨w.heap.size, 3, none⟩ = some (.slice A n c))
        (first | exact HSX.out _ (by assumption) | exact HSX.out _ (Below.drew (by assumption)))
        (first
          | (go_at_call 80; (with_reducible refine (CY.out _ ?_).mono ?_); (first | assumption | exact Below.drew (by assumption)); rintro e wy ⟨rfl, hby⟩; (have hTy : Below v0.heap.size v0 wy := by first | exact bel_call (by assumption) hby | exact bel_call (Below.drew (by assumption)) hby)))
      go_wp2_with fail
      go_ret
      exact ⟨ret_b HE.out.symm, bel_call H0.out.below hTy⟩
end Ru
end Go.Proofs.YteedhnpdffnfjaaGreatDoor

/- The program's allHold and Holds: whether a rule holds, and what is wrong with it; what lay in memory stays as it was. -/
namespace Go.Proofs.YteedhnpdffnfjaaGreatDoor
namespace Ru
open Go.RowKit Go.Maps D

set_option maxHeartbeats 2000000 in
set_option maxRecDepth 100000 in
theorem allHold_any (A : Option Addr) (n c : Nat) (xs : List RelX) (I V W F T : Int) (mb : Nat) (w : World) (hr : RelsAt w w.heap.size A n xs) (hn : n ≤ maxLen) (hz : ∀ x ∈ xs, x.v.rs.length ≤ maxLen) (hok : ∀ x ∈ xs, relOk x.v) (hM : OpsAt w mb I V W F T) :
    Calls Tryz.prog 45 #[.slice A n c, .map (some mb)] w (GivesB w (partH (relsV xs) I V W F T)) := by
  have HR := Lib.hid hr
  have HL := Lib.hid hr.len
  have HZ := Lib.hid hz
  have HO := Lib.hid hok
  have HTK := Lib.hid fun k hk => part_take (relsV xs) I V W F T k hk
  have HFA : Hid (∀ x ∈ xs, relH x.v I V W F T = false → partH (relsV xs) I V W F T = false) := Lib.hid fun x hx h => List.all_eq_false.2 ⟨x.v, List.mem_map.2 ⟨x, hx, rfl⟩, by simp [h]⟩
  have HT0 : Hid (partH ((relsV xs).take n) I V W F T = partH (relsV xs) I V W F T) := Lib.hid (by rw [List.take_of_length_le (by simp [relsV, hr.len])])
  generalize hres : partH (relsV xs) I V W F T = res at *
  clear hres
  unfold maxLen at hn
  clear hr hz hok
  go_enter Tryz.func45, Tryz.ntmps45
  go_wp2_with fail
  go_loopw [9] (fun i wr => ∃ k : Nat, k ≤ n ∧ i = .int .i64 k ∧ Below w.heap.size w wr ∧ OpsAt wr mb I V W F T ∧ Hid (partH ((relsV xs).take k) I V W F T = true)) (fun i _ => n - (intOf i).toNat)
  case atStart => exact ⟨0, Nat.zero_le _, rfl, Below.refl _ _, hM, Lib.hid (by simp [partH])⟩
  case round =>
    obtain ⟨k, hk, rfl, hb, hMr, HA⟩ := hrel
    by_cases hlt : k < n
    · have hkx : k < xs.length := by have := HL.out; omega
      obtain ⟨ad, rfl, hadb, y0, y1, y2, y3, hrc, hrg⟩ := ((HR.out.below hb).more hb.size).at_ (List.getElem?_eq_getElem hkx)
      rw [← add_of_add, add_pos _ _ (by omega)] at y1 y2 y3
      have hki : (k : Int) < (n : Int) := by omega
      have HK := Lib.hid (HTK.out k (by simpa [relsV] using hkx))
      have HB0 : Hid (Bs wr _ [_]) := Lib.hid (bs_one wr [.int .u8 xs[k].v.op, .int .i64 xs[k].v.mod, .bool xs[k].v.nt, .slice xs[k].A xs[k].v.rs.length xs[k].c] 89)
      have hM1 : OpsAt _ mb I V W F T := map_later hMr HB0.out.below
      have CC := Lib.hid (relHolds_any xs[k].v.op xs[k].v.mod xs[k].v.nt xs[k].A xs[k].v.rs.length xs[k].c xs[k].v.rs I V W F T mb _ ((hrg.below HB0.out.below).more HB0.out.below.size) rfl (HZ.out _ (List.getElem_mem hkx)) (HO.out _ (List.getElem_mem hkx)) hM1)
      have HF2 := Lib.hid (HFA.out _ (List.getElem_mem hkx))
      have HX : Hid ((relsV xs)[k]'(by simpa [relsV] using hkx) = xs[k].v) := Lib.hid (by simp [relsV])
      rw [HX.out] at HK
      clear hrg hrc HX
      generalize xs[k] = x at *
      obtain ⟨⟨op, mod, nt, rs⟩, xA, xc⟩ := x
      dsimp only at *
      cases hh : relH ⟨op, mod, nt, rs⟩ I V W F T with
      | false =>
        have HE := Lib.hid (HF2.out hh)
        rw [hh] at CC
        clear hh HK
        go_wp2_with (go_at_call 66; (with_reducible refine CC.out.mono ?_); rintro e w2 ⟨rfl, hb2⟩)
        go_ret
        exact ⟨ret_b HE.out.symm, bel_call hb (bel_call HB0.out.below hb2)⟩
      | true =>
        rw [hh] at CC HK
        clear hh
        go_wp2_with (go_at_call 66; (with_reducible refine CC.out.mono ?_); rintro e w2 ⟨rfl, hb2⟩)
        go_roundw
        case rel => exact ⟨k + 1, by omega, by go_num, bel_call hb (bel_call HB0.out.below hb2), map_later hM1 hb2, Lib.hid (by rw [HK.out, HA.out]; rfl)⟩
        case measure => simp [intOf]; omega
    · have hki : ¬ ((k : Int) < (n : Int)) := by omega
      obtain rfl : k = n := by omega
      have HE : Hid (true = res) := Lib.hid (by rw [← HT0.out]; exact HA.out.symm)
      clear hlt hk
      go_wp2_with fail
      go_ret
      exact ⟨ret_b HE.out, hb⟩

abbrev holdF (g : Nat) : Value := .func (.func 44) #[] #[.pointer (some ⟨g, 0, none⟩)]
set_option maxHeartbeats 1000000 in
theorem holds1_any (A : Option Addr) (n c : Nat) (xs : List RelX) (I V W F T : Int) (mb g : Nat) (w : World) (hr : RelsAt w w.heap.size A n xs) (hn : n ≤ maxLen) (hz : ∀ x ∈ xs, x.v.rs.length ≤ maxLen) (hok : ∀ x ∈ xs, relOk x.v) (hM : OpsAt w mb I V W F T) (hg : BoxAt w g (.map (some mb))) :
    Calls Tryz.prog 44 #[.slice A n c, .pointer (some ⟨g, 0, none⟩)] w (GivesB w (partH (relsV xs) I V W F T)) := by
  have HC := Lib.hid (allHold_any A n c xs I V W F T mb w hr hn hz hok hM)
  have hg' : w.cell? ⟨g, 0, none⟩ = some (.map (some mb)) := hg
  clear hr hz hok hM hg
  go_enter Tryz.func44, Tryz.ntmps44
  go_wp2_with (go_at_call 45; (with_reducible refine HC.out.mono ?_); rintro e w2 ⟨rfl, hb2⟩)
  go_ret
  exact ⟨rfl, hb2⟩
set_option maxHeartbeats 2000000 in
set_option maxRecDepth 100000 in
theorem indexPart_any (A : Option Addr) (n c : Nat) (ps : List PartX) (I V W F T : Int) (mb g : Nat) (w : World) (h : RuleAt w w.heap.size A n ps) (hn : n ≤ maxLen) (hz : Few ps) (hok : ruleOk (ruleV ps)) (hM : OpsAt w mb I V W F T) (hg : BoxAt w g (.map (some mb))) :
    Calls Tryz.prog 65 #[.slice A n c, holdF g] w fun e w' => ∃ z : Int, e = .returned (.int .i64 z) ∧ decide (0 ≤ z) = ruleH (ruleV ps) I V W F T ∧ Below w.heap.size w w' := by
  have HR := Lib.hid h
  have HL := Lib.hid h.len
  have HZ := Lib.hid hz
  have HO := Lib.hid hok
  have HM := Lib.hid hM
  have HG := Lib.hid hg
  have HTK := Lib.hid fun k hk => rule_take (ruleV ps) I V W F T k hk
  unfold maxLen at hn
  clear h hz hok hM hg
  go_enter Tryz.func65, Tryz.ntmps65
  go_wp2_with fail
  go_loopw [8] (fun i wr => ∃ k : Nat, k ≤ n ∧ i = .int .i64 k ∧ Below w.heap.size w wr ∧ Hid (ruleH ((ruleV ps).take k) I V W F T = false)) (fun i _ => n - (intOf i).toNat)
  case atStart => exact ⟨0, Nat.zero_le _, rfl, Below.refl _ _, Lib.hid (by simp [ruleH])⟩
  case round =>
    obtain ⟨k, hk, rfl, hb, HA⟩ := hrel
    by_cases hlt : k < n
    · have hkp : k < ps.length := by have := HL.out; omega
      obtain ⟨ad, rfl, hadb, y0, hpc, hpr⟩ := ((HR.out.below hb).more hb.size).at_ (List.getElem?_eq_getElem hkp)
      have hki : (k : Int) < (n : Int) := by omega
      have HMM : Hid (relsV ps[k].xs ∈ ruleV ps) := Lib.hid (List.mem_map.2 ⟨_, List.getElem_mem hkp, rfl⟩)
      have HK := Lib.hid (HTK.out k (by simpa [ruleV] using hkp))
      have HX : Hid ((ruleV ps)[k]'(by simpa [ruleV] using hkp) = relsV ps[k].xs) := Lib.hid (by simp [ruleV])
      rw [HX.out] at HK
      have hzp := HZ.out _ (List.getElem_mem hkp)
      have CC := Lib.hid (holds1_any ps[k].A ps[k].xs.length ps[k].c ps[k].xs I V W F T mb g wr hpr hzp.1 hzp.2 (fun x hx => (HO.out.2 _ HMM.out).2 _ (List.mem_map.2 ⟨x, hx, rfl⟩)) (map_later HM.out hb) (HG.out.later hb))
      clear hpc hpr HX hzp
      generalize ps[k] = p at *
      obtain ⟨pA, pc, xs⟩ := p
      dsimp only at *
      cases hh : partH (relsV xs) I V W F T with
      | true =>
        have HE : Hid (decide (0 ≤ (k : Int)) = ruleH (ruleV ps) I V W F T) := Lib.hid (by rw [decide_eq_true (by omega)]; exact (rule_true HMM.out hh).symm)
        rw [hh] at CC
        clear hh HK
        go_wp2_with (go_at_call 44; (with_reducible refine CC.out.mono ?_); rintro e w2 ⟨rfl, hb2⟩)
        go_ret
        exact ⟨_, rfl, HE.out, bel_call hb hb2⟩
      | false =>
        rw [hh] at CC HK
        clear hh
        go_wp2_with (go_at_call 44; (with_reducible refine CC.out.mono ?_); rintro e w2 ⟨rfl, hb2⟩)
        go_roundw
        case rel => exact ⟨k + 1, by omega, by go_num, bel_call hb hb2, Lib.hid (by rw [HK.out, HA.out]; rfl)⟩
        case measure => simp [intOf]; omega
    · have hki : ¬ ((k : Int) < (n : Int)) := by omega
      have HE : Hid (decide (0 ≤ (-1 : Int)) = ruleH (ruleV ps) I V W F T) := Lib.hid (by
        have := HA.out
        rw [List.take_of_length_le (by have := HL.out; simp [ruleV]; omega)] at this
        rw [this]; rfl)
      clear hlt hk
      go_wp2_with fail
      go_ret
      exact ⟨_, rfl, HE.out, hb⟩
set_option maxHeartbeats 1000000 in
theorem containsPart_any (A : Option Addr) (n c : Nat) (ps : List PartX) (I V W F T : Int) (mb g : Nat) (w : World) (h : RuleAt w w.heap.size A n ps) (hn : n ≤ maxLen) (hz : Few ps) (hok : ruleOk (ruleV ps)) (hM : OpsAt w mb I V W F T) (hg : BoxAt w g (.map (some mb))) :
    Calls Tryz.prog 43 #[.slice A n c, holdF g] w (GivesB w (ruleH (ruleV ps) I V W F T)) := by
  have HI := Lib.hid (indexPart_any A n c ps I V W F T mb g w h hn hz hok hM hg)
  clear h hz hok hM hg
  generalize ruleH (ruleV ps) I V W F T = res at *
  go_enter Tryz.func43, Tryz.ntmps43
  go_wp2_with (go_at_call 65; (with_reducible refine HI.out.mono ?_); rintro e w2 ⟨z, rfl, hd, hb2⟩; (have HD := Lib.hid hd); clear hd)
  go_ret
  exact ⟨ret_b HD.out, hb2⟩

/-- what Holds tells -/
def holdsB (r : List (List RelV)) (I V W F T : Int) : Bool := if ruleF r = 0 then ruleH r I V W F T else false
def GivesH (w : World) (b : Bool) (k : Nat) (e : Ending) (w' : World) : Prop := e = .returned (.tuple #[.bool b, errV k]) ∧ Below w.heap.size w w'
theorem errV_ne {F : Nat} (h : F ≠ 0) : ∃ k : Nat, errV F = .iface 37 (.int .i64 k) := ⟨F, by unfold errV; rw [if_neg h]⟩
set_option maxHeartbeats 2000000 in
set_option maxRecDepth 100000 in
theorem holds_any (A : Option Addr) (n c : Nat) (ps : List PartX) (I V W F T : Int) (w : World) (h : RuleAt w w.heap.size A n ps) (hn : n ≤ maxLen) (hz : Few ps) (hy : Byt ps) (ht : total (ruleV ps) < 4611686018427387904)
    (hI : I64 I) (hV : I64 V) (hW : I64 W) (hF : I64 F) (hT : I64 T) :
    Calls Tryz.prog 24 #[.slice A n c, .agg #[.int .i64 I, .int .i64 V, .int .i64 W, .int .i64 F, .int .i64 T]] w (GivesH w (holdsB (ruleV ps) I V W F T) (ruleF (ruleV ps))) := by
  have H0 : Hid (Bs w _ [_]) := Lib.hid (bs_one w [.int .i64 I, .int .i64 V, .int .i64 W, .int .i64 F, .int .i64 T] 45)
  obtain ⟨d0, d1, d2, d3, d4, -⟩ := H0.out.cells
  have hRL : ∀ W', Below w.heap.size w W' → RuleAt W' W'.heap.size A n ps := fun W' hW => (h.below hW).more hW.size
  have CK := Lib.hid (check_any A n c ps _ (hRL _ H0.out.below) hn hz hy ht)
  have CO := Lib.hid fun W' => operands_any I V W F T W' hI hV hW hF hT
  have CC : Hid (ruleOk (ruleV ps) → ∀ (mb g : Nat) (W' : World), Below w.heap.size w W' → OpsAt W' mb I V W F T → BoxAt W' g (.map (some mb)) → Calls Tryz.prog 43 #[.slice A n c, .func (.func 44) #[] #[.pointer (some ⟨g, 0, none⟩)]] W' (GivesB W' (ruleH (ruleV ps) I V W F T))) :=
    Lib.hid fun hok mb g W' hW hM hg => containsPart_any A n c ps I V W F T mb g W' (hRL W' hW) hn hz hok hM hg
  have HOK : Hid (ruleF (ruleV ps) = 0 → ruleOk (ruleV ps)) := Lib.hid fun h => (ruleF_zero.1 h).1
  unfold holdsB
  generalize ruleF (ruleV ps) = E at *
  clear h hz hy ht hRL hI hV hW hF hT
  by_cases hE : E = 0
  · have CC2 := Lib.hid (CC.out (HOK.out hE))
    subst hE
    rw [if_pos rfl]
    generalize ruleH (ruleV ps) I V W F T = res at *
    clear CC HOK
    go_enter Tryz.func24, Tryz.ntmps24
    go_wp2_with (first
      | (go_at_call 41; (with_reducible refine CK.out.mono ?_); rintro e w2 ⟨rfl, hb2⟩; (have HB2 := Lib.hid (H0.out.call hb2)); (obtain ⟨z0, z1, z2, z3, z4, -⟩ := HB2.out.cells); rw [errV_zero])
      | (go_at_call 42; (with_reducible refine (CO.out _).mono ?_); rintro e w3 ⟨mb, rfl, hM3, hb3⟩; (have HB3 := Lib.hid (HB2.out.call hb3)); (have HB4 : Hid (Bs w (w3.alloc (.cells #[.map (some mb)] 94)) _) := Lib.hid (HB3.out.alloc [.map (some mb)] 94)); (have hM4 := map_later hM3 ((Below.refl w3.heap.size w3).alloc (Nat.le_refl _) (.cells #[.map (some mb)] 94))); (have hbox : BoxAt (w3.alloc (.cells #[.map (some mb)] 94)) w3.heap.size (.map (some mb)) := HB4.out.cells.1); (have hbel := HB4.out.below))
      | (go_at_call 43; (with_reducible refine (CC2.out mb _ _ hbel hM4 hbox).mono ?_); rintro e w5 ⟨rfl, hb5⟩))
    exact bodyPost_ret (v := .tuple #[.bool res, .nilIface]) (by simp [results, Tryz.results24, go_sem]) rfl ⟨rfl, bel_call HB4.out.below hb5⟩
  · rw [if_neg hE]
    obtain ⟨z, hz⟩ := errV_ne hE
    unfold GivesH
    clear hE CC HOK CO
    go_enter Tryz.func24, Tryz.ntmps24
    go_wp2_with (first
      | (go_at_call 41; (with_reducible refine CK.out.mono ?_); rintro e w2 ⟨rfl, hb2⟩; rw [hz]))
    exact bodyPost_ret (v := .tuple #[.bool false, .iface 37 (.int .i64 z)]) (by simp [results, Tryz.results24, go_sem]) rfl ⟨by rw [hz], bel_call H0.out.below hb2⟩
end Ru
end Go.Proofs.YteedhnpdffnfjaaGreatDoor
