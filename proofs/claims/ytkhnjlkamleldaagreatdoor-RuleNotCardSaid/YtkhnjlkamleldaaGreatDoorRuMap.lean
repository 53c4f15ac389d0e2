/- The program's operands: a map of what each operand is, made anew by each call; what it tells of a key. -/
import Derived.Test.YtkhnjlkamleldaaGreatDoorRuBase
import Derived.Maps.OwnSet
namespace Go.Proofs.YtkhnjlkamleldaaGreatDoor
namespace Ru
open Go.RowKit Go.Maps D

/-- an entry put into a map that is being made -/
theorem wpList_insert_own {H : Type} {P : Program} (w : World) {ops : Array Oper} {rest : List Oper} {o : Oper} {a : Act} {Q : Exit → Act → World → Prop}
    (hg : o.guard = none) (m x v : Operand) (t : TypeId) (hop : o.op = Op.insert t m x v)
    (k e : TypeId) (K : Keyed P k) (ht : P.underlying t = some (.map k e)) (R : Value → Option (DataW H × List MemPlace)) (b n : Nat) (D : DataW H)
    (hm : a.eval m = .map (some b)) (hown : w.ownsMap P k R b n D) (hn : n < maxLen) (key val : Value) (kl : Lit) (hx : a.eval x = key) (hv : a.eval v = val) (hkey : keyOf P k key = some kl)
    (d : DataW H) (ps : List MemPlace) (hval : R val = some (d, ps))
    (hK : ∀ w', w'.ownsMap P k R b (n + 1) (D.put kl d) → w.grownBy w' (some b) → wpList P ops Q rest (a.put o.dst undef) w') :
    wpList P ops Q (o :: rest) a w := by
  refine wpList_plain hg fun K' hK' => ?_
  obtain ⟨w', hrun, r1, r2⟩ := hown.update K ht hn hkey hval
  unfold Oper.wp
  simp [execOp, hop, hm, hx, hv, hrun, Result.andThen]
  exact hK' _ _ (hK w' r1 r2)

/-- a map made -/
theorem wpList_makeMap_any {H : Type} {P : Program} (w : World) {ops : Array Oper} {rest : List Oper} {o : Oper} {a : Act} {Q : Exit → Act → World → Prop}
    (hg : o.guard = none) (t : TypeId) (hop : o.op = Op.makeMap t none) (k : TypeId) (R : Value → Option (DataW H × List MemPlace))
    (hK : ∀ W, W.ownsMap P k R w.heap.size 0 (.map []) → Below w.heap.size w W → wpList P ops Q rest (a.put o.dst (.map (some w.heap.size))) W) : wpList P ops Q (o :: rest) a w := by
  refine wpList_plain hg fun K' hK' => ?_
  have hmm := @run_makeMap P t w
  unfold Oper.wp
  simp [execOp, hop, hmm, Result.andThen]
  exact hK' _ _ (hK _ (World.ownsMap_made _ _ _ _) ((Below.refl _ _).alloc (Nat.le_refl _) _))
theorem bel_map {W w w' : World} {b : Nat} (h : Below W.heap.size W w) (hg : w.grownBy w' (some b)) (hb : W.heap.size ≤ b) : Below W.heap.size W w' := h.grown hg h.size (fun j hj => by cases hj; exact hb)

theorem keyed8 : Keyed Tryz.prog 5 := int_keyed Tryz.underlying5
theorem zeroI (w : World) : (zeroValue 3).run Tryz.prog w = .ok (.int .i64 0) w := by kernel_rfl
abbrev keyB (c : Int) : Lit := .int .u8 c
def I64 (x : Int) : Prop := -9223372036854775808 ≤ x ∧ x ≤ 9223372036854775807
theorem wf_i64 {x : Int} (h : I64 x) : (Lit.int .i64 x).wf = true := by
  unfold I64 at h
  simp only [Lit.wf, Bool.and_eq_true, decide_eq_true_eq, show IntKind.i64.min = -9223372036854775808 from by decide, show IntKind.i64.max = 9223372036854775807 from by decide]
  omega
theorem key_byte {c : Int} (h : 0 ≤ c ∧ c < 256) : keyOf Tryz.prog 5 (.int .u8 c) = some (keyB c) := Maps.keyOf_int_mk Tryz.underlying5 (by
  simp only [Lit.wf, Bool.and_eq_true, decide_eq_true_eq, show IntKind.u8.min = 0 from by decide, show IntKind.u8.max = 255 from by decide]
  omega)
abbrev putI (D : DataW Unit) (c x : Int) : DataW Unit := D.put (keyB c) (.lit (.int .i64 x))
/-- what each operand is -/
def opsD5 (I V W F T : Int) : DataW Unit := putI (putI (putI (putI (putI (.map []) 105 I) 118 V) 119 W) 102 F) 116 T
def opsD (I V W F T : Int) : DataW Unit := if T = 0 then putI (opsD5 I V W F T) 110 I else opsD5 I V W F T
theorem has_putI {D : DataW Unit} (h : IsMap D) (c x k : Int) : has (putI D c x) (keyB k) = (decide (k = c) || has D (keyB k)) := by
  by_cases hk : k = c
  · subst hk
    rw [has_put_same h (show WideAt.IsKeyLit (keyB k) from trivial)]
    simp
  · rw [has_put_other (fun e => hk (by injection e)), decide_eq_false hk, Bool.false_or]
theorem at_putI {D : DataW Unit} (h : IsMap D) (c x k : Int) (z : DataW Unit) : (putI D c x).atKey (keyB k) z = if k = c then .lit (.int .i64 x) else D.atKey (keyB k) z := by
  by_cases hk : k = c
  · subst hk
    rw [atKey_put_same h (show WideAt.IsKeyLit (keyB k) from trivial), if_pos rfl]
  · rw [atKey_put_other (fun e => hk (by injection e)), if_neg hk]
theorem map_putI {D : DataW Unit} (h : IsMap D) (c x : Int) : IsMap (putI D c x) := by
  obtain ⟨es, rfl⟩ := h
  exact ⟨_, rfl⟩
theorem map_nil : IsMap (.map [] : DataW Unit) := ⟨[], rfl⟩
theorem map_five (I V W F T : Int) : IsMap (opsD5 I V W F T) := map_putI (map_putI (map_putI (map_putI (map_putI map_nil _ _) _ _) _ _) _ _) _ _
theorem has_five (I V W F T k : Int) : has (opsD5 I V W F T) (keyB k) = decide (k = 105 ∨ k = 118 ∨ k = 119 ∨ k = 102 ∨ k = 116) := by
  unfold opsD5
  rw [has_putI (map_putI (map_putI (map_putI (map_putI map_nil _ _) _ _) _ _) _ _), has_putI (map_putI (map_putI (map_putI map_nil _ _) _ _) _ _), has_putI (map_putI (map_putI map_nil _ _) _ _), has_putI (map_putI map_nil _ _), has_putI map_nil]
  show (decide (k = 116) || (decide (k = 102) || (decide (k = 119) || (decide (k = 118) || (decide (k = 105) || false))))) = _
  rw [Bool.eq_iff_iff]
  simp only [Bool.or_eq_true, decide_eq_true_eq, Bool.false_eq_true, or_false]
  constructor
  · rintro (h | h | h | h | h) <;> simp [h]
  · rintro (h | h | h | h | h) <;> simp [h]
theorem at_five (I V W F T k : Int) (z : DataW Unit) : (opsD5 I V W F T).atKey (keyB k) z = if k = 116 then .lit (.int .i64 T) else if k = 102 then .lit (.int .i64 F) else if k = 119 then .lit (.int .i64 W) else if k = 118 then .lit (.int .i64 V) else if k = 105 then .lit (.int .i64 I) else z := by
  unfold opsD5
  rw [at_putI (map_putI (map_putI (map_putI (map_putI map_nil _ _) _ _) _ _) _ _), at_putI (map_putI (map_putI (map_putI map_nil _ _) _ _) _ _), at_putI (map_putI (map_putI map_nil _ _) _ _), at_putI (map_putI map_nil _ _), at_putI map_nil]
  rfl
/-- is an operand asked for that equals some number? -/
def asks (op T : Int) : Bool := decide (opOk op ∧ ¬ (op = 110 ∧ T ≠ 0))
theorem ops_has (I V W F T op : Int) : has (opsD I V W F T) (keyB op) = asks op T := by
  unfold opsD asks
  by_cases hT : T = 0
  · rw [if_pos hT, has_putI (map_five ..), has_five, Bool.eq_iff_iff, Bool.or_eq_true, decide_eq_true_iff, decide_eq_true_iff, decide_eq_true_iff]
    unfold opOk
    constructor
    · rintro (h | h | h | h | h | h) <;> exact ⟨by simp [h], fun hh => hh.2 hT⟩
    · rintro ⟨h | h | h | h | h | h, -⟩ <;> simp [h]
  · rw [if_neg hT, has_five, Bool.eq_iff_iff, decide_eq_true_iff, decide_eq_true_iff]
    unfold opOk
    constructor
    · rintro (h | h | h | h | h) <;> exact ⟨by simp [h], fun hh => absurd (h.symm.trans hh.1) (by decide)⟩
    · rintro ⟨h | h | h | h | h | h, h2⟩
      · exact absurd ⟨h, hT⟩ h2
      all_goals simp [h]
theorem ops_at {I V W F T op : Int} (h : asks op T = true) (z : DataW Unit) : (opsD I V W F T).atKey (keyB op) z = .lit (.int .i64 (opV op I V W F T)) := by
  have h := of_decide_eq_true h
  unfold opsD opV
  by_cases hT : T = 0
  · rw [if_pos hT, at_putI (map_five ..), at_five]
    rcases h.1 with rfl | rfl | rfl | rfl | rfl | rfl <;> rfl
  · rw [if_neg hT, at_five]
    rcases h.1 with rfl | rfl | rfl | rfl | rfl | rfl <;> first | rfl | exact absurd ⟨rfl, hT⟩ h.2
abbrev MapAt (w : World) (b n : Nat) (D : DataW Unit) : Prop := w.ownsMap Tryz.prog 5 (plainElem (H := Unit) Tryz.prog 3) b n D
/-- a map that tells what each operand is -/
abbrev OpsAt (w : World) (b : Nat) (I V W F T : Int) : Prop := MapAt w b 6 (opsD I V W F T)
theorem grown_none {w w' : World} (hb : Below w.heap.size w w') : w.grownBy w' none := ⟨hb.os, hb.tape, hb.output, hb.size, fun k hk _ => hb.block k hk⟩
theorem map_later {w w' : World} {b n : Nat} {D : DataW Unit} (h : MapAt w b n D) (hb : Below w.heap.size w w') : MapAt w' b n D := h.kept (grown_none hb) (by simp)

def OpsPost (w : World) (I V W F T : Int) (e : Ending) (w' : World) : Prop := ∃ b, e = .returned (.map (some b)) ∧ OpsAt w' b I V W F T ∧ Below w.heap.size w w'
set_option maxHeartbeats 4000000 in
set_option maxRecDepth 100000 in
theorem operands_any (I V W F T : Int) (w : World) (hI : I64 I) (hV : I64 V) (hW : I64 W) (hF : I64 F) (hT : I64 T) :
    Calls Tryz.prog 33 #[.agg #[.int .i64 I, .int .i64 V, .int .i64 W, .int .i64 F, .int .i64 T]] w (OpsPost w I V W F T) := by
  have HD5 : Hid (putI (putI (putI (putI (putI (.map []) 105 I) 118 V) 119 W) 102 F) 116 T = opsD5 I V W F T) := Lib.hid rfl
  have HD : Hid ((T = 0 → putI (opsD5 I V W F T) 110 I = opsD I V W F T) ∧ (¬ T = 0 → opsD5 I V W F T = opsD I V W F T)) := Lib.hid ⟨fun h => (if_pos h).symm, fun h => (if_neg h).symm⟩
  have wI := Lib.hid (wf_i64 hI); have wV := Lib.hid (wf_i64 hV); have wW := Lib.hid (wf_i64 hW); have wF := Lib.hid (wf_i64 hF); have wT := Lib.hid (wf_i64 hT)
  clear hI hV hW hF hT
  have H0 : Hid (Bs w _ [_]) := Lib.hid (bs_one w [.int .i64 I, .int .i64 V, .int .i64 W, .int .i64 F, .int .i64 T] 24)
  go_enter Tryz.func33, Tryz.ntmps33
  go_upto_region 1 with fail
  obtain ⟨v0, hv0⟩ : ∃ V', w.alloc (.cells #[.int .i64 I, .int .i64 V, .int .i64 W, .int .i64 F, .int .i64 T] 24) = V' := ⟨_, rfl⟩
  rw [hv0] at H0 ⊢
  clear hv0
  obtain ⟨o0, o1, o2, o3, o4, -⟩ := H0.out.cells
  go_upto_region 2 with (first
    | (refine wpList_makeMap_any _ rfl _ rfl 5 (plainElem (H := Unit) Tryz.prog 3) ?_; intro w1 hown1 hB1; clear o0 o1 o2 o3 o4; obtain ⟨o0, o1, o2, o3, o4, -⟩ := (H0.out.call hB1).cells)
    | (refine wpList_insert_own _ rfl _ _ _ 68 rfl 5 3 keyed8 Tryz.underlying68 (plainElem (H := Unit) Tryz.prog 3) v0.heap.size 0 _ rfl hown1 (by unfold maxLen; omega) (.int .u8 105) (.int .i64 I) _ rfl rfl (key_byte (by omega)) (.lit (.int .i64 I)) [] (plainElem_int Tryz.underlying3 wI.out) ?_; intro w2 hown2 hg2; (have hB2 := bel_map hB1 hg2 (Nat.le_refl _)); clear o0 o1 o2 o3 o4; obtain ⟨o0, o1, o2, o3, o4, -⟩ := (H0.out.call hB2).cells)
    | (refine wpList_insert_own _ rfl _ _ _ 68 rfl 5 3 keyed8 Tryz.underlying68 (plainElem (H := Unit) Tryz.prog 3) v0.heap.size 1 _ rfl hown2 (by unfold maxLen; omega) (.int .u8 118) (.int .i64 V) _ rfl rfl (key_byte (by omega)) (.lit (.int .i64 V)) [] (plainElem_int Tryz.underlying3 wV.out) ?_; intro w3 hown3 hg3; (have hB3 := bel_map hB2 hg3 (Nat.le_refl _)); clear o0 o1 o2 o3 o4; obtain ⟨o0, o1, o2, o3, o4, -⟩ := (H0.out.call hB3).cells)
    | (refine wpList_insert_own _ rfl _ _ _ 68 rfl 5 3 keyed8 Tryz.underlying68 (plainElem (H := Unit) Tryz.prog 3) v0.heap.size 2 _ rfl hown3 (by unfold maxLen; omega) (.int .u8 119) (.int .i64 W) _ rfl rfl (key_byte (by omega)) (.lit (.int .i64 W)) [] (plainElem_int Tryz.underlying3 wW.out) ?_; intro w4 hown4 hg4; (have hB4 := bel_map hB3 hg4 (Nat.le_refl _)); clear o0 o1 o2 o3 o4; obtain ⟨o0, o1, o2, o3, o4, -⟩ := (H0.out.call hB4).cells)
    | (refine wpList_insert_own _ rfl _ _ _ 68 rfl 5 3 keyed8 Tryz.underlying68 (plainElem (H := Unit) Tryz.prog 3) v0.heap.size 3 _ rfl hown4 (by unfold maxLen; omega) (.int .u8 102) (.int .i64 F) _ rfl rfl (key_byte (by omega)) (.lit (.int .i64 F)) [] (plainElem_int Tryz.underlying3 wF.out) ?_; intro w5 hown5 hg5; (have hB5 := bel_map hB4 hg5 (Nat.le_refl _)); clear o0 o1 o2 o3 o4; obtain ⟨o0, o1, o2, o3, o4, -⟩ := (H0.out.call hB5).cells)
    | (refine wpList_insert_own _ rfl _ _ _ 68 rfl 5 3 keyed8 Tryz.underlying68 (plainElem (H := Unit) Tryz.prog 3) v0.heap.size 4 _ rfl hown5 (by unfold maxLen; omega) (.int .u8 116) (.int .i64 T) _ rfl rfl (key_byte (by omega)) (.lit (.int .i64 T)) [] (plainElem_int Tryz.underlying3 wT.out) ?_; intro w6 hown6 hg6; (have hB6 := bel_map hB5 hg6 (Nat.le_refl _)); clear o0 o1 o2 o3 o4; obtain ⟨o0, o1, o2, o3, o4, -⟩ := (H0.out.call hB6).cells))
  have hown7 : MapAt w6 v0.heap.size 5 (opsD5 I V W F T) := by rw [← HD5.out]; exact hown6
  clear hown1 hown2 hown3 hown4 hown5 hown6 hg2 hg3 hg4 hg5 hg6 hB1 hB2 hB3 hB4 hB5 HD5 w1 w2 w3 w4 w5
  by_cases hT : T = 0
  · have HE := Lib.hid (HD.out.1 hT)
    subst hT
    go_wp2_with (first
      | (at_mapUpdate; refine wpList_mapUpdate_own _ rfl _ _ _ 68 rfl 5 3 keyed8 Tryz.underlying68 (plainElem (H := Unit) Tryz.prog 3) v0.heap.size 5 _ rfl hown7 (by unfold maxLen; omega) (.int .u8 110) (.int .i64 I) _ rfl rfl (key_byte (by omega)) (.lit (.int .i64 I)) [] (plainElem_int Tryz.underlying3 wI.out) ?_; intro w8 hown8 hg8; (have hB8 := bel_map hB6 hg8 (Nat.le_refl _))))
    go_ret
    exact ⟨_, rfl, by unfold OpsAt; rw [← HE.out]; exact hown8, bel_call H0.out.below hB8⟩
  · have HE := Lib.hid (HD.out.2 hT)
    have hTb : (T == 0) = false := by simpa using hT
    clear hT
    go_wp2_with fail
    go_ret
    exact ⟨_, rfl, by have := hown7.mono (n' := 6) (by omega); rwa [HE.out] at this, bel_call H0.out.below hB6⟩
end Ru
end Go.Proofs.YtkhnjlkamleldaaGreatDoor
