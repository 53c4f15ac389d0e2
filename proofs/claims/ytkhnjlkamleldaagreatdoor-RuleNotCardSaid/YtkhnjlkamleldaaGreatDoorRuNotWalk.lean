/- The law RuleNot returns true. -/
import Derived.Test.YtkhnjlkamleldaaGreatDoorRuRoundWalk
import Derived.Test.YtkhnjlkamleldaaGreatDoorRuRuled
namespace Go.Proofs.YtkhnjlkamleldaaGreatDoor
namespace Ru
open Go.RowKit Go.Maps D

def flip (x : RelV) : RelV := ⟨x.op, x.mod, !x.nt, x.rs⟩
theorem flip_ok (x : RelV) : relOk (flip x) ↔ relOk x := Iff.rfl
theorem one_ok_iff (x : RelV) : ruleF [[x]] = if relOk x then 0 else 3 := by
  by_cases h : relOk x
  · rw [if_pos h]
    refine ruleF_zero.2 ⟨⟨by simp, fun p hp => ?_⟩, by simp [total]⟩
    obtain rfl := List.mem_singleton.1 hp
    exact ⟨by simp, fun y hy => by obtain rfl := List.mem_singleton.1 hy; exact h⟩
  · rw [if_neg h]
    exact fault_bad fun hr => h ((hr.2 [x] (by simp)).2 x (by simp))
theorem flip_f (x : RelV) : ruleF [[flip x]] = ruleF [[x]] := by rw [one_ok_iff, one_ok_iff]; rfl
theorem rel_one (x : RelV) (I V W F T : Int) : ruleH [[x]] I V W F T = relH x I V W F T := by simp [ruleH, partH]
theorem flip_h (x : RelV) (I V W F T : Int) : relH (flip x) I V W F T = !relH x I V W F T := by
  unfold relH flip
  dsimp only
  by_cases h : x.op = 110 ∧ T ≠ 0
  · rw [if_pos h, if_pos h]
  · rw [if_neg h, if_neg h]
    cases x.nt <;> cases x.rs.any (inRg (modV x.mod (opV x.op I V W F T))) <;> rfl
def more (x : RelV) (r : Int × Int) : RelV := ⟨x.op, x.mod, x.nt, x.rs ++ [r]⟩
theorem more_h (x : RelV) (r : Int × Int) (I V W F T : Int) : (x.nt = true → relH (more x r) I V W F T = true → relH x I V W F T = true) ∧ (x.nt = false → relH x I V W F T = true → relH (more x r) I V W F T = true) := by
  unfold relH more
  dsimp only
  by_cases h : x.op = 110 ∧ T ≠ 0
  · rw [if_pos h, if_pos h]
    exact ⟨fun _ h => h, fun _ h => h⟩
  · rw [if_neg h, if_neg h, List.any_append]
    cases x.nt <;> cases x.rs.any (inRg (modV x.mod (opV x.op I V W F T))) <;> simp
theorem bs_three (w : World) (vs us xs : List Value) (t u y : TypeId) : Bs w (((w.alloc (.cells vs.toArray t)).alloc (.cells us.toArray u)).alloc (.cells xs.toArray y)) [(w.heap.size + 2, xs), (w.heap.size + 1, us), (w.heap.size, vs)] := by
  have := (bs_two w vs us t u).alloc xs y
  rwa [show ((w.alloc (.cells vs.toArray t)).alloc (.cells us.toArray u)).heap.size = w.heap.size + 2 from by simp] at this
theorem two_below (W : World) (x : RelX) : Below W.heap.size W ((W.alloc (relCs x)).alloc (partCs W.heap.size)) := ((Below.refl _ _).alloc (Nat.le_refl _) _).alloc (by simp) _
theorem own_nought (w : World) (t : TypeId) (k : Nat) {base : Nat} (hb : base ≤ w.heap.size) : (w.alloc (.cells #[] t)).ownsRow base t k (.slice (some ⟨w.heap.size, 0, none⟩) 0 0) 0 [] :=
  ⟨by simp, .inr ⟨w.heap.size, 0, #[], rfl, hb, heap_alloc_new w _, Nat.le_refl _, by unfold maxLen; omega, by simp, by simp⟩⟩
theorem reads_blk {w : World} {g : Nat} {t : TypeId} {a b : Value} (h : Blk w g t #[a, b]) : Reads w w.heap.size 2 (some ⟨g, 0, none⟩) 1 [a, b] := ⟨rfl, fun _ => ⟨_, rfl, h.lt, fun j u hu => by
  rw [show (⟨g, 0, none⟩ : Addr).add j = ⟨g, j, none⟩ from by unfold Addr.add; split <;> simp_all, h.cell j]
  simpa using hu⟩⟩
theorem rgC_one (rs : List (Int × Int)) : ∀ u ∈ rgC rs, u.oneCell' = true := by
  intro u hu
  obtain ⟨x, _, hx⟩ := List.mem_flatMap.1 hu
  simp [rgCell] at hx
  rcases hx with rfl | rfl <;> rfl
theorem own_new {W : World} {T : TypeId} {k g base : Nat} (hb : base ≤ W.heap.size) (hg : g = W.heap.size) : (W.alloc (.cells #[] T)).ownsRow base T k (.slice (some ⟨g, 0, none⟩) 0 0) 0 [] := by subst hg; exact own_nought W T k hb
theorem own_al {W : World} {T : TypeId} {k n base : Nat} {v : Value} {xs : List Value} (h : W.ownsRow base T k v n xs) (o : Obj) : (W.alloc o).ownsRow base T k v n xs := own_later h ((Below.refl W.heap.size W).alloc (Nat.le_refl _) o)
theorem blk_new {W : World} {T : TypeId} {g : Nat} {cs : Array Value} (hg : g = W.heap.size) : Blk (W.alloc (.cells cs T)) g T cs := by subst hg; exact Blk.new W T cs
theorem at_world {w W : World} (_ : Below w.heap.size w W) (Q : World → Prop) (h : Q W) : Q W := h
theorem blk_four {W : World} {g : Nat} {T : TypeId} {a0 b0 c0 d0 : Value} (h : Blk W g T #[a0, b0, c0, d0]) (a b c d : Value) : Blk ((((W.setCell ⟨g, 0, none⟩ a).setCell ⟨g, 1, none⟩ b).setCell ⟨g, 2, none⟩ c).setCell ⟨g, 3, none⟩ d) g T #[a, b, c, d] := by
  simpa using ((((h.set_ 0 a).set_ 1 b).set_ 2 c).set_ 3 d)
theorem own_far {w : World} {base k n g : Nat} {e t : TypeId} {v : Value} {xs : List Value} {cs : Array Value} (h : w.ownsRow base e k v n xs) (hb : Blk w g t cs) (hne : e ≠ t) (i : Nat) (u : Value) : (w.setCell ⟨g, i, none⟩ u).ownsRow base e k v n xs := by
  refine h.kept (grown_set w g i u) ?_
  rcases h.2 with ⟨rfl, _⟩ | ⟨g', cap, cur, rfl, _, hg, _⟩
  · exact .inl rfl
  · right
    intro he
    have : g' = g := by simpa [Value.ownBlock] using he
    subst this
    have hb' : w.heap[g']? = some (.cells cs t (0, 0)) := hb
    rw [hg] at hb'
    injection hb' with hb'
    injection hb' with _ ht
    exact hne ht
def FinZ (w5 X : World) (g : Nat) (vs : Array Value) (v : Value) (n : Nat) (xs : List Value) : Prop := Below w5.heap.size w5 X ∧ Blk X g 45 vs ∧ X.ownsRow w5.heap.size 46 2 v n xs
theorem fin_new {w5 w7 : World} (a b c d : Value) {v : Value} {n : Nat} {xs : List Value} (hb : Below w5.heap.size w5 w7) (ho : w7.ownsRow w5.heap.size 46 2 v n xs) : FinZ w5 (w7.alloc (.cells #[a, b, c, d] 45)) w7.heap.size #[a, b, c, d] v n xs := ⟨bel_alloc hb _, Blk.new _ _ _, own_al ho _⟩
theorem fin_set {w5 w7 : World} {g : Nat} {a0 b0 c0 d0 : Value} (a b c d : Value) {v : Value} {n : Nat} {xs : List Value} (hb : Below w5.heap.size w5 w7) (ho : w7.ownsRow w5.heap.size 46 2 v n xs) (hz : Blk w7 g 45 #[a0, b0, c0, d0]) (hg : w5.heap.size ≤ g) : FinZ w5 ((((w7.setCell ⟨g, 0, none⟩ a).setCell ⟨g, 1, none⟩ b).setCell ⟨g, 2, none⟩ c).setCell ⟨g, 3, none⟩ d) g #[a, b, c, d] v n xs := by
  have hne : (46 : TypeId) ≠ 45 := by decide
  refine ⟨((((hb.setCell hg _).setCell hg _).setCell hg _).setCell hg _), blk_four hz a b c d, ?_⟩
  exact own_far (own_far (own_far (own_far ho hz hne 0 a) (hz.set_ 0 a) hne 1 b) ((hz.set_ 0 a).set_ 1 b) hne 2 c) (((hz.set_ 0 a).set_ 1 b).set_ 2 c) hne 3 d
theorem gen_fin {w5 X : World} {g : Nat} {vs : Array Value} {v : Value} {n : Nat} {xs : List Value} (_ : FinZ w5 X g vs v n xs) : ∃ U, U = X := ⟨X, rfl⟩
set_option maxHeartbeats 8000000 in
set_option maxRecDepth 100000 in
theorem not_any (op mod : Int) (nt : Bool) (A : Option Addr) (c : Nat) (rs : List (Int × Int)) (I V W' F T a b : Int) (w : World) (hr : RgsAt w w.heap.size A rs.length rs) (hc : rs.length ≤ c) (hm : c ≤ maxLen) (hby : 0 ≤ op ∧ op < 256) (hroom : rs.length * 16 ≤ 140737488355328 - 4096)
    (hI : I64 I) (hV : I64 V) (hW : I64 W') (hF : I64 F) (hT : I64 T) (hE : Env w) (hg : ErrType w) :
    Calls Tryz.prog 4 #[.agg #[.int .u8 op, .int .i64 mod, .bool nt, .slice A rs.length c], .agg #[.int .i64 I, .int .i64 V, .int .i64 W', .int .i64 F, .int .i64 T], .agg #[.int .i64 a, .int .i64 b]] w (TrueB w) := by
  obtain ⟨i0, hi0, hz0, hz1, hz2⟩ := info_parts rg_info
  have H0 : Hid (Bs w _ _) := Lib.hid (bs_three w [.int .u8 op, .int .i64 mod, .bool nt, .slice A rs.length c] [.int .i64 I, .int .i64 V, .int .i64 W', .int .i64 F, .int .i64 T] [.int .i64 a, .int .i64 b] 45 24 46)
  have CF := Lib.hid fun (U : World) (hU : Below w.heap.size w U) => ruled_any U (hE.later hU)
  have RX := Lib.hid fun (U : World) (hU : Below w.heap.size w U) => (hr.below hU).more hU.size
  have C1 := Lib.hid fun (U : World) (hU : Below w.heap.size w U) => one_holds (W := U) (x := ⟨⟨op, mod, nt, rs⟩, A, c⟩) (RX.out U hU) hc hm hby hI hV hW hF hT
  have C2 := Lib.hid fun (U : World) (hU : Below w.heap.size w U) => one_holds (W := U) (x := ⟨⟨op, mod, !nt, rs⟩, A, c⟩) (RX.out U hU) hc hm hby hI hV hW hF hT
  obtain ⟨rs2, hrs2⟩ : ∃ l, l = rs ++ [(a, b)] := ⟨_, rfl⟩
  have hlen : Hid (rs.length + 1 = rs2.length) := Lib.hid (by rw [hrs2]; simp)
  have hrg : Hid (rgC rs ++ [.int .i64 a, .int .i64 b] = rgC rs2) := Lib.hid (by rw [hrs2, rgC_snoc])
  have C3 := Lib.hid fun (A3 : Option Addr) (c3 : Nat) (U : World) (h3 : RgsAt U U.heap.size A3 rs2.length rs2) (hc3 : rs2.length ≤ c3) (hm3 : c3 ≤ maxLen) => one_holds (W := U) (x := ⟨⟨op, mod, nt, rs2⟩, A3, c3⟩) h3 hc3 hm3 hby hI hV hW hF hT
  have CT := Lib.hid fun (U : World) (hU : Below w.heap.size w U) => toldSame_any (ruleF [[(⟨op, mod, nt, rs⟩ : RelV)]]) U (errType_later hg hU)
  have hff : ruleF [[(⟨op, mod, !nt, rs⟩ : RelV)]] = ruleF [[(⟨op, mod, nt, rs⟩ : RelV)]] := flip_f ⟨op, mod, nt, rs⟩
  have hb0 := H0.out.below
  dsimp only at C1 C2 C3
  rw [hff] at C2
  by_cases h0 : ruleF [[(⟨op, mod, nt, rs⟩ : RelV)]] = 0
  · have e1 : holdsB [[(⟨op, mod, nt, rs⟩ : RelV)]] I V W' F T = relH ⟨op, mod, nt, rs⟩ I V W' F T := by unfold holdsB; rw [if_pos h0, rel_one]
    have e2 : holdsB [[(⟨op, mod, !nt, rs⟩ : RelV)]] I V W' F T = !relH ⟨op, mod, nt, rs⟩ I V W' F T := by unfold holdsB; rw [hff, if_pos h0, rel_one]; exact flip_h ⟨op, mod, nt, rs⟩ I V W' F T
    rw [e1, h0, errV_zero] at C1
    rw [e2, h0, errV_zero] at C2
    rw [h0, errV_zero] at CT
    have HMO := Lib.hid (more_h ⟨op, mod, nt, rs⟩ (a, b) I V W' F T)
    have HX3 : Hid ((ruleF [[(⟨op, mod, nt, rs2⟩ : RelV)]] = 0 ∧ holdsB [[(⟨op, mod, nt, rs2⟩ : RelV)]] I V W' F T = relH (more ⟨op, mod, nt, rs⟩ (a, b)) I V W' F T) ∨ ruleF [[(⟨op, mod, nt, rs2⟩ : RelV)]] ≠ 0) := Lib.hid (by
      by_cases h : ruleF [[(⟨op, mod, nt, rs2⟩ : RelV)]] = 0
      · exact .inl ⟨h, by unfold holdsB; rw [if_pos h, rel_one, hrs2]; rfl⟩
      · exact .inr h)
    clear hrs2
    dsimp only at HMO
    generalize relH (more ⟨op, mod, nt, rs⟩ (a, b)) I V W' F T = bc at *
    generalize relH ⟨op, mod, nt, rs⟩ I V W' F T = ba at *
    clear e1 e2 h0 hff hE hg hby hI hV hW hF hT
    go_enter Tryz.func4, Tryz.ntmps4
    go_upto_region 2 with (first
      | (go_at_call 6; (with_reducible refine (CF.out _ hb0).mono ?_); rintro e w1 ⟨rfl, hb1⟩; (have HB1 := Lib.hid (H0.out.call hb1))))
    obtain ⟨-, -, -, -, -, -, -, d0, d1, d2, d3, -⟩ := HB1.out.cells
    go_upto_region 3 with fail
    have HB2 : Hid (Bs w _ _) := Lib.hid (HB1.out.alloc [.int .u8 op, .int .i64 mod, .bool (!nt), .slice A rs.length c] 45)
    obtain ⟨w2, hw2⟩ : ∃ U, w1.alloc (.cells #[.int .u8 op, .int .i64 mod, .bool (!nt), .slice A rs.length c] 45) = U := ⟨_, rfl⟩
    rw [hw2] at HB2 ⊢
    clear hw2 d0 d1 d2 d3
    have hB2 := HB2.out.below
    obtain ⟨y0, y1, y2, y3, m0, m1, o0, o1, o2, o3, o4, d0, d1, d2, d3, -⟩ := HB2.out.cells
    obtain ⟨-, -, -, -, -, -, p0, p1, p2, p3, p4, -⟩ := (HB2.out.call (two_below w2 ⟨⟨op, mod, nt, rs⟩, A, c⟩)).cells
    go_upto_region 4 with (first
      | (go_at_call 14; (with_reducible refine (C1.out _ hB2).mono ?_); rintro e w3 ⟨rfl, hb3⟩; (have HB3 := Lib.hid (HB2.out.call hb3)); dsimp only))
    clear y0 y1 y2 y3 m0 m1 o0 o1 o2 o3 o4 d0 d1 d2 d3 p0 p1 p2 p3 p4
    have hB3 := HB3.out.below
    obtain ⟨y0, y1, y2, y3, m0, m1, o0, o1, o2, o3, o4, d0, d1, d2, d3, -⟩ := HB3.out.cells
    obtain ⟨-, -, -, -, -, -, p0, p1, p2, p3, p4, -⟩ := (HB3.out.call (two_below w3 ⟨⟨op, mod, !nt, rs⟩, A, c⟩)).cells
    go_upto_region 5 with (first
      | (go_at_call 14; (with_reducible refine (C2.out _ hB3).mono ?_); rintro e w4 ⟨rfl, hb4⟩; (have HB4 := Lib.hid (HB3.out.call hb4)); dsimp only))
    clear y0 y1 y2 y3 m0 m1 o0 o1 o2 o3 o4 d0 d1 d2 d3 p0 p1 p2 p3 p4
    have hB4 := HB4.out.below
    go_upto_region 10 with (first
      | (go_at_call 16; (with_reducible refine (CT.out _ hB4).mono ?_); rintro e w5 ⟨rfl, hb5⟩; (have HB5 := Lib.hid (HB4.out.call hb5))))
    have HSX : Hid (∀ wx, Below w5.heap.size w5 wx → Below w5.heap.size w5 wx ∧ wx.cell? ⟨w.heap.size, 0, none⟩ = some (.int .u8 op) ∧ wx.cell? ⟨w.heap.size, 1, none⟩ = some (.int .i64 mod) ∧ wx.cell? ⟨w.heap.size, 2, none⟩ = some (.bool nt) ∧ wx.cell? ⟨w.heap.size, 3, none⟩ = some (.slice A rs.length c) ∧ wx.cell? ⟨w.heap.size + 2, 0, none⟩ = some (.int .i64 a) ∧ wx.cell? ⟨w.heap.size + 2, 1, none⟩ = some (.int .i64 b)) := Lib.hid fun wx hb => by
      obtain ⟨-, -, -, -, q0, q1, -, -, -, -, -, x0, x1, x2, x3, -⟩ := (HB5.out.call hb).cells
      exact ⟨hb, x0, x1, x2, x3, q0, q1⟩
    have hr0 := Below.refl w5.heap.size w5
    obtain ⟨-, x0, x1, x2, x3, q0, q1⟩ := HSX.out _ hr0
    have RX5 := Lib.hid fun (U : World) (hU : Below w5.heap.size w5 U) => RX.out U (bel_call HB5.out.below hU)
    have h1c := rgC_one rs
    have h1m : ∀ u ∈ [Value.int .i64 a, Value.int .i64 b], u.oneCell' = true := by intro u hu; simp at hu; rcases hu with rfl | rfl <;> rfl
    go_cut [14] (fun s14 wx => ∃ (gz : Nat) (A7 : Option Addr) (c7 : Nat), s14 = .pointer (some ⟨gz, 0, none⟩) ∧ rs2.length ≤ c7 ∧ c7 ≤ maxLen ∧ FinZ w5 wx gz #[.int .u8 op, .int .i64 mod, .bool nt, .slice A7 rs2.length c7] (.slice A7 rs2.length c7) rs2.length (rgC rs2))
    case first =>
      go_region_held3 (fun wx => Below w5.heap.size w5 wx ∧ wx.cell? ⟨w.heap.size, 0, none⟩ = some (.int .u8 op) ∧ wx.cell? ⟨w.heap.size, 1, none⟩ = some (.int .i64 mod) ∧ wx.cell? ⟨w.heap.size, 2, none⟩ = some (.bool nt) ∧ wx.cell? ⟨w.heap.size, 3, none⟩ = some (.slice A rs.length c) ∧ wx.cell? ⟨w.heap.size + 2, 0, none⟩ = some (.int .i64 a) ∧ wx.cell? ⟨w.heap.size + 2, 1, none⟩ = some (.int .i64 b))
        (exact HSX.out _ (by (repeat (first | assumption | exact Below.refl _ _ | with_reducible refine Below.drew ?_ | with_reducible refine bel_alloc ?_ _ | with_reducible refine Below.setCell ?_ (by dsimp only; omega) _)); done))
        (first
          | ((obtain ⟨hbX, -⟩ := ‹Below w5.heap.size w5 _ ∧ _›; refine step_append_any _ (by rfl) (.tmp 67) (.tmp 69) 43 (by rfl) w5.heap.size 46 i0 _ 2 16 Tryz.underlying43 hi0 hz0 hz1 hz2 rfl (by omega) (.slice (some ⟨_, 0, none⟩) 0 0) 0 [] (by rfl) (by (repeat (first | exact own_new (by first | exact Nat.le_refl _ | (simp only [World.size_alloc]; omega)) (by first | with_reducible rfl | (simp only [World.size_alloc])) | with_reducible refine World.ownsRow.drew ?_ | with_reducible refine own_al ?_ _)); done) _ A rs.length _ (rgC rs) (by rfl) (show Reads _ _ 2 A rs.length (rgC rs) from RX5.out _ hbX) h1c (by unfold maxLen; omega) (by omega) hbX.size ?_; intro v6 w6 hown6 hg6 hat6; rw [Nat.zero_add, List.nil_append] at hown6; (have hB6 : Below w5.heap.size w5 w6 := hbX.grown hg6 hbX.size (fun j hj => by cases hj; first | exact Nat.le_refl _ | omega | (dsimp only; omega))); (have hs6 : w5.heap.size ≤ w6.heap.size := hB6.size); (try ((refine have blkB6 : Blk w6 (w5.heap.size) 46 #[.int .i64 a, .int .i64 b] := ?_; ?_); (focus ((refine Blk.grown (at_world hbX (fun U => Blk U (w5.heap.size) 46 #[.int .i64 a, .int .i64 b]) ?_) hg6 ?_); (focus ((try dsimp only); (repeat (first | with_reducible exact blk_new rfl | with_reducible exact blk_new (World.size_alloc _ _).symm | with_reducible exact blk_new ((World.size_alloc _ _).trans (congrArg (· + 1) (World.size_alloc _ _))).symm | with_reducible refine Blk.drew ?_ | with_reducible refine Blk.alloc ?_ _)); done)); (focus (first | (simp [Value.ownBlock]; done) | (simp [Value.ownBlock]; omega))))))); (try ((refine have blkB6 : Blk w6 (w5.heap.size + 1) 46 #[.int .i64 a, .int .i64 b] := ?_; ?_); (focus ((refine Blk.grown (at_world hbX (fun U => Blk U (w5.heap.size + 1) 46 #[.int .i64 a, .int .i64 b]) ?_) hg6 ?_); (focus ((try dsimp only); (repeat (first | with_reducible exact blk_new rfl | with_reducible exact blk_new (World.size_alloc _ _).symm | with_reducible exact blk_new ((World.size_alloc _ _).trans (congrArg (· + 1) (World.size_alloc _ _))).symm | with_reducible refine Blk.drew ?_ | with_reducible refine Blk.alloc ?_ _)); done)); (focus (first | (simp [Value.ownBlock]; done) | (simp [Value.ownBlock]; omega))))))); (try ((refine have blkB6 : Blk w6 (w5.heap.size + 1 + 1) 46 #[.int .i64 a, .int .i64 b] := ?_; ?_); (focus ((refine Blk.grown (at_world hbX (fun U => Blk U (w5.heap.size + 1 + 1) 46 #[.int .i64 a, .int .i64 b]) ?_) hg6 ?_); (focus ((try dsimp only); (repeat (first | with_reducible exact blk_new rfl | with_reducible exact blk_new (World.size_alloc _ _).symm | with_reducible exact blk_new ((World.size_alloc _ _).trans (congrArg (· + 1) (World.size_alloc _ _))).symm | with_reducible refine Blk.drew ?_ | with_reducible refine Blk.alloc ?_ _)); done)); (focus (first | (simp [Value.ownBlock]; done) | (simp [Value.ownBlock]; omega))))))); (try ((refine have blkZ6 : Blk w6 (w5.heap.size) 45 #[.int .u8 0, .int .i64 0, .bool false, .slice none 0 0] := ?_; ?_); (focus ((refine Blk.grown (at_world hbX (fun U => Blk U (w5.heap.size) 45 #[.int .u8 0, .int .i64 0, .bool false, .slice none 0 0]) ?_) hg6 ?_); (focus ((try dsimp only); (repeat (first | with_reducible exact blk_new rfl | with_reducible exact blk_new (World.size_alloc _ _).symm | with_reducible exact blk_new ((World.size_alloc _ _).trans (congrArg (· + 1) (World.size_alloc _ _))).symm | with_reducible refine Blk.drew ?_ | with_reducible refine Blk.alloc ?_ _)); done)); (focus (first | (simp [Value.ownBlock]; done) | (simp [Value.ownBlock]; omega))))))); (try ((refine have blkZ6 : Blk w6 (w5.heap.size + 1) 45 #[.int .u8 0, .int .i64 0, .bool false, .slice none 0 0] := ?_; ?_); (focus ((refine Blk.grown (at_world hbX (fun U => Blk U (w5.heap.size + 1) 45 #[.int .u8 0, .int .i64 0, .bool false, .slice none 0 0]) ?_) hg6 ?_); (focus ((try dsimp only); (repeat (first | with_reducible exact blk_new rfl | with_reducible exact blk_new (World.size_alloc _ _).symm | with_reducible exact blk_new ((World.size_alloc _ _).trans (congrArg (· + 1) (World.size_alloc _ _))).symm | with_reducible refine Blk.drew ?_ | with_reducible refine Blk.alloc ?_ _)); done)); (focus (first | (simp [Value.ownBlock]; done) | (simp [Value.ownBlock]; omega))))))); (try ((refine have blkZ6 : Blk w6 (w5.heap.size + 1 + 1) 45 #[.int .u8 0, .int .i64 0, .bool false, .slice none 0 0] := ?_; ?_); (focus ((refine Blk.grown (at_world hbX (fun U => Blk U (w5.heap.size + 1 + 1) 45 #[.int .u8 0, .int .i64 0, .bool false, .slice none 0 0]) ?_) hg6 ?_); (focus ((try dsimp only); (repeat (first | with_reducible exact blk_new rfl | with_reducible exact blk_new (World.size_alloc _ _).symm | with_reducible exact blk_new ((World.size_alloc _ _).trans (congrArg (· + 1) (World.size_alloc _ _))).symm | with_reducible refine Blk.drew ?_ | with_reducible refine Blk.alloc ?_ _)); done)); (focus (first | (simp [Value.ownBlock]; done) | (simp [Value.ownBlock]; omega)))))))))
          | ((obtain ⟨hbX, -⟩ := ‹Below w5.heap.size w5 _ ∧ _›; have hownX := at_world hbX (fun U => U.ownsRow w5.heap.size 46 2 v6 rs.length (rgC rs)) (by (try dsimp only); (repeat (first | exact hown6 | with_reducible refine World.ownsRow.drew ?_ | with_reducible refine own_al ?_ _)); done); (try dsimp only at hownX); refine step_append_any _ (by rfl) (.tmp 70) (.tmp 72) 43 (by rfl) w5.heap.size 46 i0 _ 2 16 Tryz.underlying43 hi0 hz0 hz1 hz2 rfl (by omega) v6 rs.length (rgC rs) (by rfl) hownX _ (some ⟨_, 0, none⟩) 1 _ [.int .i64 a, .int .i64 b] (by rfl) (reads_blk (t := 46) (by (repeat (first | exact blkB6 | with_reducible exact blk_new rfl | with_reducible exact blk_new (World.size_alloc _ _).symm | with_reducible exact blk_new ((World.size_alloc _ _).trans (congrArg (· + 1) (World.size_alloc _ _))).symm | with_reducible refine Blk.drew ?_ | with_reducible refine Blk.alloc ?_ _)); done)) h1m (by unfold maxLen; omega) (by omega) hbX.size ?_; intro v7 w7 hown7 hg7 hat7; rw [hlen.out, hrg.out] at hown7; (have hB7 : Below w5.heap.size w5 w7 := hbX.grown hg7 hbX.size (fun j hj => (hownX.lt j hj).1)); (try ((refine have blkZ7 : Blk w7 (w5.heap.size) 45 #[.int .u8 0, .int .i64 0, .bool false, .slice none 0 0] := ?_; ?_); (focus ((refine Blk.grown (at_world hbX (fun U => Blk U (w5.heap.size) 45 #[.int .u8 0, .int .i64 0, .bool false, .slice none 0 0]) ?_) hg7 ?_); (focus ((try dsimp only); (repeat (first | exact blkZ6 | with_reducible exact blk_new rfl | with_reducible exact blk_new (World.size_alloc _ _).symm | with_reducible exact blk_new ((World.size_alloc _ _).trans (congrArg (· + 1) (World.size_alloc _ _))).symm | with_reducible refine Blk.drew ?_ | with_reducible refine Blk.alloc ?_ _)); done)); (focus (first | (intro hq; exact absurd ((hown6.lt _ hq.symm).2) (by omega)) | (intro hq; rcases hat6 with h | h <;> (first | (rw [← hq] at h; simp [Value.ownBlock] at h; done) | (rw [← hq] at h; simp [Value.ownBlock] at h; omega))))))); (have zc0 : w7.cell? ⟨w5.heap.size, 0, none⟩ = some (.int .u8 0) := blkZ7.cell 0); (have zf0 : w7.frozen? ⟨w5.heap.size, 0, none⟩ = false := blkZ7.frozen 0); (have zc1 : w7.cell? ⟨w5.heap.size, 1, none⟩ = some (.int .i64 0) := blkZ7.cell 1); (have zf1 : w7.frozen? ⟨w5.heap.size, 1, none⟩ = false := blkZ7.frozen 1); (have zc2 : w7.cell? ⟨w5.heap.size, 2, none⟩ = some (.bool false) := blkZ7.cell 2); (have zf2 : w7.frozen? ⟨w5.heap.size, 2, none⟩ = false := blkZ7.frozen 2); (have zc3 : w7.cell? ⟨w5.heap.size, 3, none⟩ = some (.slice none 0 0) := blkZ7.cell 3); (have zf3 : w7.frozen? ⟨w5.heap.size, 3, none⟩ = false := blkZ7.frozen 3))); (try ((refine have blkZ7 : Blk w7 (w5.heap.size + 1) 45 #[.int .u8 0, .int .i64 0, .bool false, .slice none 0 0] := ?_; ?_); (focus ((refine Blk.grown (at_world hbX (fun U => Blk U (w5.heap.size + 1) 45 #[.int .u8 0, .int .i64 0, .bool false, .slice none 0 0]) ?_) hg7 ?_); (focus ((try dsimp only); (repeat (first | exact blkZ6 | with_reducible exact blk_new rfl | with_reducible exact blk_new (World.size_alloc _ _).symm | with_reducible exact blk_new ((World.size_alloc _ _).trans (congrArg (· + 1) (World.size_alloc _ _))).symm | with_reducible refine Blk.drew ?_ | with_reducible refine Blk.alloc ?_ _)); done)); (focus (first | (intro hq; exact absurd ((hown6.lt _ hq.symm).2) (by omega)) | (intro hq; rcases hat6 with h | h <;> (first | (rw [← hq] at h; simp [Value.ownBlock] at h; done) | (rw [← hq] at h; simp [Value.ownBlock] at h; omega))))))); (have zc0 : w7.cell? ⟨w5.heap.size + 1, 0, none⟩ = some (.int .u8 0) := blkZ7.cell 0); (have zf0 : w7.frozen? ⟨w5.heap.size + 1, 0, none⟩ = false := blkZ7.frozen 0); (have zc1 : w7.cell? ⟨w5.heap.size + 1, 1, none⟩ = some (.int .i64 0) := blkZ7.cell 1); (have zf1 : w7.frozen? ⟨w5.heap.size + 1, 1, none⟩ = false := blkZ7.frozen 1); (have zc2 : w7.cell? ⟨w5.heap.size + 1, 2, none⟩ = some (.bool false) := blkZ7.cell 2); (have zf2 : w7.frozen? ⟨w5.heap.size + 1, 2, none⟩ = false := blkZ7.frozen 2); (have zc3 : w7.cell? ⟨w5.heap.size + 1, 3, none⟩ = some (.slice none 0 0) := blkZ7.cell 3); (have zf3 : w7.frozen? ⟨w5.heap.size + 1, 3, none⟩ = false := blkZ7.frozen 3))); (try ((refine have blkZ7 : Blk w7 (w5.heap.size + 1 + 1) 45 #[.int .u8 0, .int .i64 0, .bool false, .slice none 0 0] := ?_; ?_); (focus ((refine Blk.grown (at_world hbX (fun U => Blk U (w5.heap.size + 1 + 1) 45 #[.int .u8 0, .int .i64 0, .bool false, .slice none 0 0]) ?_) hg7 ?_); (focus ((try dsimp only); (repeat (first | exact blkZ6 | with_reducible exact blk_new rfl | with_reducible exact blk_new (World.size_alloc _ _).symm | with_reducible exact blk_new ((World.size_alloc _ _).trans (congrArg (· + 1) (World.size_alloc _ _))).symm | with_reducible refine Blk.drew ?_ | with_reducible refine Blk.alloc ?_ _)); done)); (focus (first | (intro hq; exact absurd ((hown6.lt _ hq.symm).2) (by omega)) | (intro hq; rcases hat6 with h | h <;> (first | (rw [← hq] at h; simp [Value.ownBlock] at h; done) | (rw [← hq] at h; simp [Value.ownBlock] at h; omega))))))); (have zc0 : w7.cell? ⟨w5.heap.size + 1 + 1, 0, none⟩ = some (.int .u8 0) := blkZ7.cell 0); (have zf0 : w7.frozen? ⟨w5.heap.size + 1 + 1, 0, none⟩ = false := blkZ7.frozen 0); (have zc1 : w7.cell? ⟨w5.heap.size + 1 + 1, 1, none⟩ = some (.int .i64 0) := blkZ7.cell 1); (have zf1 : w7.frozen? ⟨w5.heap.size + 1 + 1, 1, none⟩ = false := blkZ7.frozen 1); (have zc2 : w7.cell? ⟨w5.heap.size + 1 + 1, 2, none⟩ = some (.bool false) := blkZ7.cell 2); (have zf2 : w7.frozen? ⟨w5.heap.size + 1 + 1, 2, none⟩ = false := blkZ7.frozen 2); (have zc3 : w7.cell? ⟨w5.heap.size + 1 + 1, 3, none⟩ = some (.slice none 0 0) := blkZ7.cell 3); (have zf3 : w7.frozen? ⟨w5.heap.size + 1 + 1, 3, none⟩ = false := blkZ7.frozen 3))); (try ((refine have blkZ7 : Blk w7 (w6.heap.size) 45 #[.int .u8 0, .int .i64 0, .bool false, .slice none 0 0] := ?_; ?_); (focus ((refine Blk.grown (at_world hbX (fun U => Blk U (w6.heap.size) 45 #[.int .u8 0, .int .i64 0, .bool false, .slice none 0 0]) ?_) hg7 ?_); (focus ((try dsimp only); (repeat (first | exact blkZ6 | with_reducible exact blk_new rfl | with_reducible exact blk_new (World.size_alloc _ _).symm | with_reducible exact blk_new ((World.size_alloc _ _).trans (congrArg (· + 1) (World.size_alloc _ _))).symm | with_reducible refine Blk.drew ?_ | with_reducible refine Blk.alloc ?_ _)); done)); (focus (first | (intro hq; exact absurd ((hown6.lt _ hq.symm).2) (by omega)) | (intro hq; rcases hat6 with h | h <;> (first | (rw [← hq] at h; simp [Value.ownBlock] at h; done) | (rw [← hq] at h; simp [Value.ownBlock] at h; omega))))))); (have zc0 : w7.cell? ⟨w6.heap.size, 0, none⟩ = some (.int .u8 0) := blkZ7.cell 0); (have zf0 : w7.frozen? ⟨w6.heap.size, 0, none⟩ = false := blkZ7.frozen 0); (have zc1 : w7.cell? ⟨w6.heap.size, 1, none⟩ = some (.int .i64 0) := blkZ7.cell 1); (have zf1 : w7.frozen? ⟨w6.heap.size, 1, none⟩ = false := blkZ7.frozen 1); (have zc2 : w7.cell? ⟨w6.heap.size, 2, none⟩ = some (.bool false) := blkZ7.cell 2); (have zf2 : w7.frozen? ⟨w6.heap.size, 2, none⟩ = false := blkZ7.frozen 2); (have zc3 : w7.cell? ⟨w6.heap.size, 3, none⟩ = some (.slice none 0 0) := blkZ7.cell 3); (have zf3 : w7.frozen? ⟨w6.heap.size, 3, none⟩ = false := blkZ7.frozen 3))); (try ((refine have blkZ7 : Blk w7 (w6.heap.size + 1) 45 #[.int .u8 0, .int .i64 0, .bool false, .slice none 0 0] := ?_; ?_); (focus ((refine Blk.grown (at_world hbX (fun U => Blk U (w6.heap.size + 1) 45 #[.int .u8 0, .int .i64 0, .bool false, .slice none 0 0]) ?_) hg7 ?_); (focus ((try dsimp only); (repeat (first | exact blkZ6 | with_reducible exact blk_new rfl | with_reducible exact blk_new (World.size_alloc _ _).symm | with_reducible exact blk_new ((World.size_alloc _ _).trans (congrArg (· + 1) (World.size_alloc _ _))).symm | with_reducible refine Blk.drew ?_ | with_reducible refine Blk.alloc ?_ _)); done)); (focus (first | (intro hq; exact absurd ((hown6.lt _ hq.symm).2) (by omega)) | (intro hq; rcases hat6 with h | h <;> (first | (rw [← hq] at h; simp [Value.ownBlock] at h; done) | (rw [← hq] at h; simp [Value.ownBlock] at h; omega))))))); (have zc0 : w7.cell? ⟨w6.heap.size + 1, 0, none⟩ = some (.int .u8 0) := blkZ7.cell 0); (have zf0 : w7.frozen? ⟨w6.heap.size + 1, 0, none⟩ = false := blkZ7.frozen 0); (have zc1 : w7.cell? ⟨w6.heap.size + 1, 1, none⟩ = some (.int .i64 0) := blkZ7.cell 1); (have zf1 : w7.frozen? ⟨w6.heap.size + 1, 1, none⟩ = false := blkZ7.frozen 1); (have zc2 : w7.cell? ⟨w6.heap.size + 1, 2, none⟩ = some (.bool false) := blkZ7.cell 2); (have zf2 : w7.frozen? ⟨w6.heap.size + 1, 2, none⟩ = false := blkZ7.frozen 2); (have zc3 : w7.cell? ⟨w6.heap.size + 1, 3, none⟩ = some (.slice none 0 0) := blkZ7.cell 3); (have zf3 : w7.frozen? ⟨w6.heap.size + 1, 3, none⟩ = false := blkZ7.frozen 3))); (obtain ⟨A7, c7, rfl, hc7, hm7, -, -⟩ := own_shape hown7))))
      all_goals
        (have HFZ := by first
          | exact fin_set (.int .u8 op) (.int .i64 mod) (.bool nt) (.slice A7 rs2.length c7) hB7 hown7 blkZ7 (by omega)
          | exact fin_new (.int .u8 op) (.int .i64 mod) (.bool nt) (.slice A7 rs2.length c7) hB7 hown7)
        (try go_wp2_with fail)
        go_meet
        exact ⟨_, A7, c7, rfl, hc7, hm7, HFZ⟩
    case rest =>
      obtain ⟨gz, A7, c7, rfl, hc7, hm7, hbZ, hkZ, hoZ⟩ := hcut
      have HZ := Lib.hid hkZ
      have HBZ := Lib.hid (HB5.out.call hbZ)
      have C3Z := Lib.hid (C3.out A7 c7 wc (Reads.of_own hoZ) hc7 hm7)
      clear hkZ hoZ C3
      (have z0 : wc.cell? ⟨_, 0, none⟩ = some (.int .u8 op) := HZ.out.cell 0)
      (have z1 : wc.cell? ⟨_, 1, none⟩ = some (.int .i64 mod) := HZ.out.cell 1)
      (have z2 : wc.cell? ⟨_, 2, none⟩ = some (.bool nt) := HZ.out.cell 2)
      (have z3 : wc.cell? ⟨_, 3, none⟩ = some (.slice A7 rs2.length c7) := HZ.out.cell 3)
      obtain ⟨y0, y1, y2, y3, m0, m1, o0, o1, o2, o3, o4, d0, d1, d2, d3, -⟩ := HBZ.out.cells
      obtain ⟨-, -, -, -, -, -, p0, p1, p2, p3, p4, -⟩ := (HBZ.out.call (two_below wc ⟨⟨op, mod, nt, rs2⟩, A7, c7⟩)).cells
      rcases HX3.out with ⟨hf3, hh3⟩ | hf3
      · rw [hf3, hh3, errV_zero] at C3Z
        clear hf3 hh3
        go_upto_region 12 with (first
          | (go_at_call 14; (with_reducible refine C3Z.out.mono ?_); rintro e w8 ⟨rfl, hb8⟩; (have HB8 := Lib.hid (HBZ.out.call hb8)); dsimp only))
        clear y0 y1 y2 y3 m0 m1 o0 o1 o2 o3 o4 d0 d1 d2 d3 p0 p1 p2 p3 p4 z0 z1 z2 z3
        obtain ⟨-, -, -, -, -, -, -, -, -, -, -, -, -, d2, -, -⟩ := HB8.out.cells
        cases nt <;> cases ba <;> cases bc <;> first
          | exact absurd (HMO.out.1 rfl rfl) (by decide)
          | exact absurd (HMO.out.2 rfl rfl) (by decide)
          | (go_wp2_with fail; go_ret; exact ⟨rfl, HB8.out.below⟩)
      · obtain ⟨z, hz⟩ := errV_ne hf3
        rw [hz] at C3Z
        generalize holdsB [[(⟨op, mod, nt, rs2⟩ : RelV)]] I V W' F T = hb3 at C3Z
        clear hf3 hz
        go_upto_region 12 with (first
          | (go_at_call 14; (with_reducible refine C3Z.out.mono ?_); rintro e w8 ⟨rfl, hb8⟩; (have HB8 := Lib.hid (HBZ.out.call hb8)); dsimp only))
        clear y0 y1 y2 y3 m0 m1 o0 o1 o2 o3 o4 d0 d1 d2 d3 p0 p1 p2 p3 p4 z0 z1 z2 z3
        obtain ⟨-, -, -, -, -, -, -, -, -, -, -, -, -, d2, -, -⟩ := HB8.out.cells
        cases ba <;> (go_wp2_with fail; go_ret; exact ⟨rfl, HB8.out.below⟩)
  · have e1 : holdsB [[(⟨op, mod, nt, rs⟩ : RelV)]] I V W' F T = false := by unfold holdsB; rw [if_neg h0]
    have e2 : holdsB [[(⟨op, mod, !nt, rs⟩ : RelV)]] I V W' F T = false := by unfold holdsB; rw [hff, if_neg h0]
    rw [e1] at C1
    rw [e2] at C2
    obtain ⟨z, hz⟩ := errV_ne h0
    rw [hz] at C1 C2
    generalize errV (ruleF [[(⟨op, mod, nt, rs⟩ : RelV)]]) = ev at *
    subst hz
    clear e1 e2 h0 hff hE hg hby hI hV hW hF hT C3
    go_enter Tryz.func4, Tryz.ntmps4
    go_upto_region 2 with (first
      | (go_at_call 6; (with_reducible refine (CF.out _ hb0).mono ?_); rintro e w1 ⟨rfl, hb1⟩; (have HB1 := Lib.hid (H0.out.call hb1))))
    obtain ⟨-, -, -, -, -, -, -, d0, d1, d2, d3, -⟩ := HB1.out.cells
    go_upto_region 3 with fail
    have HB2 : Hid (Bs w _ _) := Lib.hid (HB1.out.alloc [.int .u8 op, .int .i64 mod, .bool (!nt), .slice A rs.length c] 45)
    obtain ⟨w2, hw2⟩ : ∃ U, w1.alloc (.cells #[.int .u8 op, .int .i64 mod, .bool (!nt), .slice A rs.length c] 45) = U := ⟨_, rfl⟩
    rw [hw2] at HB2 ⊢
    clear hw2 d0 d1 d2 d3
    have hB2 := HB2.out.below
    obtain ⟨y0, y1, y2, y3, m0, m1, o0, o1, o2, o3, o4, d0, d1, d2, d3, -⟩ := HB2.out.cells
    obtain ⟨-, -, -, -, -, -, p0, p1, p2, p3, p4, -⟩ := (HB2.out.call (two_below w2 ⟨⟨op, mod, nt, rs⟩, A, c⟩)).cells
    go_upto_region 4 with (first
      | (go_at_call 14; (with_reducible refine (C1.out _ hB2).mono ?_); rintro e w3 ⟨rfl, hb3⟩; (have HB3 := Lib.hid (HB2.out.call hb3)); dsimp only))
    clear y0 y1 y2 y3 m0 m1 o0 o1 o2 o3 o4 d0 d1 d2 d3 p0 p1 p2 p3 p4
    have hB3 := HB3.out.below
    obtain ⟨y0, y1, y2, y3, m0, m1, o0, o1, o2, o3, o4, d0, d1, d2, d3, -⟩ := HB3.out.cells
    obtain ⟨-, -, -, -, -, -, p0, p1, p2, p3, p4, -⟩ := (HB3.out.call (two_below w3 ⟨⟨op, mod, !nt, rs⟩, A, c⟩)).cells
    go_upto_region 5 with (first
      | (go_at_call 14; (with_reducible refine (C2.out _ hB3).mono ?_); rintro e w4 ⟨rfl, hb4⟩; (have HB4 := Lib.hid (HB3.out.call hb4)); dsimp only))
    clear y0 y1 y2 y3 m0 m1 o0 o1 o2 o3 o4 d0 d1 d2 d3 p0 p1 p2 p3 p4
    have hB4 := HB4.out.below
    go_wp2_with (first
      | (go_at_call 16; (with_reducible refine (CT.out _ hB4).mono ?_); rintro e w5 ⟨rfl, hb5⟩))
    go_ret
    exact ⟨rfl, bel_call hB4 hb5⟩
end Ru
end Go.Proofs.YtkhnjlkamleldaaGreatDoor
