/- The law RuleRound returns true. -/
import Derived.Test.YtkhnjlkamleldaaGreatDoorRuLawKit
import Derived.Test.YtkhnjlkamleldaaGreatDoorToldSame
namespace Go.Proofs.YtkhnjlkamleldaaGreatDoor
namespace Ru
open Go.RowKit Go.Maps D

/-- the world with a rule of one relation laid -/
abbrev relCs (x : RelX) : Obj := .cells #[.int .u8 x.v.op, .int .i64 x.v.mod, .bool x.v.nt, .slice x.A x.v.rs.length x.c] 45
abbrev partCs (g : Nat) : Obj := .cells #[.slice (some ⟨g, 0, none⟩) 1 1] 47
theorem one_rule {W : World} {x : RelX} (h : RgsAt W W.heap.size x.A x.v.rs.length x.v.rs) (hc : x.v.rs.length ≤ x.c) :
    Below W.heap.size W ((W.alloc (relCs x)).alloc (partCs W.heap.size)) ∧ RuleAt ((W.alloc (relCs x)).alloc (partCs W.heap.size)) ((W.alloc (relCs x)).alloc (partCs W.heap.size)).heap.size (some ⟨W.heap.size + 1, 0, none⟩) 1 [⟨some ⟨W.heap.size, 0, none⟩, 1, [x]⟩] := by
  have hb1 : Below W.heap.size W (W.alloc (relCs x)) := (Below.refl _ _).alloc (Nat.le_refl _) _
  have hb2 : Below W.heap.size W ((W.alloc (relCs x)).alloc (partCs W.heap.size)) := hb1.alloc hb1.size _
  refine ⟨hb2, rfl, ?_, fun p hp => ?_⟩
  · have h1 := Reads.of_own (own_lit (W.alloc (relCs x)) [.slice (some ⟨W.heap.size, 0, none⟩) 1 1] 47 (base := 0) (k := 1) (Nat.zero_le _) rfl)
    rw [show (W.alloc (relCs x)).heap.size = W.heap.size + 1 from by simp] at h1
    exact h1
  · obtain rfl := List.mem_singleton.1 hp
    refine ⟨Nat.le_refl _, rfl, ?_, fun y hy => ?_⟩
    · have h1 := Reads.of_own (own_lit W [.int .u8 x.v.op, .int .i64 x.v.mod, .bool x.v.nt, .slice x.A x.v.rs.length x.c] 45 (base := 0) (k := 4) (Nat.zero_le _) rfl)
      have h2 := (h1.more (Nat.le_refl _)).below ((Below.refl _ _).alloc (Nat.le_refl _) (partCs W.heap.size))
      have h3 := h2.more (show (W.alloc (relCs x)).heap.size ≤ ((W.alloc (relCs x)).alloc (partCs W.heap.size)).heap.size by simp)
      simpa [relC] using h3
    · obtain rfl := List.mem_singleton.1 hy
      exact ⟨hc, (h.below hb2).more hb2.size⟩
theorem one_holds {W : World} {x : RelX} (h : RgsAt W W.heap.size x.A x.v.rs.length x.v.rs) (hc : x.v.rs.length ≤ x.c) (hm : x.c ≤ maxLen) (hby : 0 ≤ x.v.op ∧ x.v.op < 256) {I V W' F T : Int} (hI : I64 I) (hV : I64 V) (hW : I64 W') (hF : I64 F) (hT : I64 T) :
    Calls Tryz.prog 14 #[.slice (some ⟨W.heap.size + 1, 0, none⟩) 1 1, .agg #[.int .i64 I, .int .i64 V, .int .i64 W', .int .i64 F, .int .i64 T]] ((W.alloc (relCs x)).alloc (partCs W.heap.size))
      fun e w' => e = .returned (.tuple #[.bool (holdsB [[x.v]] I V W' F T), errV (ruleF [[x.v]])]) ∧ Below W.heap.size W w' := by
  obtain ⟨hb, hr⟩ := one_rule h hc
  refine (holds_any (some ⟨W.heap.size + 1, 0, none⟩) 1 1 _ I V W' F T _ hr (by unfold maxLen; omega) (fun p hp => ?_) (fun p hp => ?_) ?_ hI hV hW hF hT).mono fun e w' ⟨he, hb2⟩ => ⟨he, bel_call hb hb2⟩
  · obtain rfl := List.mem_singleton.1 hp
    exact ⟨by unfold maxLen; show 1 ≤ _; omega, fun y hy => by obtain rfl := List.mem_singleton.1 hy; exact Nat.le_trans hc hm⟩
  · obtain rfl := List.mem_singleton.1 hp
    exact fun y hy => by obtain rfl := List.mem_singleton.1 hy; exact hby
  · simp [ruleV, relsV, total]
theorem round_same (x : RelV) (n z : Int) (hop : x.op = 105 ∨ x.op = 110) (h0 : 0 ≤ n) (h1 : n ≤ 1099511627776) (hm : 1 ≤ x.mod) (hz : IntKind.i64.wrap (n + x.mod) = z) : holdsB [[x]] z 0 0 0 0 = holdsB [[x]] n 0 0 0 0 := by
  unfold holdsB
  by_cases hf : ruleF [[x]] = 0
  · rw [if_pos hf, if_pos hf]
    have hok : relOk x := ((ruleF_zero.1 hf).1.2 [x] (by simp)).2 x (by simp)
    have hmm : x.mod ≤ 1000000 := hok.2.1.2
    have hzz : z = n + x.mod := by rw [← hz, IntKind.wrap_i64]; omega
    have ho : ∀ I : Int, opV x.op I 0 0 0 0 = I := fun I => by unfold opV; rcases hop with h | h <;> rw [h] <;> rfl
    have hmod : modV x.mod z = modV x.mod n := by
      unfold modV
      rw [if_pos (by omega), if_pos (by omega), hzz]
      rw [Int.tmod_eq_emod_of_nonneg (by omega), Int.tmod_eq_emod_of_nonneg h0, Int.add_emod_right]
    simp only [ruleH, partH, relH, List.any_cons, List.any_nil, List.all_cons, List.all_nil, ho, hmod]
  · rw [if_neg hf, if_neg hf]
set_option maxHeartbeats 8000000 in
set_option maxRecDepth 100000 in
theorem round_any (x : RelX) (n : Int) (w : World) (hr : RgsAt w w.heap.size x.A x.v.rs.length x.v.rs) (hc : x.v.rs.length ≤ x.c) (hm : x.c ≤ maxLen) (hby : 0 ≤ x.v.op ∧ x.v.op < 256) (hn : I64 n) (hE : Env w) (hg : ErrType w) :
    Calls Tryz.prog 5 #[x.val, .int .i64 n] w (TrueB w) := by
  have H0 : Hid (Bs w _ [_]) := Lib.hid (bs_one w [.int .u8 x.v.op, .int .i64 x.v.mod, .bool x.v.nt, .slice x.A x.v.rs.length x.c] 45)
  obtain ⟨d0, d1, d2, d3, -⟩ := H0.out.cells
  have hb0 := H0.out.below
  have CF := Lib.hid (parseOne_any _ (hE.later hb0))
  have i0 : I64 0 := by unfold I64; omega
  have C1 := Lib.hid fun (W : World) (hW : Below w.heap.size w W) => one_holds (W := W) ((hr.below hW).more hW.size) hc hm hby hn i0 i0 i0 i0
  have hwz : I64 (IntKind.i64.wrap (n + x.v.mod)) := by unfold I64; rw [IntKind.wrap_i64]; omega
  have C2 := Lib.hid fun (W : World) (hW : Below w.heap.size w W) => one_holds (W := W) ((hr.below hW).more hW.size) hc hm hby hwz i0 i0 i0 i0
  have CT := Lib.hid fun (W : World) (hW : Below w.heap.size w W) => toldSame_any (ruleF [[x.v]]) W (errType_later hg hW)
  have HS := Lib.hid fun hop h0 h1 hm => round_same x.v n _ hop h0 h1 hm rfl
  generalize hwr : IntKind.i64.wrap (n + x.v.mod) = z at *
  generalize errV (ruleF [[x.v]]) = ev at *
  generalize holdsB [[x.v]] z 0 0 0 0 = b2 at *
  generalize holdsB [[x.v]] n 0 0 0 0 = b1 at *
  clear hr hc hm hby hE hg hwz i0
  obtain ⟨⟨op, mod, nt, rs⟩, A, c⟩ := x
  dsimp only at *
  have GO := Lib.hid hn
  by_cases h0 : n < 0
  · clear HS GO hwr
    go_enter Tryz.func5, Tryz.ntmps5
    go_wp2_with (go_at_call 12; (with_reducible refine (CF.out).mono ?_); rintro e w1 ⟨A1, c1, rfl, hb1⟩; (have HB1 := Lib.hid (H0.out.call hb1)); (obtain ⟨z0, z1, z2, z3, -⟩ := HB1.out.cells); dsimp only)
    go_ret
    exact ⟨rfl, HB1.out.below⟩
  · by_cases h1 : 1099511627776 < n
    · clear HS GO hwr
      go_enter Tryz.func5, Tryz.ntmps5
      go_wp2_with (go_at_call 12; (with_reducible refine (CF.out).mono ?_); rintro e w1 ⟨A1, c1, rfl, hb1⟩; (have HB1 := Lib.hid (H0.out.call hb1)); (obtain ⟨z0, z1, z2, z3, -⟩ := HB1.out.cells); dsimp only)
      go_ret
      exact ⟨rfl, HB1.out.below⟩
    · by_cases h2 : mod < 1
      · clear HS GO hwr
        go_enter Tryz.func5, Tryz.ntmps5
        go_wp2_with (go_at_call 12; (with_reducible refine (CF.out).mono ?_); rintro e w1 ⟨A1, c1, rfl, hb1⟩; (have HB1 := Lib.hid (H0.out.call hb1)); (obtain ⟨z0, z1, z2, z3, -⟩ := HB1.out.cells); dsimp only)
        go_ret
        exact ⟨rfl, HB1.out.below⟩
      · by_cases h3 : op = 105 ∨ op = 110
        · obtain rfl : b2 = b1 := HS.out h3 (by omega) (by omega) (by omega)
          clear HS GO
          rcases h3 with h3 | h3
          · have h4 : (op != 105) = false := by simp [h3]
            clear h3
            go_enter Tryz.func5, Tryz.ntmps5
            go_wp2_with (first
              | (go_at_call 12; (with_reducible refine (CF.out).mono ?_); rintro e w1 ⟨A1, c1, rfl, hb1⟩; (have HB1 := Lib.hid (H0.out.call hb1)); (obtain ⟨z0, z1, z2, z3, -⟩ := HB1.out.cells); (have hB1 := HB1.out.below); dsimp only)
              | (go_at_call 14; (with_reducible refine (C1.out _ hB1).mono ?_); rintro e w2 ⟨rfl, hb2⟩; (have HB2 := Lib.hid (HB1.out.call hb2)); (obtain ⟨q0, q1, q2, q3, -⟩ := HB2.out.cells); (have hbb : Below w2.heap.size w2 ((w2.alloc (.cells #[.int .u8 op, .int .i64 mod, .bool nt, .slice A rs.length c] 45)).alloc (.cells #[.slice (some ⟨w2.heap.size, 0, none⟩) 1 1] 47)) := ((Below.refl _ _).alloc (Nat.le_refl _) _).alloc (by simp) _); (have qm := (HB2.out.call hbb).cells.2.1); (have hB2 := HB2.out.below); dsimp only)
              | (go_at_call 14; (with_reducible refine (C2.out _ hB2).mono ?_); rintro e w3 ⟨rfl, hb3⟩; (have HB3 := Lib.hid (HB2.out.call hb3)); (have hB3 := HB3.out.below); dsimp only)
              | (go_at_call 16; (with_reducible refine (CT.out _ hB3).mono ?_); rintro e w4 ⟨rfl, hb4⟩))
            go_ret
            exact ⟨by simp, bel_call hB3 hb4⟩
          · have h4 : (op != 105) = true := by rw [h3]; decide
            have h5 : (op != 110) = false := by simp [h3]
            clear h3
            go_enter Tryz.func5, Tryz.ntmps5
            go_wp2_with (first
              | (go_at_call 12; (with_reducible refine (CF.out).mono ?_); rintro e w1 ⟨A1, c1, rfl, hb1⟩; (have HB1 := Lib.hid (H0.out.call hb1)); (obtain ⟨z0, z1, z2, z3, -⟩ := HB1.out.cells); (have hB1 := HB1.out.below); dsimp only)
              | (go_at_call 14; (with_reducible refine (C1.out _ hB1).mono ?_); rintro e w2 ⟨rfl, hb2⟩; (have HB2 := Lib.hid (HB1.out.call hb2)); (obtain ⟨q0, q1, q2, q3, -⟩ := HB2.out.cells); (have hbb : Below w2.heap.size w2 ((w2.alloc (.cells #[.int .u8 op, .int .i64 mod, .bool nt, .slice A rs.length c] 45)).alloc (.cells #[.slice (some ⟨w2.heap.size, 0, none⟩) 1 1] 47)) := ((Below.refl _ _).alloc (Nat.le_refl _) _).alloc (by simp) _); (have qm := (HB2.out.call hbb).cells.2.1); (have hB2 := HB2.out.below); dsimp only)
              | (go_at_call 14; (with_reducible refine (C2.out _ hB2).mono ?_); rintro e w3 ⟨rfl, hb3⟩; (have HB3 := Lib.hid (HB2.out.call hb3)); (have hB3 := HB3.out.below); dsimp only)
              | (go_at_call 16; (with_reducible refine (CT.out _ hB3).mono ?_); rintro e w4 ⟨rfl, hb4⟩))
            go_ret
            exact ⟨by simp, bel_call hB3 hb4⟩
        · have h4 : (op != 105) = true := by rw [bne_iff_ne]; exact fun e => h3 (.inl e)
          have h5 : (op != 110) = true := by rw [bne_iff_ne]; exact fun e => h3 (.inr e)
          clear HS GO hwr h3
          go_enter Tryz.func5, Tryz.ntmps5
          go_wp2_with (go_at_call 12; (with_reducible refine (CF.out).mono ?_); rintro e w1 ⟨A1, c1, rfl, hb1⟩; (have HB1 := Lib.hid (H0.out.call hb1)); (obtain ⟨z0, z1, z2, z3, -⟩ := HB1.out.cells); dsimp only)
          go_ret
          exact ⟨rfl, HB1.out.below⟩
end Ru
end Go.Proofs.YtkhnjlkamleldaaGreatDoor
