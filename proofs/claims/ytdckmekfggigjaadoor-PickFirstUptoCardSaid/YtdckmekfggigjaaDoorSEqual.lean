/- Whether two tags are equal, by slices.Equal and the chain's own equal: just if they are the same; what lay in memory stays as it was. -/
import Derived.Test.YtdckmekfggigjaaDoorChainMath
namespace Go.Proofs.YtdckmekfggigjaaDoor
open Go.RowKit Go.Maps

set_option maxHeartbeats 1000000 in
theorem sequal_any (A A' : Option Addr) (n m c c' : Nat) (xs ys : List ByteArray) (w : World) (B : Nat) (h : Reads w B 1 A n (sv xs)) (h' : Reads w B 1 A' m (sv ys)) (hn : n < maxLen) (hm : m < maxLen) :
    Calls Tryd.prog 49 #[.slice A n c, .slice A' m c'] w (SameTexts xs ys w) := by
  have hl := h.len
  have hl' := h'.len
  unfold maxLen at hn hm
  by_cases hnm : n = m
  · subst hnm
    have HL := Lib.hid hl; have HL' := Lib.hid hl'; clear hl hl'
    go_enter Tryd.func49, Tryd.ntmps49
    go_wp2_with fail
    go_loopw [13] (fun i wr => ∃ k d : Nat, k ≤ n ∧ i = .int .i64 k ∧ w.drewN d = wr ∧ Hid (xs.take k = ys.take k)) (fun i _ => n - (intOf i).toNat)
    case atStart => exact ⟨0, 0, Nat.zero_le _, rfl, rfl, Lib.hid rfl⟩
    case round =>
      obtain ⟨k, d, hk, rfl, rfl, ht⟩ := hrel
      by_cases hlt : k < n
      · have hkx : k < xs.length := by have := HL.out; omega
        have hky : k < ys.length := by have := HL'.out; omega
        obtain ⟨ad, rfl, hadb, hcell⟩ := h.str hlt hkx
        obtain ⟨ad', rfl, hadb', hcell'⟩ := h'.str hlt hky
        clear h h'
        go_wp2_with fail
        go_quiet (fail)
        go_wp2_with fail
        · have hne : xs[k] ≠ ys[k] := by
            have := (by assumption : (!xs[k].toList == ys[k].toList) = true)
            rw [str_beq] at this
            simpa using this
          go_ret
          refine ⟨ret_bool ?_, d + nq, (World.drewN_drewN _ _ _).symm⟩
          rw [eq_comm, decide_eq_false_iff_not]
          rintro rfl
          exact hne rfl
        · have he : xs[k] = ys[k] := by
            have := (by assumption : (!xs[k].toList == ys[k].toList) = false)
            rw [str_beq] at this
            simpa using this
          go_roundw
          case rel => exact ⟨k + 1, d + nq, by omega, by go_num, rfl, Lib.hid (by rw [List.take_succ_eq_append_getElem hkx, List.take_succ_eq_append_getElem hky, ht.out, he])⟩
          case measure => simp [intOf]; omega
      · clear h h'
        go_wp2_with fail
        go_ret
        exact ⟨ret_bool (by have e1 := HL.out; have e2 := HL'.out; have e3 := ht.out; rw [List.take_of_length_le (by omega), List.take_of_length_le (by omega)] at e3; simp [e3]), d, rfl⟩
  · have hb : ((n : Int) != m) = true := by rw [bne_iff_ne]; omega
    have HL := Lib.hid hl; have HL' := Lib.hid hl'; clear hl hl' h h'
    go_enter Tryd.func49, Tryd.ntmps49
    go_wp2_with fail
    go_ret
    exact ⟨ret_bool (by have e1 := HL.out; have e2 := HL'.out; rw [eq_comm, decide_eq_false_iff_not]; rintro rfl; omega), 0, rfl⟩

theorem same_tag (t u : TagB) : SameTag t.lang t.script t.region t.vars u.lang u.script u.region u.vars = decide (t = u) := by
  unfold SameTag
  cases t; cases u
  rw [Bool.eq_iff_iff]
  simp
  constructor
  · rintro ⟨⟨⟨rfl, rfl⟩, rfl⟩, rfl⟩; exact ⟨rfl, rfl, rfl, rfl⟩
  · rintro ⟨rfl, rfl, rfl, rfl⟩; exact ⟨⟨⟨rfl, rfl⟩, rfl⟩, rfl⟩

set_option maxHeartbeats 4000000 in
theorem equal_any (t u : TagB) (A : Option Addr) (n c : Nat) (A' : Option Addr) (n' c' : Nat) (w : World)
    (h : Reads w w.heap.size 1 A n (sv t.vars)) (h' : Reads w w.heap.size 1 A' n' (sv u.vars)) (hn : n < maxLen) (hn' : n' < maxLen) :
    Calls Tryd.prog 36 #[tagV t.lang t.script t.region A n c, tagV u.lang u.script u.region A' n' c'] w
      fun e w' => e = .returned (.bool (decide (t = u))) ∧ Below w.heap.size w w' := by
  rw [← same_tag]
  obtain ⟨L, S, R, vs⟩ := t
  obtain ⟨L', S', R', vs'⟩ := u
  dsimp only at *
  unfold tagV
  have ha := (h.alloc (Nat.le_refl _) (.cells #[.string L, .string S, .string R, .slice A n c] 29)).alloc (by simp) (.cells #[.string L', .string S', .string R', .slice A' n' c'] 29)
  have ha' := (h'.alloc (Nat.le_refl _) (.cells #[.string L, .string S, .string R, .slice A n c] 29)).alloc (by simp) (.cells #[.string L', .string S', .string R', .slice A' n' c'] 29)
  have hb : Below w.heap.size w ((w.alloc (.cells #[.string L, .string S, .string R, .slice A n c] 29)).alloc (.cells #[.string L', .string S', .string R', .slice A' n' c'] 29)) := ((Below.refl _ _).alloc (Nat.le_refl _) _).alloc (by simp) _
  clear h h'
  have e1 := str_beq L L'
  have e2 := str_beq S S'
  have e3 := str_beq R R'
  cases d0 : decide (vs = vs') <;> cases d1 : decide (L = L') <;> cases d2 : decide (S = S') <;> cases d3 : decide (R = R')
  all_goals
    rw [d1] at e1
    rw [d2] at e2
    rw [d3] at e3
    have D0 := Lib.hid d0
    have D1 := Lib.hid d1
    have D2 := Lib.hid d2
    have D3 := Lib.hid d3
    clear d0 d1 d2 d3
    go_enter Tryd.func36, Tryd.ntmps36
    go_wp2_with (go_at_call 49; refine (sequal_any A A' n n' c c' vs vs' _ _ ha ha' hn hn').mono ?_; rintro e w' ⟨rfl, dd, rfl⟩; rw [D0.out])
    go_ret
    first
      | exact ⟨ret_bool (by unfold SameTag; rw [D0.out, D1.out, D2.out, D3.out]; rfl), below_drewN hb dd⟩
      | exact ⟨ret_bool (by unfold SameTag; rw [D0.out, D1.out, D2.out, D3.out]; rfl), hb⟩
end Go.Proofs.YtdckmekfggigjaaDoor
