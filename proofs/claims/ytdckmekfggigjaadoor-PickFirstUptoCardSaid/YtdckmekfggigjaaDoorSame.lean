/- Whether two lists of texts are the same, and whether two tags are: the helpers of the statements return just that; the world is as it was but for draws. -/
import Derived.Test.YtdckmekfggigjaaDoorCheck
namespace Go.Proofs.YtdckmekfggigjaaDoor
open Go.RowKit Go.Maps

theorem Reads.str {w : World} {B : Nat} {A : Option Addr} {n k : Nat} {vs : List ByteArray} (h : Reads w B 1 A n (sv vs)) (hk : k < n) (hkl : k < vs.length) :
    ∃ ad, A = some ad ∧ ad.block < B ∧ w.cell? (ad.add k) = some (.string vs[k]) := by
  obtain ⟨ad, u, rfl, hb, hu, hc⟩ := h.at_ hk
  have : (sv vs)[k]? = some (.string vs[k]) := by simp [sv, hkl]
  rw [this] at hu
  injection hu with hu
  subst hu
  exact ⟨ad, rfl, hb, hc⟩
theorem Reads.len {w : World} {B : Nat} {A : Option Addr} {n : Nat} {vs : List ByteArray} (h : Reads w B 1 A n (sv vs)) : vs.length = n := by have := h.1; simpa [sv] using this

theorem str_eq (a b : ByteArray) : a.toList = b.toList ↔ a = b := by
  rw [toList_data, toList_data]
  constructor
  · intro h; exact ByteArray.ext (Array.ext' h)
  · rintro rfl; rfl
theorem str_beq (a b : ByteArray) : (a.toList == b.toList) = decide (a = b) := by
  rw [Bool.eq_iff_iff]; simp [str_eq]

def SameTexts (xs ys : List ByteArray) (w : World) (e : Ending) (w' : World) : Prop := e = .returned (.bool (decide (xs = ys))) ∧ ∃ d, w.drewN d = w'

set_option maxHeartbeats 1000000 in
theorem texts_any (A A' : Option Addr) (n m c c' : Nat) (xs ys : List ByteArray) (w : World) (B : Nat) (h : Reads w B 1 A n (sv xs)) (h' : Reads w B 1 A' m (sv ys)) (hn : n < maxLen) (hm : m < maxLen) :
    Calls Tryd.prog 53 #[.slice A n c, .slice A' m c'] w (SameTexts xs ys w) := by
  have hl := h.len
  have hl' := h'.len
  unfold maxLen at hn hm
  by_cases hnm : n = m
  · subst hnm
    have HL := Lib.hid hl; have HL' := Lib.hid hl'; clear hl hl'
    go_enter Tryd.func53, Tryd.ntmps53
    go_wp2_with fail
    go_loopw [5] (fun i wr => ∃ k d : Nat, k ≤ n ∧ i = .int .i64 k ∧ w.drewN d = wr ∧ Hid (xs.take k = ys.take k)) (fun i _ => n - (intOf i).toNat)
    case atStart => exact ⟨0, 0, Nat.zero_le _, rfl, rfl, Lib.hid rfl⟩
    case round =>
      obtain ⟨k, d, hk, rfl, rfl, ht⟩ := hrel
      by_cases hlt : k < n
      · have hkx : k < xs.length := by have := HL.out; omega
        have hky : k < ys.length := by have := HL'.out; omega
        obtain ⟨ad, rfl, hadb, hcell⟩ := h.str hlt hkx
        obtain ⟨ad', rfl, hadb', hcell'⟩ := h'.str hlt hky
        clear h h'
        go_wp2_with fail
        go_quiet (fail)
        go_wp2_with fail
        · have hne : xs[k] ≠ ys[k] := by
            have := (by assumption : (!xs[k].toList == ys[k].toList) = true)
            rw [str_beq] at this
            simpa using this
          go_ret
          refine ⟨ret_bool ?_, d + nq, (World.drewN_drewN _ _ _).symm⟩
          rw [eq_comm, decide_eq_false_iff_not]
          rintro rfl
          exact hne rfl
        · have he : xs[k] = ys[k] := by
            have := (by assumption : (!xs[k].toList == ys[k].toList) = false)
            rw [str_beq] at this
            simpa using this
          go_roundw
          case rel => exact ⟨k + 1, d + nq, by omega, by go_num, rfl, Lib.hid (by rw [List.take_succ_eq_append_getElem hkx, List.take_succ_eq_append_getElem hky, ht.out, he])⟩
          case measure => simp [intOf]; omega
      · clear h h'
        go_wp2_with fail
        go_ret
        exact ⟨ret_bool (by have e1 := HL.out; have e2 := HL'.out; have e3 := ht.out; rw [List.take_of_length_le (by omega), List.take_of_length_le (by omega)] at e3; simp [e3]), d, rfl⟩
  · have hb : ((n : Int) != m) = true := by rw [bne_iff_ne]; omega
    have HL := Lib.hid hl; have HL' := Lib.hid hl'; clear hl hl' h h'
    go_enter Tryd.func53, Tryd.ntmps53
    go_wp2_with fail
    go_ret
    exact ⟨ret_bool (by have e1 := HL.out; have e2 := HL'.out; rw [eq_comm, decide_eq_false_iff_not]; rintro rfl; omega), 0, rfl⟩

def SameTag (L S R : ByteArray) (vs : List ByteArray) (L' S' R' : ByteArray) (vs' : List ByteArray) : Bool := decide (vs = vs') && decide (L = L') && decide (S = S') && decide (R = R')

set_option maxHeartbeats 4000000 in
theorem sameTag_any (L S R : ByteArray) (A : Option Addr) (n c : Nat) (vs : List ByteArray) (L' S' R' : ByteArray) (A' : Option Addr) (n' c' : Nat) (vs' : List ByteArray) (w : World)
    (h : Reads w w.heap.size 1 A n (sv vs)) (h' : Reads w w.heap.size 1 A' n' (sv vs')) (hn : n < maxLen) (hn' : n' < maxLen) :
    Calls Tryd.prog 39 #[.agg #[.string L, .string S, .string R, .slice A n c], .agg #[.string L', .string S', .string R', .slice A' n' c']] w
      fun e w' => e = .returned (.bool (SameTag L S R vs L' S' R' vs')) ∧ Below w.heap.size w w' := by
  have ha := (h.alloc (Nat.le_refl _) (.cells #[.string L, .string S, .string R, .slice A n c] 29)).alloc (by simp) (.cells #[.string L', .string S', .string R', .slice A' n' c'] 29)
  have ha' := (h'.alloc (Nat.le_refl _) (.cells #[.string L, .string S, .string R, .slice A n c] 29)).alloc (by simp) (.cells #[.string L', .string S', .string R', .slice A' n' c'] 29)
  have hb : Below w.heap.size w ((w.alloc (.cells #[.string L, .string S, .string R, .slice A n c] 29)).alloc (.cells #[.string L', .string S', .string R', .slice A' n' c'] 29)) := ((Below.refl _ _).alloc (Nat.le_refl _) _).alloc (by simp) _
  clear h h'
  have e1 := str_beq L L'
  have e2 := str_beq S S'
  have e3 := str_beq R R'
  cases d0 : decide (vs = vs') <;> cases d1 : decide (L = L') <;> cases d2 : decide (S = S') <;> cases d3 : decide (R = R')
  all_goals
    rw [d1] at e1
    rw [d2] at e2
    rw [d3] at e3
    have D0 := Lib.hid d0
    have D1 := Lib.hid d1
    have D2 := Lib.hid d2
    have D3 := Lib.hid d3
    clear d0 d1 d2 d3
    go_enter Tryd.func39, Tryd.ntmps39
    go_wp2_with (go_at_call 53; refine (texts_any A A' n n' c c' vs vs' _ _ ha ha' hn hn').mono ?_; rintro e w' ⟨rfl, dd, rfl⟩; rw [D0.out])
    go_ret
    exact ⟨ret_bool (by unfold SameTag; rw [D0.out, D1.out, D2.out, D3.out]; rfl), below_drewN hb dd⟩
end Go.Proofs.YtdckmekfggigjaaDoor
