/- The program's sizes of groups; where a text's places begin and end. -/
import Derived.Test.YtonbjfepckolnaaDoorNpLong
import Derived.Test.YtonbjfepckolnaaDoorNpEnds
namespace Go.Proofs.YtonbjfepckolnaaDoor
namespace Np
open Go.RowKit Go.Maps D Ru

theorem bang_at (l : List UInt8) (j : Nat) (h : j < l.length) : (str l).data[j]! = l[j] := by
  show l.toArray[j]! = l[j]
  simp [h]
theorem ne_toNat {x c : UInt8} (h : ((x.toNat : Nat) : Int) ≠ ((c.toNat : Nat) : Int)) : x ≠ c := fun e => h (by rw [e])
/-- the last place of a byte -/
theorem last_cases (c : UInt8) (l : List UInt8) : (Lib.lastIndexByte (str l) (c.toNat : Int) = -1 ∧ c ∉ l) ∨ ∃ x y, l = x ++ c :: y ∧ c ∉ y ∧ Lib.lastIndexByte (str l) (c.toNat : Int) = x.length := by
  have hsz : (str l).size = l.length := str_len l
  rcases Lib.lastIdx_spec (str l) (c.toNat : Int) (str l).size with ⟨e, h⟩ | ⟨i, hi, e, hc, h⟩
  · refine .inl ⟨e, fun hm => ?_⟩
    obtain ⟨j, hj, hx⟩ := List.getElem_of_mem hm
    have := h j (by omega)
    rw [bang_at l j hj, hx] at this
    exact this rfl
  · have hil : i < l.length := by omega
    rw [bang_at l i hil] at hc
    have hcc : l[i] = c := by
      apply UInt8.toNat_inj.1
      omega
    refine .inr ⟨l.take i, l.drop (i + 1), ?_, fun hm => ?_, ?_⟩
    · rw [← hcc, ← List.drop_eq_getElem_cons hil, List.take_append_drop]
    · obtain ⟨j, hj, hx⟩ := List.getElem_of_mem hm
      rw [List.length_drop] at hj
      rw [List.getElem_drop] at hx
      have := h (i + 1 + j) (by omega) (by omega)
      rw [bang_at l _ (by omega), hx] at this
      exact this rfl
    · rw [List.length_take, Nat.min_eq_left (by omega)]; exact e
theorem ext_pre (x y : List UInt8) : (str (x ++ y)).extract 0 x.length = str x := by
  apply ba_ext
  rw [extract_take, str_data, str_data, List.take_left]
set_option maxHeartbeats 4000000 in
theorem sizes_any (l : List UInt8) (w : World) (hl : l.length ≤ 140737488355328) : Calls Tryd.prog 23 #[.string (str l)] w fun e w' => e = .returned (.tuple #[.int .i64 (decI l).2.1, .int .i64 (decI l).2.2]) ∧ w' = w := by
  have hsz : (str l).size = l.length := str_len l
  have CL := Tryd.strings_LastIndexByte (str l) 44 (by omega) w
  rcases last_cases 44 l with ⟨e, hn⟩ | ⟨x, y, rfl, hy, e⟩
  · rw [sizes_none hn]
    rw [show Lib.lastIndexByte (str l) 44 = -1 from e] at CL
    have CL := Lib.hid CL
    clear e hn
    generalize str l = S at *
    go_enter Tryd.func23, Tryd.ntmps23
    go_wp2_with (go_at_call 37; (with_reducible refine (CL.out).mono ?_); rintro e w' ⟨rfl, rfl⟩)
    go_ret2
    exact ⟨rfl, rfl⟩
  · rw [show Lib.lastIndexByte (str (x ++ 44 :: y)) 44 = x.length from e] at CL
    have CL := Lib.hid CL
    have hx := ext_pre x (44 :: y)
    have hlen : (str (x ++ 44 :: y)).size = x.length + y.length + 1 := by rw [hsz, List.length_append, List.length_cons]; omega
    rw [hsz] at hlen
    have CM := Tryd.strings_LastIndexByte (str x) 44 (by rw [str_len]; omega) w
    have f1 : ¬ ((x.length : Nat) : Int) < 0 := by omega
    have f2 : (0 : Int) ≤ ((x.length : Nat) : Int) := by omega
    have f3 : ((x.length : Nat) : Int) ≤ ((str (x ++ 44 :: y)).size : Int) := by omega
    have f4 : IntKind.i64.wrap (((str (x ++ 44 :: y)).size : Int) - ((x.length : Nat) : Int)) = ((y.length + 1 : Nat) : Int) := by rw [IntKind.wrap_i64]; omega
    have f5 : IntKind.i64.wrap (((y.length + 1 : Nat) : Int) - 1) = ((y.length : Nat) : Int) := by rw [IntKind.wrap_i64]; omega
    rcases last_cases 44 x with ⟨e2, hn⟩ | ⟨x1, y1, rfl, hy1, e2⟩
    · rw [sizes_one hy hn]
      rw [show Lib.lastIndexByte (str x) 44 = -1 from e2] at CM
      have CM := Lib.hid CM
      clear e e2 hn hy hl hsz hlen
      generalize str (x ++ 44 :: y) = S at *
      generalize str x = X at *
      generalize x.length = k at *
      generalize hq : ((y.length + 1 : Nat) : Int) = q at *
      generalize y.length = m at *
      clear hq
      go_enter Tryd.func23, Tryd.ntmps23
      go_wp2_with (first
        | (go_at_call 37; (with_reducible refine (CL.out).mono ?_); rintro e w' ⟨rfl, rfl⟩)
        | (go_at_call 37; (with_reducible refine (CM.out).mono ?_); rintro e w' ⟨rfl, rfl⟩))
      go_ret2
      exact ⟨rfl, rfl⟩
    · rw [sizes_two hy hy1]
      rw [show Lib.lastIndexByte (str (x1 ++ 44 :: y1)) 44 = x1.length from e2] at CM
      have CM := Lib.hid CM
      have hlx : (x1 ++ 44 :: y1).length = x1.length + y1.length + 1 := by rw [List.length_append, List.length_cons]; omega
      have f6 : (0 : Int) ≤ ((x1.length : Nat) : Int) := by omega
      have f7 : IntKind.i64.wrap ((((x1 ++ 44 :: y1).length : Nat) : Int) - ((x1.length : Nat) : Int)) = ((y1.length + 1 : Nat) : Int) := by rw [IntKind.wrap_i64]; omega
      have f8 : IntKind.i64.wrap (((y1.length + 1 : Nat) : Int) - 1) = ((y1.length : Nat) : Int) := by rw [IntKind.wrap_i64]; omega
      clear e e2 hy1 hy hl hsz hlen hlx
      generalize str (x1 ++ 44 :: y1 ++ 44 :: y) = S at *
      generalize str (x1 ++ 44 :: y1) = X at *
      generalize (x1 ++ 44 :: y1).length = k at *
      generalize hq : ((y.length + 1 : Nat) : Int) = q at *
      generalize hq1 : ((y1.length + 1 : Nat) : Int) = q1 at *
      generalize x1.length = k1 at *
      generalize y.length = m at *
      generalize y1.length = m1 at *
      clear hq hq1
      go_enter Tryd.func23, Tryd.ntmps23
      go_wp2_with (first
        | (go_at_call 37; (with_reducible refine (CL.out).mono ?_); rintro e w' ⟨rfl, rfl⟩)
        | (go_at_call 37; (with_reducible refine (CM.out).mono ?_); rintro e w' ⟨rfl, rfl⟩))
      go_ret2
      exact ⟨rfl, rfl⟩
theorem till_cases (l : List UInt8) : ∀ n : Nat, Till l n ∨ ∃ i, i < n ∧ i < l.length ∧ Till l i ∧ mark (l.getD i 0) = true
  | 0 => .inl (Till.zero l)
  | n + 1 => by
    rcases till_cases l n with h | ⟨i, h1, h2, h3, h4⟩
    · by_cases hn : n < l.length
      · cases hm : mark (l.getD n 0)
        · exact .inl (h.more (d := 1) fun j j1 j2 _ => by rw [show j = n by omega]; exact hm)
        · exact .inr ⟨n, by omega, hn, h, hm⟩
      · exact .inl fun j j1 j2 => h j (by omega) j2
    · exact .inr ⟨i, by omega, h2, h3, h4⟩
theorem lastK_cases (l : List UInt8) : ∀ n : Nat, (lastK l n = -1 ∧ ∀ j, j < n → mark (l.getD j 0) = false) ∨ ∃ j : Nat, j < n ∧ lastK l n = j ∧ mark (l.getD j 0) = true ∧ ∀ k, j < k → k < n → mark (l.getD k 0) = false
  | 0 => .inl ⟨rfl, fun _ h => absurd h (Nat.not_lt_zero _)⟩
  | n + 1 => by
    cases hm : mark (l.getD n 0)
    · rw [lastK_miss hm]
      rcases lastK_cases l n with ⟨h1, h2⟩ | ⟨j, h1, h2, h3, h4⟩
      · refine .inl ⟨h1, fun j hj => ?_⟩
        by_cases h : j = n
        · rw [h]; exact hm
        · exact h2 j (by omega)
      · refine .inr ⟨j, by omega, h2, h3, fun k k1 k2 => ?_⟩
        by_cases h : k = n
        · rw [h]; exact hm
        · exact h4 k k1 (by omega)
    · exact .inr ⟨n, by omega, lastK_hit hm, hm, fun k k1 k2 => absurd k1 (by omega)⟩
theorem getD_some {l : List UInt8} {j : Nat} (h : j < l.length) : l[j]? = some (l.getD j 0) := by
  rw [List.getD_eq_getElem?_getD, List.getElem?_eq_getElem h]; rfl
theorem mem_getD {l : List UInt8} {c : UInt8} (h : c ∈ l) : ∃ j, j < l.length ∧ l.getD j 0 = c := by
  obtain ⟨j, hj, e⟩ := List.getElem_of_mem h
  exact ⟨j, hj, by rw [List.getD_eq_getElem?_getD, List.getElem?_eq_getElem hj]; exact e⟩
/-- a text has no place, or a first and a last one -/
theorem ends_cases (l : List UInt8) : (firstI l = -1 ∧ ∀ c ∈ l, mark c = false) ∨ ∃ i t : Nat, firstI l = i ∧ lastI l = (t : Int) - 1 ∧ i < t ∧ Ends l i t := by
  rcases till_cases l l.length with h | ⟨i, h1, h2, h3, h4⟩
  · refine .inl ⟨first_none h, fun c hc => ?_⟩
    obtain ⟨j, hj, e⟩ := mem_getD hc
    rw [← e]; exact h j hj hj
  · right
    rcases lastK_cases l l.length with ⟨e1, e2⟩ | ⟨j, k1, k2, k3, k4⟩
    · rw [e2 i h2] at h4; cases h4
    · have hij : i ≤ j := by
        rcases Nat.lt_or_ge j i with h | h
        · rw [k4 i h h2] at h4; cases h4
        · exact h
      refine ⟨i, j + 1, first_hit h3 h2 h4, by unfold lastI; rw [k2]; omega, by omega, by omega, by omega, fun c hc => ?_, .inr ⟨_, getD_some h2, h4⟩, fun c hc => ?_, .inr ⟨_, getD_some (l := l) (j := j) k1, k3⟩⟩
      · obtain ⟨m, hm, e⟩ := mem_getD hc
        rw [List.length_take] at hm
        rw [take_getD _ _ _ (by omega)] at e
        rw [← e]; exact h3 m (by omega) (by omega)
      · obtain ⟨m, hm, e⟩ := List.getElem_of_mem hc
        rw [List.length_drop] at hm
        rw [List.getElem_drop] at e
        have := k4 (j + 1 + m) (by omega) (by omega)
        rw [List.getD_eq_getElem?_getD, List.getElem?_eq_getElem (by omega)] at this
        rw [← e]; exact this
end Np
end Go.Proofs.YtonbjfepckolnaaDoor
