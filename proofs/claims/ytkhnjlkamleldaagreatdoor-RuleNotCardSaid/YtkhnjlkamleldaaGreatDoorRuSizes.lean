/- How long the texts of right rules are; rows of the call's own. Nothing of the program stands here. -/
import Derived.Test.YtkhnjlkamleldaaGreatDoorRuBase
import Derived.Test.YtkhnjlkamleldaaGreatDoorStrBase
namespace Go.Proofs.YtkhnjlkamleldaaGreatDoor
namespace Ru
open Go.RowKit Go.Maps D

theorem join_snoc (sep : List UInt8) : ∀ (ps : List (List UInt8)) (p : List UInt8), ps ≠ [] → joinL sep (ps ++ [p]) = joinL sep ps ++ (sep ++ p)
  | [], _, h => absurd rfl h
  | [q], p, _ => by simp [joinL]
  | q :: r :: l, p, _ => by
    have := join_snoc sep (r :: l) p (by simp)
    simp only [List.cons_append, joinL] at *
    rw [this]
    simp
/-- what stands ahead of the ranges -/
def preT (x : RelV) : List UInt8 := [opT x.op] ++ (if 0 < x.mod then [32, 37, 32] ++ dg x.mod else []) ++ (if x.nt then [32, 33, 61] else [32, 61])
theorem relT_pre (x : RelV) : relT x = preT x ++ 32 :: rgsT x.rs := by
  unfold relT words preT notT
  split <;> (split <;> simp [joinL])
/-- so many ranges -/
def tailT (rs : List (Int × Int)) (k : Nat) : List UInt8 := if k = 0 then [] else 32 :: rgsT (rs.take k)
theorem tail_next (rs : List (Int × Int)) (k : Nat) (h : k < rs.length) : tailT rs (k + 1) = tailT rs k ++ ((if k = 0 then [32] else [44]) ++ rgT rs[k]) := by
  unfold tailT rgsT
  rw [if_neg (by omega), List.take_succ_eq_append_getElem h]
  by_cases h0 : k = 0
  · subst h0
    simp [joinL]
  · rw [if_neg h0, if_neg h0, List.map_append, List.map_singleton, join_snoc _ _ _ (by intro e; have := congrArg List.length e; rw [List.length_map, List.length_take] at this; simp only [List.length_nil] at this; omega)]
    simp
theorem tail_all (rs : List (Int × Int)) (h : rs ≠ []) : tailT rs rs.length = 32 :: rgsT rs := by
  unfold tailT
  rw [if_neg (by intro e; exact h (List.eq_nil_of_length_eq_zero e)), List.take_length]
theorem dg_size {a : Int} (h1 : a ≤ 1000000) : (str (dg a)).size ≤ 16 := by
  rw [D.ba_size, str_data]
  unfold dg
  rw [Lib.decDigits_length]
  exact D.nDigits_le (by decide) (by omega)
theorem below_grown {w w' : World} (hb : Below w.heap.size w w') (row : Option Nat) : w.grownBy w' row := ⟨hb.os, hb.tape, hb.output, hb.size, fun k hk _ => hb.block k hk⟩
theorem own_later {w w' : World} {base : Nat} {e : TypeId} {size n : Nat} {v : Value} {xs : List Value} (h : w.ownsRow base e size v n xs) (hb : Below w.heap.size w w') : w'.ownsRow base e size v n xs :=
  h.kept (below_grown hb none) (by cases hv : v.ownBlock <;> simp)
theorem own_form {w : World} {base : Nat} {t : TypeId} {v : Value} {n : Nat} {xs : List Value} (h : w.ownsRow base t 1 v n xs) : ∃ A c, v = .slice A n c ∧ Reads w w.heap.size 1 A n xs := by
  rcases h.2 with ⟨rfl, rfl⟩ | ⟨g, cap, cur, rfl, _, _, _, _⟩
  · exact ⟨none, 0, rfl, Reads.of_own h⟩
  · exact ⟨_, _, rfl, Reads.of_own h⟩
theorem join_bound (sep : List UInt8) (M : Nat) : ∀ ps : List (List UInt8), (∀ p ∈ ps, p.length ≤ M) → (joinL sep ps).length ≤ ps.length * (M + sep.length)
  | [], _ => by simp [joinL]
  | [p], h => by have := h p (by simp); simp [joinL]; omega
  | p :: q :: l, h => by
    have h1 := h p (by simp)
    have h2 := join_bound sep M (q :: l) (fun x hx => h x (by simp at hx ⊢; right; exact hx))
    simp only [joinL, List.length_append, List.length_cons] at *
    rw [Nat.add_mul (l.length + 1) 1]
    omega
theorem join_bound' (sep : List UInt8) (M N : Nat) (hN : M + sep.length ≤ N) (ps : List (List UInt8)) (h : ∀ p ∈ ps, p.length ≤ M) (hl : ps.length ≤ 20) : (joinL sep ps).length ≤ 20 * N :=
  Nat.le_trans (join_bound sep M ps h) (Nat.mul_le_mul hl hN)
theorem rg_size {r : Int × Int} (h : rgOk r) : (rgT r).length ≤ 34 := by
  obtain ⟨h0, h1, h2⟩ := h
  have s1 := dg_size (a := r.1) (by omega)
  have s2 := dg_size (a := r.2) h2
  rw [D.ba_size, str_data] at s1 s2
  unfold rgT
  split
  · simp [joinL]; omega
  · omega
theorem tail_size (rs : List (Int × Int)) (h : ∀ r ∈ rs, rgOk r) : ∀ k, k ≤ rs.length → (tailT rs k).length ≤ 40 * k
  | 0, _ => by simp [tailT]
  | k + 1, hk => by
    have ih := tail_size rs h k (by omega)
    have hr := rg_size (h _ (List.getElem_mem (show k < rs.length by omega)))
    rw [tail_next rs k (by omega), List.length_append, List.length_append]
    have : (if k = 0 then [32] else [44] : List UInt8).length = 1 := by split <;> rfl
    omega
theorem rel_size {x : RelV} (h : relOk x) : (relT x).length ≤ 60 + 40 * x.rs.length := by
  have s := dg_size (a := x.mod) h.2.1.2
  rw [D.ba_size, str_data] at s
  have ht := tail_size x.rs h.2.2.2 x.rs.length (Nat.le_refl _)
  rw [relT_pre, ← tail_all x.rs h.2.2.1, List.length_append]
  have hp : (preT x).length ≤ 40 := by
    unfold preT
    split <;> (split <;> simp <;> omega)
  omega
/-- ranges of a size that a text bears -/
def FewT (ps : List PartX) : Prop := ∀ p ∈ ps, ∀ x ∈ p.xs, x.v.rs.length ≤ 8796093022208
theorem total_ge : ∀ {l : List (List RelV)} {p : List RelV}, p ∈ l → p.length ≤ total l
  | q :: l, p, h => by
    rcases List.mem_cons.1 h with rfl | h
    · simp [total]
    · have := total_ge h; simp [total] at *; omega
theorem total_len : ∀ {l : List (List RelV)}, (∀ p ∈ l, p ≠ []) → l.length ≤ total l
  | [], _ => Nat.zero_le _
  | p :: l, h => by
    have h1 := total_len (l := l) (fun q hq => h q (by simp [hq]))
    have h2 : 0 < p.length := List.length_pos_iff.2 (h p (by simp))
    simp [total] at *
    omega
end Ru
end Go.Proofs.YtkhnjlkamleldaaGreatDoor
