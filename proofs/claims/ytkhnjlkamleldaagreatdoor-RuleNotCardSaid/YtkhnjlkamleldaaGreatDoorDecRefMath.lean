/- Plain facts on how the reference reads a decimal's text: its pieces between points, a number of digits alone, the digits behind the point added one by one. Nothing of the program stands here. -/
import Derived.Test.YtkhnjlkamleldaaGreatDoorDecTextMath
namespace Go.Proofs.YtkhnjlkamleldaaGreatDoor
namespace D

/-- pieces with a point between each two; with a point behind each -/
def glueP : List (List UInt8) → List UInt8
  | [] => []
  | [p] => p
  | p :: q :: r => p ++ 46 :: glueP (q :: r)
def flatP (l : List (List UInt8)) : List UInt8 := (l.map fun p => p ++ [46]).flatten
theorem flatP_snoc (l : List (List UInt8)) (p : List UInt8) : flatP (l ++ [p]) = flatP l ++ p ++ [46] := by simp [flatP]
theorem glueP_snoc : ∀ (l : List (List UInt8)) (x : List UInt8), glueP (l ++ [x]) = flatP l ++ x
  | [], x => by simp [flatP, glueP]
  | p :: r, x => by
    have ih := glueP_snoc r x
    cases hr : r ++ [x] with
    | nil => simp at hr
    | cons q t => rw [List.cons_append, hr, glueP, ← hr, ih]; simp [flatP]
theorem part_at_point : ∀ {p p' t t' : List UInt8}, Pointless p → Pointless p' → p ++ 46 :: t = p' ++ 46 :: t' → p = p' ∧ t = t'
  | [], [], _, _, _, _, h => ⟨rfl, by simpa using h⟩
  | [], c :: p', _, _, _, hp', h => by
    have : (46 : UInt8) = c := by injection h
    exact absurd this.symm (hp' c (by simp))
  | c :: p, [], _, _, hp, _, h => by
    have : c = (46 : UInt8) := by injection h
    exact absurd this (hp c (by simp))
  | c :: p, c' :: p', t, t', hp, hp', h => by
    rw [List.cons_append, List.cons_append] at h
    injection h with h1 h2
    obtain ⟨e1, e2⟩ := part_at_point (fun x hx => hp x (by simp [hx])) (fun x hx => hp' x (by simp [hx])) h2
    exact ⟨by rw [h1, e1], e2⟩
/-- the pieces of a text -/
structure Pieces (s : List UInt8) (l : List (List UInt8)) : Prop where
  ne : l ≠ []
  clean : ∀ p ∈ l, Pointless p
  glue : glueP l = s
theorem Pieces.one {p : List UInt8} {l : List (List UInt8)} (h : Pieces p l) (hp : Pointless p) : l = [p] := by
  obtain ⟨hne, hc, hg⟩ := h
  match l, hne, hc, hg with
  | [x], _, _, hg => rw [show x = p from hg]
  | x :: y :: r, _, _, hg =>
    have : (46 : UInt8) ∈ p := by rw [← hg, glueP]; simp
    exact absurd rfl (hp 46 this)
theorem Pieces.two {p q : List UInt8} {l : List (List UInt8)} (h : Pieces (p ++ 46 :: q) l) (hp : Pointless p) (hq : Pointless q) : l = [p, q] := by
  obtain ⟨hne, hc, hg⟩ := h
  match l, hne, hc, hg with
  | [x], _, hc, hg =>
    have : (46 : UInt8) ∈ x := by rw [show x = p ++ 46 :: q from hg]; simp
    exact absurd rfl (hc x (by simp) 46 this)
  | x :: y :: r, _, hc, hg =>
    rw [glueP] at hg
    obtain ⟨e1, e2⟩ := part_at_point (hc x (by simp)) hp hg
    have := Pieces.one (p := q) (l := y :: r) ⟨by simp, fun z hz => hc z (by simp [hz]), e2⟩ hq
    rw [e1, this]

/-- digits added to a number, one by one -/
def addD (n : Int) (l : List UInt8) : Int := l.foldl (fun a b => 10 * a + ((b.toNat : Int) - 48)) n
theorem addD_snoc (n : Int) (l : List UInt8) (c : UInt8) : addD n (l ++ [c]) = 10 * addD n l + ((c.toNat : Int) - 48) := by simp [addD]
theorem addD_low : ∀ (k n : Nat), addD ((n / 10 ^ k : Nat) : Int) (low k n) = n
  | 0, n => by simp [addD, low]
  | k + 1, n => by
    have ih := addD_low k (n / 10)
    rw [Nat.div_div_eq_div_mul, Nat.mul_comm, ← Nat.pow_succ] at ih
    rw [show low (k + 1) n = low k (n / 10) ++ [dgt n] from rfl, addD_snoc, ih, (dgt_dig n).2.2]
    omega
theorem addD_dec (n : Nat) : addD 0 (Lib.decDigits n) = n := by
  induction n using Nat.strongRecOn with
  | _ n ih =>
    by_cases hn : n < 10
    · rw [digits_first hn]
      show 10 * 0 + (((dgt n).toNat : Int) - 48) = n
      rw [(dgt_dig n).2.2]; omega
    · rw [digits_last hn, addD_snoc, ih _ (by omega), (dgt_dig n).2.2]; omega
theorem addD_room : ∀ (l : List UInt8) (n : Int), 0 ≤ n → Digs l → 0 ≤ addD n l ∧ addD n l < (n + 1) * 10 ^ l.length
  | [], n, h, _ => by simp [addD]; omega
  | c :: l, n, h, hd => by
    have hc := hd c (by simp)
    obtain ⟨i1, i2⟩ := addD_room l (10 * n + ((c.toNat : Int) - 48)) (by omega) (fun x hx => hd x (by simp [hx]))
    refine ⟨i1, ?_⟩
    rw [List.length_cons, Int.pow_succ]
    refine Int.lt_of_lt_of_le i2 ?_
    rw [Int.mul_comm _ 10, ← Int.mul_assoc]
    exact Int.mul_le_mul_of_nonneg_right (by omega) (Int.le_of_lt (Int.pow_pos (by decide)))
theorem Digs.take {l : List UInt8} (h : Digs l) (k : Nat) : Digs (l.take k) := fun c hc => h c (List.mem_of_mem_take hc)

/-- a text that is a number's, up to the greatest coefficient -/
def IsNum (s : List UInt8) (n : Nat) : Prop := n ≤ 1000000000000000 ∧ Lib.decDigits n = s
theorem nDigits_le {n k : Nat} (hk : 0 < k) (h : n < 10 ^ k) : Lib.nDigits n ≤ k := by
  induction k generalizing n with
  | zero => omega
  | succ k ih =>
    by_cases hn : n < 10
    · rw [Lib.nDigits_small hn]; omega
    · rw [Lib.nDigits_big hn]
      have hk0 : 0 < k := by
        rcases Nat.eq_zero_or_pos k with h0 | h0
        · subst h0; omega
        · exact h0
      have := ih hk0 (n := n / 10) (by rw [Nat.pow_succ] at h; omega)
      omega
theorem IsNum.length {s : List UInt8} {n : Nat} (h : IsNum s n) : 0 < s.length ∧ s.length ≤ 16 ∧ Digs s := by
  obtain ⟨h1, rfl⟩ := h
  rw [Lib.decDigits_length]
  exact ⟨Lib.nDigits_pos n, nDigits_le (by decide) (by omega), dec_digs n⟩
theorem IsNum.value {s : List UInt8} {n : Nat} (h : IsNum s n) : addD 0 s = n := by
  rw [← h.2]; exact addD_dec n
theorem IsNum.eq {s : List UInt8} {n m : Nat} (h : IsNum s n) (h' : IsNum s m) : n = m := by
  have := h.value; have := h'.value; omega

/-- a text without its sign -/
def bare (s : List UInt8) : List UInt8 := if s.take 1 = [45] then s.drop 1 else s
theorem dec_plain (n : Nat) : (Lib.decDigits n).take 1 ≠ [45] := by
  obtain ⟨b, r, e⟩ := List.exists_cons_of_ne_nil (dec_ne n)
  have := dec_digs n b (by rw [e]; simp)
  rw [e]
  intro h
  simp at h
  rw [h] at this
  exact absurd this.1 (by decide)
theorem body_plain (n k : Nat) (t : List UInt8) : (Lib.decDigits (n / 10 ^ k) ++ t).take 1 ≠ [45] := by
  obtain ⟨b, r, e⟩ := List.exists_cons_of_ne_nil (dec_ne (n / 10 ^ k))
  have := dec_plain (n / 10 ^ k)
  rw [e] at this ⊢
  simpa using this
theorem text_neg {c : Int} (k : Nat) (h : c < 0) : (text c k).take 1 = [45] ∧ bare (text c k) = Lib.decDigits (c.natAbs / 10 ^ k) ++ (if k = 0 then [] else 46 :: low k c.natAbs) := by
  have : text c k = 45 :: (Lib.decDigits (c.natAbs / 10 ^ k) ++ (if k = 0 then [] else 46 :: low k c.natAbs)) := by unfold text; rw [if_pos h]; rfl
  rw [this]
  exact ⟨rfl, rfl⟩
theorem text_pos {c : Int} (k : Nat) (h : ¬ c < 0) : (text c k).take 1 ≠ [45] ∧ bare (text c k) = Lib.decDigits (c.natAbs / 10 ^ k) ++ (if k = 0 then [] else 46 :: low k c.natAbs) := by
  have : text c k = Lib.decDigits (c.natAbs / 10 ^ k) ++ (if k = 0 then [] else 46 :: low k c.natAbs) := by unfold text; rw [if_neg h]; rfl
  rw [this]
  have hp := body_plain c.natAbs k (if k = 0 then [] else 46 :: low k c.natAbs)
  exact ⟨hp, if_neg hp⟩
theorem text_bare (c : Int) (k : Nat) : bare (text c k) = Lib.decDigits (c.natAbs / 10 ^ k) ++ (if k = 0 then [] else 46 :: low k c.natAbs) := by
  by_cases h : c < 0
  · exact (text_neg k h).2
  · exact (text_pos k h).2
theorem text_sign (c : Int) (k : Nat) : (text c k).take 1 = [45] ↔ c < 0 := by
  constructor
  · intro h
    by_cases hc : c < 0
    · exact hc
    · exact absurd h (text_pos k hc).1
  · exact fun h => (text_neg k h).1
/-- the pieces of a number's text -/
theorem text_pieces {c : Int} {k : Nat} {l : List (List UInt8)} (h : Pieces (bare (text c k)) l) : (k = 0 ∧ l = [Lib.decDigits c.natAbs]) ∨ (0 < k ∧ l = [Lib.decDigits (c.natAbs / 10 ^ k), low k c.natAbs]) := by
  rw [text_bare] at h
  rcases Nat.eq_zero_or_pos k with rfl | hk
  · rw [if_pos rfl, List.append_nil, Nat.pow_zero, Nat.div_one] at h
    exact .inl ⟨rfl, h.one (digs_pointless (dec_digs _))⟩
  · rw [if_neg (by omega)] at h
    exact .inr ⟨hk, h.two (digs_pointless (dec_digs _)) (digs_pointless (low_digs _ _))⟩
theorem whole_num {c : Int} (k : Nat) (h0 : -1000000000000000 ≤ c) (h1 : c ≤ 1000000000000000) : IsNum (Lib.decDigits (c.natAbs / 10 ^ k)) (c.natAbs / 10 ^ k) :=
  ⟨Nat.le_trans (Nat.div_le_self _ _) (by omega), rfl⟩
end D
end Go.Proofs.YtkhnjlkamleldaaGreatDoor
