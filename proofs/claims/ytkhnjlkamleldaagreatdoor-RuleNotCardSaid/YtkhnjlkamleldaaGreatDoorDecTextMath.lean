/- Plain facts on decimals' texts: the digits ahead of the point and behind it, and how they are read again. Nothing of the program stands here. -/
import Derived.Test.YtkhnjlkamleldaaGreatDoorDecMath
import Derived.Lib.ItoaNum
import Derived.Lib.ItoaMem
import Derived.Lib.AtoiAllCases
import Derived.Lib.IndexMore
import Derived.Lib.IndexLaws
import Derived.Lib.Repeat
namespace Go.Proofs.YtkhnjlkamleldaaGreatDoor
namespace D

/-- a digit -/
abbrev dgt (n : Nat) : UInt8 := UInt8.ofNat (48 + n % 10)
/-- the last digits, just so many -/
def low : Nat → Nat → List UInt8
  | 0, _ => []
  | k + 1, n => low k (n / 10) ++ [dgt n]
theorem low_length : ∀ (k n : Nat), (low k n).length = k
  | 0, _ => rfl
  | k + 1, n => by simp [low, low_length k]
/-- noughts -/
def noughts (k : Nat) : List UInt8 := List.replicate k 48
/-- a number's digits, so many at least -/
def pad (k n : Nat) : List UInt8 := noughts (k - Lib.nDigits n) ++ Lib.decDigits n
theorem digits_last {n : Nat} (h : ¬ n < 10) : Lib.decDigits n = Lib.decDigits (n / 10) ++ [dgt n] := by
  rw [Lib.decDigits, dif_neg h]
theorem digits_first {n : Nat} (h : n < 10) : Lib.decDigits n = [dgt n] := by
  rw [Lib.decDigits_one h]; simp [dgt, Nat.mod_eq_of_lt h]
theorem pad_next (k n : Nat) : pad (k + 2) n = pad (k + 1) (n / 10) ++ [dgt n] := by
  unfold pad
  by_cases h : n < 10
  · rw [Lib.nDigits_small h, Lib.nDigits_small (by omega), digits_first h, digits_first (by omega), Nat.div_eq_of_lt h]
    simp only [Nat.add_sub_cancel, show k + 2 - 1 = k + 1 by omega]
    rw [show noughts (k + 1) = noughts k ++ [48] by simp [noughts, List.replicate_succ']]
    rfl
  · rw [Lib.nDigits_big h, digits_last h, show k + 2 - (Lib.nDigits (n / 10) + 1) = k + 1 - Lib.nDigits (n / 10) by omega, List.append_assoc]
theorem pad_one (n : Nat) : pad 1 n = Lib.decDigits n := by
  unfold pad
  have := Lib.nDigits_pos n
  rw [show 1 - Lib.nDigits n = 0 by omega]; rfl
/-- as many noughts ahead as are wanted: the digits ahead of the point and those behind it -/
theorem pad_split : ∀ (k n : Nat), pad (k + 1) n = Lib.decDigits (n / 10 ^ k) ++ low k n
  | 0, n => by rw [pad_one]; simp [low]
  | k + 1, n => by
    rw [pad_next, pad_split k (n / 10), Nat.div_div_eq_div_mul, Nat.pow_succ, Nat.mul_comm 10, List.append_assoc]
    rfl
theorem low_mod : ∀ (k n : Nat), low k (n % 10 ^ k) = low k n
  | 0, _ => rfl
  | k + 1, n => by
    show low k (n % 10 ^ (k + 1) / 10) ++ [dgt (n % 10 ^ (k + 1))] = low k (n / 10) ++ [dgt n]
    have h1 : n % 10 ^ (k + 1) / 10 = n / 10 % 10 ^ k := by
      rw [Nat.pow_succ, Nat.mul_comm, Nat.mod_mul_right_div_self]
    have h2 : n % 10 ^ (k + 1) % 10 = n % 10 := Nat.mod_mod_of_dvd _ (by rw [Nat.pow_succ]; exact Nat.dvd_mul_left _ _)
    rw [h1, low_mod k (n / 10)]
    unfold dgt
    rw [h2]
/-- so many digits of a number that has no more -/
theorem pad_low : ∀ (k n : Nat), n < 10 ^ (k + 1) → pad (k + 1) n = low (k + 1) n
  | 0, n, h => by rw [pad_one, digits_first (by simpa using h)]; rfl
  | k + 1, n, h => by
    rw [pad_next, pad_low k (n / 10) (by rw [Nat.pow_succ] at h; omega)]
    rfl
theorem noughts_repeat (k : Nat) : Lib.repeatL [48] k = noughts k := by
  have := Lib.repeatL_replicate 48 1 k
  simpa [noughts] using this

/-- digits alone -/
def Digs (l : List UInt8) : Prop := ∀ c ∈ l, 48 ≤ c.toNat ∧ c.toNat ≤ 57
theorem dgt_dig (n : Nat) : 48 ≤ (dgt n).toNat ∧ (dgt n).toNat ≤ 57 ∧ (dgt n).toNat = 48 + n % 10 := by
  have : (dgt n).toNat = 48 + n % 10 := by simp [dgt]; omega
  omega
theorem low_digs : ∀ (k n : Nat), Digs (low k n)
  | 0, _, c, h => by simp [low] at h
  | k + 1, n, c, h => by
    rcases List.mem_append.1 h with h | h
    · exact low_digs k _ c h
    · obtain rfl := List.mem_singleton.1 h
      exact ⟨(dgt_dig n).1, (dgt_dig n).2.1⟩
theorem dec_digs (n : Nat) : Digs (Lib.decDigits n) := by
  induction n using Nat.strongRecOn with
  | _ n ih =>
    intro c h
    by_cases hn : n < 10
    · rw [digits_first hn] at h
      obtain rfl := List.mem_singleton.1 h
      exact ⟨(dgt_dig n).1, (dgt_dig n).2.1⟩
    · rw [digits_last hn] at h
      rcases List.mem_append.1 h with h | h
      · exact ih _ (by omega) c h
      · obtain rfl := List.mem_singleton.1 h
        exact ⟨(dgt_dig n).1, (dgt_dig n).2.1⟩

/-- a number's text: its sign, the digits ahead of the point, and so many behind it -/
def text (c : Int) (k : Nat) : List UInt8 := (if c < 0 then [45] else []) ++ (Lib.decDigits (c.natAbs / 10 ^ k) ++ (if k = 0 then [] else 46 :: low k c.natAbs))

theorem parse_snoc : ∀ (l : List UInt8) (acc x n : Nat), Lib.parseUint10 acc l = .ok x → x < 1000000000000000000 → Lib.parseUint10 acc (l ++ [dgt n]) = .ok (x * 10 + n % 10)
  | [], acc, x, n, h, hx => by
    simp only [Lib.parseUint10] at h
    injection h with h
    subst h
    have := dgt_dig n
    simp only [List.nil_append, Lib.parseUint10]
    rw [if_pos ⟨this.1, this.2.1⟩, if_neg (by omega), if_neg (by omega)]
    rw [this.2.2]
    congr 1
    omega
  | c :: l, acc, x, n, h, hx => by
    rw [List.cons_append]
    simp only [Lib.parseUint10] at h ⊢
    split at h
    · rename_i h1
      split at h
      · cases h
      · rename_i h2
        split at h
        · cases h
        · rename_i h3
          rw [if_pos h1, if_neg h2, if_neg h3]
          exact parse_snoc l _ x n h hx
    · cases h
theorem parse_digits (n : Nat) (h : n < 1000000000000000000) : Lib.parseUint10 0 (Lib.decDigits n) = .ok n := by
  induction n using Nat.strongRecOn with
  | _ n ih =>
    by_cases hn : n < 10
    · rw [digits_first hn]
      have := parse_snoc [] 0 0 n rfl (by decide)
      rw [List.nil_append] at this
      rw [this]
      congr 1
      omega
    · rw [digits_last hn, parse_snoc _ _ _ n (ih (n / 10) (by omega) (by omega)) (by omega)]
      congr 1
      omega
/-- all digits of a number, the point left out, are the number again -/
theorem parse_all : ∀ (k n : Nat), n < 1000000000000000000 → Lib.parseUint10 0 (Lib.decDigits (n / 10 ^ k) ++ low k n) = .ok n
  | 0, n, h => by simpa [low] using parse_digits n h
  | k + 1, n, h => by
    have := parse_all k (n / 10) (by omega)
    rw [Nat.div_div_eq_div_mul, Nat.mul_comm, ← Nat.pow_succ] at this
    rw [show low (k + 1) n = low k (n / 10) ++ [dgt n] from rfl, ← List.append_assoc, parse_snoc _ _ _ n this (by omega)]
    congr 1
    omega
theorem dec_ne (n : Nat) : Lib.decDigits n ≠ [] := by
  intro h
  have := Lib.decDigits_length n
  rw [h] at this
  have := Lib.nDigits_pos n
  simp at *
  omega
theorem mag_all (k n : Nat) (h : n < 1000000000000000000) : Lib.parseMag (Lib.decDigits (n / 10 ^ k) ++ low k n) = .ok n := by
  unfold Lib.parseMag
  rw [if_neg (by simp [dec_ne]), parse_all k n h]
/-- the sign and all digits of a number, read again -/
theorem atoi_all (c : Int) (k : Nat) (h0 : -1000000000000000 ≤ c) (h1 : c ≤ 1000000000000000) :
    Lib.atoiAll ((if c < 0 then [45] else []) ++ (Lib.decDigits (c.natAbs / 10 ^ k) ++ low k c.natAbs)) = .ok c := by
  have hm := mag_all k c.natAbs (by omega)
  by_cases hc : c < 0
  · rw [if_pos hc]
    rw [show ([45] : List UInt8) ++ (Lib.decDigits (c.natAbs / 10 ^ k) ++ low k c.natAbs) = 45 :: (Lib.decDigits (c.natAbs / 10 ^ k) ++ low k c.natAbs) from rfl, Lib.atoiAll_minus, hm]
    unfold Lib.signed
    simp only
    rw [if_neg (by omega)]
    congr 1
    omega
  · rw [if_neg hc, List.nil_append]
    obtain ⟨b, r, e⟩ := List.exists_cons_of_ne_nil (dec_ne (c.natAbs / 10 ^ k))
    have hb := dec_digs (c.natAbs / 10 ^ k) b (by rw [e]; simp)
    rw [e, List.cons_append] at hm ⊢
    rw [Lib.atoiAll_plain _ _ (by omega) (by omega), hm]
    unfold Lib.signless
    simp only
    rw [if_neg (by omega)]
    congr 1
    omega

/-- no point in it -/
def Pointless (l : List UInt8) : Prop := ∀ c ∈ l, c ≠ 46
theorem digs_pointless {l : List UInt8} (h : Digs l) : Pointless l := fun c hc e => by
  have := h c hc
  rw [e] at this
  exact absurd this (by decide)
theorem idx_none {p : List UInt8} (h : Pointless p) : Lib.index p [46] = -1 := Lib.index_none fun j hj => by
  unfold Lib.occAt
  rcases Nat.lt_or_ge j p.length with hl | hl
  · rw [List.drop_eq_getElem_cons hl]
    have := h p[j] (List.getElem_mem hl)
    simp [List.isPrefixOf, this.symm]
  · rw [List.drop_eq_nil_of_le hl]; rfl
theorem idx_point {p : List UInt8} (h : Pointless p) (l : List UInt8) : Lib.index (p ++ 46 :: l) [46] = p.length := Lib.index_first (by simp) (by
    unfold Lib.occAt
    rw [List.drop_left]; simp [List.isPrefixOf]) fun j hj => by
  unfold Lib.occAt
  have hl : j < (p ++ 46 :: l).length := by simp; omega
  rw [List.drop_eq_getElem_cons hl, List.getElem_append_left hj]
  have := h p[j] (List.getElem_mem hj)
  simp [List.isPrefixOf, this.symm]
theorem cut_none {p : List UInt8} (h : Pointless p) : Lib.cut p [46] = (p, [], false) := by
  unfold Lib.cut
  rw [idx_none h, if_neg (by omega)]
theorem cut_point {p : List UInt8} (h : Pointless p) (l : List UInt8) : Lib.cut (p ++ 46 :: l) [46] = (p, l, true) := by
  unfold Lib.cut
  rw [idx_point h, if_pos (by omega)]
  simp
/-- what lies ahead of a number's point -/
def ahead (c : Int) (k : Nat) : List UInt8 := (if c < 0 then [45] else []) ++ Lib.decDigits (c.natAbs / 10 ^ k)
theorem ahead_pointless (c : Int) (k : Nat) : Pointless (ahead c k) := by
  intro b hb
  unfold ahead at hb
  rcases List.mem_append.1 hb with hb | hb
  · split at hb
    · obtain rfl := List.mem_singleton.1 hb; decide
    · simp at hb
  · exact digs_pointless (dec_digs _) b hb
theorem text_ahead (c : Int) (k : Nat) : text c k = ahead c k ++ (if k = 0 then [] else 46 :: low k c.natAbs) := by
  unfold text ahead
  rw [List.append_assoc]
/-- a number's text, cut at its point -/
theorem cut_text (c : Int) (k : Nat) : (Lib.cut (text c k) [46]).1 = ahead c k ∧ (Lib.cut (text c k) [46]).2.1 = low k c.natAbs := by
  rw [text_ahead]
  by_cases hk : k = 0
  · subst hk
    rw [if_pos rfl, List.append_nil, cut_none (ahead_pointless c 0)]
    exact ⟨rfl, rfl⟩
  · rw [if_neg hk, cut_point (ahead_pointless c k)]
    exact ⟨rfl, rfl⟩
end D
end Go.Proofs.YtkhnjlkamleldaaGreatDoor
