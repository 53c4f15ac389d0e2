/- Plain facts on rules: what is right, when one holds, its text, and how that is read again. Nothing of the program stands here. -/
import Derived.Test.YtkhnjlkamleldaaDoorDecRefMath
import Derived.Test.YtkhnjlkamleldaaDoorRuCut
namespace Go.Proofs.YtkhnjlkamleldaaDoor
namespace Ru
open D (IsNum)

/-- a relation -/
structure RelV where
  op : Int
  mod : Int
  nt : Bool
  rs : List (Int × Int)
instance : Inhabited RelV := ⟨⟨0, 0, false, []⟩⟩
abbrev zero : RelV := ⟨0, 0, false, []⟩
def rgOk (r : Int × Int) : Prop := 0 ≤ r.1 ∧ r.1 ≤ r.2 ∧ r.2 ≤ 1000000
instance (r : Int × Int) : Decidable (rgOk r) := by unfold rgOk; infer_instance
def opOk (c : Int) : Prop := c = 110 ∨ c = 105 ∨ c = 118 ∨ c = 119 ∨ c = 102 ∨ c = 116
instance (c : Int) : Decidable (opOk c) := by unfold opOk; infer_instance
def relOk (x : RelV) : Prop := opOk x.op ∧ (0 ≤ x.mod ∧ x.mod ≤ 1000000) ∧ x.rs ≠ [] ∧ ∀ r ∈ x.rs, rgOk r
instance (x : RelV) : Decidable (relOk x) := by unfold relOk; infer_instance
def partOk (p : List RelV) : Prop := p ≠ [] ∧ ∀ x ∈ p, relOk x
instance (p : List RelV) : Decidable (partOk p) := by
  unfold partOk
  cases p with
  | nil => exact isFalse fun h => h.1 rfl
  | cons a l => exact decidable_of_iff (∀ x ∈ a :: l, relOk x) ⟨fun h => ⟨by simp, h⟩, fun h => h.2⟩
def ruleOk (r : List (List RelV)) : Prop := r ≠ [] ∧ ∀ p ∈ r, partOk p
instance (r : List (List RelV)) : Decidable (ruleOk r) := by
  unfold ruleOk
  cases r with
  | nil => exact isFalse fun h => h.1 rfl
  | cons a l => exact decidable_of_iff (∀ x ∈ a :: l, partOk x) ⟨fun h => ⟨by simp, h⟩, fun h => h.2⟩
/-- how many relations -/
def total (r : List (List RelV)) : Nat := (r.map List.length).sum
/-- what is wrong with a rule -/
def ruleF (r : List (List RelV)) : Nat := if ruleOk r then (if 20 < total r then 4 else 0) else 3
theorem ruleF_zero {r : List (List RelV)} : ruleF r = 0 ↔ ruleOk r ∧ total r ≤ 20 := by
  unfold ruleF
  split
  · split <;> simp_all <;> omega
  · simp_all

/-- the operand that a relation asks -/
def opV (op I V W F T : Int) : Int := if op = 118 then V else if op = 119 then W else if op = 102 then F else if op = 116 then T else I
def modV (m x : Int) : Int := if 0 < m then x.tmod m else x
def inRg (m : Int) (r : Int × Int) : Bool := decide (r.1 ≤ m) && decide (m ≤ r.2)
def relH (x : RelV) (I V W F T : Int) : Bool := if x.op = 110 ∧ T ≠ 0 then x.nt else (x.rs.any (inRg (modV x.mod (opV x.op I V W F T))) != x.nt)
def partH (p : List RelV) (I V W F T : Int) : Bool := p.all fun x => relH x I V W F T
def ruleH (r : List (List RelV)) (I V W F T : Int) : Bool := r.any fun p => partH p I V W F T

/-- a number's digits -/
def dg (n : Int) : List UInt8 := Lib.decDigits n.toNat
theorem dg_digs (n : Int) : D.Digs (dg n) := D.dec_digs _
theorem dg_not {n : Int} {c : UInt8} (h : c.toNat < 48 ∨ 57 < c.toNat) : c ∉ dg n := fun hm => by have := dg_digs n c hm; omega
theorem dg_ne (n : Int) : dg n ≠ [] := D.dec_ne _
open Classical in
/-- the number of digits; -1: of none -/
noncomputable def numL (s : List UInt8) : Int := if h : ∃ n, IsNum s n then (h.choose : Int) else -1
theorem numL_some {s : List UInt8} {n : Nat} (h : IsNum s n) : numL s = n := by
  unfold numL
  rw [dif_pos ⟨n, h⟩]
  have := (Exists.choose_spec (⟨n, h⟩ : ∃ n, IsNum s n)).eq h
  omega
theorem numL_none {s : List UInt8} (h : ∀ n, ¬ IsNum s n) : numL s = -1 := by
  unfold numL
  rw [dif_neg fun ⟨n, hn⟩ => h n hn]
theorem numL_dg {n : Int} (h0 : 0 ≤ n) (h1 : n ≤ 1000000) : numL (dg n) = n := by
  have : IsNum (dg n) n.toNat := ⟨by omega, rfl⟩
  rw [numL_some this]
  omega
/-- a range's text -/
def rgT (r : Int × Int) : List UInt8 := if r.1 < r.2 then joinL [46, 46] [dg r.1, dg r.2] else dg r.1
def notT (b : Bool) : List UInt8 := if b then [33, 61] else [61]
def opT (op : Int) : UInt8 := UInt8.ofNat op.toNat
def rgsT (rs : List (Int × Int)) : List UInt8 := joinL [44] (rs.map rgT)
def words (x : RelV) : List (List UInt8) := if 0 < x.mod then [[opT x.op], [37], dg x.mod, notT x.nt, rgsT x.rs] else [[opT x.op], notT x.nt, rgsT x.rs]
def relT (x : RelV) : List UInt8 := joinL [32] (words x)
def partT (p : List RelV) : List UInt8 := joinL [32, 97, 110, 100, 32] (p.map relT)
def ruleT (r : List (List RelV)) : List UInt8 := joinL [32, 111, 114, 32] (r.map partT)

/-- a text's range, relation, rule, whatever the text -/
noncomputable def rgOfL (s : List UInt8) : Int × Int := (numL ((cutL [46, 46] s).headD []), numL ((cutL [46, 46] s).getLastD []))
noncomputable def tailOf (op : UInt8) (mod : Int) (a b : List UInt8) : RelV := ⟨op.toNat, mod, a == [33, 61], (cutL [44] b).map rgOfL⟩
noncomputable def relOfW (w : List (List UInt8)) : RelV :=
  match w with
  | [[o], a, b, c, d] => if a = [37] then tailOf o (numL b) c d else tailOf o 0 a b
  | [o] :: a :: b :: _ => tailOf o 0 a b
  | _ => zero
noncomputable def relOfL (s : List UInt8) : RelV := relOfW (cutL [32] s)
noncomputable def partOfL (s : List UInt8) : List RelV := (cutL [32, 97, 110, 100, 32] s).map relOfL
noncomputable def ruleOfL (s : List UInt8) : List (List RelV) := (cutL [32, 111, 114, 32] s).map partOfL

theorem first_one (c : UInt8) : First [c] 0 c := ⟨rfl, fun i h => absurd h (by omega)⟩
theorem first_dots : First [46, 46] 0 46 := ⟨rfl, fun i h => absurd h (by omega)⟩
theorem first_and : First [32, 97, 110, 100, 32] 1 97 := ⟨rfl, fun i h => by obtain rfl : i = 0 := (by omega); decide⟩
theorem first_or : First [32, 111, 114, 32] 1 111 := ⟨rfl, fun i h => by obtain rfl : i = 0 := (by omega); decide⟩
theorem rg_back {r : Int × Int} (h : rgOk r) : rgOfL (rgT r) = r := by
  obtain ⟨h0, h1, h2⟩ := h
  have n1 : (46 : UInt8) ∉ dg r.1 := dg_not (.inl (by decide))
  have n2 : (46 : UInt8) ∉ dg r.2 := dg_not (.inl (by decide))
  unfold rgOfL rgT
  split
  · rw [cut_join first_dots (by simp) (by simp [n1, n2])]
    simp only [List.headD_cons, List.getLastD_cons]
    show (numL (dg r.1), numL (dg r.2)) = r
    rw [numL_dg h0 (by omega), numL_dg (by omega) h2]
  · have e : dg r.1 = joinL [46, 46] [dg r.1] := rfl
    rw [e, cut_join first_dots (by simp) (by simp [n1])]
    show (numL (dg r.1), numL (dg r.1)) = r
    rw [numL_dg h0 (by omega)]
    have : r.1 = r.2 := by omega
    rw [show r = (r.1, r.2) from rfl, ← this]
theorem rg_byte {r : Int × Int} {c : UInt8} (h : c ∈ rgT r) : c = 46 ∨ (48 ≤ c.toNat ∧ c.toNat ≤ 57) := by
  unfold rgT at h
  split at h
  · simp only [joinL, List.mem_append, List.mem_cons, List.not_mem_nil, or_false] at h
    rcases h with h | h | h
    · exact .inr (dg_digs _ c h)
    · exact .inl (by rcases h with h | h <;> exact h)
    · exact .inr (dg_digs _ c h)
  · exact .inr (dg_digs _ c h)
theorem rgs_byte {rs : List (Int × Int)} {c : UInt8} (h : c ∈ rgsT rs) : c = 44 ∨ c = 46 ∨ (48 ≤ c.toNat ∧ c.toNat ≤ 57) := by
  unfold rgsT at h
  rcases mem_join h with h | ⟨p, hp, h⟩
  · exact .inl (by simpa using h)
  · obtain ⟨r, _, rfl⟩ := List.mem_map.1 hp
    exact .inr (rg_byte h)
theorem rgs_back {rs : List (Int × Int)} (h0 : rs ≠ []) (h : ∀ r ∈ rs, rgOk r) : (cutL [44] (rgsT rs)).map rgOfL = rs := by
  unfold rgsT
  rw [cut_join (first_one 44) (by simpa using h0)]
  · rw [List.map_map]
    have : rs.map (rgOfL ∘ rgT) = rs.map id := List.map_congr_left fun r hr => rg_back (h r hr)
    rw [this, List.map_id]
  · intro p hp hc
    obtain ⟨r, _, rfl⟩ := List.mem_map.1 hp
    rcases rg_byte hc with h | h
    · exact absurd h (by decide)
    · exact absurd h (by decide)
theorem op_back {op : Int} (h : opOk op) : ((opT op).toNat : Int) = op ∧ 97 < (opT op).toNat ∧ opT op ≠ 111 := by
  rcases h with rfl | rfl | rfl | rfl | rfl | rfl <;> decide
theorem words_byte {x : RelV} {p : List UInt8} (hp : p ∈ words x) {c : UInt8} (hc : c ∈ p) : c = opT x.op ∨ c = 37 ∨ c = 33 ∨ c = 61 ∨ c = 44 ∨ c = 46 ∨ (48 ≤ c.toNat ∧ c.toNat ≤ 57) := by
  have hn : ∀ b, c ∈ notT b → c = 33 ∨ c = 61 := fun b hb => by cases b <;> simp [notT] at hb <;> (first | exact .inr hb | exact hb)
  have hr : c ∈ rgsT x.rs → c = 44 ∨ c = 46 ∨ (48 ≤ c.toNat ∧ c.toNat ≤ 57) := rgs_byte
  have hd : c ∈ dg x.mod → (48 ≤ c.toNat ∧ c.toNat ≤ 57) := dg_digs _ c
  unfold words at hp
  split at hp <;> simp only [List.mem_cons, List.not_mem_nil, or_false] at hp
  · rcases hp with rfl | rfl | rfl | rfl | rfl
    · exact .inl (by simpa using hc)
    · exact .inr (.inl (by simpa using hc))
    · have := hd hc; simp [this]
    · rcases hn _ hc with rfl | rfl <;> simp
    · rcases hr hc with rfl | rfl | hh
      · simp
      · simp
      · simp [hh]
  · rcases hp with rfl | rfl | rfl
    · exact .inl (by simpa using hc)
    · rcases hn _ hc with rfl | rfl <;> simp
    · rcases hr hc with rfl | rfl | hh
      · simp
      · simp
      · simp [hh]
theorem words_clean {x : RelV} (h : opOk x.op) {p : List UInt8} (hp : p ∈ words x) {c : UInt8} (hb : c = 32 ∨ c = 97 ∨ c = 111) : c ∉ p := fun hc => by
  obtain ⟨_, o2, o3⟩ := op_back h
  rcases words_byte hp hc with e | e | e | e | e | e | e
  · rcases hb with rfl | rfl | rfl
    · rw [← e] at o2; exact absurd o2 (by decide)
    · rw [← e] at o2; exact absurd o2 (by decide)
    · exact o3 e.symm
  all_goals rcases hb with rfl | rfl | rfl <;> exact absurd e (by decide)
theorem words_ne (x : RelV) : words x ≠ [] := by unfold words; split <;> simp
theorem not_percent (b : Bool) : notT b ≠ [37] := by cases b <;> decide
theorem not_bang (b : Bool) : (notT b == [33, 61]) = b := by cases b <;> decide
theorem rel_back {x : RelV} (h : relOk x) : relOfL (relT x) = x := by
  obtain ⟨h1, ⟨m0, m1⟩, h3, h4⟩ := h
  obtain ⟨o1, _, _⟩ := op_back h1
  unfold relOfL relT
  rw [cut_join (first_one 32) (words_ne x) (fun p hp => words_clean h1 hp (.inl rfl))]
  unfold words
  split
  · show (if [37] = [37] then tailOf (opT x.op) (numL (dg x.mod)) (notT x.nt) (rgsT x.rs) else tailOf (opT x.op) 0 [37] (dg x.mod)) = x
    rw [if_pos rfl]
    unfold tailOf
    rw [numL_dg m0 m1, rgs_back h3 h4, not_bang, o1]
  · show tailOf (opT x.op) 0 (notT x.nt) (rgsT x.rs) = x
    unfold tailOf
    rw [rgs_back h3 h4, not_bang, o1, show (0 : Int) = x.mod by omega]
theorem rel_clean {x : RelV} (h : relOk x) {c : UInt8} (hb : c = 97 ∨ c = 111) : c ∉ relT x := fun hc => by
  rcases mem_join hc with hc | ⟨p, hp, hc⟩
  · rcases hb with rfl | rfl <;> exact absurd hc (by decide)
  · exact words_clean h.1 hp (.inr hb) hc
theorem part_back {p : List RelV} (h : partOk p) : partOfL (partT p) = p := by
  unfold partOfL partT
  rw [cut_join first_and (by simpa using h.1)]
  · rw [List.map_map]
    have : p.map (relOfL ∘ relT) = p.map id := List.map_congr_left fun x hx => rel_back (h.2 x hx)
    rw [this, List.map_id]
  · intro q hq
    obtain ⟨x, hx, rfl⟩ := List.mem_map.1 hq
    exact rel_clean (h.2 x hx) (.inl rfl)
/-- a right rule is that of its text -/
theorem rule_back {r : List (List RelV)} (h : ruleOk r) : ruleOfL (ruleT r) = r := by
  unfold ruleOfL ruleT
  rw [cut_join first_or (by simpa using h.1)]
  · rw [List.map_map]
    have : r.map (partOfL ∘ partT) = r.map id := List.map_congr_left fun p hp => part_back (h.2 p hp)
    rw [this, List.map_id]
  · intro q hq
    obtain ⟨p, hp, rfl⟩ := List.mem_map.1 hq
    intro hc
    rcases mem_join hc with hc | ⟨y, hy, hc⟩
    · exact absurd hc (by decide)
    · obtain ⟨x, hx, rfl⟩ := List.mem_map.1 hy
      exact rel_clean ((h.2 p hp).2 x hx) (.inr rfl) hc
end Ru
end Go.Proofs.YtkhnjlkamleldaaDoor
