/- Plain facts on texts that are cut at a sign, from the left, and joined with it. Nothing of the program stands here. And what follows from it. -/
import Derived.Test.YteipadljahkgoaaDoorDecFacts
import Derived.Lib.CountLaws
import Derived.Lib.CutLaws
import Derived.Lib.Split
import Derived.Lib.AtoiAllCases
namespace Go.Proofs.YteipadljahkgoaaDoor
namespace Ru

/-- texts joined -/
def joinL (sep : List UInt8) : List (List UInt8) → List UInt8
  | [] => []
  | [p] => p
  | p :: q :: l => p ++ (sep ++ joinL sep (q :: l))
theorem join_snoc (sep : List UInt8) : ∀ (ps : List (List UInt8)) (p : List UInt8), ps ≠ [] → joinL sep (ps ++ [p]) = joinL sep ps ++ (sep ++ p)
  | [], _, h => absurd rfl h
  | [q], p, _ => by simp [joinL]
  | q :: r :: l, p, _ => by
    have := join_snoc sep (r :: l) p (by simp)
    simp only [List.cons_append, joinL] at *
    rw [this]
    simp
/-- cut from the left: so far, what is left -/
def cutF (sep : List UInt8) : Nat → List UInt8 → List UInt8 → List (List UInt8)
  | 0, acc, r => [acc ++ r]
  | n + 1, acc, r => if sep.isPrefixOf r then acc :: cutF sep n [] (r.drop sep.length) else match r with
    | [] => [acc]
    | c :: r' => cutF sep n (acc ++ [c]) r'
def cutL (sep s : List UInt8) : List (List UInt8) := cutF sep (s.length + 1) [] s
theorem cutF_none (sep : List UInt8) : ∀ (n : Nat) (acc r : List UInt8), r.length < n → r.length < sep.length → cutF sep n acc r = [acc ++ r]
  | 0, _, _, h, _ => absurd h (by omega)
  | n + 1, acc, r, h, hs => by
    have hp : sep.isPrefixOf r = false := by
      rw [Bool.eq_false_iff]
      intro hp
      have := (List.isPrefixOf_iff_prefix.1 hp).length_le
      omega
    unfold cutF
    rw [hp]
    cases r with
    | nil => simp
    | cons c r' =>
      simp only [List.length_cons] at h hs
      simp only [Bool.false_eq_true, if_false]
      rw [cutF_none sep n _ r' (by omega) (by omega)]
      simp
theorem cutF_fuel (sep : List UInt8) (h0 : sep ≠ []) : ∀ (n m : Nat) (acc r : List UInt8), r.length < n → r.length < m → cutF sep n acc r = cutF sep m acc r
  | 0, _, _, _, h, _ => absurd h (by omega)
  | _ + 1, 0, _, _, _, h => absurd h (by omega)
  | n + 1, m + 1, acc, r, hn, hm => by
    unfold cutF
    split
    · rename_i hp
      have h1 := (List.isPrefixOf_iff_prefix.1 hp).length_le
      have h2 : 0 < sep.length := List.length_pos_iff.2 h0
      rw [cutF_fuel sep h0 n m [] _ (by rw [List.length_drop]; omega) (by rw [List.length_drop]; omega)]
    · cases r with
      | nil => rfl
      | cons c r' =>
        simp only [List.length_cons] at hn hm
        exact cutF_fuel sep h0 n m _ r' (by omega) (by omega)
/-- a sign's first place where this byte stands -/
def First (sep : List UInt8) (k : Nat) (c : UInt8) : Prop := sep[k]? = some c ∧ ∀ i, i < k → sep[i]? ≠ some c
theorem no_match {sep p rest : List UInt8} {k : Nat} {c : UInt8} (h : First sep k c) (hp : c ∉ p) (hr : rest = [] ∨ ∃ t, rest = sep ++ t) {i : Nat} (hi : i < p.length) : sep.isPrefixOf ((p ++ rest).drop i) = false := by
  rw [Bool.eq_false_iff]
  intro hm
  obtain ⟨u, hu⟩ := List.isPrefixOf_iff_prefix.1 hm
  rw [List.drop_append_of_le_length (by omega)] at hu
  have hk : (p.drop i ++ rest)[k]? = some c := by
    rw [← hu, List.getElem?_append_left (List.getElem?_eq_some_iff.1 h.1).1]
    exact h.1
  by_cases hlt : k < (p.drop i).length
  · rw [List.getElem?_append_left hlt, List.getElem?_drop] at hk
    exact hp (List.mem_of_getElem? hk)
  · rw [List.getElem?_append_right (by omega)] at hk
    rcases hr with rfl | ⟨t, rfl⟩
    · simp at hk
    · have hj : k - (p.drop i).length < k := by rw [List.length_drop] at *; omega
      have hl : k < sep.length := (List.getElem?_eq_some_iff.1 h.1).1
      rw [List.getElem?_append_left (by omega)] at hk
      exact h.2 _ hj hk
theorem cutF_skip (sep : List UInt8) : ∀ (p : List UInt8) (n : Nat) (acc rest : List UInt8), (∀ i, i < p.length → sep.isPrefixOf ((p ++ rest).drop i) = false) → p.length ≤ n → cutF sep n acc (p ++ rest) = cutF sep (n - p.length) (acc ++ p) rest
  | [], n, acc, rest, _, _ => by simp
  | c :: p, 0, _, _, _, h => absurd h (by simp)
  | c :: p, n + 1, acc, rest, hno, hn => by
    have h0 := hno 0 (by simp)
    simp only [List.drop_zero] at h0
    simp only [List.length_cons] at hn
    rw [List.cons_append] at h0 ⊢
    conv => lhs; unfold cutF
    rw [h0]
    simp only [Bool.false_eq_true, if_false]
    rw [cutF_skip sep p n (acc ++ [c]) rest (fun i hi => by have := hno (i + 1) (by simpa using hi); simpa using this) (by omega)]
    simp
theorem cutF_join {sep : List UInt8} {k : Nat} {c : UInt8} (h : First sep k c) : ∀ (ps : List (List UInt8)) (n : Nat), ps ≠ [] → (∀ p ∈ ps, c ∉ p) → (joinL sep ps).length < n → cutF sep n [] (joinL sep ps) = ps
  | [], _, h0, _, _ => absurd rfl h0
  | [p], n, _, hc, hn => by
    have hp := hc p (by simp)
    have := cutF_skip sep p n [] [] (fun i hi => no_match h hp (.inl rfl) hi) (by simp [joinL] at hn; omega)
    simp only [List.append_nil, List.nil_append] at this
    show cutF sep n [] p = [p]
    rw [this]
    have hl : k < sep.length := (List.getElem?_eq_some_iff.1 h.1).1
    rw [cutF_none sep _ p [] (by simp [joinL] at hn; simp; omega) (by simp; omega)]
    simp
  | p :: q :: l, n, _, hc, hn => by
    have hp := hc p (by simp)
    have hl : k < sep.length := (List.getElem?_eq_some_iff.1 h.1).1
    have hn' : p.length + (sep.length + (joinL sep (q :: l)).length) < n := by simpa [joinL] using hn
    show cutF sep n [] (p ++ (sep ++ joinL sep (q :: l))) = _
    rw [cutF_skip sep p n [] _ (fun i hi => no_match h hp (.inr ⟨_, rfl⟩) hi) (by omega)]
    obtain ⟨m, hm⟩ : ∃ m, n - p.length = m + 1 := ⟨n - p.length - 1, by omega⟩
    rw [hm]
    unfold cutF
    rw [List.isPrefixOf_iff_prefix.2 ⟨_, rfl⟩]
    simp only [if_true, List.nil_append]
    rw [List.drop_left, cutF_join h (q :: l) m (by simp) (fun x hx => hc x (by simp [hx])) (by omega)]
/-- what is joined is cut into the same -/
theorem cut_join {sep : List UInt8} {k : Nat} {c : UInt8} (h : First sep k c) {ps : List (List UInt8)} (h0 : ps ≠ []) (hc : ∀ p ∈ ps, c ∉ p) : cutL sep (joinL sep ps) = ps := cutF_join h ps _ h0 hc (by omega)
theorem cutF_ne (sep : List UInt8) : ∀ (n : Nat) (acc r : List UInt8), cutF sep n acc r ≠ []
  | 0, _, _ => by simp [cutF]
  | n + 1, acc, r => by
    unfold cutF
    split
    · simp
    · cases r with
      | nil => simp
      | cons c r' => exact cutF_ne sep n _ r'
theorem mem_join {sep : List UInt8} {x : UInt8} : ∀ {ps : List (List UInt8)}, x ∈ joinL sep ps → x ∈ sep ∨ ∃ p ∈ ps, x ∈ p
  | [], h => by simp [joinL] at h
  | [p], h => .inr ⟨p, by simp, h⟩
  | p :: q :: l, h => by
    simp only [joinL, List.mem_append] at h
    rcases h with h | h | h
    · exact .inr ⟨p, by simp, h⟩
    · exact .inl h
    · rcases mem_join h with h | ⟨y, hy, h⟩
      · exact .inl h
      · exact .inr ⟨y, List.mem_cons_of_mem _ hy, h⟩
end Ru
end Go.Proofs.YteipadljahkgoaaDoor

/- Plain facts on rules: what is right, when one holds, its text, and how that is read again. Nothing of the program stands here. -/
namespace Go.Proofs.YteipadljahkgoaaDoor
namespace Ru
open D (IsNum)

/-- a relation -/
structure RelV where
  op : Int
  mod : Int
  nt : Bool
  rs : List (Int × Int)
instance : Inhabited RelV := ⟨⟨0, 0, false, []⟩⟩
abbrev zero : RelV := ⟨0, 0, false, []⟩
def rgOk (r : Int × Int) : Prop := 0 ≤ r.1 ∧ r.1 ≤ r.2 ∧ r.2 ≤ 1000000
instance (r : Int × Int) : Decidable (rgOk r) := by unfold rgOk; infer_instance
def opOk (c : Int) : Prop := c = 110 ∨ c = 105 ∨ c = 118 ∨ c = 119 ∨ c = 102 ∨ c = 116
instance (c : Int) : Decidable (opOk c) := by unfold opOk; infer_instance
def relOk (x : RelV) : Prop := opOk x.op ∧ (0 ≤ x.mod ∧ x.mod ≤ 1000000) ∧ x.rs ≠ [] ∧ ∀ r ∈ x.rs, rgOk r
instance (x : RelV) : Decidable (relOk x) := by unfold relOk; infer_instance
def partOk (p : List RelV) : Prop := p ≠ [] ∧ ∀ x ∈ p, relOk x
instance (p : List RelV) : Decidable (partOk p) := by
  unfold partOk
  cases p with
  | nil => exact isFalse fun h => h.1 rfl
  | cons a l => exact decidable_of_iff (∀ x ∈ a :: l, relOk x) ⟨fun h => ⟨by simp, h⟩, fun h => h.2⟩
def ruleOk (r : List (List RelV)) : Prop := r ≠ [] ∧ ∀ p ∈ r, partOk p
instance (r : List (List RelV)) : Decidable (ruleOk r) := by
  unfold ruleOk
  cases r with
  | nil => exact isFalse fun h => h.1 rfl
  | cons a l => exact decidable_of_iff (∀ x ∈ a :: l, partOk x) ⟨fun h => ⟨by simp, h⟩, fun h => h.2⟩
/-- how many relations -/
def total (r : List (List RelV)) : Nat := (r.map List.length).sum
/-- what is wrong with a rule -/
def ruleF (r : List (List RelV)) : Nat := if ruleOk r then (if 20 < total r then 4 else 0) else 3
theorem ruleF_zero {r : List (List RelV)} : ruleF r = 0 ↔ ruleOk r ∧ total r ≤ 20 := by
  unfold ruleF
  split
  · split <;> simp_all <;> omega
  · simp_all

/-- the operand that a relation asks -/
def opV (op I V W F T : Int) : Int := if op = 118 then V else if op = 119 then W else if op = 102 then F else if op = 116 then T else I
def modV (m x : Int) : Int := if 0 < m then x.tmod m else x
def inRg (m : Int) (r : Int × Int) : Bool := decide (r.1 ≤ m) && decide (m ≤ r.2)
def relH (x : RelV) (I V W F T : Int) : Bool := if x.op = 110 ∧ T ≠ 0 then x.nt else (x.rs.any (inRg (modV x.mod (opV x.op I V W F T))) != x.nt)
def partH (p : List RelV) (I V W F T : Int) : Bool := p.all fun x => relH x I V W F T
def ruleH (r : List (List RelV)) (I V W F T : Int) : Bool := r.any fun p => partH p I V W F T

/-- a number's digits -/
def dg (n : Int) : List UInt8 := Lib.decDigits n.toNat
theorem dg_digs (n : Int) : D.Digs (dg n) := D.dec_digs _
theorem dg_not {n : Int} {c : UInt8} (h : c.toNat < 48 ∨ 57 < c.toNat) : c ∉ dg n := fun hm => by have := dg_digs n c hm; omega
theorem dg_ne (n : Int) : dg n ≠ [] := D.dec_ne _
open Classical in
/-- the number of digits; -1: of none -/
noncomputable def numL (s : List UInt8) : Int := if h : ∃ n, IsNum s n then (h.choose : Int) else -1
theorem numL_some {s : List UInt8} {n : Nat} (h : IsNum s n) : numL s = n := by
  unfold numL
  rw [dif_pos ⟨n, h⟩]
  have := (Exists.choose_spec (⟨n, h⟩ : ∃ n, IsNum s n)).eq h
  omega
theorem numL_none {s : List UInt8} (h : ∀ n, ¬ IsNum s n) : numL s = -1 := by
  unfold numL
  rw [dif_neg fun ⟨n, hn⟩ => h n hn]
theorem numL_dg {n : Int} (h0 : 0 ≤ n) (h1 : n ≤ 1000000) : numL (dg n) = n := by
  have : IsNum (dg n) n.toNat := ⟨by omega, rfl⟩
  rw [numL_some this]
  omega
/-- a range's text -/
def rgT (r : Int × Int) : List UInt8 := if r.1 < r.2 then joinL [46, 46] [dg r.1, dg r.2] else dg r.1
def notT (b : Bool) : List UInt8 := if b then [33, 61] else [61]
def opT (op : Int) : UInt8 := UInt8.ofNat op.toNat
def rgsT (rs : List (Int × Int)) : List UInt8 := joinL [44] (rs.map rgT)
def words (x : RelV) : List (List UInt8) := if 0 < x.mod then [[opT x.op], [37], dg x.mod, notT x.nt, rgsT x.rs] else [[opT x.op], notT x.nt, rgsT x.rs]
def relT (x : RelV) : List UInt8 := joinL [32] (words x)
def partT (p : List RelV) : List UInt8 := joinL [32, 97, 110, 100, 32] (p.map relT)
def ruleT (r : List (List RelV)) : List UInt8 := joinL [32, 111, 114, 32] (r.map partT)

/-- a text's range, relation, rule, whatever the text -/
noncomputable def rgOfL (s : List UInt8) : Int × Int := (numL ((cutL [46, 46] s).headD []), numL ((cutL [46, 46] s).getLastD []))
noncomputable def tailOf (op : UInt8) (mod : Int) (a b : List UInt8) : RelV := ⟨op.toNat, mod, a == [33, 61], (cutL [44] b).map rgOfL⟩
noncomputable def relOfW (w : List (List UInt8)) : RelV :=
  match w with
  | [[o], a, b, c, d] => if a = [37] then tailOf o (numL b) c d else tailOf o 0 a b
  | [o] :: a :: b :: _ => tailOf o 0 a b
  | _ => zero
noncomputable def relOfL (s : List UInt8) : RelV := relOfW (cutL [32] s)
noncomputable def partOfL (s : List UInt8) : List RelV := (cutL [32, 97, 110, 100, 32] s).map relOfL
noncomputable def ruleOfL (s : List UInt8) : List (List RelV) := (cutL [32, 111, 114, 32] s).map partOfL

theorem first_one (c : UInt8) : First [c] 0 c := ⟨rfl, fun i h => absurd h (by omega)⟩
theorem first_dots : First [46, 46] 0 46 := ⟨rfl, fun i h => absurd h (by omega)⟩
theorem first_and : First [32, 97, 110, 100, 32] 1 97 := ⟨rfl, fun i h => by obtain rfl : i = 0 := (by omega); decide⟩
theorem first_or : First [32, 111, 114, 32] 1 111 := ⟨rfl, fun i h => by obtain rfl : i = 0 := (by omega); decide⟩
theorem rg_back {r : Int × Int} (h : rgOk r) : rgOfL (rgT r) = r := by
  obtain ⟨h0, h1, h2⟩ := h
  have n1 : (46 : UInt8) ∉ dg r.1 := dg_not (.inl (by decide))
  have n2 : (46 : UInt8) ∉ dg r.2 := dg_not (.inl (by decide))
  unfold rgOfL rgT
  split
  · rw [cut_join first_dots (by simp) (by simp [n1, n2])]
    simp only [List.headD_cons, List.getLastD_cons]
    show (numL (dg r.1), numL (dg r.2)) = r
    rw [numL_dg h0 (by omega), numL_dg (by omega) h2]
  · have e : dg r.1 = joinL [46, 46] [dg r.1] := rfl
    rw [e, cut_join first_dots (by simp) (by simp [n1])]
    show (numL (dg r.1), numL (dg r.1)) = r
    rw [numL_dg h0 (by omega)]
    have : r.1 = r.2 := by omega
    rw [show r = (r.1, r.2) from rfl, ← this]
theorem rg_byte {r : Int × Int} {c : UInt8} (h : c ∈ rgT r) : c = 46 ∨ (48 ≤ c.toNat ∧ c.toNat ≤ 57) := by
  unfold rgT at h
  split at h
  · simp only [joinL, List.mem_append, List.mem_cons, List.not_mem_nil, or_false] at h
    rcases h with h | h | h
    · exact .inr (dg_digs _ c h)
    · exact .inl (by rcases h with h | h <;> exact h)
    · exact .inr (dg_digs _ c h)
  · exact .inr (dg_digs _ c h)
theorem rgs_byte {rs : List (Int × Int)} {c : UInt8} (h : c ∈ rgsT rs) : c = 44 ∨ c = 46 ∨ (48 ≤ c.toNat ∧ c.toNat ≤ 57) := by
  unfold rgsT at h
  rcases mem_join h with h | ⟨p, hp, h⟩
  · exact .inl (by simpa using h)
  · obtain ⟨r, _, rfl⟩ := List.mem_map.1 hp
    exact .inr (rg_byte h)
theorem rgs_back {rs : List (Int × Int)} (h0 : rs ≠ []) (h : ∀ r ∈ rs, rgOk r) : (cutL [44] (rgsT rs)).map rgOfL = rs := by
  unfold rgsT
  rw [cut_join (first_one 44) (by simpa using h0)]
  · rw [List.map_map]
    have : rs.map (rgOfL ∘ rgT) = rs.map id := List.map_congr_left fun r hr => rg_back (h r hr)
    rw [this, List.map_id]
  · intro p hp hc
    obtain ⟨r, _, rfl⟩ := List.mem_map.1 hp
    rcases rg_byte hc with h | h
    · exact absurd h (by decide)
    · exact absurd h (by decide)
theorem op_back {op : Int} (h : opOk op) : ((opT op).toNat : Int) = op ∧ 97 < (opT op).toNat ∧ opT op ≠ 111 := by
  rcases h with rfl | rfl | rfl | rfl | rfl | rfl <;> decide
theorem words_byte {x : RelV} {p : List UInt8} (hp : p ∈ words x) {c : UInt8} (hc : c ∈ p) : c = opT x.op ∨ c = 37 ∨ c = 33 ∨ c = 61 ∨ c = 44 ∨ c = 46 ∨ (48 ≤ c.toNat ∧ c.toNat ≤ 57) := by
  have hn : ∀ b, c ∈ notT b → c = 33 ∨ c = 61 := fun b hb => by cases b <;> simp [notT] at hb <;> (first | exact .inr hb | exact hb)
  have hr : c ∈ rgsT x.rs → c = 44 ∨ c = 46 ∨ (48 ≤ c.toNat ∧ c.toNat ≤ 57) := rgs_byte
  have hd : c ∈ dg x.mod → (48 ≤ c.toNat ∧ c.toNat ≤ 57) := dg_digs _ c
  unfold words at hp
  split at hp <;> simp only [List.mem_cons, List.not_mem_nil, or_false] at hp
  · rcases hp with rfl | rfl | rfl | rfl | rfl
    · exact .inl (by simpa using hc)
    · exact .inr (.inl (by simpa using hc))
    · have := hd hc; simp [this]
    · rcases hn _ hc with rfl | rfl <;> simp
    · rcases hr hc with rfl | rfl | hh
      · simp
      · simp
      · simp [hh]
  · rcases hp with rfl | rfl | rfl
    · exact .inl (by simpa using hc)
    · rcases hn _ hc with rfl | rfl <;> simp
    · rcases hr hc with rfl | rfl | hh
      · simp
      · simp
      · simp [hh]
theorem words_clean {x : RelV} (h : opOk x.op) {p : List UInt8} (hp : p ∈ words x) {c : UInt8} (hb : c = 32 ∨ c = 97 ∨ c = 111) : c ∉ p := fun hc => by
  obtain ⟨_, o2, o3⟩ := op_back h
  rcases words_byte hp hc with e | e | e | e | e | e | e
  · rcases hb with rfl | rfl | rfl
    · rw [← e] at o2; exact absurd o2 (by decide)
    · rw [← e] at o2; exact absurd o2 (by decide)
    · exact o3 e.symm
  all_goals rcases hb with rfl | rfl | rfl <;> exact absurd e (by decide)
theorem words_ne (x : RelV) : words x ≠ [] := by unfold words; split <;> simp
theorem not_percent (b : Bool) : notT b ≠ [37] := by cases b <;> decide
theorem not_bang (b : Bool) : (notT b == [33, 61]) = b := by cases b <;> decide
theorem rel_back {x : RelV} (h : relOk x) : relOfL (relT x) = x := by
  obtain ⟨h1, ⟨m0, m1⟩, h3, h4⟩ := h
  obtain ⟨o1, _, _⟩ := op_back h1
  unfold relOfL relT
  rw [cut_join (first_one 32) (words_ne x) (fun p hp => words_clean h1 hp (.inl rfl))]
  unfold words
  split
  · show (if [37] = [37] then tailOf (opT x.op) (numL (dg x.mod)) (notT x.nt) (rgsT x.rs) else tailOf (opT x.op) 0 [37] (dg x.mod)) = x
    rw [if_pos rfl]
    unfold tailOf
    rw [numL_dg m0 m1, rgs_back h3 h4, not_bang, o1]
  · show tailOf (opT x.op) 0 (notT x.nt) (rgsT x.rs) = x
    unfold tailOf
    rw [rgs_back h3 h4, not_bang, o1, show (0 : Int) = x.mod by omega]
theorem rel_clean {x : RelV} (h : relOk x) {c : UInt8} (hb : c = 97 ∨ c = 111) : c ∉ relT x := fun hc => by
  rcases mem_join hc with hc | ⟨p, hp, hc⟩
  · rcases hb with rfl | rfl <;> exact absurd hc (by decide)
  · exact words_clean h.1 hp (.inr hb) hc
theorem part_back {p : List RelV} (h : partOk p) : partOfL (partT p) = p := by
  unfold partOfL partT
  rw [cut_join first_and (by simpa using h.1)]
  · rw [List.map_map]
    have : p.map (relOfL ∘ relT) = p.map id := List.map_congr_left fun x hx => rel_back (h.2 x hx)
    rw [this, List.map_id]
  · intro q hq
    obtain ⟨x, hx, rfl⟩ := List.mem_map.1 hq
    exact rel_clean (h.2 x hx) (.inl rfl)
/-- a right rule is that of its text -/
theorem rule_back {r : List (List RelV)} (h : ruleOk r) : ruleOfL (ruleT r) = r := by
  unfold ruleOfL ruleT
  rw [cut_join first_or (by simpa using h.1)]
  · rw [List.map_map]
    have : r.map (partOfL ∘ partT) = r.map id := List.map_congr_left fun p hp => part_back (h.2 p hp)
    rw [this, List.map_id]
  · intro q hq
    obtain ⟨p, hp, rfl⟩ := List.mem_map.1 hq
    intro hc
    rcases mem_join hc with hc | ⟨y, hy, hc⟩
    · exact absurd hc (by decide)
    · obtain ⟨x, hx, rfl⟩ := List.mem_map.1 hy
      exact rel_clean ((h.2 p hp).2 x hx) (.inr rfl) hc
end Ru
end Go.Proofs.YteipadljahkgoaaDoor

/- Plain facts: how the program reads a rule's text, and that a right rule is read of its own text. Nothing of the program stands here. -/
namespace Go.Proofs.YteipadljahkgoaaDoor
namespace Ru
open D (IsNum)

theorem index_join {sep p rest : List UInt8} {k : Nat} {c : UInt8} (h : First sep k c) (hp : c ∉ p) : Lib.index (p ++ (sep ++ rest)) sep = p.length := by
  refine Lib.index_first (by simp) ?_ fun j hj => ?_
  · unfold Lib.occAt
    rw [List.drop_left]
    exact List.isPrefixOf_iff_prefix.2 ⟨_, rfl⟩
  · exact no_match h hp (.inr ⟨_, rfl⟩) hj
theorem index_no {sep p : List UInt8} {k : Nat} {c : UInt8} (h : First sep k c) (hp : c ∉ p) : Lib.index p sep = -1 := by
  refine Lib.index_none fun j hj => ?_
  unfold Lib.occAt
  rcases Nat.lt_or_ge j p.length with hlt | hge
  · have := no_match h hp (rest := []) (.inl rfl) hlt
    rwa [List.append_nil] at this
  · rw [List.drop_of_length_le hge]
    have : sep ≠ [] := fun e => by have := (List.getElem?_eq_some_iff.1 h.1).1; rw [e] at this; simp at this
    cases sep with
    | nil => exact absurd rfl this
    | cons a t => rfl
theorem first_ne {sep : List UInt8} {k : Nat} {c : UInt8} (h : First sep k c) : sep ≠ [] := fun e => by have := (List.getElem?_eq_some_iff.1 h.1).1; rw [e] at this; simp at this
theorem cut_hit {sep p rest : List UInt8} {k : Nat} {c : UInt8} (h : First sep k c) (hp : c ∉ p) : Lib.cut (p ++ (sep ++ rest)) sep = (p, rest, true) := by
  unfold Lib.cut
  rw [index_join h hp]
  rw [if_pos (by omega)]
  simp
theorem cut_no {sep p : List UInt8} {k : Nat} {c : UInt8} (h : First sep k c) (hp : c ∉ p) : Lib.cut p sep = (p, [], false) := by
  unfold Lib.cut
  rw [index_no h hp, if_neg (by omega)]
/-- a text split at a sign -/
def splitL (sep s : List UInt8) : List (List UInt8) := Lib.splitK sep 0 (Lib.count s sep) s
theorem split_join {sep : List UInt8} {k : Nat} {c : UInt8} (h : First sep k c) : ∀ {ps : List (List UInt8)}, ps ≠ [] → (∀ p ∈ ps, c ∉ p) → splitL sep (joinL sep ps) = ps
  | [], h0, _ => absurd rfl h0
  | [p], _, hc => by
    have hi := index_no h (hc p (by simp))
    unfold splitL
    show Lib.splitK sep 0 (Lib.count p sep) p = [p]
    rw [Lib.count_miss hi]
    rfl
  | p :: q :: l, _, hc => by
    have hi := index_join (rest := joinL sep (q :: l)) h (hc p (by simp))
    have hcn := Lib.count_hit (first_ne h) hi
    have ih := split_join h (ps := q :: l) (by simp) (fun x hx => hc x (by simp [hx]))
    unfold splitL at ih ⊢
    show Lib.splitK sep 0 (Lib.count (p ++ (sep ++ joinL sep (q :: l))) sep) (p ++ (sep ++ joinL sep (q :: l))) = _
    have hd : (p ++ (sep ++ joinL sep (q :: l))).drop (p.length + sep.length) = joinL sep (q :: l) := by
      rw [← List.append_assoc, ← List.length_append, List.drop_left]
    rw [hcn, hd, Nat.add_comm 1, Lib.splitK, hi]
    rw [if_neg (by simp)]
    simp only [Int.toNat_natCast, Nat.add_zero]
    rw [hd, List.take_left, ih]

/-- the number of a text, as strconv has it -/
def atoiO (s : List UInt8) : Option Int := match Lib.atoiAll s with | .ok v => some v | _ => none
theorem atoi_dg {n : Int} (h0 : 0 ≤ n) (h1 : n ≤ 1000000) : atoiO (dg n) = some n := by
  have := D.atoi_all n 0 (by omega) (by omega)
  rw [if_neg (by omega), List.nil_append] at this
  simp only [Nat.pow_zero, Nat.div_one, D.low, List.append_nil] at this
  unfold atoiO dg
  rw [show n.toNat = n.natAbs by omega, this]

def rgP (s : List UInt8) : Option (Int × Int) :=
  match atoiO (Lib.cut s [46, 46]).1, atoiO (if (Lib.cut s [46, 46]).2.2 then (Lib.cut s [46, 46]).2.1 else (Lib.cut s [46, 46]).1) with
  | some a, some b => some (a, b)
  | _, _ => none
def rgsP (s : List UInt8) : Option (List (Int × Int)) := (splitL [44] s).mapM rgP
/-- what stands left and right of a relation's sign, and whether it is turned about -/
def signP (s : List UInt8) : List UInt8 × List UInt8 × Bool :=
  if (Lib.cut s [32, 33, 61, 32]).2.2 then ((Lib.cut s [32, 33, 61, 32]).1, (Lib.cut s [32, 33, 61, 32]).2.1, true)
  else ((Lib.cut (Lib.cut s [32, 33, 61, 32]).1 [32, 61, 32]).1, (Lib.cut (Lib.cut s [32, 33, 61, 32]).1 [32, 61, 32]).2.1, false)
/-- the modulus -/
def modP (l : List UInt8) : Option Int := if (Lib.cut l [32, 37, 32]).2.2 then atoiO (Lib.cut l [32, 37, 32]).2.1 else some 0
def relP (s : List UInt8) : Option RelV :=
  match (Lib.cut (signP s).1 [32, 37, 32]).1 with
  | [c] => match modP (signP s).1, rgsP (signP s).2.1 with
    | some m, some rs => some ⟨c.toNat, m, (signP s).2.2, rs⟩
    | _, _ => none
  | _ => none
def partP (s : List UInt8) : Option (List RelV) := (splitL [32, 97, 110, 100, 32] s).mapM relP
def ruleP (s : List UInt8) : Option (List (List RelV)) := (splitL [32, 111, 114, 32] s).mapM partP

theorem mapM_back {α : Type} {f : List UInt8 → Option α} {t : α → List UInt8} : ∀ {l : List α}, (∀ x ∈ l, f (t x) = some x) → (l.map t).mapM f = some l
  | [], _ => rfl
  | x :: l, h => by
    rw [List.map_cons, List.mapM_cons, h x (by simp), mapM_back fun y hy => h y (by simp [hy])]
    rfl
theorem rgT_lt {r : Int × Int} (h : r.1 < r.2) : rgT r = dg r.1 ++ ([46, 46] ++ dg r.2) := by unfold rgT; rw [if_pos h]; rfl
theorem rgT_eq {r : Int × Int} (h : ¬ r.1 < r.2) : rgT r = dg r.1 := by unfold rgT; rw [if_neg h]
theorem rgP_back {r : Int × Int} (h : rgOk r) : rgP (rgT r) = some r := by
  obtain ⟨h0, h1, h2⟩ := h
  have n1 : (46 : UInt8) ∉ dg r.1 := dg_not (.inl (by decide))
  by_cases hlt : r.1 < r.2
  · rw [rgT_lt hlt]
    unfold rgP
    rw [cut_hit first_dots n1]
    simp only [if_true]
    rw [atoi_dg h0 (by omega), atoi_dg (by omega) h2]
  · rw [rgT_eq hlt]
    unfold rgP
    rw [cut_no first_dots n1]
    simp only [Bool.false_eq_true, if_false]
    rw [atoi_dg h0 (by omega)]
    have : r.1 = r.2 := by omega
    rw [show r = (r.1, r.2) from rfl, ← this]
theorem rgsP_back {rs : List (Int × Int)} (h0 : rs ≠ []) (h : ∀ r ∈ rs, rgOk r) : rgsP (rgsT rs) = some rs := by
  unfold rgsP rgsT
  rw [split_join (first_one 44) (by simpa using h0)]
  · exact mapM_back fun r hr => rgP_back (h r hr)
  · intro p hp hc
    obtain ⟨r, _, rfl⟩ := List.mem_map.1 hp
    rcases rg_byte hc with h | h
    · exact absurd h (by decide)
    · exact absurd h (by decide)
/-- what stands left of a relation's sign -/
def leftT (x : RelV) : List UInt8 := if 0 < x.mod then [opT x.op] ++ ([32, 37, 32] ++ dg x.mod) else [opT x.op]
def signT (b : Bool) : List UInt8 := if b then [32, 33, 61, 32] else [32, 61, 32]
theorem relT_eq (x : RelV) : relT x = leftT x ++ (signT x.nt ++ rgsT x.rs) := by
  unfold relT words leftT signT notT
  split <;> cases x.nt <;> simp [joinL]
theorem left_byte {x : RelV} {c : UInt8} (h : c ∈ leftT x) : c = opT x.op ∨ c = 32 ∨ c = 37 ∨ (48 ≤ c.toNat ∧ c.toNat ≤ 57) := by
  have hd : c ∈ dg x.mod → (48 ≤ c.toNat ∧ c.toNat ≤ 57) := dg_digs _ c
  unfold leftT at h
  split at h
  · simp only [List.mem_append, List.mem_cons, List.not_mem_nil, or_false] at h
    rcases h with h | (h | h | h) | h
    · exact .inl h
    · exact .inr (.inl h)
    · exact .inr (.inr (.inl h))
    · exact .inr (.inl h)
    · exact .inr (.inr (.inr (hd h)))
  · exact .inl (by simpa using h)
theorem left_clean {x : RelV} (h : opOk x.op) {c : UInt8} (hb : c = 33 ∨ c = 61) : c ∉ leftT x := fun hc => by
  obtain ⟨_, o2, _⟩ := op_back h
  rcases left_byte hc with e | e | e | e
  · rw [← e] at o2
    rcases hb with rfl | rfl <;> exact absurd o2 (by decide)
  all_goals rcases hb with rfl | rfl <;> exact absurd e (by decide)
theorem first_isnt : First [32, 33, 61, 32] 1 33 := ⟨rfl, fun i h => by obtain rfl : i = 0 := (by omega); decide⟩
theorem first_is : First [32, 61, 32] 1 61 := ⟨rfl, fun i h => by obtain rfl : i = 0 := (by omega); decide⟩
theorem first_mod : First [32, 37, 32] 1 37 := ⟨rfl, fun i h => by obtain rfl : i = 0 := (by omega); decide⟩
theorem sign_back {x : RelV} (h : relOk x) : signP (relT x) = (leftT x, rgsT x.rs, x.nt) := by
  rw [relT_eq]
  unfold signP
  cases hn : x.nt
  · have hno : (33 : UInt8) ∉ leftT x ++ (signT false ++ rgsT x.rs) := fun hm => by
      rcases List.mem_append.1 hm with hm | hm
      · exact left_clean h.1 (.inl rfl) hm
      · rcases List.mem_append.1 hm with hm | hm
        · exact absurd hm (by decide)
        · rcases rgs_byte hm with e | e | e <;> exact absurd e (by decide)
    rw [cut_no first_isnt hno]
    simp only [Bool.false_eq_true, if_false]
    rw [show signT false = [32, 61, 32] from rfl, cut_hit first_is (left_clean h.1 (.inr rfl))]
  · rw [show signT true = [32, 33, 61, 32] from rfl, cut_hit first_isnt (left_clean h.1 (.inl rfl))]
    simp only [if_true]
theorem rel_read {x : RelV} (h : relOk x) : relP (relT x) = some x := by
  have hs := sign_back h
  obtain ⟨h1, ⟨m0, m1⟩, h3, h4⟩ := h
  obtain ⟨o1, o2, _⟩ := op_back h1
  have ho : (37 : UInt8) ∉ [opT x.op] := fun hm => by
    have : (37 : UInt8) = opT x.op := by simpa using hm
    rw [← this] at o2
    exact absurd o2 (by decide)
  unfold relP modP
  rw [hs]
  dsimp only
  rw [rgsP_back h3 h4]
  unfold leftT
  by_cases hm : 0 < x.mod
  · rw [if_pos hm, cut_hit first_mod ho]
    simp only [if_true]
    rw [atoi_dg m0 m1]
    simp only [o1]
  · rw [if_neg hm, cut_no first_mod ho]
    simp only [Bool.false_eq_true, if_false]
    rw [o1, show (0 : Int) = x.mod by omega]
theorem part_read {p : List RelV} (h : partOk p) : partP (partT p) = some p := by
  unfold partP partT
  rw [split_join first_and (by simpa using h.1)]
  · exact mapM_back fun x hx => rel_read (h.2 x hx)
  · intro q hq
    obtain ⟨x, hx, rfl⟩ := List.mem_map.1 hq
    exact rel_clean (h.2 x hx) (.inl rfl)
/-- a right rule is read of its text -/
theorem rule_read {r : List (List RelV)} (h : ruleOk r) : ruleP (ruleT r) = some r := by
  unfold ruleP ruleT
  rw [split_join first_or (by simpa using h.1)]
  · exact mapM_back fun p hp => part_read (h.2 p hp)
  · intro q hq
    obtain ⟨p, hp, rfl⟩ := List.mem_map.1 hq
    intro hc
    rcases mem_join hc with hc | ⟨y, hy, hc⟩
    · exact absurd hc (by decide)
    · obtain ⟨x, hx, rfl⟩ := List.mem_map.1 hy
      exact rel_clean ((h.2 p hp).2 x hx) (.inr rfl) hc
/-- is a text one's? -/
def IsRule (s : List UInt8) (r : List (List RelV)) : Prop := ruleF r = 0 ∧ ruleT r = s
theorem IsRule.read {s : List UInt8} {r : List (List RelV)} (h : IsRule s r) : ruleP s = some r := by rw [← h.2]; exact rule_read (ruleF_zero.1 h.1).1
theorem IsRule.one {s : List UInt8} {r q : List (List RelV)} (h : IsRule s r) (h' : IsRule s q) : r = q := by
  have := h.read
  rw [h'.read] at this
  injection this with this
  exact this.symm
end Ru
end Go.Proofs.YteipadljahkgoaaDoor

/- Plain facts on texts that are split: how many pieces, how long each; reading each of them. Nothing of the program stands here. -/
namespace Go.Proofs.YteipadljahkgoaaDoor
namespace Ru

theorem splitK_le (sep : List UInt8) : ∀ (k : Nat) (s p : List UInt8), p ∈ Lib.splitK sep 0 k s → p.length ≤ s.length
  | 0, s, p, h => by
    have : p = s := by simpa [Lib.splitK] using h
    rw [this]; exact Nat.le_refl _
  | k + 1, s, p, h => by
    unfold Lib.splitK at h
    split at h
    · have : p = s := by simpa using h
      rw [this]; exact Nat.le_refl _
    · rcases List.mem_cons.1 h with rfl | h
      · rw [List.length_take]; omega
      · have := splitK_le sep k _ p h
        rw [List.length_drop] at this
        omega
theorem split_le (sep s p : List UInt8) (h : p ∈ splitL sep s) : p.length ≤ s.length := splitK_le sep _ s p h
theorem splitK_many (sep : List UInt8) : ∀ (k : Nat) (s : List UInt8), (Lib.splitK sep 0 k s).length ≤ k + 1
  | 0, s => by simp [Lib.splitK]
  | k + 1, s => by
    unfold Lib.splitK
    split
    · simp
    · have := splitK_many sep k (s.drop ((Lib.index s sep).toNat + sep.length))
      simp only [List.length_cons]
      omega
theorem split_many (sep s : List UInt8) : (splitL sep s).length ≤ s.length + 2 := by
  have h1 := splitK_many sep (Lib.count s sep) s
  have h2 := Lib.count_le s sep
  unfold splitL
  omega
theorem mapM_stop {α : Type} {f : List UInt8 → Option α} : ∀ {l : List (List UInt8)} {p : List UInt8}, p ∈ l → f p = none → l.mapM f = none
  | x :: l, p, hm, hp => by
    rw [List.mapM_cons]
    rcases List.mem_cons.1 hm with rfl | hm
    · rw [hp]; rfl
    · rw [mapM_stop hm hp]
      cases f x <;> rfl
theorem mapM_snoc {α : Type} {f : List UInt8 → Option α} {p : List UInt8} {x : α} : ∀ {l : List (List UInt8)} {d : List α}, l.mapM f = some d → f p = some x → (l ++ [p]).mapM f = some (d ++ [x])
  | [], d, h, hp => by
    have : d = [] := by simpa using h.symm
    subst this
    simp [hp]
  | y :: l, d, h, hp => by
    rw [List.mapM_cons] at h
    rw [List.cons_append, List.mapM_cons]
    cases hy : f y with
    | none => rw [hy] at h; cases h
    | some a =>
      rw [hy] at h
      cases hl : l.mapM f with
      | none => rw [hl] at h; cases h
      | some b =>
        rw [hl] at h
        have : d = a :: b := by simpa using h.symm
        subst this
        rw [mapM_snoc hl hp]
        rfl
theorem cutF_le (sep : List UInt8) : ∀ (n : Nat) (acc r p : List UInt8), p ∈ cutF sep n acc r → p.length ≤ acc.length + r.length
  | 0, acc, r, p, h => by
    have : p = acc ++ r := by simpa [cutF] using h
    rw [this, List.length_append]; exact Nat.le_refl _
  | n + 1, acc, r, p, h => by
    unfold cutF at h
    split at h
    · rcases List.mem_cons.1 h with rfl | h
      · omega
      · have := cutF_le sep n [] _ p h
        rw [List.length_drop] at this
        simp only [List.length_nil] at this
        omega
    · cases r with
      | nil =>
        have : p = acc := by simpa using h
        rw [this]; simp
      | cons c r' =>
        have := cutF_le sep n _ r' p h
        simp only [List.length_append, List.length_cons, List.length_nil] at this ⊢
        omega
theorem cut_le_all (sep s p : List UInt8) (h : p ∈ cutL sep s) : p.length ≤ s.length := by
  have := cutF_le sep _ [] s p h
  simpa using this
theorem cutF_many (sep : List UInt8) (h0 : sep ≠ []) : ∀ (n : Nat) (acc r : List UInt8), (cutF sep n acc r).length ≤ r.length + 1
  | 0, acc, r => by simp [cutF]
  | n + 1, acc, r => by
    unfold cutF
    split
    · rename_i hp
      have h1 := (List.isPrefixOf_iff_prefix.1 hp).length_le
      have h2 : 0 < sep.length := List.length_pos_iff.2 h0
      have := cutF_many sep h0 n [] (r.drop sep.length)
      rw [List.length_drop] at this
      simp only [List.length_cons]
      omega
    · cases r with
      | nil => simp
      | cons c r' =>
        have := cutF_many sep h0 n (acc ++ [c]) r'
        simp only [List.length_cons]
        omega
theorem cut_many (sep s : List UInt8) (h0 : sep ≠ []) : (cutL sep s).length ≤ s.length + 1 := cutF_many sep h0 _ _ s
theorem cut_ne (sep s : List UInt8) : cutL sep s ≠ [] := cutF_ne sep _ _ s
end Ru
end Go.Proofs.YteipadljahkgoaaDoor
