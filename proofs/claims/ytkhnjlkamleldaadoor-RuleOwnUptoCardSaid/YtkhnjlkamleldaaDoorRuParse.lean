/- Plain facts: how the program reads a rule's text, and that a right rule is read of its own text. Nothing of the program stands here. -/
import Derived.Test.YtkhnjlkamleldaaDoorRuMath
import Derived.Lib.CountLaws
import Derived.Lib.CutLaws
import Derived.Lib.Split
import Derived.Lib.AtoiAllCases
namespace Go.Proofs.YtkhnjlkamleldaaDoor
namespace Ru
open D (IsNum)

theorem index_join {sep p rest : List UInt8} {k : Nat} {c : UInt8} (h : First sep k c) (hp : c ∉ p) : Lib.index (p ++ (sep ++ rest)) sep = p.length := by
  refine Lib.index_first (by simp) ?_ fun j hj => ?_
  · unfold Lib.occAt
    rw [List.drop_left]
    exact List.isPrefixOf_iff_prefix.2 ⟨_, rfl⟩
  · exact no_match h hp (.inr ⟨_, rfl⟩) hj
theorem index_no {sep p : List UInt8} {k : Nat} {c : UInt8} (h : First sep k c) (hp : c ∉ p) : Lib.index p sep = -1 := by
  refine Lib.index_none fun j hj => ?_
  unfold Lib.occAt
  rcases Nat.lt_or_ge j p.length with hlt | hge
  · have := no_match h hp (rest := []) (.inl rfl) hlt
    rwa [List.append_nil] at this
  · rw [List.drop_of_length_le hge]
    have : sep ≠ [] := fun e => by have := (List.getElem?_eq_some_iff.1 h.1).1; rw [e] at this; simp at this
    cases sep with
    | nil => exact absurd rfl this
    | cons a t => rfl
theorem first_ne {sep : List UInt8} {k : Nat} {c : UInt8} (h : First sep k c) : sep ≠ [] := fun e => by have := (List.getElem?_eq_some_iff.1 h.1).1; rw [e] at this; simp at this
theorem cut_hit {sep p rest : List UInt8} {k : Nat} {c : UInt8} (h : First sep k c) (hp : c ∉ p) : Lib.cut (p ++ (sep ++ rest)) sep = (p, rest, true) := by
  unfold Lib.cut
  rw [index_join h hp]
  rw [if_pos (by omega)]
  simp
theorem cut_no {sep p : List UInt8} {k : Nat} {c : UInt8} (h : First sep k c) (hp : c ∉ p) : Lib.cut p sep = (p, [], false) := by
  unfold Lib.cut
  rw [index_no h hp, if_neg (by omega)]
/-- a text split at a sign -/
def splitL (sep s : List UInt8) : List (List UInt8) := Lib.splitK sep 0 (Lib.count s sep) s
theorem split_join {sep : List UInt8} {k : Nat} {c : UInt8} (h : First sep k c) : ∀ {ps : List (List UInt8)}, ps ≠ [] → (∀ p ∈ ps, c ∉ p) → splitL sep (joinL sep ps) = ps
  | [], h0, _ => absurd rfl h0
  | [p], _, hc => by
    have hi := index_no h (hc p (by simp))
    unfold splitL
    show Lib.splitK sep 0 (Lib.count p sep) p = [p]
    rw [Lib.count_miss hi]
    rfl
  | p :: q :: l, _, hc => by
    have hi := index_join (rest := joinL sep (q :: l)) h (hc p (by simp))
    have hcn := Lib.count_hit (first_ne h) hi
    have ih := split_join h (ps := q :: l) (by simp) (fun x hx => hc x (by simp [hx]))
    unfold splitL at ih ⊢
    show Lib.splitK sep 0 (Lib.count (p ++ (sep ++ joinL sep (q :: l))) sep) (p ++ (sep ++ joinL sep (q :: l))) = _
    have hd : (p ++ (sep ++ joinL sep (q :: l))).drop (p.length + sep.length) = joinL sep (q :: l) := by
      rw [← List.append_assoc, ← List.length_append, List.drop_left]
    rw [hcn, hd, Nat.add_comm 1, Lib.splitK, hi]
    rw [if_neg (by simp)]
    simp only [Int.toNat_natCast, Nat.add_zero]
    rw [hd, List.take_left, ih]

/-- the number of a text, as strconv has it -/
def atoiO (s : List UInt8) : Option Int := match Lib.atoiAll s with | .ok v => some v | _ => none
theorem atoi_dg {n : Int} (h0 : 0 ≤ n) (h1 : n ≤ 1000000) : atoiO (dg n) = some n := by
  have := D.atoi_all n 0 (by omega) (by omega)
  rw [if_neg (by omega), List.nil_append] at this
  simp only [Nat.pow_zero, Nat.div_one, D.low, List.append_nil] at this
  unfold atoiO dg
  rw [show n.toNat = n.natAbs by omega, this]

def rgP (s : List UInt8) : Option (Int × Int) :=
  match atoiO (Lib.cut s [46, 46]).1, atoiO (if (Lib.cut s [46, 46]).2.2 then (Lib.cut s [46, 46]).2.1 else (Lib.cut s [46, 46]).1) with
  | some a, some b => some (a, b)
  | _, _ => none
def rgsP (s : List UInt8) : Option (List (Int × Int)) := (splitL [44] s).mapM rgP
/-- what stands left and right of a relation's sign, and whether it is turned about -/
def signP (s : List UInt8) : List UInt8 × List UInt8 × Bool :=
  if (Lib.cut s [32, 33, 61, 32]).2.2 then ((Lib.cut s [32, 33, 61, 32]).1, (Lib.cut s [32, 33, 61, 32]).2.1, true)
  else ((Lib.cut (Lib.cut s [32, 33, 61, 32]).1 [32, 61, 32]).1, (Lib.cut (Lib.cut s [32, 33, 61, 32]).1 [32, 61, 32]).2.1, false)
/-- the modulus -/
def modP (l : List UInt8) : Option Int := if (Lib.cut l [32, 37, 32]).2.2 then atoiO (Lib.cut l [32, 37, 32]).2.1 else some 0
def relP (s : List UInt8) : Option RelV :=
  match (Lib.cut (signP s).1 [32, 37, 32]).1 with
  | [c] => match modP (signP s).1, rgsP (signP s).2.1 with
    | some m, some rs => some ⟨c.toNat, m, (signP s).2.2, rs⟩
    | _, _ => none
  | _ => none
def partP (s : List UInt8) : Option (List RelV) := (splitL [32, 97, 110, 100, 32] s).mapM relP
def ruleP (s : List UInt8) : Option (List (List RelV)) := (splitL [32, 111, 114, 32] s).mapM partP

theorem mapM_back {α : Type} {f : List UInt8 → Option α} {t : α → List UInt8} : ∀ {l : List α}, (∀ x ∈ l, f (t x) = some x) → (l.map t).mapM f = some l
  | [], _ => rfl
  | x :: l, h => by
    rw [List.map_cons, List.mapM_cons, h x (by simp), mapM_back fun y hy => h y (by simp [hy])]
    rfl
theorem rgT_lt {r : Int × Int} (h : r.1 < r.2) : rgT r = dg r.1 ++ ([46, 46] ++ dg r.2) := by unfold rgT; rw [if_pos h]; rfl
theorem rgT_eq {r : Int × Int} (h : ¬ r.1 < r.2) : rgT r = dg r.1 := by unfold rgT; rw [if_neg h]
theorem rgP_back {r : Int × Int} (h : rgOk r) : rgP (rgT r) = some r := by
  obtain ⟨h0, h1, h2⟩ := h
  have n1 : (46 : UInt8) ∉ dg r.1 := dg_not (.inl (by decide))
  by_cases hlt : r.1 < r.2
  · rw [rgT_lt hlt]
    unfold rgP
    rw [cut_hit first_dots n1]
    simp only [if_true]
    rw [atoi_dg h0 (by omega), atoi_dg (by omega) h2]
  · rw [rgT_eq hlt]
    unfold rgP
    rw [cut_no first_dots n1]
    simp only [Bool.false_eq_true, if_false]
    rw [atoi_dg h0 (by omega)]
    have : r.1 = r.2 := by omega
    rw [show r = (r.1, r.2) from rfl, ← this]
theorem rgsP_back {rs : List (Int × Int)} (h0 : rs ≠ []) (h : ∀ r ∈ rs, rgOk r) : rgsP (rgsT rs) = some rs := by
  unfold rgsP rgsT
  rw [split_join (first_one 44) (by simpa using h0)]
  · exact mapM_back fun r hr => rgP_back (h r hr)
  · intro p hp hc
    obtain ⟨r, _, rfl⟩ := List.mem_map.1 hp
    rcases rg_byte hc with h | h
    · exact absurd h (by decide)
    · exact absurd h (by decide)
/-- what stands left of a relation's sign -/
def leftT (x : RelV) : List UInt8 := if 0 < x.mod then [opT x.op] ++ ([32, 37, 32] ++ dg x.mod) else [opT x.op]
def signT (b : Bool) : List UInt8 := if b then [32, 33, 61, 32] else [32, 61, 32]
theorem relT_eq (x : RelV) : relT x = leftT x ++ (signT x.nt ++ rgsT x.rs) := by
  unfold relT words leftT signT notT
  split <;> cases x.nt <;> simp [joinL]
theorem left_byte {x : RelV} {c : UInt8} (h : c ∈ leftT x) : c = opT x.op ∨ c = 32 ∨ c = 37 ∨ (48 ≤ c.toNat ∧ c.toNat ≤ 57) := by
  have hd : c ∈ dg x.mod → (48 ≤ c.toNat ∧ c.toNat ≤ 57) := dg_digs _ c
  unfold leftT at h
  split at h
  · simp only [List.mem_append, List.mem_cons, List.not_mem_nil, or_false] at h
    rcases h with h | (h | h | h) | h
    · exact .inl h
    · exact .inr (.inl h)
    · exact .inr (.inr (.inl h))
    · exact .inr (.inl h)
    · exact .inr (.inr (.inr (hd h)))
  · exact .inl (by simpa using h)
theorem left_clean {x : RelV} (h : opOk x.op) {c : UInt8} (hb : c = 33 ∨ c = 61) : c ∉ leftT x := fun hc => by
  obtain ⟨_, o2, _⟩ := op_back h
  rcases left_byte hc with e | e | e | e
  · rw [← e] at o2
    rcases hb with rfl | rfl <;> exact absurd o2 (by decide)
  all_goals rcases hb with rfl | rfl <;> exact absurd e (by decide)
theorem first_isnt : First [32, 33, 61, 32] 1 33 := ⟨rfl, fun i h => by obtain rfl : i = 0 := (by omega); decide⟩
theorem first_is : First [32, 61, 32] 1 61 := ⟨rfl, fun i h => by obtain rfl : i = 0 := (by omega); decide⟩
theorem first_mod : First [32, 37, 32] 1 37 := ⟨rfl, fun i h => by obtain rfl : i = 0 := (by omega); decide⟩
theorem sign_back {x : RelV} (h : relOk x) : signP (relT x) = (leftT x, rgsT x.rs, x.nt) := by
  rw [relT_eq]
  unfold signP
  cases hn : x.nt
  · have hno : (33 : UInt8) ∉ leftT x ++ (signT false ++ rgsT x.rs) := fun hm => by
      rcases List.mem_append.1 hm with hm | hm
      · exact left_clean h.1 (.inl rfl) hm
      · rcases List.mem_append.1 hm with hm | hm
        · exact absurd hm (by decide)
        · rcases rgs_byte hm with e | e | e <;> exact absurd e (by decide)
    rw [cut_no first_isnt hno]
    simp only [Bool.false_eq_true, if_false]
    rw [show signT false = [32, 61, 32] from rfl, cut_hit first_is (left_clean h.1 (.inr rfl))]
  · rw [show signT true = [32, 33, 61, 32] from rfl, cut_hit first_isnt (left_clean h.1 (.inl rfl))]
    simp only [if_true]
theorem rel_read {x : RelV} (h : relOk x) : relP (relT x) = some x := by
  have hs := sign_back h
  obtain ⟨h1, ⟨m0, m1⟩, h3, h4⟩ := h
  obtain ⟨o1, o2, _⟩ := op_back h1
  have ho : (37 : UInt8) ∉ [opT x.op] := fun hm => by
    have : (37 : UInt8) = opT x.op := by simpa using hm
    rw [← this] at o2
    exact absurd o2 (by decide)
  unfold relP modP
  rw [hs]
  dsimp only
  rw [rgsP_back h3 h4]
  unfold leftT
  by_cases hm : 0 < x.mod
  · rw [if_pos hm, cut_hit first_mod ho]
    simp only [if_true]
    rw [atoi_dg m0 m1]
    simp only [o1]
  · rw [if_neg hm, cut_no first_mod ho]
    simp only [Bool.false_eq_true, if_false]
    rw [o1, show (0 : Int) = x.mod by omega]
theorem part_read {p : List RelV} (h : partOk p) : partP (partT p) = some p := by
  unfold partP partT
  rw [split_join first_and (by simpa using h.1)]
  · exact mapM_back fun x hx => rel_read (h.2 x hx)
  · intro q hq
    obtain ⟨x, hx, rfl⟩ := List.mem_map.1 hq
    exact rel_clean (h.2 x hx) (.inl rfl)
/-- a right rule is read of its text -/
theorem rule_read {r : List (List RelV)} (h : ruleOk r) : ruleP (ruleT r) = some r := by
  unfold ruleP ruleT
  rw [split_join first_or (by simpa using h.1)]
  · exact mapM_back fun p hp => part_read (h.2 p hp)
  · intro q hq
    obtain ⟨p, hp, rfl⟩ := List.mem_map.1 hq
    intro hc
    rcases mem_join hc with hc | ⟨y, hy, hc⟩
    · exact absurd hc (by decide)
    · obtain ⟨x, hx, rfl⟩ := List.mem_map.1 hy
      exact rel_clean ((h.2 p hp).2 x hx) (.inr rfl) hc
/-- is a text one's? -/
def IsRule (s : List UInt8) (r : List (List RelV)) : Prop := ruleF r = 0 ∧ ruleT r = s
theorem IsRule.read {s : List UInt8} {r : List (List RelV)} (h : IsRule s r) : ruleP s = some r := by rw [← h.2]; exact rule_read (ruleF_zero.1 h.1).1
theorem IsRule.one {s : List UInt8} {r q : List (List RelV)} (h : IsRule s r) (h' : IsRule s q) : r = q := by
  have := h.read
  rw [h'.read] at this
  injection this with this
  exact this.symm
end Ru
end Go.Proofs.YtkhnjlkamleldaaDoor
