/- Plain facts on texts as lists of bytes: which letters a part of a language tag may have, and the fault of a tag. Nothing of the program stands here. -/
namespace Go.Proofs.YtdckmekfggigjaaDoor
namespace P

abbrev Bs := List UInt8

def low (c : UInt8) : Bool := decide (97 ≤ c.toNat) && decide (c.toNat ≤ 122)
def upp (c : UInt8) : Bool := decide (65 ≤ c.toNat) && decide (c.toNat ≤ 90)
def dig (c : UInt8) : Bool := decide (48 ≤ c.toNat) && decide (c.toNat ≤ 57)
def lowdig (c : UInt8) : Bool := low c || dig c

/-- so many bytes, each of a set -/
def fillsB (p : UInt8 → Bool) (l : Bs) (lo hi : Nat) : Bool := decide (lo ≤ l.length) && decide (l.length ≤ hi) && l.all p

def langB (l : Bs) : Bool := fillsB low l 2 3
def scriptB (l : Bs) : Bool := decide (l.length = 4) && (l.take 1).all upp && fillsB low (l.drop 1) 3 3
def regionB (l : Bs) : Bool := fillsB upp l 2 2 || fillsB dig l 3 3
def variantB (l : Bs) : Bool := fillsB lowdig l 5 8

/-- a letter made small, made great -/
def lowc (c : UInt8) : UInt8 := if upp c then c + 32 else c
def uppc (c : UInt8) : UInt8 := if low c then c - 32 else c
theorem lowc_yes {c : UInt8} (h : upp c = true) : (lowc c).toNat = c.toNat + 32 := by
  unfold lowc; rw [if_pos h]
  unfold upp at h
  simp at h
  rw [UInt8.toNat_add]
  show (c.toNat + 32) % 256 = _
  omega
theorem lowc_no {c : UInt8} (h : upp c = false) : lowc c = c := by unfold lowc; rw [h]; rfl
theorem uppc_yes {c : UInt8} (h : low c = true) : (uppc c).toNat = c.toNat - 32 := by
  unfold uppc; rw [if_pos h]
  unfold low at h
  simp at h
  have h32 : (32 : UInt8).toNat = 32 := rfl
  rw [UInt8.toNat_sub_of_le _ _ (by rw [UInt8.le_iff_toNat_le, h32]; omega), h32]
theorem uppc_no {c : UInt8} (h : low c = false) : uppc c = c := by unfold uppc; rw [h]; rfl
/-- the first k letters turned -/
def turned (f : UInt8 → UInt8) (k : Nat) (l : Bs) : Bs := (l.take k).map f ++ l.drop k
theorem turned_length (f : UInt8 → UInt8) (k : Nat) (l : Bs) : (turned f k l).length = l.length := by
  unfold turned; simp; omega
theorem turned_zero (f : UInt8 → UInt8) (l : Bs) : turned f 0 l = l := by simp [turned]
theorem turned_all (f : UInt8 → UInt8) (k : Nat) (l : Bs) (h : l.length ≤ k) : turned f k l = l.map f := by
  unfold turned; rw [List.take_of_length_le h, List.drop_eq_nil_of_le h]; simp
theorem turned_take (f : UInt8 → UInt8) (k : Nat) (l : Bs) (h : k < l.length) : ((l.take k).map f).length = k := by
  rw [List.length_map, List.length_take]; omega
theorem turned_at (f : UInt8 → UInt8) (k : Nat) (l : Bs) (h : k < l.length) : (turned f k l)[k]'(by rw [turned_length]; exact h) = l[k] := by
  have ht := turned_take f k l h
  unfold turned
  rw [List.getElem_append_right (by omega), List.getElem_drop]
  congr 1
  omega
theorem turned_succ (f : UInt8 → UInt8) (k : Nat) (l : Bs) (h : k < l.length) : turned f (k + 1) l = (turned f k l).set k (f l[k]) := by
  have ht := turned_take f k l h
  unfold turned
  rw [List.set_append_right _ _ (by omega), ht, Nat.sub_self, List.drop_eq_getElem_cons h, List.take_succ_eq_append_getElem h, List.map_append, List.set_cons_zero, List.append_assoc]
  rfl
theorem turned_same (f : UInt8 → UInt8) (k : Nat) (l : Bs) (h : k < l.length) (hf : f l[k] = l[k]) : turned f (k + 1) l = turned f k l := by
  rw [turned_succ f k l h, hf]
  apply List.ext_getElem (by simp)
  intro i h1 h2
  rw [List.getElem_set]
  split
  · rename_i hi
    subst hi
    exact (turned_at f k l h).symm
  · rfl

/-- a tag: language, script, region, variants -/
structure Tg where
  lang : Bs
  script : Bs
  region : Bs
  vars : List Bs

/-- the first fault among variants, where some came ahead -/
def vfault (seen : List Bs) : List Bs → Option Nat
  | [] => none
  | v :: r => if variantB v = false then some 3 else if seen.contains v then some 5 else vfault (seen ++ [v]) r

def vars (vs : List Bs) : Nat := match vfault [] vs with
  | some e => e
  | none => if 3 < vs.length then 4 else 0

def fault (t : Tg) : Nat :=
  if langB t.lang = false then 3
  else if t.script ≠ [] ∧ scriptB t.script = false then 3
  else if t.region ≠ [] ∧ regionB t.region = false then 3
  else vars t.vars

/-- the parts of a tag that are there -/
def parts (t : Tg) : List Bs := ([t.lang, t.script, t.region] ++ t.vars).filter fun p => !p.isEmpty

end P
end Go.Proofs.YtdckmekfggigjaaDoor
