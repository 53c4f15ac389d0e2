/- Words for rules in memory: rows of ranges, of relations, of parts, that may be read. Nothing of the program stands here. And what follows from it. -/
import Derived.Test.YteedhnpdffnfjaaGreatDoorWords
import Derived.Test.YteedhnpdffnfjaaGreatDoorRuPlain
import Derived.Test.YteedhnpdffnfjaaGreatDoorProg
import Derived.Test.YteedhnpdffnfjaaGreatDoorBoxes
import Derived.WalkKit
import Derived.WalkSpells
import Derived.Outline
import Derived.IntWalk
import Derived.RegionTactic
import Derived.Deep.QuietTactic
import Derived.Deep.RegionHeld3
import Derived.Deep.DeepCutAuto
import Derived.Deep.DrawnRows
import Derived.Test.YteedhnpdffnfjaaGreatDoorGround
namespace Go.Proofs.YteedhnpdffnfjaaGreatDoor
open Go.RowKit
namespace Ru

/-- rows of things of so many cells each -/
theorem flat_length {α β : Type} (f : α → List β) {k : Nat} (hk : ∀ x, (f x).length = k) : ∀ xs : List α, (xs.flatMap f).length = xs.length * k
  | [] => by simp
  | x :: xs => by rw [List.flatMap_cons, List.length_append, hk, flat_length f hk xs, List.length_cons, Nat.add_mul]; omega
theorem flat_get {α β : Type} (f : α → List β) {k : Nat} (hk : ∀ x, (f x).length = k) : ∀ (xs : List α) (i : Nat) (x : α), xs[i]? = some x → ∀ j, j < k → (xs.flatMap f)[i * k + j]? = (f x)[j]?
  | [], i, x, h, j, hj => by simp at h
  | y :: ys, 0, x, h, j, hj => by
    simp at h; subst h
    rw [List.flatMap_cons, List.getElem?_append_left (by rw [hk]; omega)]; simp
  | y :: ys, i + 1, x, h, j, hj => by
    simp at h
    rw [List.flatMap_cons, List.getElem?_append_right (by rw [hk, Nat.add_mul]; omega)]
    have e : (i + 1) * k + j - (f y).length = i * k + j := by rw [hk, Nat.add_mul]; omega
    rw [e]
    exact flat_get f hk ys i x h j hj
theorem flat_drop {α β : Type} (f : α → List β) {k : Nat} (hk : ∀ x, (f x).length = k) : ∀ (xs : List α) (i : Nat), (xs.flatMap f).drop (i * k) = (xs.drop i).flatMap f
  | [], i => by simp
  | y :: ys, 0 => by simp
  | y :: ys, i + 1 => by
    rw [List.drop_succ_cons, List.flatMap_cons, ← flat_drop f hk ys i, show (i + 1) * k = (f y).length + i * k by rw [hk, Nat.add_mul]; omega, List.drop_append]
    simp
theorem flat_take {α β : Type} (f : α → List β) {k : Nat} (hk : ∀ x, (f x).length = k) : ∀ (xs : List α) (i : Nat), (xs.flatMap f).take (i * k) = (xs.take i).flatMap f
  | [], i => by simp
  | y :: ys, 0 => by simp
  | y :: ys, i + 1 => by
    rw [List.take_succ_cons, List.flatMap_cons, List.flatMap_cons, ← flat_take f hk ys i, show (i + 1) * k = (f y).length + i * k by rw [hk, Nat.add_mul]; omega, List.take_length_add_append]
theorem add_pos (a : Addr) (j : Nat) (hj : j ≠ 0) : a.add j = ⟨a.block, a.off + j, none⟩ := by unfold Addr.add; rw [if_neg hj]
/-- a slice's beginning -/
theorem reads_head {w : World} {B size n : Nat} {A : Option Addr} {xs : List Value} (h : Reads w B size A n xs) {k : Nat} (hk : k ≤ n) : Reads w B size A k (xs.take (k * size)) := by
  refine ⟨by rw [List.length_take, h.1]; exact Nat.min_eq_left (Nat.mul_le_mul_right _ hk), fun hn => ?_⟩
  obtain ⟨ad, e, hb, hc⟩ := h.2 (by omega)
  refine ⟨ad, e, hb, fun j u hu => hc j u ?_⟩
  rw [List.getElem?_take] at hu
  split at hu
  · exact hu
  · cases hu

/-- a relation in a row: what it is, where its ranges lie -/
structure RelX where
  v : RelV
  A : Option Addr
  c : Nat
instance : Inhabited RelX := ⟨⟨zero, none, 0⟩⟩
abbrev RelX.rgs (x : RelX) : Value := .slice x.A x.v.rs.length x.c
abbrev RelX.cells (x : RelX) : List Value := [.int .u8 x.v.op, .int .i64 x.v.mod, .bool x.v.nt, x.rgs]
abbrev RelX.val (x : RelX) : Value := .agg #[.int .u8 x.v.op, .int .i64 x.v.mod, .bool x.v.nt, x.rgs]
abbrev rgCell (r : Int × Int) : List Value := [.int .i64 r.1, .int .i64 r.2]
def rgC (rs : List (Int × Int)) : List Value := rs.flatMap rgCell
def relC (xs : List RelX) : List Value := xs.flatMap RelX.cells
/-- a part in a row -/
structure PartX where
  A : Option Addr
  c : Nat
  xs : List RelX
instance : Inhabited PartX := ⟨⟨none, 0, []⟩⟩
abbrev PartX.val (p : PartX) : Value := .slice p.A p.xs.length p.c
def partC (ps : List PartX) : List Value := ps.map PartX.val
def relsV (xs : List RelX) : List RelV := xs.map RelX.v
def ruleV (ps : List PartX) : List (List RelV) := ps.map fun p => relsV p.xs
/-- a row of ranges that may be read -/
def RgsAt (w : World) (B : Nat) (A : Option Addr) (n : Nat) (rs : List (Int × Int)) : Prop := Reads w B 2 A n (rgC rs)
/-- a row of relations that may be read -/
structure RelsAt (w : World) (B : Nat) (A : Option Addr) (n : Nat) (xs : List RelX) : Prop where
  len : xs.length = n
  row : Reads w B 4 A n (relC xs)
  rgs : ∀ x ∈ xs, x.v.rs.length ≤ x.c ∧ RgsAt w B x.A x.v.rs.length x.v.rs
structure RuleAt (w : World) (B : Nat) (A : Option Addr) (n : Nat) (ps : List PartX) : Prop where
  len : ps.length = n
  row : Reads w B 1 A n (partC ps)
  parts : ∀ p ∈ ps, p.xs.length ≤ p.c ∧ RelsAt w B p.A p.xs.length p.xs
section
variable {w w' : World} {B B' n : Nat} {A : Option Addr} {rs : List (Int × Int)} {xs : List RelX} {ps : List PartX}
theorem RelsAt.below (h : RelsAt w B A n xs) (hb : Below B w w') : RelsAt w' B A n xs := ⟨h.len, h.row.below hb, fun x hx => ⟨(h.rgs x hx).1, (h.rgs x hx).2.below hb⟩⟩
theorem RelsAt.more (h : RelsAt w B A n xs) (hB : B ≤ B') : RelsAt w B' A n xs := ⟨h.len, h.row.more hB, fun x hx => ⟨(h.rgs x hx).1, (h.rgs x hx).2.more hB⟩⟩
theorem RuleAt.below (h : RuleAt w B A n ps) (hb : Below B w w') : RuleAt w' B A n ps := ⟨h.len, h.row.below hb, fun p hp => ⟨(h.parts p hp).1, (h.parts p hp).2.below hb⟩⟩
theorem RuleAt.more (h : RuleAt w B A n ps) (hB : B ≤ B') : RuleAt w B' A n ps := ⟨h.len, h.row.more hB, fun p hp => ⟨(h.parts p hp).1, (h.parts p hp).2.more hB⟩⟩
theorem RuleAt.later (h : RuleAt w w.heap.size A n ps) (hb : Below w.heap.size w w') : RuleAt w' w'.heap.size A n ps := (h.below hb).more hb.size
theorem RelsAt.later (h : RelsAt w w.heap.size A n xs) (hb : Below w.heap.size w w') : RelsAt w' w'.heap.size A n xs := (h.below hb).more hb.size
theorem rg_at (h : RgsAt w B A n rs) {i : Nat} (hi : i < rs.length) : ∃ ad, A = some ad ∧ ad.block < B ∧ w.cell? (ad.add (i * 2)) = some (.int .i64 rs[i].1) ∧ w.cell? (ad.add (i * 2 + 1)) = some (.int .i64 rs[i].2) := by
  have hn : rs.length * 2 = n * 2 := by have := h.1; rw [rgC, flat_length rgCell (k := 2) (fun _ => rfl)] at this; exact this
  obtain ⟨ad, e, hb, hc⟩ := h.2 (by omega)
  have hg := flat_get rgCell (k := 2) (fun _ => rfl) rs i rs[i] (List.getElem?_eq_getElem hi)
  exact ⟨ad, e, hb, hc _ _ (by have := hg 0 (by omega); simpa [rgC] using this), hc _ _ (by have := hg 1 (by omega); simpa [rgC] using this)⟩
theorem RelsAt.at_ (h : RelsAt w B A n xs) {i : Nat} {x : RelX} (hx : xs[i]? = some x) : ∃ ad, A = some ad ∧ ad.block < B ∧
    w.cell? (ad.add (i * 4)) = some (.int .u8 x.v.op) ∧ w.cell? (ad.add (i * 4 + 1)) = some (.int .i64 x.v.mod) ∧ w.cell? (ad.add (i * 4 + 2)) = some (.bool x.v.nt) ∧ w.cell? (ad.add (i * 4 + 3)) = some x.rgs ∧
    x.v.rs.length ≤ x.c ∧ RgsAt w B x.A x.v.rs.length x.v.rs := by
  have hi : i < xs.length := (List.getElem?_eq_some_iff.1 hx).1
  obtain ⟨ad, e, hb, hc⟩ := h.row.2 (by have := h.len; omega)
  have hv := h.rgs x (List.mem_of_getElem? hx)
  have hg := flat_get RelX.cells (k := 4) (fun _ => rfl) xs i x hx
  exact ⟨ad, e, hb, hc _ _ (by have := hg 0 (by omega); simpa [relC] using this), hc _ _ (by have := hg 1 (by omega); simpa [relC] using this), hc _ _ (by have := hg 2 (by omega); simpa [relC] using this), hc _ _ (by have := hg 3 (by omega); simpa [relC] using this), hv.1, hv.2⟩
theorem RuleAt.at_ (h : RuleAt w B A n ps) {i : Nat} {p : PartX} (hp : ps[i]? = some p) : ∃ ad, A = some ad ∧ ad.block < B ∧ w.cell? (ad.add i) = some p.val ∧ p.xs.length ≤ p.c ∧ RelsAt w B p.A p.xs.length p.xs := by
  have hi : i < ps.length := (List.getElem?_eq_some_iff.1 hp).1
  obtain ⟨ad, e, hb, hc⟩ := h.row.2 (by have := h.len; omega)
  have hv := h.parts p (List.mem_of_getElem? hp)
  exact ⟨ad, e, hb, hc i _ (by simp [partC, hp]), hv.1, hv.2⟩
/-- a piece of a row of relations, of a rule -/
theorem RelsAt.piece (h : RelsAt w B A n xs) {i k cap : Nat} (hk : i + k ≤ n) (hc : n ≤ cap) : RelsAt w B (if cap = i then A else A.map (·.add (i * 4))) k ((xs.drop i).take k) := by
  refine ⟨by rw [List.length_take, List.length_drop, h.len]; omega, ?_, fun x hx => h.rgs x (List.mem_of_mem_drop (List.mem_of_mem_take hx))⟩
  have h1 := reads_head (h.row.cut (k := i) (cap := cap) (by omega) hc) (k := k) (by omega)
  rwa [relC, flat_drop RelX.cells (k := 4) (fun _ => rfl), flat_take RelX.cells (k := 4) (fun _ => rfl)] at h1
theorem RuleAt.piece (h : RuleAt w B A n ps) {i k cap : Nat} (hk : i + k ≤ n) (hc : n ≤ cap) : RuleAt w B (if cap = i then A else A.map (·.add (i * 1))) k ((ps.drop i).take k) := by
  refine ⟨by rw [List.length_take, List.length_drop, h.len]; omega, ?_, fun p hp => h.parts p (List.mem_of_mem_drop (List.mem_of_mem_take hp))⟩
  have h1 := reads_head (h.row.cut (k := i) (cap := cap) (by omega) hc) (k := k) (by omega)
  rw [Nat.mul_one, Nat.mul_one, partC, ← List.map_drop, ← List.map_take] at h1
  rw [Nat.mul_one] at *
  exact h1
end
end Ru
end Go.Proofs.YteedhnpdffnfjaaGreatDoor

/- What all walks over rules share: what a call returns, how many relations a rule has. -/
namespace Go.Proofs.YteedhnpdffnfjaaGreatDoor
namespace Ru
open Go.RowKit D

theorem ret_b {a b : Bool} (h : a = b) : Ending.returned (.bool a) = .returned (.bool b) := by rw [h]
theorem val_b {a b : Bool} (h : a = b) : Value.bool a = .bool b := by rw [h]
def GivesB (w : World) (b : Bool) (e : Ending) (w' : World) : Prop := e = .returned (.bool b) ∧ Below w.heap.size w w'
/-- rows of a size that a call bears -/
def Few (ps : List PartX) : Prop := ∀ p ∈ ps, p.xs.length ≤ maxLen ∧ ∀ x ∈ p.xs, x.v.rs.length ≤ maxLen
def GivesI (w : World) (z : Nat) (e : Ending) (w' : World) : Prop := e = .returned (.int .i64 z) ∧ Below w.heap.size w w'
theorem total_nil : total [] = 0 := rfl
theorem total_snoc (l : List (List RelV)) (p : List RelV) : total (l ++ [p]) = total l + p.length := by simp [total]
theorem total_take (l : List (List RelV)) (i : Nat) (h : i < l.length) : total (l.take (i + 1)) = total (l.take i) + l[i].length := by
  rw [List.take_succ_eq_append_getElem h, total_snoc]
theorem total_le : ∀ (l : List (List RelV)) (i : Nat), total (l.take i) ≤ total l
  | [], i => by simp [total]
  | p :: l, 0 => by simp [total]
  | p :: l, i + 1 => by have := total_le l i; simp [total] at *; omega
theorem fault_bad {r : List (List RelV)} (h : ¬ ruleOk r) : ruleF r = 3 := by unfold ruleF; rw [if_neg h]
theorem fault_ok {r : List (List RelV)} (h : ruleOk r) : ruleF r = if 20 < total r then 4 else 0 := by unfold ruleF; rw [if_pos h]
theorem ret_i {a b : Nat} (h : a = b) : Ending.returned (.int .i64 (a : Int)) = .returned (.int .i64 (b : Int)) := by rw [h]
theorem opV_steps (op I V W F T : Int) : (if op = 116 then T else if op = 102 then F else if op = 119 then W else if op = 118 then V else I) = opV op I V W F T := by
  unfold opV
  (repeat' split) <;> omega
theorem any_take (rs : List (Int × Int)) (m : Int) (k : Nat) (h : k < rs.length) : (rs.take (k + 1)).any (inRg m) = ((rs.take k).any (inRg m) || inRg m rs[k]) := by
  rw [List.take_succ_eq_append_getElem h, List.any_append]
  simp

theorem part_take (xs : List RelV) (I V W F T : Int) (k : Nat) (h : k < xs.length) : partH (xs.take (k + 1)) I V W F T = (partH (xs.take k) I V W F T && relH xs[k] I V W F T) := by
  unfold partH
  rw [List.take_succ_eq_append_getElem h, List.all_append]
  simp
theorem rule_take (r : List (List RelV)) (I V W F T : Int) (k : Nat) (h : k < r.length) : ruleH (r.take (k + 1)) I V W F T = (ruleH (r.take k) I V W F T || partH r[k] I V W F T) := by
  unfold ruleH
  rw [List.take_succ_eq_append_getElem h, List.any_append]
  simp
theorem rule_true {r : List (List RelV)} {p : List RelV} {I V W F T : Int} (hm : p ∈ r) (h : partH p I V W F T = true) : ruleH r I V W F T = true := List.any_eq_true.2 ⟨p, hm, h⟩
end Ru
end Go.Proofs.YteedhnpdffnfjaaGreatDoor

/- How long the texts of right rules are; rows of the call's own. Nothing of the program stands here. -/
namespace Go.Proofs.YteedhnpdffnfjaaGreatDoor
namespace Ru
open Go.RowKit Go.Maps D

theorem join_snoc (sep : List UInt8) : ∀ (ps : List (List UInt8)) (p : List UInt8), ps ≠ [] → joinL sep (ps ++ [p]) = joinL sep ps ++ (sep ++ p)
  | [], _, h => absurd rfl h
  | [q], p, _ => by simp [joinL]
  | q :: r :: l, p, _ => by
    have := join_snoc sep (r :: l) p (by simp)
    simp only [List.cons_append, joinL] at *
    rw [this]
    simp
/-- what stands ahead of the ranges -/
def preT (x : RelV) : List UInt8 := [opT x.op] ++ (if 0 < x.mod then [32, 37, 32] ++ dg x.mod else []) ++ (if x.nt then [32, 33, 61] else [32, 61])
theorem relT_pre (x : RelV) : relT x = preT x ++ 32 :: rgsT x.rs := by
  unfold relT words preT notT
  split <;> (split <;> simp [joinL])
/-- so many ranges -/
def tailT (rs : List (Int × Int)) (k : Nat) : List UInt8 := if k = 0 then [] else 32 :: rgsT (rs.take k)
theorem tail_next (rs : List (Int × Int)) (k : Nat) (h : k < rs.length) : tailT rs (k + 1) = tailT rs k ++ ((if k = 0 then [32] else [44]) ++ rgT rs[k]) := by
  unfold tailT rgsT
  rw [if_neg (by omega), List.take_succ_eq_append_getElem h]
  by_cases h0 : k = 0
  · subst h0
    simp [joinL]
  · rw [if_neg h0, if_neg h0, List.map_append, List.map_singleton, join_snoc _ _ _ (by intro e; have := congrArg List.length e; rw [List.length_map, List.length_take] at this; simp only [List.length_nil] at this; omega)]
    simp
theorem tail_all (rs : List (Int × Int)) (h : rs ≠ []) : tailT rs rs.length = 32 :: rgsT rs := by
  unfold tailT
  rw [if_neg (by intro e; exact h (List.eq_nil_of_length_eq_zero e)), List.take_length]
theorem dg_size {a : Int} (h1 : a ≤ 1000000) : (str (dg a)).size ≤ 16 := by
  rw [D.ba_size, str_data]
  unfold dg
  rw [Lib.decDigits_length]
  exact D.nDigits_le (by decide) (by omega)
theorem below_grown {w w' : World} (hb : Below w.heap.size w w') (row : Option Nat) : w.grownBy w' row := ⟨hb.os, hb.tape, hb.output, hb.size, fun k hk _ => hb.block k hk⟩
theorem own_later {w w' : World} {base : Nat} {e : TypeId} {size n : Nat} {v : Value} {xs : List Value} (h : w.ownsRow base e size v n xs) (hb : Below w.heap.size w w') : w'.ownsRow base e size v n xs :=
  h.kept (below_grown hb none) (by cases hv : v.ownBlock <;> simp)
theorem own_form {w : World} {base : Nat} {t : TypeId} {v : Value} {n : Nat} {xs : List Value} (h : w.ownsRow base t 1 v n xs) : ∃ A c, v = .slice A n c ∧ Reads w w.heap.size 1 A n xs := by
  rcases h.2 with ⟨rfl, rfl⟩ | ⟨g, cap, cur, rfl, _, _, _, _⟩
  · exact ⟨none, 0, rfl, Reads.of_own h⟩
  · exact ⟨_, _, rfl, Reads.of_own h⟩
theorem join_bound (sep : List UInt8) (M : Nat) : ∀ ps : List (List UInt8), (∀ p ∈ ps, p.length ≤ M) → (joinL sep ps).length ≤ ps.length * (M + sep.length)
  | [], _ => by simp [joinL]
  | [p], h => by have := h p (by simp); simp [joinL]; omega
  | p :: q :: l, h => by
    have h1 := h p (by simp)
    have h2 := join_bound sep M (q :: l) (fun x hx => h x (by simp at hx ⊢; right; exact hx))
    simp only [joinL, List.length_append, List.length_cons] at *
    rw [Nat.add_mul (l.length + 1) 1]
    omega
theorem join_bound' (sep : List UInt8) (M N : Nat) (hN : M + sep.length ≤ N) (ps : List (List UInt8)) (h : ∀ p ∈ ps, p.length ≤ M) (hl : ps.length ≤ 20) : (joinL sep ps).length ≤ 20 * N :=
  Nat.le_trans (join_bound sep M ps h) (Nat.mul_le_mul hl hN)
theorem rg_size {r : Int × Int} (h : rgOk r) : (rgT r).length ≤ 34 := by
  obtain ⟨h0, h1, h2⟩ := h
  have s1 := dg_size (a := r.1) (by omega)
  have s2 := dg_size (a := r.2) h2
  rw [D.ba_size, str_data] at s1 s2
  unfold rgT
  split
  · simp [joinL]; omega
  · omega
theorem tail_size (rs : List (Int × Int)) (h : ∀ r ∈ rs, rgOk r) : ∀ k, k ≤ rs.length → (tailT rs k).length ≤ 40 * k
  | 0, _ => by simp [tailT]
  | k + 1, hk => by
    have ih := tail_size rs h k (by omega)
    have hr := rg_size (h _ (List.getElem_mem (show k < rs.length by omega)))
    rw [tail_next rs k (by omega), List.length_append, List.length_append]
    have : (if k = 0 then [32] else [44] : List UInt8).length = 1 := by split <;> rfl
    omega
theorem rel_size {x : RelV} (h : relOk x) : (relT x).length ≤ 60 + 40 * x.rs.length := by
  have s := dg_size (a := x.mod) h.2.1.2
  rw [D.ba_size, str_data] at s
  have ht := tail_size x.rs h.2.2.2 x.rs.length (Nat.le_refl _)
  rw [relT_pre, ← tail_all x.rs h.2.2.1, List.length_append]
  have hp : (preT x).length ≤ 40 := by
    unfold preT
    split <;> (split <;> simp <;> omega)
  omega
/-- ranges of a size that a text bears -/
def FewT (ps : List PartX) : Prop := ∀ p ∈ ps, ∀ x ∈ p.xs, x.v.rs.length ≤ 8796093022208
theorem total_ge : ∀ {l : List (List RelV)} {p : List RelV}, p ∈ l → p.length ≤ total l
  | q :: l, p, h => by
    rcases List.mem_cons.1 h with rfl | h
    · simp [total]
    · have := total_ge h; simp [total] at *; omega
theorem total_len : ∀ {l : List (List RelV)}, (∀ p ∈ l, p ≠ []) → l.length ≤ total l
  | [], _ => Nat.zero_le _
  | p :: l, h => by
    have h1 := total_len (l := l) (fun q hq => h q (by simp [hq]))
    have h2 : 0 < p.length := List.length_pos_iff.2 (h p (by simp))
    simp [total] at *
    omega
end Ru
end Go.Proofs.YteedhnpdffnfjaaGreatDoor

/- Words for rules that a call makes anew: a row of relations of its own, each with ranges of its own; a row of parts of its own, each with relations of its own, no two in one block. -/
namespace Go.Proofs.YteedhnpdffnfjaaGreatDoor
namespace Ru
open Go.RowKit Go.Maps D

theorem own_base {w : World} {base base' : Nat} {e : TypeId} {size n : Nat} {v : Value} {xs : List Value} (h : w.ownsRow base e size v n xs) (hb : base' ≤ base) : w.ownsRow base' e size v n xs := by
  refine ⟨h.1, ?_⟩
  rcases h.2 with hn | ⟨g, cap, cur, e1, hbb, rest⟩
  · exact .inl hn
  · exact .inr ⟨g, cap, cur, e1, Nat.le_trans hb hbb, rest⟩
theorem own_types {w : World} {b b' : Nat} {e e' : TypeId} {s s' n n' : Nat} {v v' : Value} {xs xs' : List Value} (h : w.ownsRow b e s v n xs) (h' : w.ownsRow b' e' s' v' n' xs') (hne : e ≠ e') : v.ownBlock = none ∨ v.ownBlock ≠ v'.ownBlock := by
  rcases h.2 with ⟨rfl, _⟩ | ⟨g, cap, cur, rfl, _, hg, _⟩
  · exact .inl rfl
  · right
    rcases h'.2 with ⟨rfl, _⟩ | ⟨g', cap', cur', rfl, _, hg', _⟩
    · simp [Value.ownBlock]
    · intro he
      have : g = g' := by simpa [Value.ownBlock] using he
      subst this
      rw [hg] at hg'
      injection hg' with hg'
      injection hg' with _ ht
      exact hne ht
theorem own_lit (w : World) (cs : List Value) (t : TypeId) {base k : Nat} (hb : base ≤ w.heap.size) (hk : cs.length = k) : (w.alloc (.cells cs.toArray t)).ownsRow base t k (.slice (some ⟨w.heap.size, 0, none⟩) 1 1) 1 cs :=
  ⟨by omega, .inr ⟨w.heap.size, 1, cs.toArray, rfl, hb, heap_alloc_new w _, Nat.le_refl _, by unfold maxLen; omega, by simp; omega, List.take_of_length_le (by simp; omega)⟩⟩
theorem own_shape {w : World} {base k : Nat} {t : TypeId} {v : Value} {n : Nat} {xs : List Value} (h : w.ownsRow base t k v n xs) :
    ∃ A c, v = .slice A n c ∧ n ≤ c ∧ c ≤ maxLen ∧ Reads w w.heap.size k A n xs ∧ (0 < n → ∃ g, A = some ⟨g, 0, none⟩) := by
  rcases h.2 with ⟨rfl, rfl⟩ | ⟨g, cap, cur, rfl, _, _, hc, hm, _⟩
  · exact ⟨none, 0, rfl, Nat.le_refl _, Nat.zero_le _, Reads.of_own h, fun h => absurd h (by omega)⟩
  · exact ⟨_, _, rfl, hc, hm, Reads.of_own h, fun _ => ⟨g, rfl⟩⟩
theorem relC_snoc (xs : List RelX) (x : RelX) : relC (xs ++ [x]) = relC xs ++ x.cells := by simp [relC]
theorem rgC_snoc (rs : List (Int × Int)) (r : Int × Int) : rgC (rs ++ [r]) = rgC rs ++ rgCell r := by simp [rgC]
theorem partC_snoc (ps : List PartX) (p : PartX) : partC (ps ++ [p]) = partC ps ++ [p.val] := by simp [partC]

/-- a row of relations of the call's own -/
structure OwnRels (w : World) (base : Nat) (v : Value) (xs : List RelX) : Prop where
  row : w.ownsRow base 89 4 v xs.length (relC xs)
  rgs : ∀ x ∈ xs, x.v.rs.length ≤ x.c ∧ w.ownsRow base 115 2 x.rgs x.v.rs.length (rgC x.v.rs)
/-- x's row lies not in y's block -/
def Apart (x y : PartX) : Prop := ∀ a b : Addr, x.A = some a → y.A = some b → a.block ≠ b.block
/-- a rule of the call's own -/
structure OwnRule (w : World) (base : Nat) (v : Value) (ps : List PartX) : Prop where
  row : w.ownsRow base 84 1 v ps.length (partC ps)
  parts : ∀ p ∈ ps, p.xs.length ≤ p.c ∧ OwnRels w base p.val p.xs
  apart : ps.Pairwise Apart
section
variable {w w' : World} {base : Nat} {v v' : Value} {xs : List RelX} {x : RelX} {ps : List PartX} {p : PartX}
theorem OwnRels.later (h : OwnRels w base v xs) (hb : Below w.heap.size w w') : OwnRels w' base v xs := ⟨own_later h.row hb, fun x hx => ⟨(h.rgs x hx).1, own_later (h.rgs x hx).2 hb⟩⟩
theorem OwnRels.base_ {base' : Nat} (h : OwnRels w base v xs) (hb : base' ≤ base) : OwnRels w base' v xs := ⟨own_base h.row hb, fun x hx => ⟨(h.rgs x hx).1, own_base (h.rgs x hx).2 hb⟩⟩
theorem OwnRels.kept {row : Option Nat} (h : OwnRels w base v xs) (hg : w.grownBy w' row) (h1 : v.ownBlock = none ∨ v.ownBlock ≠ row) (h2 : ∀ x ∈ xs, x.rgs.ownBlock = none ∨ x.rgs.ownBlock ≠ row) : OwnRels w' base v xs :=
  ⟨h.row.kept hg h1, fun x hx => ⟨(h.rgs x hx).1, (h.rgs x hx).2.kept hg (h2 x hx)⟩⟩
theorem OwnRels.snoc (h : OwnRels w base v xs) (hc : x.v.rs.length ≤ x.c) (hx : w.ownsRow base 115 2 x.rgs x.v.rs.length (rgC x.v.rs))
    (hr : w'.ownsRow base 89 4 v' (xs.length + 1) (relC xs ++ x.cells)) (hg : w.grownBy w' v.ownBlock) : OwnRels w' base v' (xs ++ [x]) := by
  refine ⟨by rw [relC_snoc]; simpa using hr, fun y hy => ?_⟩
  rcases List.mem_append.1 hy with hy | hy
  · exact ⟨(h.rgs y hy).1, (h.rgs y hy).2.kept hg (own_types (h.rgs y hy).2 h.row (by decide))⟩
  · simp at hy; subst hy
    exact ⟨hc, hx.kept hg (own_types hx h.row (by decide))⟩
theorem OwnRels.rels (h : OwnRels w base v xs) : ∃ A c, v = .slice A xs.length c ∧ xs.length ≤ c ∧ RelsAt w w.heap.size A xs.length xs := by
  obtain ⟨A, c, rfl, hc, _, hr, _⟩ := own_shape h.row
  exact ⟨A, c, rfl, hc, rfl, hr, fun x hx => ⟨(h.rgs x hx).1, Reads.of_own (h.rgs x hx).2⟩⟩
theorem OwnRule.later (h : OwnRule w base v ps) (hb : Below w.heap.size w w') : OwnRule w' base v ps := ⟨own_later h.row hb, fun x hx => ⟨(h.parts x hx).1, (h.parts x hx).2.later hb⟩, h.apart⟩
theorem OwnRule.base_ {base' : Nat} (h : OwnRule w base v ps) (hb : base' ≤ base) : OwnRule w base' v ps := ⟨own_base h.row hb, fun x hx => ⟨(h.parts x hx).1, (h.parts x hx).2.base_ hb⟩, h.apart⟩
theorem OwnRule.snoc (h : OwnRule w base v ps) (hc : p.xs.length ≤ p.c) (hx : OwnRels w base p.val p.xs) (ha : ∀ q ∈ ps, Apart q p)
    (hr : w'.ownsRow base 84 1 v' (ps.length + 1) (partC ps ++ [p.val])) (hg : w.grownBy w' v.ownBlock) : OwnRule w' base v' (ps ++ [p]) := by
  have hk : ∀ q : PartX, OwnRels w base q.val q.xs → OwnRels w' base q.val q.xs := fun q hq =>
    hq.kept hg (own_types hq.row h.row (by decide)) (fun x hx => own_types (hq.rgs x hx).2 h.row (by decide))
  refine ⟨by rw [partC_snoc]; simpa using hr, fun q hq => ?_, ?_⟩
  · rcases List.mem_append.1 hq with hq | hq
    · exact ⟨(h.parts q hq).1, hk q (h.parts q hq).2⟩
    · simp at hq; subst hq
      exact ⟨hc, hk _ hx⟩
  · rw [List.pairwise_append]
    exact ⟨h.apart, List.pairwise_singleton _ _, fun y hy z hz => by simp at hz; subst hz; exact ha y hy⟩
theorem OwnRule.apart_new (h : OwnRule w base v ps) (hx : w'.ownsRow w.heap.size 89 4 p.val p.xs.length (relC p.xs)) : ∀ q ∈ ps, Apart q p := by
  intro y hy a b hya hxb
  have h1 := (h.parts y hy).2.row.lt a.block (by simp [Value.ownBlock, PartX.val, hya])
  have h2 := hx.lt b.block (by simp [Value.ownBlock, PartX.val, hxb])
  omega
theorem OwnRule.rule (h : OwnRule w base v ps) : ∃ A c, v = .slice A ps.length c ∧ ps.length ≤ c ∧ c ≤ maxLen ∧ RuleAt w w.heap.size A ps.length ps := by
  obtain ⟨A, c, rfl, hc, hm, hr, _⟩ := own_shape h.row
  refine ⟨A, c, rfl, hc, hm, rfl, hr, fun p hp => ⟨(h.parts p hp).1, ?_⟩⟩
  obtain ⟨A', c', e, _, hr'⟩ := (h.parts p hp).2.rels
  injection e with e1 _ e2
  rw [e1]
  exact hr'
end
end Ru
end Go.Proofs.YteedhnpdffnfjaaGreatDoor
