/- Words for rules in memory: rows of ranges, of relations, of parts, that may be read. Nothing of the program stands here. -/
import Derived.Test.YtkhnjlkamleldaaGreatDoorWords
import Derived.Test.YtkhnjlkamleldaaGreatDoorRuPlain
namespace Go.Proofs.YtkhnjlkamleldaaGreatDoor
open Go.RowKit
namespace Ru

/-- rows of things of so many cells each -/
theorem flat_length {α β : Type} (f : α → List β) {k : Nat} (hk : ∀ x, (f x).length = k) : ∀ xs : List α, (xs.flatMap f).length = xs.length * k
  | [] => by simp
  | x :: xs => by rw [List.flatMap_cons, List.length_append, hk, flat_length f hk xs, List.length_cons, Nat.add_mul]; omega
theorem flat_get {α β : Type} (f : α → List β) {k : Nat} (hk : ∀ x, (f x).length = k) : ∀ (xs : List α) (i : Nat) (x : α), xs[i]? = some x → ∀ j, j < k → (xs.flatMap f)[i * k + j]? = (f x)[j]?
  | [], i, x, h, j, hj => by simp at h
  | y :: ys, 0, x, h, j, hj => by
    simp at h; subst h
    rw [List.flatMap_cons, List.getElem?_append_left (by rw [hk]; omega)]; simp
  | y :: ys, i + 1, x, h, j, hj => by
    simp at h
    rw [List.flatMap_cons, List.getElem?_append_right (by rw [hk, Nat.add_mul]; omega)]
    have e : (i + 1) * k + j - (f y).length = i * k + j := by rw [hk, Nat.add_mul]; omega
    rw [e]
    exact flat_get f hk ys i x h j hj
theorem flat_drop {α β : Type} (f : α → List β) {k : Nat} (hk : ∀ x, (f x).length = k) : ∀ (xs : List α) (i : Nat), (xs.flatMap f).drop (i * k) = (xs.drop i).flatMap f
  | [], i => by simp
  | y :: ys, 0 => by simp
  | y :: ys, i + 1 => by
    rw [List.drop_succ_cons, List.flatMap_cons, ← flat_drop f hk ys i, show (i + 1) * k = (f y).length + i * k by rw [hk, Nat.add_mul]; omega, List.drop_append]
    simp
theorem flat_take {α β : Type} (f : α → List β) {k : Nat} (hk : ∀ x, (f x).length = k) : ∀ (xs : List α) (i : Nat), (xs.flatMap f).take (i * k) = (xs.take i).flatMap f
  | [], i => by simp
  | y :: ys, 0 => by simp
  | y :: ys, i + 1 => by
    rw [List.take_succ_cons, List.flatMap_cons, List.flatMap_cons, ← flat_take f hk ys i, show (i + 1) * k = (f y).length + i * k by rw [hk, Nat.add_mul]; omega, List.take_length_add_append]
theorem add_pos (a : Addr) (j : Nat) (hj : j ≠ 0) : a.add j = ⟨a.block, a.off + j, none⟩ := by unfold Addr.add; rw [if_neg hj]
/-- a slice's beginning -/
theorem reads_head {w : World} {B size n : Nat} {A : Option Addr} {xs : List Value} (h : Reads w B size A n xs) {k : Nat} (hk : k ≤ n) : Reads w B size A k (xs.take (k * size)) := by
  refine ⟨by rw [List.length_take, h.1]; exact Nat.min_eq_left (Nat.mul_le_mul_right _ hk), fun hn => ?_⟩
  obtain ⟨ad, e, hb, hc⟩ := h.2 (by omega)
  refine ⟨ad, e, hb, fun j u hu => hc j u ?_⟩
  rw [List.getElem?_take] at hu
  split at hu
  · exact hu
  · cases hu

/-- a relation in a row: what it is, where its ranges lie -/
structure RelX where
  v : RelV
  A : Option Addr
  c : Nat
instance : Inhabited RelX := ⟨⟨zero, none, 0⟩⟩
abbrev RelX.rgs (x : RelX) : Value := .slice x.A x.v.rs.length x.c
abbrev RelX.cells (x : RelX) : List Value := [.int .u8 x.v.op, .int .i64 x.v.mod, .bool x.v.nt, x.rgs]
abbrev RelX.val (x : RelX) : Value := .agg #[.int .u8 x.v.op, .int .i64 x.v.mod, .bool x.v.nt, x.rgs]
abbrev rgCell (r : Int × Int) : List Value := [.int .i64 r.1, .int .i64 r.2]
def rgC (rs : List (Int × Int)) : List Value := rs.flatMap rgCell
def relC (xs : List RelX) : List Value := xs.flatMap RelX.cells
/-- a part in a row -/
structure PartX where
  A : Option Addr
  c : Nat
  xs : List RelX
instance : Inhabited PartX := ⟨⟨none, 0, []⟩⟩
abbrev PartX.val (p : PartX) : Value := .slice p.A p.xs.length p.c
def partC (ps : List PartX) : List Value := ps.map PartX.val
def relsV (xs : List RelX) : List RelV := xs.map RelX.v
def ruleV (ps : List PartX) : List (List RelV) := ps.map fun p => relsV p.xs
/-- a row of ranges that may be read -/
def RgsAt (w : World) (B : Nat) (A : Option Addr) (n : Nat) (rs : List (Int × Int)) : Prop := Reads w B 2 A n (rgC rs)
/-- a row of relations that may be read -/
structure RelsAt (w : World) (B : Nat) (A : Option Addr) (n : Nat) (xs : List RelX) : Prop where
  len : xs.length = n
  row : Reads w B 4 A n (relC xs)
  rgs : ∀ x ∈ xs, x.v.rs.length ≤ x.c ∧ RgsAt w B x.A x.v.rs.length x.v.rs
structure RuleAt (w : World) (B : Nat) (A : Option Addr) (n : Nat) (ps : List PartX) : Prop where
  len : ps.length = n
  row : Reads w B 1 A n (partC ps)
  parts : ∀ p ∈ ps, p.xs.length ≤ p.c ∧ RelsAt w B p.A p.xs.length p.xs
section
variable {w w' : World} {B B' n : Nat} {A : Option Addr} {rs : List (Int × Int)} {xs : List RelX} {ps : List PartX}
theorem RelsAt.below (h : RelsAt w B A n xs) (hb : Below B w w') : RelsAt w' B A n xs := ⟨h.len, h.row.below hb, fun x hx => ⟨(h.rgs x hx).1, (h.rgs x hx).2.below hb⟩⟩
theorem RelsAt.more (h : RelsAt w B A n xs) (hB : B ≤ B') : RelsAt w B' A n xs := ⟨h.len, h.row.more hB, fun x hx => ⟨(h.rgs x hx).1, (h.rgs x hx).2.more hB⟩⟩
theorem RuleAt.below (h : RuleAt w B A n ps) (hb : Below B w w') : RuleAt w' B A n ps := ⟨h.len, h.row.below hb, fun p hp => ⟨(h.parts p hp).1, (h.parts p hp).2.below hb⟩⟩
theorem RuleAt.more (h : RuleAt w B A n ps) (hB : B ≤ B') : RuleAt w B' A n ps := ⟨h.len, h.row.more hB, fun p hp => ⟨(h.parts p hp).1, (h.parts p hp).2.more hB⟩⟩
theorem RuleAt.later (h : RuleAt w w.heap.size A n ps) (hb : Below w.heap.size w w') : RuleAt w' w'.heap.size A n ps := (h.below hb).more hb.size
theorem RelsAt.later (h : RelsAt w w.heap.size A n xs) (hb : Below w.heap.size w w') : RelsAt w' w'.heap.size A n xs := (h.below hb).more hb.size
theorem rg_at (h : RgsAt w B A n rs) {i : Nat} (hi : i < rs.length) : ∃ ad, A = some ad ∧ ad.block < B ∧ w.cell? (ad.add (i * 2)) = some (.int .i64 rs[i].1) ∧ w.cell? (ad.add (i * 2 + 1)) = some (.int .i64 rs[i].2) := by
  have hn : rs.length * 2 = n * 2 := by have := h.1; rw [rgC, flat_length rgCell (k := 2) (fun _ => rfl)] at this; exact this
  obtain ⟨ad, e, hb, hc⟩ := h.2 (by omega)
  have hg := flat_get rgCell (k := 2) (fun _ => rfl) rs i rs[i] (List.getElem?_eq_getElem hi)
  exact ⟨ad, e, hb, hc _ _ (by have := hg 0 (by omega); simpa [rgC] using this), hc _ _ (by have := hg 1 (by omega); simpa [rgC] using this)⟩
theorem RelsAt.at_ (h : RelsAt w B A n xs) {i : Nat} {x : RelX} (hx : xs[i]? = some x) : ∃ ad, A = some ad ∧ ad.block < B ∧
    w.cell? (ad.add (i * 4)) = some (.int .u8 x.v.op) ∧ w.cell? (ad.add (i * 4 + 1)) = some (.int .i64 x.v.mod) ∧ w.cell? (ad.add (i * 4 + 2)) = some (.bool x.v.nt) ∧ w.cell? (ad.add (i * 4 + 3)) = some x.rgs ∧
    x.v.rs.length ≤ x.c ∧ RgsAt w B x.A x.v.rs.length x.v.rs := by
  have hi : i < xs.length := (List.getElem?_eq_some_iff.1 hx).1
  obtain ⟨ad, e, hb, hc⟩ := h.row.2 (by have := h.len; omega)
  have hv := h.rgs x (List.mem_of_getElem? hx)
  have hg := flat_get RelX.cells (k := 4) (fun _ => rfl) xs i x hx
  exact ⟨ad, e, hb, hc _ _ (by have := hg 0 (by omega); simpa [relC] using this), hc _ _ (by have := hg 1 (by omega); simpa [relC] using this), hc _ _ (by have := hg 2 (by omega); simpa [relC] using this), hc _ _ (by have := hg 3 (by omega); simpa [relC] using this), hv.1, hv.2⟩
theorem RuleAt.at_ (h : RuleAt w B A n ps) {i : Nat} {p : PartX} (hp : ps[i]? = some p) : ∃ ad, A = some ad ∧ ad.block < B ∧ w.cell? (ad.add i) = some p.val ∧ p.xs.length ≤ p.c ∧ RelsAt w B p.A p.xs.length p.xs := by
  have hi : i < ps.length := (List.getElem?_eq_some_iff.1 hp).1
  obtain ⟨ad, e, hb, hc⟩ := h.row.2 (by have := h.len; omega)
  have hv := h.parts p (List.mem_of_getElem? hp)
  exact ⟨ad, e, hb, hc i _ (by simp [partC, hp]), hv.1, hv.2⟩
/-- a piece of a row of relations, of a rule -/
theorem RelsAt.piece (h : RelsAt w B A n xs) {i k cap : Nat} (hk : i + k ≤ n) (hc : n ≤ cap) : RelsAt w B (if cap = i then A else A.map (·.add (i * 4))) k ((xs.drop i).take k) := by
  refine ⟨by rw [List.length_take, List.length_drop, h.len]; omega, ?_, fun x hx => h.rgs x (List.mem_of_mem_drop (List.mem_of_mem_take hx))⟩
  have h1 := reads_head (h.row.cut (k := i) (cap := cap) (by omega) hc) (k := k) (by omega)
  rwa [relC, flat_drop RelX.cells (k := 4) (fun _ => rfl), flat_take RelX.cells (k := 4) (fun _ => rfl)] at h1
theorem RuleAt.piece (h : RuleAt w B A n ps) {i k cap : Nat} (hk : i + k ≤ n) (hc : n ≤ cap) : RuleAt w B (if cap = i then A else A.map (·.add (i * 1))) k ((ps.drop i).take k) := by
  refine ⟨by rw [List.length_take, List.length_drop, h.len]; omega, ?_, fun p hp => h.parts p (List.mem_of_mem_drop (List.mem_of_mem_take hp))⟩
  have h1 := reads_head (h.row.cut (k := i) (cap := cap) (by omega) hc) (k := k) (by omega)
  rw [Nat.mul_one, Nat.mul_one, partC, ← List.map_drop, ← List.map_take] at h1
  rw [Nat.mul_one] at *
  exact h1
end
end Ru
end Go.Proofs.YtkhnjlkamleldaaGreatDoor
