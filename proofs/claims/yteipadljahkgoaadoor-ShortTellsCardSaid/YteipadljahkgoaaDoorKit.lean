/- Words for rows in memory, for what a call returns. Nothing of the program stands here. -/
import Derived.Test.YteipadljahkgoaaDoorWords
import Derived.Test.YteipadljahkgoaaDoorRuPlain
import Derived.Test.YteipadljahkgoaaDoorProg
import Derived.Test.YteipadljahkgoaaDoorBoxes
import Derived.WalkKit
import Derived.WalkSpells
import Derived.Outline
import Derived.IntWalk
import Derived.RegionTactic
import Derived.Deep.QuietTactic
import Derived.Deep.RegionHeld3
import Derived.Deep.DeepCutAuto
import Derived.Deep.DrawnRows
import Derived.Test.YteipadljahkgoaaDoorGround
namespace Go.Proofs.YteipadljahkgoaaDoor
namespace Ru
open Go.RowKit Go.Maps D

/-- rows of things of so many cells each -/
theorem flat_length {α β : Type} (f : α → List β) {k : Nat} (hk : ∀ x, (f x).length = k) : ∀ xs : List α, (xs.flatMap f).length = xs.length * k
  | [] => by simp
  | x :: xs => by rw [List.flatMap_cons, List.length_append, hk, flat_length f hk xs, List.length_cons, Nat.add_mul]; omega
theorem flat_get {α β : Type} (f : α → List β) {k : Nat} (hk : ∀ x, (f x).length = k) : ∀ (xs : List α) (i : Nat) (x : α), xs[i]? = some x → ∀ j, j < k → (xs.flatMap f)[i * k + j]? = (f x)[j]?
  | [], i, x, h, j, hj => by simp at h
  | y :: ys, 0, x, h, j, hj => by
    simp at h; subst h
    rw [List.flatMap_cons, List.getElem?_append_left (by rw [hk]; omega)]; simp
  | y :: ys, i + 1, x, h, j, hj => by
    simp at h
    rw [List.flatMap_cons, List.getElem?_append_right (by rw [hk, Nat.add_mul]; omega)]
    have e : (i + 1) * k + j - (f y).length = i * k + j := by rw [hk, Nat.add_mul]; omega
    rw [e]
    exact flat_get f hk ys i x h j hj
theorem flat_drop {α β : Type} (f : α → List β) {k : Nat} (hk : ∀ x, (f x).length = k) : ∀ (xs : List α) (i : Nat), (xs.flatMap f).drop (i * k) = (xs.drop i).flatMap f
  | [], i => by simp
  | y :: ys, 0 => by simp
  | y :: ys, i + 1 => by
    rw [List.drop_succ_cons, List.flatMap_cons, ← flat_drop f hk ys i, show (i + 1) * k = (f y).length + i * k by rw [hk, Nat.add_mul]; omega, List.drop_append]
    simp
theorem flat_take {α β : Type} (f : α → List β) {k : Nat} (hk : ∀ x, (f x).length = k) : ∀ (xs : List α) (i : Nat), (xs.flatMap f).take (i * k) = (xs.take i).flatMap f
  | [], i => by simp
  | y :: ys, 0 => by simp
  | y :: ys, i + 1 => by
    rw [List.take_succ_cons, List.flatMap_cons, List.flatMap_cons, ← flat_take f hk ys i, show (i + 1) * k = (f y).length + i * k by rw [hk, Nat.add_mul]; omega, List.take_length_add_append]
theorem add_pos (a : Addr) (j : Nat) (hj : j ≠ 0) : a.add j = ⟨a.block, a.off + j, none⟩ := by unfold Addr.add; rw [if_neg hj]
/-- a slice's beginning -/
theorem reads_head {w : World} {B size n : Nat} {A : Option Addr} {xs : List Value} (h : Reads w B size A n xs) {k : Nat} (hk : k ≤ n) : Reads w B size A k (xs.take (k * size)) := by
  refine ⟨by rw [List.length_take, h.1]; exact Nat.min_eq_left (Nat.mul_le_mul_right _ hk), fun hn => ?_⟩
  obtain ⟨ad, e, hb, hc⟩ := h.2 (by omega)
  refine ⟨ad, e, hb, fun j u hu => hc j u ?_⟩
  rw [List.getElem?_take] at hu
  split at hu
  · exact hu
  · cases hu
theorem ret_b {a b : Bool} (h : a = b) : Ending.returned (.bool a) = .returned (.bool b) := by rw [h]
theorem val_b {a b : Bool} (h : a = b) : Value.bool a = .bool b := by rw [h]
def GivesB (w : World) (b : Bool) (e : Ending) (w' : World) : Prop := e = .returned (.bool b) ∧ Below w.heap.size w w'
def GivesI (w : World) (z : Nat) (e : Ending) (w' : World) : Prop := e = .returned (.int .i64 z) ∧ Below w.heap.size w w'
theorem ret_i {a b : Nat} (h : a = b) : Ending.returned (.int .i64 (a : Int)) = .returned (.int .i64 (b : Int)) := by rw [h]
theorem below_grown {w w' : World} (hb : Below w.heap.size w w') (row : Option Nat) : w.grownBy w' row := ⟨hb.os, hb.tape, hb.output, hb.size, fun k hk _ => hb.block k hk⟩
theorem own_later {w w' : World} {base : Nat} {e : TypeId} {size n : Nat} {v : Value} {xs : List Value} (h : w.ownsRow base e size v n xs) (hb : Below w.heap.size w w') : w'.ownsRow base e size v n xs :=
  h.kept (below_grown hb none) (by cases hv : v.ownBlock <;> simp)
theorem own_form {w : World} {base : Nat} {t : TypeId} {v : Value} {n : Nat} {xs : List Value} (h : w.ownsRow base t 1 v n xs) : ∃ A c, v = .slice A n c ∧ Reads w w.heap.size 1 A n xs := by
  rcases h.2 with ⟨rfl, rfl⟩ | ⟨g, cap, cur, rfl, _, _, _, _⟩
  · exact ⟨none, 0, rfl, Reads.of_own h⟩
  · exact ⟨_, _, rfl, Reads.of_own h⟩
theorem join_bound (sep : List UInt8) (M : Nat) : ∀ ps : List (List UInt8), (∀ p ∈ ps, p.length ≤ M) → (joinL sep ps).length ≤ ps.length * (M + sep.length)
  | [], _ => by simp [joinL]
  | [p], h => by have := h p (by simp); simp [joinL]; omega
  | p :: q :: l, h => by
    have h1 := h p (by simp)
    have h2 := join_bound sep M (q :: l) (fun x hx => h x (by simp at hx ⊢; right; exact hx))
    simp only [joinL, List.length_append, List.length_cons] at *
    rw [Nat.add_mul (l.length + 1) 1]
    omega
theorem join_bound' (sep : List UInt8) (M N : Nat) (hN : M + sep.length ≤ N) (ps : List (List UInt8)) (h : ∀ p ∈ ps, p.length ≤ M) (hl : ps.length ≤ 20) : (joinL sep ps).length ≤ 20 * N :=
  Nat.le_trans (join_bound sep M ps h) (Nat.mul_le_mul hl hN)
theorem own_base {w : World} {base base' : Nat} {e : TypeId} {size n : Nat} {v : Value} {xs : List Value} (h : w.ownsRow base e size v n xs) (hb : base' ≤ base) : w.ownsRow base' e size v n xs := by
  refine ⟨h.1, ?_⟩
  rcases h.2 with hn | ⟨g, cap, cur, e1, hbb, rest⟩
  · exact .inl hn
  · exact .inr ⟨g, cap, cur, e1, Nat.le_trans hb hbb, rest⟩
theorem own_types {w : World} {b b' : Nat} {e e' : TypeId} {s s' n n' : Nat} {v v' : Value} {xs xs' : List Value} (h : w.ownsRow b e s v n xs) (h' : w.ownsRow b' e' s' v' n' xs') (hne : e ≠ e') : v.ownBlock = none ∨ v.ownBlock ≠ v'.ownBlock := by
  rcases h.2 with ⟨rfl, _⟩ | ⟨g, cap, cur, rfl, _, hg, _⟩
  · exact .inl rfl
  · right
    rcases h'.2 with ⟨rfl, _⟩ | ⟨g', cap', cur', rfl, _, hg', _⟩
    · simp [Value.ownBlock]
    · intro he
      have : g = g' := by simpa [Value.ownBlock] using he
      subst this
      rw [hg] at hg'
      injection hg' with hg'
      injection hg' with _ ht
      exact hne ht
theorem own_lit (w : World) (cs : List Value) (t : TypeId) {base k : Nat} (hb : base ≤ w.heap.size) (hk : cs.length = k) : (w.alloc (.cells cs.toArray t)).ownsRow base t k (.slice (some ⟨w.heap.size, 0, none⟩) 1 1) 1 cs :=
  ⟨by omega, .inr ⟨w.heap.size, 1, cs.toArray, rfl, hb, heap_alloc_new w _, Nat.le_refl _, by unfold maxLen; omega, by simp; omega, List.take_of_length_le (by simp; omega)⟩⟩
theorem own_shape {w : World} {base k : Nat} {t : TypeId} {v : Value} {n : Nat} {xs : List Value} (h : w.ownsRow base t k v n xs) :
    ∃ A c, v = .slice A n c ∧ n ≤ c ∧ c ≤ maxLen ∧ Reads w w.heap.size k A n xs ∧ (0 < n → ∃ g, A = some ⟨g, 0, none⟩) := by
  rcases h.2 with ⟨rfl, rfl⟩ | ⟨g, cap, cur, rfl, _, _, hc, hm, _⟩
  · exact ⟨none, 0, rfl, Nat.le_refl _, Nat.zero_le _, Reads.of_own h, fun h => absurd h (by omega)⟩
  · exact ⟨_, _, rfl, hc, hm, Reads.of_own h, fun _ => ⟨g, rfl⟩⟩
/-- a text and an error by its number -/
def TextE (w : World) (t : List UInt8) (k : Nat) (e : Ending) (w' : World) : Prop := e = .returned (.tuple #[.string (str t), errV k]) ∧ Below w.heap.size w w'
/-- a text and no error; no text and an error -/
def TextY (w : World) (t : ByteArray) (e : Ending) (w' : World) : Prop := e = .returned (.tuple #[.string t, .nilIface]) ∧ Below w.heap.size w w'
def TextN (w : World) (k : Nat) (e : Ending) (w' : World) : Prop := e = .returned (.tuple #[.string ⟨#[]⟩, .iface 26 (.int .i64 k)]) ∧ Below w.heap.size w w'
theorem textE_yes {f : FuncId} {args : Array Value} {W : World} {t : List UInt8} {k : Nat} (h : Calls Tryd.prog f args W (TextE W t k)) (hk : k = 0) : Calls Tryd.prog f args W (TextY W (str t)) := by
  subst hk; exact h
theorem textE_no {f : FuncId} {args : Array Value} {W : World} {t : List UInt8} {k : Nat} (h : Calls Tryd.prog f args W (TextE W t k)) (hk : k ≠ 0) (ht : t = []) : Calls Tryd.prog f args W (TextN W k) := by
  subst ht
  refine h.mono fun e w' ⟨he, hb⟩ => ⟨?_, hb⟩
  rw [he]; unfold errV; rw [if_neg hk]
end Ru
end Go.Proofs.YteipadljahkgoaaDoor
