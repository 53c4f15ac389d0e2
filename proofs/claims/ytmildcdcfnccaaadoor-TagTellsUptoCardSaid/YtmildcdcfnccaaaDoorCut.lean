/- The reference's Cut at "-": the pieces of a text. -/
import Derived.Test.YtmildcdcfnccaaaDoorHeld
import Derived.Deep.DeepCutAuto
namespace Go.Proofs.YtmildcdcfnccaaaDoor
open Go.RowKit Go.Maps

/-- pieces, a dash behind each -/
def flatD (l : List P.Bs) : P.Bs := (l.map fun p => p ++ [45]).flatten
theorem flatD_snoc (l : List P.Bs) (p : P.Bs) : flatD (l ++ [p]) = flatD l ++ p ++ [45] := by simp [flatD]
theorem glue_snoc : ∀ (l : List P.Bs) (x : P.Bs), P.glue (l ++ [x]) = flatD l ++ x
  | [], x => by simp [flatD, P.glue_one]
  | p :: r, x => by
    have ih := glue_snoc r x
    cases hr : r ++ [x] with
    | nil => simp at hr
    | cons q t => rw [List.cons_append, hr, P.glue_cons, ← hr, ih]; simp [flatD]
/-- what the loop holds: what is done, from where on, up to where no dash stands -/
structure CutAt (s : ByteArray) (dn : List ByteArray) (f i : Nat) : Prop where
  fi : f ≤ i
  isz : i ≤ s.size
  len : dn.length ≤ f
  flat : s.data.toList.take f = flatD (bs dn)
  clean : ∀ p ∈ bs dn, P.Dashless p
  open_ : P.Dashless ((s.data.toList.take i).drop f)
  small : ∀ p ∈ dn, p.size ≤ s.size
theorem extract_td (s : ByteArray) (a b : Nat) : (s.extract a b).data.toList = (s.data.toList.take b).drop a := by
  rw [List.drop_take, ByteArray.data_extract, Array.toList_extract, List.extract_eq_take_drop]
theorem CutAt.start (s : ByteArray) : CutAt s [] 0 0 := ⟨Nat.le_refl _, Nat.zero_le _, Nat.zero_le _, by simp [flatD, bs], by simp [bs], by simp [P.Dashless], by simp⟩
theorem CutAt.next {s : ByteArray} {dn : List ByteArray} {f i : Nat} (h : CutAt s dn f i) (hi : i < s.size) (hd : s[i] ≠ 45) : CutAt s dn f (i + 1) :=
  ⟨by have := h.fi; omega, hi, h.len, h.flat, h.clean, by
    rw [take_snoc s i hi, List.drop_append_of_le_length (by rw [List.length_take, size_list]; have := h.fi; omega)]
    intro c hc
    rcases List.mem_append.1 hc with hc | hc
    · exact h.open_ c hc
    · simp at hc; subst hc; exact hd, h.small⟩
theorem CutAt.cut {s : ByteArray} {dn : List ByteArray} {f i : Nat} (h : CutAt s dn f i) (hi : i < s.size) (hd : s[i] = 45) : CutAt s (dn ++ [s.extract f i]) (i + 1) (i + 1) :=
  ⟨Nat.le_refl _, hi, by rw [List.length_append]; have := h.len; have := h.fi; simp; omega, by
    have e1 : bs (dn ++ [s.extract f i]) = bs dn ++ [(s.extract f i).data.toList] := by simp [bs]
    rw [e1, flatD_snoc, ← h.flat, extract_td, take_snoc s i hi, hd]
    congr 1
    have := List.take_append_drop f (s.data.toList.take i)
    rw [List.take_take, Nat.min_eq_left h.fi] at this
    exact this.symm, by
    intro p hp
    have e1 : bs (dn ++ [s.extract f i]) = bs dn ++ [(s.extract f i).data.toList] := by simp [bs]
    rw [e1] at hp
    rcases List.mem_append.1 hp with hp | hp
    · exact h.clean p hp
    · simp only [List.mem_singleton] at hp; subst hp; rw [extract_td]; exact h.open_, by simp [P.Dashless], by
    intro p hp
    rcases List.mem_append.1 hp with hp | hp
    · exact h.small p hp
    · simp only [List.mem_singleton] at hp; subst hp; rw [ByteArray.size_extract]; omega⟩
theorem CutAt.done_ {s : ByteArray} {dn : List ByteArray} {f : Nat} (h : CutAt s dn f s.size) : bs (dn ++ [s.extract f s.size]) = P.pieces s.data.toList := by
  have e1 : bs (dn ++ [s.extract f s.size]) = bs dn ++ [(s.extract f s.size).data.toList] := by simp [bs]
  have e2 : (s.data.toList.take s.size) = s.data.toList := List.take_of_length_le (by rw [size_list]; exact Nat.le_refl _)
  have e3 : P.glue (bs (dn ++ [s.extract f s.size])) = s.data.toList := by
    rw [e1, glue_snoc, ← h.flat, extract_td, e2, List.take_append_drop]
  have hc : ∀ p ∈ bs (dn ++ [s.extract f s.size]), P.Dashless p := by
    intro p hp
    rw [e1] at hp
    rcases List.mem_append.1 hp with hp | hp
    · exact h.clean p hp
    · simp only [List.mem_singleton] at hp; subst hp; rw [extract_td]; exact h.open_
  cases hl : bs (dn ++ [s.extract f s.size]) with
  | nil => rw [e1] at hl; simp at hl
  | cons q r => rw [hl] at hc e3; rw [← e3, P.pieces_glue hc]
end Go.Proofs.YtmildcdcfnccaaaDoor
