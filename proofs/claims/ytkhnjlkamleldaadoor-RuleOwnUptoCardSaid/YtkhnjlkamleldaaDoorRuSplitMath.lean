/- Plain facts on texts that are split: how many pieces, how long each; reading each of them. Nothing of the program stands here. -/
import Derived.Test.YtkhnjlkamleldaaDoorRuParse
namespace Go.Proofs.YtkhnjlkamleldaaDoor
namespace Ru

theorem splitK_le (sep : List UInt8) : ∀ (k : Nat) (s p : List UInt8), p ∈ Lib.splitK sep 0 k s → p.length ≤ s.length
  | 0, s, p, h => by
    have : p = s := by simpa [Lib.splitK] using h
    rw [this]; exact Nat.le_refl _
  | k + 1, s, p, h => by
    unfold Lib.splitK at h
    split at h
    · have : p = s := by simpa using h
      rw [this]; exact Nat.le_refl _
    · rcases List.mem_cons.1 h with rfl | h
      · rw [List.length_take]; omega
      · have := splitK_le sep k _ p h
        rw [List.length_drop] at this
        omega
theorem split_le (sep s p : List UInt8) (h : p ∈ splitL sep s) : p.length ≤ s.length := splitK_le sep _ s p h
theorem splitK_many (sep : List UInt8) : ∀ (k : Nat) (s : List UInt8), (Lib.splitK sep 0 k s).length ≤ k + 1
  | 0, s => by simp [Lib.splitK]
  | k + 1, s => by
    unfold Lib.splitK
    split
    · simp
    · have := splitK_many sep k (s.drop ((Lib.index s sep).toNat + sep.length))
      simp only [List.length_cons]
      omega
theorem split_many (sep s : List UInt8) : (splitL sep s).length ≤ s.length + 2 := by
  have h1 := splitK_many sep (Lib.count s sep) s
  have h2 := Lib.count_le s sep
  unfold splitL
  omega
theorem mapM_stop {α : Type} {f : List UInt8 → Option α} : ∀ {l : List (List UInt8)} {p : List UInt8}, p ∈ l → f p = none → l.mapM f = none
  | x :: l, p, hm, hp => by
    rw [List.mapM_cons]
    rcases List.mem_cons.1 hm with rfl | hm
    · rw [hp]; rfl
    · rw [mapM_stop hm hp]
      cases f x <;> rfl
theorem mapM_snoc {α : Type} {f : List UInt8 → Option α} {p : List UInt8} {x : α} : ∀ {l : List (List UInt8)} {d : List α}, l.mapM f = some d → f p = some x → (l ++ [p]).mapM f = some (d ++ [x])
  | [], d, h, hp => by
    have : d = [] := by simpa using h.symm
    subst this
    simp [hp]
  | y :: l, d, h, hp => by
    rw [List.mapM_cons] at h
    rw [List.cons_append, List.mapM_cons]
    cases hy : f y with
    | none => rw [hy] at h; cases h
    | some a =>
      rw [hy] at h
      cases hl : l.mapM f with
      | none => rw [hl] at h; cases h
      | some b =>
        rw [hl] at h
        have : d = a :: b := by simpa using h.symm
        subst this
        rw [mapM_snoc hl hp]
        rfl
end Ru
end Go.Proofs.YtkhnjlkamleldaaDoor
