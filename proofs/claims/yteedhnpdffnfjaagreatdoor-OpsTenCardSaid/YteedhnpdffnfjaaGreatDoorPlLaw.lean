/- What the laws on plural rules share. -/
import Derived.Test.YteedhnpdffnfjaaGreatDoorPlKind
namespace Go.Proofs.YteedhnpdffnfjaaGreatDoor
namespace Ru
open Go.RowKit Go.Maps D

theorem right_one {l : List UInt8} {r : List (List RelV)} (h : IsRule l r) : RightS [] l [] [] [] := by
  intro x hx
  simp only [List.mem_cons, List.not_mem_nil, or_false] at hx
  rcases hx with rfl | rfl | rfl | rfl | rfl
  · exact .inl rfl
  · exact .inr (by rw [is_of h]; exact h)
  · exact .inl rfl
  · exact .inl rfl
  · exact .inl rfl
theorem kind_of_one {l : List UInt8} {r : List (List RelV)} (h : IsRule l r) (hl : l ≠ []) {I V W F T : Int} (hh : ruleH r I V W F T = true) : kindS [[], l, [], [], []] I V W F T = [111, 110, 101] := by
  unfold kindS
  simp only [List.map, hit_nil, hit_of hl, is_of h, hh]
  rfl
theorem len_one {l : List UInt8} (hl : l.length ≤ 1073741824) : ∀ x ∈ [[], l, [], [], []], x.length ≤ 1073741824 := by
  intro x hx
  simp only [List.mem_cons, List.not_mem_nil, or_false] at hx
  rcases hx with rfl | rfl | rfl | rfl | rfl
  · simp
  · exact hl
  · simp
  · simp
  · simp
/-- the fact that a law asks first -/
theorem fact_ruled (W : World) (hE : Env W) (hN : Names W) : Calls Tryz.prog 7 #[.agg #[.string ⟨#[]⟩, .string ⟨#[105, 32, 61, 32, 49, 32, 97, 110, 100, 32, 118, 32, 61, 32, 48]⟩, .string ⟨#[]⟩, .string ⟨#[]⟩, .string ⟨#[]⟩], .agg #[.int .i64 1, .int .i64 0]] W (KindYes W ⟨#[111, 110, 101]⟩) := by
  have hk := kind_of_one is_ruled (by simp) (I := opsI 1 0) (V := 0) (W := opsW 1 0) (F := opsF 1 0) (T := opsT 1 0) (by decide +kernel)
  have h := kind_good [] [105, 32, 61, 32, 49, 32, 97, 110, 100, 32, 118, 32, 61, 32, 48] [] [] [] 1 0 W (len_one (by simp)) hE hN (right_one is_ruled) (by unfold Right; omega)
  rw [hk] at h
  exact h
theorem fact_one (W : World) (hE : Env W) (hN : Names W) : Calls Tryz.prog 7 #[.agg #[.string ⟨#[]⟩, .string ⟨#[110, 32, 61, 32, 49]⟩, .string ⟨#[]⟩, .string ⟨#[]⟩, .string ⟨#[]⟩], .agg #[.int .i64 1, .int .i64 0]] W (KindYes W ⟨#[111, 110, 101]⟩) := by
  have hk := kind_of_one is_one (by simp) (I := opsI 1 0) (V := 0) (W := opsW 1 0) (F := opsF 1 0) (T := opsT 1 0) (by decide +kernel)
  have h := kind_good [] [110, 32, 61, 32, 49] [] [] [] 1 0 W (len_one (by simp)) hE hN (right_one is_one) (by unfold Right; omega)
  rw [hk] at h
  exact h
end Ru
end Go.Proofs.YteedhnpdffnfjaaGreatDoor
