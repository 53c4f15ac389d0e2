/- The texts of the languages' rules: the rules that they are, and when each of them holds. -/
import Derived.Test.YteedhnpdffnfjaaDoorPlKind
namespace Go.Proofs.YteedhnpdffnfjaaDoor
namespace Ru
open Go.RowKit Go.Maps D

/-- i = 1 and v = 0 -/
def enOneB : List UInt8 := [105, 32, 61, 32, 49, 32, 97, 110, 100, 32, 118, 32, 61, 32, 48]
theorem enOneR : IsRule enOneB [[⟨105, 0, false, [(1, 1)]⟩, ⟨118, 0, false, [(0, 0)]⟩]] := by unfold IsRule; decide +kernel
theorem enOneH {I V W F T : Int} : hitB I V W F T enOneB = decide (I = 1 ∧ V = 0) := by
  rw [hit_of (by decide), is_of enOneR, Bool.eq_iff_iff, decide_eq_true_iff]
  simp [ruleH, partH, relH, inRg, modV, opV]
  try omega
/-- i = 0,1 -/
def frOneB : List UInt8 := [105, 32, 61, 32, 48, 44, 49]
theorem frOneR : IsRule frOneB [[⟨105, 0, false, [(0, 0), (1, 1)]⟩]] := by unfold IsRule; decide +kernel
theorem frOneH {I V W F T : Int} : hitB I V W F T frOneB = decide ((I = 0 ∨ I = 1)) := by
  rw [hit_of (by decide), is_of frOneR, Bool.eq_iff_iff, decide_eq_true_iff]
  simp [ruleH, partH, relH, inRg, modV, opV]
  try omega
/-- v = 0 and i % 10 = 2..4 and i % 100 != 12..14 -/
def plFewB : List UInt8 := [118, 32, 61, 32, 48, 32, 97, 110, 100, 32, 105, 32, 37, 32, 49, 48, 32, 61, 32, 50, 46, 46, 52, 32, 97, 110, 100, 32, 105, 32, 37, 32, 49, 48, 48, 32, 33, 61, 32, 49, 50, 46, 46, 49, 52]
theorem plFewR : IsRule plFewB [[⟨118, 0, false, [(0, 0)]⟩, ⟨105, 10, false, [(2, 4)]⟩, ⟨105, 100, true, [(12, 14)]⟩]] := by unfold IsRule; decide +kernel
theorem plFewH {I V W F T : Int} (hI : 0 ≤ I) : hitB I V W F T plFewB = decide (V = 0 ∧ (2 ≤ I % 10 ∧ I % 10 ≤ 4) ∧ ¬ ((12 ≤ I % 100 ∧ I % 100 ≤ 14))) := by
  rw [hit_of (by decide), is_of plFewR, Bool.eq_iff_iff, decide_eq_true_iff]
  simp [ruleH, partH, relH, inRg, modV, opV, Int.tmod_eq_emod_of_nonneg hI]
  try omega
/-- v = 0 and i != 1 and i % 10 = 0..1 or v = 0 and i % 10 = 5..9 or v = 0 and i % 100 = 12..14 -/
def plManyB : List UInt8 := [118, 32, 61, 32, 48, 32, 97, 110, 100, 32, 105, 32, 33, 61, 32, 49, 32, 97, 110, 100, 32, 105, 32, 37, 32, 49, 48, 32, 61, 32, 48, 46, 46, 49, 32, 111, 114, 32, 118, 32, 61, 32, 48, 32, 97, 110, 100, 32, 105, 32, 37, 32, 49, 48, 32, 61, 32, 53, 46, 46, 57, 32, 111, 114, 32, 118, 32, 61, 32, 48, 32, 97, 110, 100, 32, 105, 32, 37, 32, 49, 48, 48, 32, 61, 32, 49, 50, 46, 46, 49, 52]
theorem plManyR : IsRule plManyB [[⟨118, 0, false, [(0, 0)]⟩, ⟨105, 0, true, [(1, 1)]⟩, ⟨105, 10, false, [(0, 1)]⟩], [⟨118, 0, false, [(0, 0)]⟩, ⟨105, 10, false, [(5, 9)]⟩], [⟨118, 0, false, [(0, 0)]⟩, ⟨105, 100, false, [(12, 14)]⟩]] := by unfold IsRule; decide +kernel
theorem plManyH {I V W F T : Int} (hI : 0 ≤ I) : hitB I V W F T plManyB = decide ((V = 0 ∧ ¬ (I = 1) ∧ (0 ≤ I % 10 ∧ I % 10 ≤ 1)) ∨ (V = 0 ∧ (5 ≤ I % 10 ∧ I % 10 ≤ 9)) ∨ (V = 0 ∧ (12 ≤ I % 100 ∧ I % 100 ≤ 14))) := by
  rw [hit_of (by decide), is_of plManyR, Bool.eq_iff_iff, decide_eq_true_iff]
  simp [ruleH, partH, relH, inRg, modV, opV, Int.tmod_eq_emod_of_nonneg hI]
  try omega
/-- v = 0 and i % 10 = 1 and i % 100 != 11 -/
def ruOneB : List UInt8 := [118, 32, 61, 32, 48, 32, 97, 110, 100, 32, 105, 32, 37, 32, 49, 48, 32, 61, 32, 49, 32, 97, 110, 100, 32, 105, 32, 37, 32, 49, 48, 48, 32, 33, 61, 32, 49, 49]
theorem ruOneR : IsRule ruOneB [[⟨118, 0, false, [(0, 0)]⟩, ⟨105, 10, false, [(1, 1)]⟩, ⟨105, 100, true, [(11, 11)]⟩]] := by unfold IsRule; decide +kernel
theorem ruOneH {I V W F T : Int} (hI : 0 ≤ I) : hitB I V W F T ruOneB = decide (V = 0 ∧ I % 10 = 1 ∧ ¬ (I % 100 = 11)) := by
  rw [hit_of (by decide), is_of ruOneR, Bool.eq_iff_iff, decide_eq_true_iff]
  simp [ruleH, partH, relH, inRg, modV, opV, Int.tmod_eq_emod_of_nonneg hI]
  try omega
/-- v = 0 and i % 10 = 0 or v = 0 and i % 10 = 5..9 or v = 0 and i % 100 = 11..14 -/
def ruManyB : List UInt8 := [118, 32, 61, 32, 48, 32, 97, 110, 100, 32, 105, 32, 37, 32, 49, 48, 32, 61, 32, 48, 32, 111, 114, 32, 118, 32, 61, 32, 48, 32, 97, 110, 100, 32, 105, 32, 37, 32, 49, 48, 32, 61, 32, 53, 46, 46, 57, 32, 111, 114, 32, 118, 32, 61, 32, 48, 32, 97, 110, 100, 32, 105, 32, 37, 32, 49, 48, 48, 32, 61, 32, 49, 49, 46, 46, 49, 52]
theorem ruManyR : IsRule ruManyB [[⟨118, 0, false, [(0, 0)]⟩, ⟨105, 10, false, [(0, 0)]⟩], [⟨118, 0, false, [(0, 0)]⟩, ⟨105, 10, false, [(5, 9)]⟩], [⟨118, 0, false, [(0, 0)]⟩, ⟨105, 100, false, [(11, 14)]⟩]] := by unfold IsRule; decide +kernel
theorem ruManyH {I V W F T : Int} (hI : 0 ≤ I) : hitB I V W F T ruManyB = decide ((V = 0 ∧ I % 10 = 0) ∨ (V = 0 ∧ (5 ≤ I % 10 ∧ I % 10 ≤ 9)) ∨ (V = 0 ∧ (11 ≤ I % 100 ∧ I % 100 ≤ 14))) := by
  rw [hit_of (by decide), is_of ruManyR, Bool.eq_iff_iff, decide_eq_true_iff]
  simp [ruleH, partH, relH, inRg, modV, opV, Int.tmod_eq_emod_of_nonneg hI]
  try omega
/-- n = 0 -/
def arZeroB : List UInt8 := [110, 32, 61, 32, 48]
theorem arZeroR : IsRule arZeroB [[⟨110, 0, false, [(0, 0)]⟩]] := by unfold IsRule; decide +kernel
theorem arZeroH {I V W F T : Int} : hitB I V W F T arZeroB = decide ((T = 0 ∧ I = 0)) := by
  rw [hit_of (by decide), is_of arZeroR, Bool.eq_iff_iff, decide_eq_true_iff]
  simp [ruleH, partH, relH, inRg, modV, opV]
  try omega
/-- n = 1 -/
def arOneB : List UInt8 := [110, 32, 61, 32, 49]
theorem arOneR : IsRule arOneB [[⟨110, 0, false, [(1, 1)]⟩]] := by unfold IsRule; decide +kernel
theorem arOneH {I V W F T : Int} : hitB I V W F T arOneB = decide ((T = 0 ∧ I = 1)) := by
  rw [hit_of (by decide), is_of arOneR, Bool.eq_iff_iff, decide_eq_true_iff]
  simp [ruleH, partH, relH, inRg, modV, opV]
  try omega
/-- n = 2 -/
def arTwoB : List UInt8 := [110, 32, 61, 32, 50]
theorem arTwoR : IsRule arTwoB [[⟨110, 0, false, [(2, 2)]⟩]] := by unfold IsRule; decide +kernel
theorem arTwoH {I V W F T : Int} : hitB I V W F T arTwoB = decide ((T = 0 ∧ I = 2)) := by
  rw [hit_of (by decide), is_of arTwoR, Bool.eq_iff_iff, decide_eq_true_iff]
  simp [ruleH, partH, relH, inRg, modV, opV]
  try omega
/-- n % 100 = 3..10 -/
def arFewB : List UInt8 := [110, 32, 37, 32, 49, 48, 48, 32, 61, 32, 51, 46, 46, 49, 48]
theorem arFewR : IsRule arFewB [[⟨110, 100, false, [(3, 10)]⟩]] := by unfold IsRule; decide +kernel
theorem arFewH {I V W F T : Int} (hI : 0 ≤ I) : hitB I V W F T arFewB = decide ((T = 0 ∧ (3 ≤ I % 100 ∧ I % 100 ≤ 10))) := by
  rw [hit_of (by decide), is_of arFewR, Bool.eq_iff_iff, decide_eq_true_iff]
  simp [ruleH, partH, relH, inRg, modV, opV, Int.tmod_eq_emod_of_nonneg hI]
  try omega
/-- n % 100 = 11..99 -/
def arManyB : List UInt8 := [110, 32, 37, 32, 49, 48, 48, 32, 61, 32, 49, 49, 46, 46, 57, 57]
theorem arManyR : IsRule arManyB [[⟨110, 100, false, [(11, 99)]⟩]] := by unfold IsRule; decide +kernel
theorem arManyH {I V W F T : Int} (hI : 0 ≤ I) : hitB I V W F T arManyB = decide ((T = 0 ∧ (11 ≤ I % 100 ∧ I % 100 ≤ 99))) := by
  rw [hit_of (by decide), is_of arManyR, Bool.eq_iff_iff, decide_eq_true_iff]
  simp [ruleH, partH, relH, inRg, modV, opV, Int.tmod_eq_emod_of_nonneg hI]
  try omega
/-- n % 10 = 0 or n % 100 = 11..19 or v = 2 and f % 100 = 11..19 -/
def lvZeroB : List UInt8 := [110, 32, 37, 32, 49, 48, 32, 61, 32, 48, 32, 111, 114, 32, 110, 32, 37, 32, 49, 48, 48, 32, 61, 32, 49, 49, 46, 46, 49, 57, 32, 111, 114, 32, 118, 32, 61, 32, 50, 32, 97, 110, 100, 32, 102, 32, 37, 32, 49, 48, 48, 32, 61, 32, 49, 49, 46, 46, 49, 57]
theorem lvZeroR : IsRule lvZeroB [[⟨110, 10, false, [(0, 0)]⟩], [⟨110, 100, false, [(11, 19)]⟩], [⟨118, 0, false, [(2, 2)]⟩, ⟨102, 100, false, [(11, 19)]⟩]] := by unfold IsRule; decide +kernel
theorem lvZeroH {I V W F T : Int} (hI : 0 ≤ I) (hF : 0 ≤ F) : hitB I V W F T lvZeroB = decide (((T = 0 ∧ I % 10 = 0)) ∨ ((T = 0 ∧ (11 ≤ I % 100 ∧ I % 100 ≤ 19))) ∨ (V = 2 ∧ (11 ≤ F % 100 ∧ F % 100 ≤ 19))) := by
  rw [hit_of (by decide), is_of lvZeroR, Bool.eq_iff_iff, decide_eq_true_iff]
  simp [ruleH, partH, relH, inRg, modV, opV, Int.tmod_eq_emod_of_nonneg hI, Int.tmod_eq_emod_of_nonneg hF]
  try omega
/-- n % 10 = 1 and n % 100 != 11 or v = 2 and f % 10 = 1 and f % 100 != 11 or v != 2 and f % 10 = 1 -/
def lvOneB : List UInt8 := [110, 32, 37, 32, 49, 48, 32, 61, 32, 49, 32, 97, 110, 100, 32, 110, 32, 37, 32, 49, 48, 48, 32, 33, 61, 32, 49, 49, 32, 111, 114, 32, 118, 32, 61, 32, 50, 32, 97, 110, 100, 32, 102, 32, 37, 32, 49, 48, 32, 61, 32, 49, 32, 97, 110, 100, 32, 102, 32, 37, 32, 49, 48, 48, 32, 33, 61, 32, 49, 49, 32, 111, 114, 32, 118, 32, 33, 61, 32, 50, 32, 97, 110, 100, 32, 102, 32, 37, 32, 49, 48, 32, 61, 32, 49]
theorem lvOneR : IsRule lvOneB [[⟨110, 10, false, [(1, 1)]⟩, ⟨110, 100, true, [(11, 11)]⟩], [⟨118, 0, false, [(2, 2)]⟩, ⟨102, 10, false, [(1, 1)]⟩, ⟨102, 100, true, [(11, 11)]⟩], [⟨118, 0, true, [(2, 2)]⟩, ⟨102, 10, false, [(1, 1)]⟩]] := by unfold IsRule; decide +kernel
theorem lvOneH {I V W F T : Int} (hI : 0 ≤ I) (hF : 0 ≤ F) : hitB I V W F T lvOneB = decide (((T = 0 ∧ I % 10 = 1) ∧ (T = 0 → ¬ (I % 100 = 11))) ∨ (V = 2 ∧ F % 10 = 1 ∧ ¬ (F % 100 = 11)) ∨ (¬ (V = 2) ∧ F % 10 = 1)) := by
  rw [hit_of (by decide), is_of lvOneR, Bool.eq_iff_iff, decide_eq_true_iff]
  simp [ruleH, partH, relH, inRg, modV, opV, Int.tmod_eq_emod_of_nonneg hI, Int.tmod_eq_emod_of_nonneg hF]
  try omega
/-- the rules of en -/
theorem enRight : RightS [] enOneB [] [] [] := by
  intro x hx
  simp only [List.mem_cons, List.not_mem_nil, or_false] at hx
  rcases hx with rfl | rfl | rfl | rfl | rfl
  · exact .inl rfl
  · exact .inr (by rw [is_of enOneR]; exact enOneR)
  · exact .inl rfl
  · exact .inl rfl
  · exact .inl rfl
theorem enLen : ∀ x ∈ ([[], enOneB, [], [], []] : List (List UInt8)), x.length ≤ 1073741824 := by decide +kernel
/-- the rules of fr -/
theorem frRight : RightS [] frOneB [] [] [] := by
  intro x hx
  simp only [List.mem_cons, List.not_mem_nil, or_false] at hx
  rcases hx with rfl | rfl | rfl | rfl | rfl
  · exact .inl rfl
  · exact .inr (by rw [is_of frOneR]; exact frOneR)
  · exact .inl rfl
  · exact .inl rfl
  · exact .inl rfl
theorem frLen : ∀ x ∈ ([[], frOneB, [], [], []] : List (List UInt8)), x.length ≤ 1073741824 := by decide +kernel
/-- the rules of ja -/
theorem jaRight : RightS [] [] [] [] [] := by
  intro x hx
  simp only [List.mem_cons, List.not_mem_nil, or_false] at hx
  rcases hx with rfl | rfl | rfl | rfl | rfl
  · exact .inl rfl
  · exact .inl rfl
  · exact .inl rfl
  · exact .inl rfl
  · exact .inl rfl
theorem jaLen : ∀ x ∈ ([[], [], [], [], []] : List (List UInt8)), x.length ≤ 1073741824 := by decide +kernel
/-- the rules of pl -/
theorem plRight : RightS [] enOneB [] plFewB plManyB := by
  intro x hx
  simp only [List.mem_cons, List.not_mem_nil, or_false] at hx
  rcases hx with rfl | rfl | rfl | rfl | rfl
  · exact .inl rfl
  · exact .inr (by rw [is_of enOneR]; exact enOneR)
  · exact .inl rfl
  · exact .inr (by rw [is_of plFewR]; exact plFewR)
  · exact .inr (by rw [is_of plManyR]; exact plManyR)
theorem plLen : ∀ x ∈ ([[], enOneB, [], plFewB, plManyB] : List (List UInt8)), x.length ≤ 1073741824 := by decide +kernel
/-- the rules of ru -/
theorem ruRight : RightS [] ruOneB [] plFewB ruManyB := by
  intro x hx
  simp only [List.mem_cons, List.not_mem_nil, or_false] at hx
  rcases hx with rfl | rfl | rfl | rfl | rfl
  · exact .inl rfl
  · exact .inr (by rw [is_of ruOneR]; exact ruOneR)
  · exact .inl rfl
  · exact .inr (by rw [is_of plFewR]; exact plFewR)
  · exact .inr (by rw [is_of ruManyR]; exact ruManyR)
theorem ruLen : ∀ x ∈ ([[], ruOneB, [], plFewB, ruManyB] : List (List UInt8)), x.length ≤ 1073741824 := by decide +kernel
/-- the rules of ar -/
theorem arRight : RightS arZeroB arOneB arTwoB arFewB arManyB := by
  intro x hx
  simp only [List.mem_cons, List.not_mem_nil, or_false] at hx
  rcases hx with rfl | rfl | rfl | rfl | rfl
  · exact .inr (by rw [is_of arZeroR]; exact arZeroR)
  · exact .inr (by rw [is_of arOneR]; exact arOneR)
  · exact .inr (by rw [is_of arTwoR]; exact arTwoR)
  · exact .inr (by rw [is_of arFewR]; exact arFewR)
  · exact .inr (by rw [is_of arManyR]; exact arManyR)
theorem arLen : ∀ x ∈ ([arZeroB, arOneB, arTwoB, arFewB, arManyB] : List (List UInt8)), x.length ≤ 1073741824 := by decide +kernel
/-- the rules of lv -/
theorem lvRight : RightS lvZeroB lvOneB [] [] [] := by
  intro x hx
  simp only [List.mem_cons, List.not_mem_nil, or_false] at hx
  rcases hx with rfl | rfl | rfl | rfl | rfl
  · exact .inr (by rw [is_of lvZeroR]; exact lvZeroR)
  · exact .inr (by rw [is_of lvOneR]; exact lvOneR)
  · exact .inl rfl
  · exact .inl rfl
  · exact .inl rfl
theorem lvLen : ∀ x ∈ ([lvZeroB, lvOneB, [], [], []] : List (List UInt8)), x.length ≤ 1073741824 := by decide +kernel
/-- English and German: one of 1 as it stands -/
theorem en_kind {I V W F T : Int} : kindS [[], enOneB, [], [], []] I V W F T = if I = 1 ∧ V = 0 then [111, 110, 101] else [111, 116, 104, 101, 114] := by
  unfold kindS
  by_cases h : I = 1 ∧ V = 0
  · rw [if_pos h]
    have a0 : hitB I V W F T enOneB = true := by rw [enOneH]; exact decide_eq_true (by omega)
    simp only [List.map, hit_nil, a0]
    rfl
  · rw [if_neg h]
    have a0 : hitB I V W F T enOneB = false := by rw [enOneH]; exact decide_eq_false (by omega)
    simp only [List.map, hit_nil, a0]
    rfl
/-- French: one of 0 and 1 and what lies ahead of 2 -/
theorem fr_kind {I V W F T : Int} : kindS [[], frOneB, [], [], []] I V W F T = if I = 0 ∨ I = 1 then [111, 110, 101] else [111, 116, 104, 101, 114] := by
  unfold kindS
  by_cases h : I = 0 ∨ I = 1
  · rw [if_pos h]
    have a0 : hitB I V W F T frOneB = true := by rw [frOneH]; exact decide_eq_true (by omega)
    simp only [List.map, hit_nil, a0]
    rfl
  · rw [if_neg h]
    have a0 : hitB I V W F T frOneB = false := by rw [frOneH]; exact decide_eq_false (by omega)
    simp only [List.map, hit_nil, a0]
    rfl
theorem ja_kind {I V W F T : Int} : kindS [[], [], [], [], []] I V W F T = [111, 116, 104, 101, 114] := rfl
/-- Russian, of whole numbers -/
theorem ru_kind {I W F T : Int} (h : 0 ≤ I) : kindS [[], ruOneB, [], plFewB, ruManyB] I 0 W F T = if (2 ≤ I % 10 ∧ I % 10 ≤ 4) ∧ ¬ (11 ≤ I % 100 ∧ I % 100 ≤ 14) then [102, 101, 119] else if I % 10 = 1 ∧ ¬ (11 ≤ I % 100 ∧ I % 100 ≤ 14) then [111, 110, 101] else [109, 97, 110, 121] := by
  unfold kindS
  by_cases h1 : (2 ≤ I % 10 ∧ I % 10 ≤ 4) ∧ ¬ (11 ≤ I % 100 ∧ I % 100 ≤ 14)
  · rw [if_pos h1]
    have a0 : hitB I 0 W F T ruOneB = false := by rw [ruOneH h]; exact decide_eq_false (by omega)
    have a1 : hitB I 0 W F T plFewB = true := by rw [plFewH h]; exact decide_eq_true (by omega)
    simp only [List.map, hit_nil, a0, a1]
    rfl
  · rw [if_neg h1]
    by_cases h2 : I % 10 = 1 ∧ ¬ (11 ≤ I % 100 ∧ I % 100 ≤ 14)
    · rw [if_pos h2]
      have a0 : hitB I 0 W F T ruOneB = true := by rw [ruOneH h]; exact decide_eq_true (by omega)
      simp only [List.map, hit_nil, a0]
      rfl
    · rw [if_neg h2]
      have a0 : hitB I 0 W F T ruOneB = false := by rw [ruOneH h]; exact decide_eq_false (by omega)
      have a1 : hitB I 0 W F T plFewB = false := by rw [plFewH h]; exact decide_eq_false (by omega)
      have a2 : hitB I 0 W F T ruManyB = true := by rw [ruManyH h]; exact decide_eq_true (by omega)
      simp only [List.map, hit_nil, a0, a1, a2]
      rfl
/-- Polish, of whole numbers -/
theorem pl_kind {I W F T : Int} (h : 0 ≤ I) : kindS [[], enOneB, [], plFewB, plManyB] I 0 W F T = if I = 1 then [111, 110, 101] else if (2 ≤ I % 10 ∧ I % 10 ≤ 4) ∧ ¬ (11 ≤ I % 100 ∧ I % 100 ≤ 14) then [102, 101, 119] else [109, 97, 110, 121] := by
  unfold kindS
  by_cases h1 : I = 1
  · rw [if_pos h1]
    have a0 : hitB I 0 W F T enOneB = true := by rw [enOneH]; exact decide_eq_true (by omega)
    simp only [List.map, hit_nil, a0]
    rfl
  · rw [if_neg h1]
    by_cases h2 : (2 ≤ I % 10 ∧ I % 10 ≤ 4) ∧ ¬ (11 ≤ I % 100 ∧ I % 100 ≤ 14)
    · rw [if_pos h2]
      have a0 : hitB I 0 W F T enOneB = false := by rw [enOneH]; exact decide_eq_false (by omega)
      have a1 : hitB I 0 W F T plFewB = true := by rw [plFewH h]; exact decide_eq_true (by omega)
      simp only [List.map, hit_nil, a0, a1]
      rfl
    · rw [if_neg h2]
      have a0 : hitB I 0 W F T enOneB = false := by rw [enOneH]; exact decide_eq_false (by omega)
      have a1 : hitB I 0 W F T plFewB = false := by rw [plFewH h]; exact decide_eq_false (by omega)
      have a2 : hitB I 0 W F T plManyB = true := by rw [plManyH h]; exact decide_eq_true (by omega)
      simp only [List.map, hit_nil, a0, a1, a2]
      rfl
/-- Arabic: six kinds -/
theorem ar_kind {I V W F T : Int} (h : 0 ≤ I) : kindS [arZeroB, arOneB, arTwoB, arFewB, arManyB] I V W F T = if T = 0 then (if I = 0 then [122, 101, 114, 111] else if I = 1 then [111, 110, 101] else if I = 2 then [116, 119, 111] else if 3 ≤ I % 100 ∧ I % 100 ≤ 10 then [102, 101, 119] else if 11 ≤ I % 100 then [109, 97, 110, 121] else [111, 116, 104, 101, 114]) else [111, 116, 104, 101, 114] := by
  unfold kindS
  by_cases hT : T = 0
  · rw [if_pos hT]
    by_cases h1 : I = 0
    · rw [if_pos h1]
      have a0 : hitB I V W F T arZeroB = true := by rw [arZeroH]; exact decide_eq_true (by omega)
      simp only [List.map, a0]
      rfl
    · rw [if_neg h1]
      by_cases h2 : I = 1
      · rw [if_pos h2]
        have a0 : hitB I V W F T arZeroB = false := by rw [arZeroH]; exact decide_eq_false (by omega)
        have a1 : hitB I V W F T arOneB = true := by rw [arOneH]; exact decide_eq_true (by omega)
        simp only [List.map, a0, a1]
        rfl
      · rw [if_neg h2]
        by_cases h3 : I = 2
        · rw [if_pos h3]
          have a0 : hitB I V W F T arZeroB = false := by rw [arZeroH]; exact decide_eq_false (by omega)
          have a1 : hitB I V W F T arOneB = false := by rw [arOneH]; exact decide_eq_false (by omega)
          have a2 : hitB I V W F T arTwoB = true := by rw [arTwoH]; exact decide_eq_true (by omega)
          simp only [List.map, a0, a1, a2]
          rfl
        · rw [if_neg h3]
          by_cases h4 : 3 ≤ I % 100 ∧ I % 100 ≤ 10
          · rw [if_pos h4]
            have a0 : hitB I V W F T arZeroB = false := by rw [arZeroH]; exact decide_eq_false (by omega)
            have a1 : hitB I V W F T arOneB = false := by rw [arOneH]; exact decide_eq_false (by omega)
            have a2 : hitB I V W F T arTwoB = false := by rw [arTwoH]; exact decide_eq_false (by omega)
            have a3 : hitB I V W F T arFewB = true := by rw [arFewH h]; exact decide_eq_true (by omega)
            simp only [List.map, a0, a1, a2, a3]
            rfl
          · rw [if_neg h4]
            by_cases h5 : 11 ≤ I % 100
            · rw [if_pos h5]
              have a0 : hitB I V W F T arZeroB = false := by rw [arZeroH]; exact decide_eq_false (by omega)
              have a1 : hitB I V W F T arOneB = false := by rw [arOneH]; exact decide_eq_false (by omega)
              have a2 : hitB I V W F T arTwoB = false := by rw [arTwoH]; exact decide_eq_false (by omega)
              have a3 : hitB I V W F T arFewB = false := by rw [arFewH h]; exact decide_eq_false (by omega)
              have a4 : hitB I V W F T arManyB = true := by rw [arManyH h]; exact decide_eq_true (by omega)
              simp only [List.map, a0, a1, a2, a3, a4]
              rfl
            · rw [if_neg h5]
              have a0 : hitB I V W F T arZeroB = false := by rw [arZeroH]; exact decide_eq_false (by omega)
              have a1 : hitB I V W F T arOneB = false := by rw [arOneH]; exact decide_eq_false (by omega)
              have a2 : hitB I V W F T arTwoB = false := by rw [arTwoH]; exact decide_eq_false (by omega)
              have a3 : hitB I V W F T arFewB = false := by rw [arFewH h]; exact decide_eq_false (by omega)
              have a4 : hitB I V W F T arManyB = false := by rw [arManyH h]; exact decide_eq_false (by omega)
              simp only [List.map, a0, a1, a2, a3, a4]
              rfl
  · rw [if_neg hT]
    have a0 : hitB I V W F T arZeroB = false := by rw [arZeroH]; exact decide_eq_false (by omega)
    have a1 : hitB I V W F T arOneB = false := by rw [arOneH]; exact decide_eq_false (by omega)
    have a2 : hitB I V W F T arTwoB = false := by rw [arTwoH]; exact decide_eq_false (by omega)
    have a3 : hitB I V W F T arFewB = false := by rw [arFewH h]; exact decide_eq_false (by omega)
    have a4 : hitB I V W F T arManyB = false := by rw [arManyH h]; exact decide_eq_false (by omega)
    simp only [List.map, a0, a1, a2, a3, a4]
    rfl
/-- few, two: of whole numbers alone -/
theorem ru_whole {I V W F T : Int} (h : 0 ≤ I) (hV : V ≠ 0) : kindS [[], ruOneB, [], plFewB, ruManyB] I V W F T = [111, 116, 104, 101, 114] := by
  unfold kindS
  have a0 : hitB I V W F T ruOneB = false := by rw [ruOneH h]; exact decide_eq_false (by omega)
  have a1 : hitB I V W F T plFewB = false := by rw [plFewH h]; exact decide_eq_false (by omega)
  have a2 : hitB I V W F T ruManyB = false := by rw [ruManyH h]; exact decide_eq_false (by omega)
  simp only [List.map, hit_nil, a0, a1, a2]
  rfl
theorem pl_whole {I V W F T : Int} (h : 0 ≤ I) (hV : V ≠ 0) : kindS [[], enOneB, [], plFewB, plManyB] I V W F T = [111, 116, 104, 101, 114] := by
  unfold kindS
  have a0 : hitB I V W F T enOneB = false := by rw [enOneH]; exact decide_eq_false (by omega)
  have a1 : hitB I V W F T plFewB = false := by rw [plFewH h]; exact decide_eq_false (by omega)
  have a2 : hitB I V W F T plManyB = false := by rw [plManyH h]; exact decide_eq_false (by omega)
  simp only [List.map, hit_nil, a0, a1, a2]
  rfl
theorem lv_kind (I V W F T : Int) : kindS [lvZeroB, lvOneB, [], [], []] I V W F T = [122, 101, 114, 111] ∨ kindS [lvZeroB, lvOneB, [], [], []] I V W F T = [111, 110, 101] ∨ kindS [lvZeroB, lvOneB, [], [], []] I V W F T = [111, 116, 104, 101, 114] := by
  unfold kindS
  simp only [List.map, hit_nil]
  cases hitB I V W F T lvZeroB <;> cases hitB I V W F T lvOneB
  · exact .inr (.inr rfl)
  · exact .inr (.inl rfl)
  · exact .inl rfl
  · exact .inl rfl
end Ru
end Go.Proofs.YteedhnpdffnfjaaDoor
