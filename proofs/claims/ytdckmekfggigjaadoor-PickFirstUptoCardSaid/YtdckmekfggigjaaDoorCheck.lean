/- The program's Check of a tag: it returns the fault that the plain check finds, and what lay in memory stays as it was. -/
import Derived.Test.YtdckmekfggigjaaDoorVars
namespace Go.Proofs.YtdckmekfggigjaaDoor
open Go.RowKit Go.Maps

theorem fault_lang {t : P.Tg} (h : P.langB t.lang = false) : P.fault t = 3 := by unfold P.fault; rw [if_pos h]
theorem fault_script {t : P.Tg} (h : P.langB t.lang = true) (h1 : t.script ≠ []) (h2 : P.scriptB t.script = false) : P.fault t = 3 := by
  unfold P.fault; rw [if_neg (by simp [h]), if_pos ⟨h1, h2⟩]
theorem fault_region {t : P.Tg} (h : P.langB t.lang = true) (h1 : t.script = [] ∨ P.scriptB t.script = true) (h2 : t.region ≠ []) (h3 : P.regionB t.region = false) : P.fault t = 3 := by
  unfold P.fault
  rw [if_neg (by simp [h]), if_neg (by rintro ⟨a, b⟩; rcases h1 with h1 | h1 <;> simp_all), if_pos ⟨h2, h3⟩]
theorem fault_vars {t : P.Tg} (h : P.langB t.lang = true) (h1 : t.script = [] ∨ P.scriptB t.script = true) (h2 : t.region = [] ∨ P.regionB t.region = true) : P.fault t = P.vars t.vars := by
  unfold P.fault
  rw [if_neg (by simp [h]), if_neg (by rintro ⟨a, b⟩; rcases h1 with h1 | h1 <;> simp_all), if_neg (by rintro ⟨a, b⟩; rcases h2 with h2 | h2 <;> simp_all)]
theorem toList_data (s : ByteArray) : s.toList = s.data.toList := ByteArray.toList_eq s

def tagT (L S R : ByteArray) (vs : List ByteArray) : P.Tg := ⟨L.data.toList, S.data.toList, R.data.toList, bs vs⟩

set_option maxHeartbeats 4000000 in
theorem check_any (L S R : ByteArray) (A : Option Addr) (n c : Nat) (vs : List ByteArray) (w : World) (h : Reads w w.heap.size 1 A n (sv vs)) (hsz : ∀ v ∈ vs, v.size ≤ maxLen) (hn : n < maxLen)
    (hL : L.size ≤ maxLen) (hS : S.size ≤ maxLen) (hR : R.size ≤ maxLen) :
    Calls Tryd.prog 33 #[.agg #[.string L, .string S, .string R, .slice A n c]] w fun e w' => e = .returned (errV (P.fault (tagT L S R vs))) ∧ Below w.heap.size w w' := by
  have h1 : Reads (w.alloc (.cells #[.string L, .string S, .string R, .slice A n c] 29)) (w.alloc (.cells #[.string L, .string S, .string R, .slice A n c] 29)).heap.size 1 A n (sv vs) := (h.alloc (Nat.le_refl _) _).more (by simp)
  have hb1 : Below w.heap.size w (w.alloc (.cells #[.string L, .string S, .string R, .slice A n c] 29)) := (Below.refl _ _).alloc (Nat.le_refl _) _
  clear h
  have eS := toList_data S
  have eR := toList_data R
  have ES := Lib.hid eS; clear eS
  have ER := Lib.hid eR; clear eR
  cases hl : P.langB L.data.toList
  · have HL := Lib.hid hl; clear hl
    go_enter Tryd.func33, Tryd.ntmps33
    go_wp2_with (go_at_call 44; refine (isLang_any L _ hL).mono ?_; rintro e w' ⟨rfl, rfl⟩; rw [HL.out])
    go_ret
    exact ⟨ret_err (a := 3) (fault_lang (t := tagT L S R vs) HL.out).symm, hb1⟩
  · have HL := Lib.hid hl; clear hl
    cases hs : P.scriptB S.data.toList <;> cases hr : P.regionB R.data.toList <;> by_cases hS0 : S.toList = [] <;> by_cases hR0 : R.toList = []
    all_goals
      have HS := Lib.hid hs
      have HR := Lib.hid hr
      have HS0 := Lib.hid hS0
      have HR0 := Lib.hid hR0
      clear hs hr
      try (have hS1 : S.toList.isEmpty = false := by simpa using HS0.out)
      try (have hR1 : R.toList.isEmpty = false := by simpa using HR0.out)
      go_enter Tryd.func33, Tryd.ntmps33
      go_wp2_with (first
        | (go_at_call 44; refine (isLang_any L _ hL).mono ?_; rintro e w' ⟨rfl, rfl⟩; rw [HL.out])
        | (go_at_call 45; refine (isScript_any S _ hS).mono ?_; rintro e w' ⟨rfl, rfl⟩; rw [HS.out])
        | (go_at_call 46; refine (isRegion_any R _ hR).mono ?_; rintro e w' ⟨rfl, rfl⟩; rw [HR.out])
        | (go_at_call 47; refine (checkVariants_any A n c vs _ h1 hsz hn).mono ?_; rintro e w' ⟨rfl, hb2⟩))
      go_ret
      first
        | exact ⟨ret_err (a := 3) (fault_script (t := tagT L S R vs) HL.out (fun h0 => HS0.out (ES.out.trans h0)) HS.out).symm, hb1⟩
        | exact ⟨ret_err (a := 3) (fault_region (t := tagT L S R vs) HL.out (.inl (ES.out.symm.trans HS0.out)) (fun h0 => HR0.out (ER.out.trans h0)) HR.out).symm, hb1⟩
        | exact ⟨ret_err (a := 3) (fault_region (t := tagT L S R vs) HL.out (.inr HS.out) (fun h0 => HR0.out (ER.out.trans h0)) HR.out).symm, hb1⟩
        | exact ⟨ret_err (fault_vars (t := tagT L S R vs) HL.out (.inl (ES.out.symm.trans HS0.out)) (.inl (ER.out.symm.trans HR0.out))).symm, hb1.trans (hb2.mono (by simp))⟩
        | exact ⟨ret_err (fault_vars (t := tagT L S R vs) HL.out (.inl (ES.out.symm.trans HS0.out)) (.inr HR.out)).symm, hb1.trans (hb2.mono (by simp))⟩
        | exact ⟨ret_err (fault_vars (t := tagT L S R vs) HL.out (.inr HS.out) (.inl (ER.out.symm.trans HR0.out))).symm, hb1.trans (hb2.mono (by simp))⟩
        | exact ⟨ret_err (fault_vars (t := tagT L S R vs) HL.out (.inr HS.out) (.inr HR.out)).symm, hb1.trans (hb2.mono (by simp))⟩
end Go.Proofs.YtdckmekfggigjaaDoor
