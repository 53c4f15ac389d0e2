/- What the laws on numbers by patterns ask of the program's Check, Format and Read. -/
import Derived.Test.YtehocgemgdbikaaDoorNoSym
import Derived.Test.YtehocgemgdbikaaDoorDecWord
namespace Go.Proofs.YtehocgemgdbikaaDoor
namespace No
open Go.RowKit D Ru Np

/-- what is wrong with a pattern and signs, with a number besides -/
def baseF (p : PatV) (pt cm : UInt8) : Nat := if patF p = 0 then symF pt cm else patF p
def fmtF (p : PatV) (pt cm : UInt8) (c s : Int) : Nat := if baseF p pt cm = 0 then (if Right c s then 0 else 1) else baseF p pt cm
/-- what is told of a number -/
def fmtT (p : PatV) (pt cm : UInt8) (c s : Int) : List UInt8 := if fmtF p pt cm c s = 0 then shownL p pt cm (fitI p c s.toNat).1 (fitI p c s.toNat).2 else []
/-- what is read of a text -/
def rdF (p : PatV) (pt cm : UInt8) (t : List UInt8) : Nat := if baseF p pt cm = 0 then (if (readO p pt cm t).isSome then 0 else 3) else baseF p pt cm
def rdD (p : PatV) (pt cm : UInt8) (t : List UInt8) : Int × Nat := if baseF p pt cm = 0 then (readO p pt cm t).getD (0, 0) else (0, 0)
theorem base_zero {p : PatV} {pt cm : UInt8} (h : baseF p pt cm = 0) : patF p = 0 ∧ SymOk pt cm := by
  unfold baseF at h
  by_cases hp : patF p = 0
  · rw [if_pos hp] at h
    refine ⟨hp, ?_⟩
    unfold symF at h
    by_cases hy : SymOk pt cm
    · exact hy
    · rw [if_neg hy] at h; cases h
  · rw [if_neg hp] at h; exact absurd h hp
theorem base_ok {p : PatV} {pt cm : UInt8} (hp : patF p = 0) (hy : SymOk pt cm) : baseF p pt cm = 0 := by
  unfold baseF symF
  rw [if_pos hp, if_pos hy]
theorem fmt_zero {p : PatV} {pt cm : UInt8} {c s : Int} (h : fmtF p pt cm c s = 0) : baseF p pt cm = 0 ∧ Right c s := by
  unfold fmtF at h
  by_cases hb : baseF p pt cm = 0
  · rw [if_pos hb] at h
    refine ⟨hb, ?_⟩
    by_cases hr : Right c s
    · exact hr
    · rw [if_neg hr] at h; cases h
  · rw [if_neg hb] at h; exact absurd h hb
theorem fmt_ok {p : PatV} {pt cm : UInt8} {c s : Int} (hb : baseF p pt cm = 0) (hr : Right c s) : fmtF p pt cm c s = 0 := by
  unfold fmtF
  rw [if_pos hb, if_pos hr]
theorem fmtT_no {p : PatV} {pt cm : UInt8} {c s : Int} (h : fmtF p pt cm c s ≠ 0) : fmtT p pt cm c s = [] := if_neg h
theorem rd_zero {p : PatV} {pt cm : UInt8} {t : List UInt8} (h : rdF p pt cm t = 0) : baseF p pt cm = 0 ∧ readO p pt cm t = some (rdD p pt cm t) := by
  unfold rdF at h
  by_cases hb : baseF p pt cm = 0
  · rw [if_pos hb] at h
    refine ⟨hb, ?_⟩
    unfold rdD
    rw [if_pos hb]
    cases ho : readO p pt cm t with
    | none => rw [ho] at h; cases h
    | some d => rfl
  · rw [if_neg hb] at h; exact absurd h hb
theorem rd_some {p : PatV} {pt cm : UInt8} {t : List UInt8} {d : Int × Nat} (hb : baseF p pt cm = 0) (h : readO p pt cm t = some d) : rdF p pt cm t = 0 ∧ rdD p pt cm t = d := by
  unfold rdF rdD
  rw [if_pos hb, if_pos hb, h]
  exact ⟨rfl, rfl⟩
theorem rd_no {p : PatV} {pt cm : UInt8} {t : List UInt8} (h : rdF p pt cm t ≠ 0) : rdD p pt cm t = (0, 0) := by
  unfold rdF at h
  unfold rdD
  by_cases hb : baseF p pt cm = 0
  · rw [if_pos hb] at h ⊢
    cases ho : readO p pt cm t with
    | none => rfl
    | some d => rw [ho] at h; exact absurd rfl h
  · rw [if_neg hb]
/-- Format, behind whatever call of a law's own, of affixes up to a length -/
def FormatOk (N : Nat) (w : World) : Prop := ∀ (p : PatV) (pt cm : UInt8) (c s : Int) (W : World), Below w.heap.size w W → p.pre.length ≤ N → p.suf.length ≤ N →
  Calls Tryd.prog 7 #[patV p, symV pt cm, .agg #[.int .i64 c, .int .i64 s]] W (TextE W (fmtT p pt cm c s) (fmtF p pt cm c s))
theorem FormatOk.yes {N : Nat} {w : World} (h : FormatOk N w) {p : PatV} {pt cm : UInt8} {c s : Int} (h1 : p.pre.length ≤ N) (h2 : p.suf.length ≤ N) (hf : fmtF p pt cm c s = 0) : ∀ W, Below w.heap.size w W →
    Calls Tryd.prog 7 #[patV p, symV pt cm, .agg #[.int .i64 c, .int .i64 s]] W (TextY W (str (shownL p pt cm (fitI p c s.toNat).1 (fitI p c s.toNat).2))) := fun W hW => by
  have := textE_yes (h p pt cm c s W hW h1 h2) hf
  rwa [show fmtT p pt cm c s = _ from if_pos hf] at this
theorem FormatOk.no {N : Nat} {w : World} (h : FormatOk N w) {p : PatV} {pt cm : UInt8} {c s : Int} (h1 : p.pre.length ≤ N) (h2 : p.suf.length ≤ N) (hf : fmtF p pt cm c s ≠ 0) : ∀ W, Below w.heap.size w W →
    Calls Tryd.prog 7 #[patV p, symV pt cm, .agg #[.int .i64 c, .int .i64 s]] W (TextN W (fmtF p pt cm c s)) := fun W hW => textE_no (h p pt cm c s W hW h1 h2) hf (fmtT_no hf)
/-- the fact that each law asks first -/
theorem fact_out : fmtF ⟨[], [], 1, 0, 2, 3, 0⟩ 46 44 1234500 3 = 0 ∧ fmtT ⟨[], [], 1, 0, 2, 3, 0⟩ 46 44 1234500 3 = [49, 44, 50, 51, 52, 46, 53] := by
  have h : fmtF ⟨[], [], 1, 0, 2, 3, 0⟩ 46 44 1234500 3 = 0 := by decide
  refine ⟨h, ?_⟩
  unfold fmtT
  rw [if_pos h]
  have e : fitI ⟨[], [], 1, 0, 2, 3, 0⟩ 1234500 3 = (12345, 1) := by decide
  show shownL _ 46 44 (fitI ⟨[], [], 1, 0, 2, 3, 0⟩ 1234500 3).1 (fitI ⟨[], [], 1, 0, 2, 3, 0⟩ 1234500 3).2 = _
  rw [e]
  unfold shownL bodyL midL
  have e2 : pad (1 : Int).toNat ((12345 : Int).natAbs / 10 ^ 1) = [49, 50, 51, 52] := by decide +kernel
  have e3 : fracL 46 (0 : Int).toNat (12345 : Int).natAbs 1 = [46, 53] := by decide +kernel
  show (if (12345 : Int) < 0 then [45] else []) ++ ([] ++ (Gr.grouped 44 3 0 (pad (1 : Int).toNat ((12345 : Int).natAbs / 10 ^ 1)) ++ fracL 46 (0 : Int).toNat (12345 : Int).natAbs 1) ++ []) = _
  rw [e2, e3, Gr.grouped_more (by simp), Gr.grouped_one (by simp [Gr.nextG])]
  rfl
theorem fact_any {N : Nat} {w : World} (h : FormatOk N w) : ∀ W, Below w.heap.size w W → Calls Tryd.prog 6 #[] W (TrueB W) := by
  intro W hW
  have hc := textE_yes (h ⟨[], [], 1, 0, 2, 3, 0⟩ 46 44 1234500 3 W hW (Nat.zero_le _) (Nat.zero_le _)) fact_out.1
  rw [fact_out.2] at hc
  have CP : Hid (Calls Tryd.prog 7 #[.agg #[.string ⟨#[]⟩, .string ⟨#[]⟩, .int .i64 1, .int .i64 0, .int .i64 2, .int .i64 3, .int .i64 0], .agg #[.int .u8 46, .int .u8 44], .agg #[.int .i64 1234500, .int .i64 3]] W (TextY W ⟨#[49, 44, 50, 51, 52, 46, 53]⟩)) := Lib.hid hc
  clear h hW hc
  go_enter Tryd.func6, Tryd.ntmps6
  go_wp2_with (go_at_call 7; (with_reducible refine CP.out.mono ?_); rintro e w1 ⟨rfl, hb1⟩; dsimp only)
  go_ret
  exact ⟨rfl, hb1⟩
end No
end Go.Proofs.YtehocgemgdbikaaDoor
