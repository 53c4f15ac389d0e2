/- Shown and read, there and back: plain facts. -/
import Derived.Test.YtehocgemgdbikaaDoorNoSays
import Derived.Test.YtehocgemgdbikaaDoorDecTwo
namespace Go.Proofs.YtehocgemgdbikaaDoor
namespace No
open Go.RowKit D Ru Np

theorem dec_short {n : Nat} (h : n ≤ 1000000000000000) : (Lib.decDigits n).length ≤ 16 := by
  rw [Lib.decDigits_length]
  exact nDigits_le (by decide) (by omega)
theorem pat_parts {p : PatV} (h : patF p = 0) : Aff p.pre ∧ Aff p.suf ∧ (1 ≤ p.a ∧ p.a ≤ 9) ∧ (0 ≤ p.m ∧ p.m ≤ 6) ∧ (0 ≤ p.b ∧ p.b ≤ p.m) ∧ (0 ≤ p.g ∧ p.g ≤ 4) ∧ (0 ≤ p.g2 ∧ p.g2 ≤ 4) := by
  obtain ⟨⟨h1, h2⟩, ⟨ha, hm, hb, hg, hg2⟩, _⟩ := patF_zero.1 h
  exact ⟨h1, h2, ha, hm, hb, hg, hg2⟩
theorem shown_len {p : PatV} (h : patF p = 0) (pt cm : UInt8) {c : Int} {s : Nat} (hc : c.natAbs ≤ 1000000000000000) (hs : s ≤ 9) : (shownL p pt cm c s).length ≤ 200 := by
  obtain ⟨h1, h2, ha, hm, hb, -, -⟩ := pat_parts h
  have l1 := h1.1
  have l2 := h2.1
  have l3 : (pad p.a.toNat (c.natAbs / 10 ^ s)).length ≤ 25 := by
    unfold pad
    have := dec_short (n := c.natAbs / 10 ^ s) (Nat.le_trans (Nat.div_le_self _ _) hc)
    rw [List.length_append]
    unfold noughts
    rw [List.length_replicate]
    omega
  have l4 := Gr.grouped_le cm p.g.toNat p.g2.toNat (pad p.a.toNat (c.natAbs / 10 ^ s))
  have l5 : (fracL pt p.b.toNat c.natAbs s).length ≤ 30 := by
    unfold fracL
    split
    · simp
    · rw [List.length_cons, List.length_append, low_length]
      unfold noughts
      rw [List.length_replicate]
      omega
  have l6 : (if c < 0 then [45] else ([] : List UInt8)).length ≤ 1 := by split <;> simp
  unfold shownL bodyL midL
  simp only [List.length_append] at *
  omega
/-- what is told of a number is read as what is shown of it -/
theorem back_read {p : PatV} {pt cm : UInt8} {c s : Int} (h : fmtF p pt cm c s = 0) :
    rdF p pt cm (shownL p pt cm (fitI p c s.toNat).1 (fitI p c s.toNat).2) = 0 ∧ rdD p pt cm (shownL p pt cm (fitI p c s.toNat).1 (fitI p c s.toNat).2) = fitI p c s.toNat := by
  obtain ⟨hb, hr⟩ := fmt_zero h
  obtain ⟨hp, hy⟩ := base_zero hb
  have h0 := hr.1
  exact rd_some hb ((readO_some (pat_parts hp).1 hy).2 ⟨fit_fit (by rw [show (s.toNat : Int) = s by omega]; exact hr), rfl⟩)
theorem fit_right {p : PatV} (hp : patF p = 0) {c : Int} {s : Nat} (h : Fit p c s) : Right c s := by
  obtain ⟨-, -, -, hm, -, -, -⟩ := pat_parts hp
  obtain ⟨h1, -, h3⟩ := h
  exact ⟨by omega, by omega, by omega, by omega⟩
/-- and that is the number, rounded -/
theorem back_round {p : PatV} {c s : Int} (hp : patF p = 0) (hr : Right c s) :
    roundF c s (min p.m s) 5 = 0 ∧ decide (Right (fitI p c s.toNat).1 (fitI p c s.toNat).2 ∧ Right (rc c s (min p.m s) 5) (min p.m s) ∧ val (fitI p c s.toNat).1 (fitI p c s.toNat).2 = val (rc c s (min p.m s) 5) (min p.m s)) = true := by
  obtain ⟨-, -, -, hm, -, -, -⟩ := pat_parts hp
  have h0 := hr.1
  have h9 := hr.2.1
  have hrn : Right c (s.toNat : Int) := by rw [show (s.toNat : Int) = s by omega]; exact hr
  have hv := fit_val (p := p) hrn
  have hm2 : ((min p.m.toNat s.toNat : Nat) : Int) = min p.m s := by omega
  rw [hm2, show (s.toNat : Int) = s by omega] at hv
  have hb : -1000000000000000 ≤ rc c s (min p.m s) 5 ∧ rc c s (min p.m s) 5 ≤ 1000000000000000 := by
    by_cases hlt : min p.m s < s
    · exact fewer_room hr hlt
    · have e : min p.m s = s := by omega
      rw [e, rc_more (Int.le_refl s) h9, show s - s = 0 by omega, show ten 0 = 1 from rfl, Int.mul_one]
      exact hr.2.2
  refine ⟨roundF_zero.2 ⟨hr, by omega, by decide, hb⟩, ?_⟩
  rw [decide_eq_true_iff]
  exact ⟨fit_right hp (fit_fit hrn), ⟨by omega, by omega, hb.1, hb.2⟩, hv⟩
/-- what is read is told so again -/
theorem back_fmt {p : PatV} {pt cm : UInt8} {t : List UInt8} (h : rdF p pt cm t = 0) :
    fmtF p pt cm (rdD p pt cm t).1 (rdD p pt cm t).2 = 0 ∧ shownL p pt cm (fitI p (rdD p pt cm t).1 (rdD p pt cm t).2).1 (fitI p (rdD p pt cm t).1 (rdD p pt cm t).2).2 = t := by
  obtain ⟨hb, ho⟩ := rd_zero h
  obtain ⟨hp, hy⟩ := base_zero hb
  obtain ⟨hF, hS⟩ := (readO_some (pat_parts hp).1 hy).1 ho
  refine ⟨fmt_ok hb (fit_right hp hF), ?_⟩
  rw [fit_self hF]
  exact hS
end No
end Go.Proofs.YtehocgemgdbikaaDoor
