/- The number of a text, step by step: plain facts. Nothing of the program stands here. -/
import Derived.Test.YtehocgemgdbikaaDoorNoMath
namespace Go.Proofs.YtehocgemgdbikaaDoor
namespace No
open D

theorem scan_digs (pt : UInt8) : ∀ (l : List UInt8) (b : Bool), Digs (scanL pt l b).1
  | [], _ => fun c hc => by simp [scanL] at hc
  | c :: r, b => by
    show Digs (let q := scanL pt r (b || c == pt); if Gr.Dg c then (c :: q.1, if b || c == pt then q.2 + 1 else q.2) else q).1
    have ih := scan_digs pt r (b || c == pt)
    by_cases h : Gr.Dg c
    · simp only [if_pos h]
      intro x hx
      rcases List.mem_cons.1 hx with rfl | hx
      · exact h
      · exact ih x hx
    · simp only [if_neg h]; exact ih
theorem scan_dig {pt c : UInt8} (r : List UInt8) (b : Bool) (h : Gr.Dg c) : scanL pt (c :: r) b = (c :: (scanL pt r (b || c == pt)).1, (if b || c == pt then 1 else 0) + (scanL pt r (b || c == pt)).2) := by
  show (let q := scanL pt r (b || c == pt); if Gr.Dg c then (c :: q.1, if b || c == pt then q.2 + 1 else q.2) else q) = _
  simp only [if_pos h]
  cases (b || c == pt) <;> simp <;> omega
theorem scan_count (pt : UInt8) : ∀ (l : List UInt8) (b : Bool), (scanL pt l b).2 ≤ (scanL pt l b).1.length ∧ (scanL pt l b).1.length ≤ l.length
  | [], _ => by simp [scanL]
  | c :: r, b => by
    have ih := scan_count pt r (b || c == pt)
    by_cases h : Gr.Dg c
    · rw [scan_dig r b h]
      simp only [List.length_cons]
      generalize hk : (if (b || c == pt) = true then 1 else 0 : Nat) = k
      have : k ≤ 1 := by rw [← hk]; split <;> omega
      omega
    · rw [scan_skip r b h, List.length_cons]; omega
theorem strip_done : ∀ (k : Nat) (l : List UInt8), (stripL l k).2 = 0 ∨ (stripL l k).1.getLast? ≠ some 48
  | 0, _ => .inl rfl
  | k + 1, l => by
    unfold stripL
    split
    · exact strip_done k l.dropLast
    · rename_i h; exact .inr h
theorem strip_pre : ∀ (k : Nat) (l : List UInt8), ∃ r, l = (stripL l k).1 ++ r
  | 0, l => ⟨[], by simp [stripL]⟩
  | k + 1, l => by
    unfold stripL
    split
    · rename_i h
      obtain ⟨r, hr⟩ := strip_pre k l.dropLast
      have hne : l ≠ [] := fun e => by rw [e] at h; simp at h
      have e := List.dropLast_concat_getLast hne
      rw [hr] at e
      exact ⟨r ++ [l.getLast hne], by rw [← List.append_assoc]; exact e.symm⟩
    · exact ⟨[], by simp⟩
theorem strip_yes {l : List UInt8} {k : Nat} (h : l.getLast? = some 48) : stripL l (k + 1) = stripL l.dropLast k := by
  conv => lhs; unfold stripL
  rw [if_pos h]
theorem strip_no {l : List UInt8} {k : Nat} (h : l.getLast? ≠ some 48) : stripL l (k + 1) = (l, k + 1) := by
  unfold stripL
  rw [if_neg h]
theorem strip_digs {l : List UInt8} (k : Nat) (h : Digs l) : Digs (stripL l k).1 := by
  obtain ⟨r, hr⟩ := strip_pre k l
  intro c hc
  exact h c (by rw [hr]; exact List.mem_append_left _ hc)
theorem strip_len {l : List UInt8} (k : Nat) : (stripL l k).1.length ≤ l.length := by
  obtain ⟨r, hr⟩ := strip_pre k l
  have := congrArg List.length hr
  rw [List.length_append] at this
  omega
theorem strip_cnt : ∀ (k : Nat) (l : List UInt8), (stripL l k).2 ≤ k
  | 0, _ => Nat.le_refl _
  | k + 1, l => by
    unfold stripL
    split
    · have := strip_cnt k l.dropLast; omega
    · exact Nat.le_refl _
/-- more digits, no less -/
theorem addD_up : ∀ (r : List UInt8) (z : Int), 0 ≤ z → Digs r → z ≤ addD z r
  | [], z, _, _ => by simp [addD]
  | c :: r, z, h0, h => by
    have hc := h c (by simp)
    have := addD_up r (10 * z + ((c.toNat : Int) - 48)) (by omega) fun d hd => h d (by simp [hd])
    show z ≤ addD (10 * z + ((c.toNat : Int) - 48)) r
    omega
theorem addD_pos (l : List UInt8) (h : Digs l) : 0 ≤ addD 0 l := (addD_room l 0 (Int.le_refl _) h).1
theorem addD_take {l : List UInt8} (h : Digs l) (i : Nat) : addD 0 (l.take i) ≤ addD 0 l := by
  conv => rhs; rw [← List.take_append_drop i l, addD_app]
  exact addD_up _ _ (addD_pos _ fun c hc => h c (List.mem_of_mem_take hc)) fun c hc => h c (List.mem_of_mem_drop hc)
theorem addD_step (l : List UInt8) (i : Nat) (hi : i < l.length) : addD 0 (l.take (i + 1)) = 10 * addD 0 (l.take i) + ((l[i].toNat : Int) - 48) := by
  rw [List.take_succ_eq_append_getElem hi, addD_snoc]
theorem last_mod {l : List UInt8} (h : Digs l) (hl : l.getLast? ≠ some 48) (hne : l ≠ []) : addD 0 l % 10 ≠ 0 := by
  have e := List.dropLast_concat_getLast hne
  rw [List.getLast?_eq_some_getLast hne] at hl
  have hd := h (l.getLast hne) (List.getLast_mem hne)
  rw [← e, addD_snoc]
  intro hm
  apply hl
  congr 1
  apply UInt8.toNat_inj.1
  show _ = 48
  omega
/-- the sign of a text, its digits' number -/
def sgnT (t : List UInt8) : Int := if negT t then -1 else 1
theorem readC_eq (p : Np.PatV) (pt : UInt8) (t : List UInt8) : readC p pt t = (sgnT t * addD 0 (scanT p pt t).1, (scanT p pt t).2) := rfl
theorem scanT_digs (p : Np.PatV) (pt : UInt8) (t : List UInt8) : Digs (scanT p pt t).1 := strip_digs _ (scan_digs _ _ _)
theorem sgn_abs (t : List UInt8) (n : Int) : (sgnT t * n).natAbs = n.natAbs := by
  unfold sgnT
  split <;> simp
theorem read_done (p : Np.PatV) (pt : UInt8) (t : List UInt8) : (readC p pt t).2 = 0 ∨ (readC p pt t).1 % 10 ≠ 0 := by
  rw [readC_eq]
  dsimp only
  rcases strip_done (scanL pt (midT p t) false).2 (scanL pt (midT p t) false).1 with h | h
  · exact .inl h
  · by_cases h0 : (scanT p pt t).2 = 0
    · exact .inl h0
    · right
      have hne : (scanT p pt t).1 ≠ [] := by
        intro e
        have h1 := (scan_count pt (midT p t) false).1
        have hc : (scanT p pt t).2 ≤ (scanT p pt t).1.length := by
          unfold scanT
          generalize (scanL pt (midT p t) false).1 = l at *
          generalize (scanL pt (midT p t) false).2 = k at *
          clear h e h0
          induction k generalizing l with
          | zero => simp [stripL]
          | succ k ih =>
            unfold stripL
            split
            · exact ih l.dropLast (by rw [List.length_dropLast]; omega)
            · exact h1
        rw [e] at hc
        simp at hc
        omega
      have := last_mod (scanT_digs p pt t) h hne
      generalize addD 0 (scanT p pt t).1 = n at *
      unfold sgnT
      split <;> omega
theorem readO_none {p : Np.PatV} {pt cm : UInt8} {t : List UInt8} (h : 1000000000000000 < addD 0 (scanT p pt t).1) : readO p pt cm t = none := by
  unfold readO
  rw [if_neg]
  rintro ⟨⟨_, _, h3⟩, _⟩
  rw [readC_eq] at h3
  dsimp only at h3
  rw [sgn_abs] at h3
  omega
theorem readO_far {p : Np.PatV} {pt cm : UInt8} {t : List UInt8} (h : p.m.toNat < (scanT p pt t).2) : readO p pt cm t = none := by
  unfold readO
  rw [if_neg]
  rintro ⟨⟨h1, _, _⟩, _⟩
  rw [readC_eq] at h1
  dsimp only at h1
  omega
/-- what is shown of the number that a text could be that of -/
theorem readO_fit {p : Np.PatV} {pt cm : UInt8} {t : List UInt8} (h1 : (scanT p pt t).2 ≤ p.m.toNat) (h2 : addD 0 (scanT p pt t).1 ≤ 1000000000000000) :
    readO p pt cm t = if shownL p pt cm (fitI p (readC p pt t).1 (readC p pt t).2).1 (fitI p (readC p pt t).1 (readC p pt t).2).2 = t then some (readC p pt t) else none := by
  have hp := addD_pos _ (scanT_digs p pt t)
  have hF : Fit p (readC p pt t).1 (readC p pt t).2 := by
    refine ⟨h1, read_done p pt t, ?_⟩
    rw [readC_eq]
    dsimp only
    rw [sgn_abs]
    omega
  rw [fit_self hF]
  unfold readO
  by_cases h : shownL p pt cm (readC p pt t).1 (readC p pt t).2 = t
  · rw [if_pos ⟨hF, h⟩, if_pos h]
  · rw [if_neg (fun e => h e.2), if_neg h]
end No
end Go.Proofs.YtehocgemgdbikaaDoor
