/- Numbers by patterns, as plain facts on bytes: noughts at the end struck, what is shown. Nothing of the program stands here. And what follows from it. -/
import Derived.Test.YtehocgemgdbikaaDoorGrMath
import Derived.Test.YtehocgemgdbikaaDoorNpMath
import Derived.Test.YtehocgemgdbikaaDoorRuPlain
import Derived.Lib.TrimByte
import Derived.Lib.AtoiAllCases
namespace Go.Proofs.YtehocgemgdbikaaDoor
namespace No
open D

/-! ### noughts at the end -/
def trimI (c : Int) : Nat → Int × Nat
  | 0 => (c, 0)
  | s + 1 => if c % 10 = 0 then trimI (c / 10) s else (c, s + 1)
theorem trim_le : ∀ (s : Nat) (c : Int), (trimI c s).2 ≤ s
  | 0, _ => Nat.le_refl _
  | s + 1, c => by
    unfold trimI
    split
    · have := trim_le s (c / 10); omega
    · exact Nat.le_refl _
theorem trim_val : ∀ (s : Nat) (c : Int), (trimI c s).1 * 10 ^ (s - (trimI c s).2) = c
  | 0, c => by simp [trimI]
  | s + 1, c => by
    unfold trimI
    split
    · rename_i h
      have h1 := trim_val s (c / 10)
      have h2 := trim_le s (c / 10)
      rw [show s + 1 - (trimI (c / 10) s).2 = (s - (trimI (c / 10) s).2) + 1 by omega, Int.pow_succ, ← Int.mul_assoc, h1]
      omega
    · simp
theorem trim_done : ∀ (s : Nat) (c : Int), (trimI c s).2 = 0 ∨ (trimI c s).1 % 10 ≠ 0
  | 0, _ => .inl rfl
  | s + 1, c => by
    unfold trimI
    split
    · exact trim_done s (c / 10)
    · rename_i h; exact .inr h
theorem trim_abs (s : Nat) (c : Int) : (trimI c s).1.natAbs ≤ c.natAbs := by
  have h := congrArg Int.natAbs (trim_val s c)
  rw [Int.natAbs_mul] at h
  have hp : 0 < ((10 : Int) ^ (s - (trimI c s).2)).natAbs := Int.natAbs_pos.2 (by have := Int.pow_pos (n := 10) (m := s - (trimI c s).2) (by decide); omega)
  calc (trimI c s).1.natAbs = (trimI c s).1.natAbs * 1 := (Nat.mul_one _).symm
    _ ≤ (trimI c s).1.natAbs * ((10 : Int) ^ (s - (trimI c s).2)).natAbs := Nat.mul_le_mul_left _ hp
    _ = c.natAbs := h
theorem trim_neg : ∀ (s : Nat) (c : Int), trimI (-c) s = (-(trimI c s).1, (trimI c s).2)
  | 0, _ => rfl
  | s + 1, c => by
    unfold trimI
    by_cases h : c % 10 = 0
    · rw [if_pos h, if_pos (by omega), show -c / 10 = -(c / 10) by omega, trim_neg s]
    · rw [if_neg h, if_neg (by omega)]
theorem trim_self {c : Int} {s : Nat} (h : s = 0 ∨ c % 10 ≠ 0) : trimI c s = (c, s) := by
  cases s with
  | zero => rfl
  | succ s =>
    unfold trimI
    rw [if_neg (h.resolve_left (by omega))]
theorem trim_up {c : Int} : ∀ (j s : Nat), trimI (c * 10 ^ j) (s + j) = trimI c s
  | 0, s => by simp
  | j + 1, s => by
    rw [show s + (j + 1) = (s + j) + 1 by omega]
    unfold trimI
    have e : c * 10 ^ (j + 1) = c * 10 ^ j * 10 := by rw [Int.pow_succ, Int.mul_assoc]
    rw [if_pos (by rw [e]; omega), show c * 10 ^ (j + 1) / 10 = c * 10 ^ j by rw [e]; omega]
    have := trim_up (c := c) j s
    cases s with
    | zero => simpa [trimI] using this
    | succ s => exact this
theorem trim_one {c d : Int} {s t : Nat} (hts : t ≤ s) (hv : d * 10 ^ (s - t) = c) (hd : t = 0 ∨ d % 10 ≠ 0) : trimI c s = (d, t) := by
  rw [← hv, show s = t + (s - t) by omega, show t + (s - t) - t = s - t by omega, trim_up, trim_self hd]
/-! ### what is shown -/
/-- behind the point -/
def fracL (pt : UInt8) (b n s : Nat) : List UInt8 := if low s n ++ noughts (b - s) = [] then [] else pt :: (low s n ++ noughts (b - s))
def midL (p : Np.PatV) (pt cm : UInt8) (n s : Nat) : List UInt8 := Gr.grouped cm p.g.toNat p.g2.toNat (pad p.a.toNat (n / 10 ^ s)) ++ fracL pt p.b.toNat n s
def bodyL (p : Np.PatV) (pt cm : UInt8) (n s : Nat) : List UInt8 := p.pre ++ midL p pt cm n s ++ p.suf
def shownL (p : Np.PatV) (pt cm : UInt8) (c : Int) (s : Nat) : List UInt8 := (if c < 0 then [45] else []) ++ bodyL p pt cm c.natAbs s
/-- a number that is shown as it is -/
def Fit (p : Np.PatV) (c : Int) (s : Nat) : Prop := s ≤ p.m.toNat ∧ (s = 0 ∨ c % 10 ≠ 0) ∧ c.natAbs ≤ 1000000000000000
instance (p : Np.PatV) (c : Int) (s : Nat) : Decidable (Fit p c s) := inferInstanceAs (Decidable (_ ∧ _))
/-- what is shown of a number -/
def fitI (p : Np.PatV) (c : Int) (s : Nat) : Int × Nat := if p.m.toNat < (trimI c s).2 then trimI (rc (trimI c s).1 (trimI c s).2 p.m.toNat 5) p.m.toNat else trimI c s
/-- the signs -/
def signL : List UInt8 := [46, 44, 39, 95]
def SymOk (pt cm : UInt8) : Prop := pt ≠ cm ∧ signL.contains pt = true ∧ signL.contains cm = true
instance (pt cm : UInt8) : Decidable (SymOk pt cm) := inferInstanceAs (Decidable (_ ∧ _))
def symF (pt cm : UInt8) : Nat := if SymOk pt cm then 0 else 3
theorem sign_not {c : UInt8} (h : signL.contains c = true) : ¬ Gr.Dg c ∧ c ≠ 45 := by
  unfold signL at h
  simp at h
  rcases h with rfl | rfl | rfl | rfl <;> exact ⟨by decide, by decide⟩
/-! ### and back -/
/-- the digits, and how many are behind the point -/
def scanL (pt : UInt8) : List UInt8 → Bool → List UInt8 × Nat
  | [], _ => ([], 0)
  | c :: r, b =>
    let q := scanL pt r (b || c == pt)
    if Gr.Dg c then (c :: q.1, if b || c == pt then q.2 + 1 else q.2) else q
theorem scan_digits {pt : UInt8} (hp : ¬ Gr.Dg pt) : ∀ (l r : List UInt8) (b : Bool), (∀ c ∈ l, Gr.Dg c) → scanL pt (l ++ r) b = (l ++ (scanL pt r b).1, (if b then l.length else 0) + (scanL pt r b).2)
  | [], r, b, _ => by simp
  | c :: l, r, b, h => by
    have hc := h c (by simp)
    have hne : (c == pt) = false := by rw [beq_eq_false_iff_ne]; intro e; subst e; exact hp hc
    have ih := scan_digits hp l r b fun d hd => h d (by simp [hd])
    show (let q := scanL pt (l ++ r) (b || c == pt); if Gr.Dg c then (c :: q.1, if b || c == pt then q.2 + 1 else q.2) else q) = _
    rw [hne, Bool.or_false, ih]
    simp only [if_pos hc]
    cases b <;> simp <;> omega
theorem scan_skip {pt c : UInt8} (r : List UInt8) (b : Bool) (h : ¬ Gr.Dg c) : scanL pt (c :: r) b = scanL pt r (b || c == pt) := by
  show (let q := scanL pt r (b || c == pt); if Gr.Dg c then (c :: q.1, if b || c == pt then q.2 + 1 else q.2) else q) = _
  simp only [if_neg h]
theorem scan_free {pt : UInt8} : ∀ (l r : List UInt8), (∀ c ∈ l, c ≠ pt) → scanL pt (l ++ r) false = (l.filter (fun c => decide (Gr.Dg c)) ++ (scanL pt r false).1, (scanL pt r false).2)
  | [], r, _ => by simp
  | c :: l, r, h => by
    have hne : (c == pt) = false := by rw [beq_eq_false_iff_ne]; exact h c (by simp)
    have ih := scan_free l r fun d hd => h d (by simp [hd])
    show (let q := scanL pt (l ++ r) (false || c == pt); if Gr.Dg c then (c :: q.1, if false || c == pt then q.2 + 1 else q.2) else q) = _
    rw [hne, Bool.or_false, ih]
    by_cases hc : Gr.Dg c
    · simp [hc]
    · simp [hc]
theorem grouped_mem (c : UInt8) (g g2 : Nat) (l : List UInt8) : ∀ x ∈ Gr.grouped c g g2 l, x = c ∨ x ∈ l := by
  induction g, g2, l using Gr.pcs_ind with
  | one g g2 l h => rw [Gr.grouped_one h]; exact fun x hx => .inr hx
  | more g g2 l h ih =>
    rw [Gr.grouped_more h]
    intro x hx
    rcases List.mem_append.1 hx with hx | hx
    · rcases ih x hx with h | h
      · exact .inl h
      · exact .inr (List.mem_of_mem_take h)
    · rcases List.mem_append.1 hx with hx | hx
      · exact .inl (List.mem_singleton.1 hx)
      · exact .inr (List.mem_of_mem_drop hx)
theorem grouped_digits {c : UInt8} (hc : ¬ Gr.Dg c) (g g2 : Nat) (l : List UInt8) : (∀ x ∈ l, Gr.Dg x) → (Gr.grouped c g g2 l).filter (fun c => decide (Gr.Dg c)) = l := by
  induction g, g2, l using Gr.pcs_ind with
  | one g g2 l h =>
    intro hl
    rw [Gr.grouped_one h, List.filter_eq_self]
    exact fun x hx => by simpa using hl x hx
  | more g g2 l h ih =>
    intro hl
    have h2 : (l.drop (l.length - g)).filter (fun c => decide (Gr.Dg c)) = l.drop (l.length - g) := by
      rw [List.filter_eq_self]
      exact fun x hx => by simpa using hl x (List.mem_of_mem_drop hx)
    rw [Gr.grouped_more h, List.filter_append, List.filter_append, ih fun x hx => hl x (List.mem_of_mem_take hx), h2]
    simp [hc]
theorem digs_dg {l : List UInt8} (h : Digs l) : ∀ c ∈ l, Gr.Dg c := h
theorem noughts_digs (k : Nat) : Digs (noughts k) := fun c hc => by
  rw [noughts, List.mem_replicate] at hc
  rw [hc.2]; decide
theorem pad_digs (k n : Nat) : Digs (pad k n) := fun c hc => by
  unfold pad at hc
  rcases List.mem_append.1 hc with hc | hc
  · exact noughts_digs _ c hc
  · exact dec_digs n c hc
theorem pad_ne (k n : Nat) : pad k n ≠ [] := fun h => by
  unfold pad at h
  exact dec_ne n (List.append_eq_nil_iff.1 h).2
/-- what the middle of a shown number is read as -/
theorem scan_mid {p : Np.PatV} {pt cm : UInt8} (h : SymOk pt cm) (n s : Nat) : scanL pt (midL p pt cm n s) false = (pad p.a.toNat (n / 10 ^ s) ++ (low s n ++ noughts (p.b.toNat - s)), (low s n ++ noughts (p.b.toNat - s)).length) := by
  obtain ⟨hne, hp, hc⟩ := h
  have hp' := (sign_not hp).1
  have hc' := (sign_not hc).1
  have hW := digs_dg (pad_digs p.a.toNat (n / 10 ^ s))
  unfold midL
  rw [scan_free _ _ fun x hx => by
    rcases grouped_mem _ _ _ _ x hx with rfl | h
    · exact fun e => hne e.symm
    · intro e; subst e; exact hp' (hW _ h), grouped_digits hc' _ _ _ hW]
  have hF : Digs (low s n ++ noughts (p.b.toNat - s)) := fun c hc => by
    rcases List.mem_append.1 hc with hc | hc
    · exact low_digs s n c hc
    · exact noughts_digs _ c hc
  unfold fracL
  generalize low s n ++ noughts (p.b.toNat - s) = F at *
  by_cases h0 : F = []
  · subst h0; rw [if_pos rfl]; rfl
  · rw [if_neg h0, scan_skip _ _ hp']
    have := scan_digits hp' F [] true (digs_dg hF)
    rw [List.append_nil] at this
    simp only [Bool.false_or, beq_self_eq_true, this]
    simp [scanL]
/-- noughts at the end struck -/
def stripL (l : List UInt8) : Nat → List UInt8 × Nat
  | 0 => (l, 0)
  | k + 1 => if l.getLast? = some 48 then stripL l.dropLast k else (l, k + 1)
theorem strip_noughts (l : List UInt8) (s : Nat) : ∀ z, stripL (l ++ noughts z) (s + z) = stripL l s
  | 0 => by simp [noughts]
  | z + 1 => by
    have e : l ++ noughts (z + 1) = (l ++ noughts z) ++ [48] := by unfold noughts; rw [List.replicate_succ']; simp
    rw [e, show s + (z + 1) = (s + z) + 1 by omega]
    unfold stripL
    rw [if_pos (by simp), List.dropLast_concat]
    have := strip_noughts l s z
    cases s with
    | zero => simpa [stripL] using this
    | succ s => exact this
theorem strip_low (l : List UInt8) (s n : Nat) (h : s = 0 ∨ n % 10 ≠ 0) : stripL (l ++ low s n) s = (l ++ low s n, s) := by
  cases s with
  | zero => rfl
  | succ s =>
    unfold stripL
    have hn := h.resolve_left (by omega)
    have e : (l ++ low (s + 1) n).getLast? = some (dgt n) := by
      show (l ++ (low s (n / 10) ++ [dgt n])).getLast? = _
      rw [← List.append_assoc]; simp
    rw [e, if_neg]
    intro hd
    have := (dgt_dig n).2.2
    rw [Option.some.inj hd] at this
    have : (48 : UInt8).toNat = 48 := rfl
    omega
theorem addD_app (z : Int) (l r : List UInt8) : addD z (l ++ r) = addD (addD z l) r := by unfold addD; rw [List.foldl_append]
theorem addD_noughts : ∀ k, addD 0 (noughts k) = 0
  | 0 => rfl
  | k + 1 => by
    have : noughts (k + 1) = noughts k ++ [48] := by unfold noughts; rw [List.replicate_succ']
    rw [this, addD_snoc, addD_noughts k]; decide
theorem addD_pad (k n : Nat) : addD 0 (pad k n) = n := by unfold pad; rw [addD_app, addD_noughts, addD_dec]
/-- the number that a text could be that of: the sign, the digits -/
def negT (t : List UInt8) : Bool := t.take 1 == [45]
def bareT (t : List UInt8) : List UInt8 := if negT t then t.drop 1 else t
def midT (p : Np.PatV) (t : List UInt8) : List UInt8 := ((bareT t).take ((bareT t).length - p.suf.length)).drop p.pre.length
def scanT (p : Np.PatV) (pt : UInt8) (t : List UInt8) : List UInt8 × Nat := stripL (scanL pt (midT p t) false).1 (scanL pt (midT p t) false).2
def readC (p : Np.PatV) (pt : UInt8) (t : List UInt8) : Int × Nat := ((if negT t then -1 else 1) * addD 0 (scanT p pt t).1, (scanT p pt t).2)
theorem grouped_head (c : UInt8) (g g2 : Nat) (l : List UInt8) : (Gr.grouped c g g2 l).head? = l.head? ∨ l = [] ∨ g = 0 := by
  induction g, g2, l using Gr.pcs_ind with
  | one g g2 l h => rw [Gr.grouped_one h]; exact .inl rfl
  | more g g2 l h ih =>
    left
    rw [Gr.grouped_more h, List.head?_append]
    have hl : 0 < (l.take (l.length - g)).length := by rw [List.length_take]; omega
    rcases ih with ih | ih | ih
    · rw [ih]
      cases l with
      | nil => simp at hl
      | cons x l =>
        have : 0 < (x :: l).length - g := by rw [List.length_take] at hl; omega
        obtain ⟨k, hk⟩ : ∃ k, (x :: l).length - g = k + 1 := ⟨(x :: l).length - g - 1, by omega⟩
        rw [hk]; simp
    · rw [ih] at hl; simp at hl
    · exact absurd ih (Gr.next_pos (by omega))
theorem grouped_first {c : UInt8} {g g2 : Nat} {l : List UInt8} (hl : l ≠ []) : (Gr.grouped c g g2 l).head? = l.head? := by
  rcases grouped_head c g g2 l with h | h | h
  · exact h
  · exact absurd h hl
  · rw [Gr.grouped_one (.inl h)]
theorem aff_sign {c : UInt8} (h : Np.affL.contains c = true) : c ≠ 45 := fun e => by subst e; revert h; decide
/-- a shown number begins with no sign, but for the minus -/
theorem body_plain {p : Np.PatV} (hp : Np.Aff p.pre) (pt cm : UInt8) (n s : Nat) : negT (bodyL p pt cm n s) = false := by
  unfold negT bodyL
  rw [beq_eq_false_iff_ne]
  cases hq : p.pre with
  | cons c r =>
    simp
    exact aff_sign (hp.2 c (by rw [hq]; simp))
  | nil =>
    have hf := grouped_first (c := cm) (g := p.g.toNat) (g2 := p.g2.toNat) (pad_ne p.a.toNat (n / 10 ^ s))
    unfold midL
    cases hG : Gr.grouped cm p.g.toNat p.g2.toNat (pad p.a.toNat (n / 10 ^ s)) with
    | nil =>
      rw [hG] at hf
      exact absurd (List.head?_eq_none_iff.1 hf.symm) (pad_ne _ _)
    | cons c r =>
      rw [hG] at hf
      have hm : c ∈ pad p.a.toNat (n / 10 ^ s) := List.mem_of_mem_head? (by rw [← hf]; rfl)
      have := pad_digs _ _ c hm
      simp
      intro e
      subst e
      revert this; decide
theorem shown_neg {p : Np.PatV} (hp : Np.Aff p.pre) (pt cm : UInt8) (c : Int) (s : Nat) : negT (shownL p pt cm c s) = decide (c < 0) ∧ bareT (shownL p pt cm c s) = bodyL p pt cm c.natAbs s := by
  unfold shownL bareT
  by_cases h : c < 0
  · rw [if_pos h, decide_eq_true h]
    have : negT ([45] ++ bodyL p pt cm c.natAbs s) = true := by simp [negT]
    rw [this]
    exact ⟨rfl, rfl⟩
  · rw [if_neg h, decide_eq_false h, List.nil_append, body_plain hp]
    exact ⟨rfl, rfl⟩
theorem mid_back {p : Np.PatV} (hp : Np.Aff p.pre) (pt cm : UInt8) (c : Int) (s : Nat) : midT p (shownL p pt cm c s) = midL p pt cm c.natAbs s := by
  unfold midT
  rw [(shown_neg hp pt cm c s).2]
  unfold bodyL
  rw [List.length_append, Nat.add_sub_cancel, List.take_left, List.drop_left]
/-- of what is shown the number is read -/
theorem read_back {p : Np.PatV} (hp : Np.Aff p.pre) {pt cm : UInt8} (hy : SymOk pt cm) {c : Int} {s : Nat} (h : s = 0 ∨ c % 10 ≠ 0) : readC p pt (shownL p pt cm c s) = (c, s) := by
  have hn : s = 0 ∨ c.natAbs % 10 ≠ 0 := by rcases h with h | h; exact .inl h; exact .inr (by omega)
  have e : scanT p pt (shownL p pt cm c s) = (pad p.a.toNat (c.natAbs / 10 ^ s) ++ low s c.natAbs, s) := by
    unfold scanT
    rw [mid_back hp, scan_mid hy]
    show stripL (pad p.a.toNat (c.natAbs / 10 ^ s) ++ (low s c.natAbs ++ noughts (p.b.toNat - s))) (low s c.natAbs ++ noughts (p.b.toNat - s)).length = _
    rw [← List.append_assoc, List.length_append, low_length, show (noughts (p.b.toNat - s)).length = p.b.toNat - s by simp [noughts], strip_noughts, strip_low _ _ _ hn]
  unfold readC
  rw [e, (shown_neg hp pt cm c s).1]
  show ((if decide (c < 0) = true then (-1 : Int) else 1) * addD 0 (pad p.a.toNat (c.natAbs / 10 ^ s) ++ low s c.natAbs), s) = (c, s)
  rw [addD_app, addD_pad, addD_low]
  by_cases hc : c < 0
  · rw [if_pos (by simpa using hc)]; congr 1; omega
  · rw [if_neg (by simpa using hc)]; congr 1; omega
/-- the number of a text -/
def readO (p : Np.PatV) (pt cm : UInt8) (t : List UInt8) : Option (Int × Nat) :=
  if Fit p (readC p pt t).1 (readC p pt t).2 ∧ shownL p pt cm (readC p pt t).1 (readC p pt t).2 = t then some (readC p pt t) else none
theorem readO_some {p : Np.PatV} (hp : Np.Aff p.pre) {pt cm : UInt8} (hy : SymOk pt cm) {t : List UInt8} {d : Int × Nat} : readO p pt cm t = some d ↔ Fit p d.1 d.2 ∧ shownL p pt cm d.1 d.2 = t := by
  unfold readO
  constructor
  · intro h
    split at h
    · rename_i hk
      have : readC p pt t = d := by simpa using h
      rw [← this]; exact hk
    · cases h
  · rintro ⟨h1, rfl⟩
    rw [read_back hp hy h1.2.1, if_pos ⟨h1, rfl⟩]
/-! ### what is shown of any number -/
theorem fit_fit {p : Np.PatV} {c : Int} {s : Nat} (hr : Right c s) : Fit p (fitI p c s).1 (fitI p c s).2 := by
  obtain ⟨_, h9, c0, c1⟩ := hr
  have ha := trim_abs s c
  have hle := trim_le s c
  unfold fitI
  split
  · rename_i hlt
    have hr2 : Right (trimI c s).1 ((trimI c s).2 : Int) := ⟨by omega, by omega, by omega, by omega⟩
    obtain ⟨r0, r1⟩ := fewer_room (way := 5) hr2 (t := p.m.toNat) (by omega)
    have hb := trim_abs p.m.toNat (rc (trimI c s).1 (trimI c s).2 p.m.toNat 5)
    exact ⟨trim_le _ _, trim_done _ _, by omega⟩
  · exact ⟨by omega, trim_done _ _, by omega⟩
theorem fit_self {p : Np.PatV} {c : Int} {s : Nat} (h : Fit p c s) : fitI p c s = (c, s) := by
  unfold fitI
  rw [trim_self h.2.1, if_neg (by have := h.1; omega)]
/-! ### its value -/
theorem trim_same {c : Int} {s : Nat} (hs : s ≤ 9) : val (trimI c s).1 (trimI c s).2 = val c s := by
  have h := trim_val s c
  have hle := trim_le s c
  generalize trimI c s = d at *
  unfold val
  have e := ten_split (a := ((s - d.2 : Nat) : Int)) (b := 9 - (d.2 : Int)) (by omega) (by omega)
  rw [e, ← Int.mul_assoc, show 9 - (d.2 : Int) - ((s - d.2 : Nat) : Int) = 9 - (s : Int) by omega, show ten ((s - d.2 : Nat) : Int) = 10 ^ (s - d.2) from rfl, h]
/-- it is the number, rounded -/
theorem fit_val {p : Np.PatV} {c : Int} {s : Nat} (hr : Right c s) : val (fitI p c s).1 (fitI p c s).2 = val (rc c s (min p.m.toNat s : Nat) 5) (min p.m.toNat s : Nat) := by
  have hs : s ≤ 9 := by have := hr.2.1; omega
  have ht := trim_same (c := c) hs
  have hle := trim_le s c
  have hrc : ∀ t : Int, rc (trimI c s).1 (trimI c s).2 t 5 = rc c s t 5 := fun t => by unfold rc; rw [ht]
  by_cases hms : s ≤ p.m.toNat
  · rw [show min p.m.toNat s = s by omega]
    have e : fitI p c s = trimI c s := by unfold fitI; rw [if_neg (by omega)]
    rw [e, ht, val_rc_more (by omega) (by omega)]
  · rw [show min p.m.toNat s = p.m.toNat by omega]
    by_cases h : p.m.toNat < (trimI c s).2
    · have e : fitI p c s = trimI (rc (trimI c s).1 (trimI c s).2 p.m.toNat 5) p.m.toNat := by unfold fitI; rw [if_pos h]
      rw [e, trim_same (by omega), hrc]
    · have e : fitI p c s = trimI c s := by unfold fitI; rw [if_neg h]
      rw [e, ← hrc, val_rc_more (by omega) (by omega)]
theorem fit_neg (p : Np.PatV) (c : Int) (s : Nat) : fitI p (-c) s = (-(fitI p c s).1, (fitI p c s).2) := by
  unfold fitI
  rw [trim_neg]
  dsimp only
  by_cases h : p.m.toNat < (trimI c s).2
  · rw [if_pos h, if_pos h, rc_neg (.inr (.inr rfl)), trim_neg]
  · rw [if_neg h, if_neg h]
/-! ### with other signs -/
/-- the same, but for the signs -/
def But (pt cm qt dm : UInt8) (x y : UInt8) : Prop := (x = pt ↔ y = qt) ∧ (x = cm ↔ y = dm) ∧ (x ≠ pt → x ≠ cm → x = y)
theorem But.plain {pt cm qt dm x : UInt8} (h : SymOk pt cm) (h' : SymOk qt dm) (hx : signL.contains x = false) : But pt cm qt dm x x := by
  have n1 : x ≠ pt := fun e => by rw [e, h.2.1] at hx; cases hx
  have n2 : x ≠ cm := fun e => by rw [e, h.2.2] at hx; cases hx
  have n3 : x ≠ qt := fun e => by rw [e, h'.2.1] at hx; cases hx
  have n4 : x ≠ dm := fun e => by rw [e, h'.2.2] at hx; cases hx
  exact ⟨⟨fun e => absurd e n1, fun e => absurd e n3⟩, ⟨fun e => absurd e n2, fun e => absurd e n4⟩, fun _ _ => rfl⟩
theorem But.point {pt cm qt dm : UInt8} (h : SymOk pt cm) (h' : SymOk qt dm) : But pt cm qt dm pt qt :=
  ⟨⟨fun _ => rfl, fun _ => rfl⟩, ⟨fun e => absurd e h.1, fun e => absurd e h'.1⟩, fun e => absurd rfl e⟩
theorem But.comma {pt cm qt dm : UInt8} (h : SymOk pt cm) (h' : SymOk qt dm) : But pt cm qt dm cm dm :=
  ⟨⟨fun e => absurd e.symm h.1, fun e => absurd e.symm h'.1⟩, ⟨fun _ => rfl, fun _ => rfl⟩, fun _ e => absurd rfl e⟩
inductive Buts (pt cm qt dm : UInt8) : List UInt8 → List UInt8 → Prop
  | nil : Buts pt cm qt dm [] []
  | cons {x y : UInt8} {l r : List UInt8} : But pt cm qt dm x y → Buts pt cm qt dm l r → Buts pt cm qt dm (x :: l) (y :: r)
theorem Buts.app {pt cm qt dm : UInt8} {a b x y : List UInt8} (h : Buts pt cm qt dm a b) (h' : Buts pt cm qt dm x y) : Buts pt cm qt dm (a ++ x) (b ++ y) := by
  induction h with
  | nil => exact h'
  | cons hx _ ih => exact .cons hx ih
theorem Buts.plain {pt cm qt dm : UInt8} (h : SymOk pt cm) (h' : SymOk qt dm) : ∀ {l : List UInt8}, (∀ x ∈ l, signL.contains x = false) → Buts pt cm qt dm l l
  | [], _ => .nil
  | x :: l, hx => .cons (But.plain h h' (hx x (by simp))) (Buts.plain h h' fun y hy => hx y (by simp [hy]))
theorem Buts.length {pt cm qt dm : UInt8} {a b : List UInt8} (h : Buts pt cm qt dm a b) : a.length = b.length := by
  induction h with
  | nil => rfl
  | cons _ _ ih => simp [ih]
theorem Buts.at_ {pt cm qt dm : UInt8} {a b : List UInt8} (h : Buts pt cm qt dm a b) : ∀ {i : Nat} {x y : UInt8}, a[i]? = some x → b[i]? = some y → But pt cm qt dm x y := by
  induction h with
  | nil => intro i x y h; simp at h
  | cons hx _ ih =>
    intro i x y h1 h2
    cases i with
    | zero =>
      simp at h1 h2
      subst h1; subst h2; exact hx
    | succ i => exact ih (by simpa using h1) (by simpa using h2)
theorem dig_sign {x : UInt8} (h : Gr.Dg x) : signL.contains x = false := by
  unfold signL
  obtain ⟨h0, h1⟩ := h
  simp
  refine ⟨?_, ?_, ?_, ?_⟩ <;> (intro e; subst e; revert h0 h1; decide)
theorem aff_no_sign {x : UInt8} (h : Np.affL.contains x = true) : signL.contains x = false := by
  have : Np.affL.all (fun c => !signL.contains c) = true := by decide
  have := List.all_eq_true.1 this x (by simpa using h)
  simpa using this
theorem grouped_buts {pt cm qt dm : UInt8} (h : SymOk pt cm) (h' : SymOk qt dm) (g g2 : Nat) (l : List UInt8) : (∀ x ∈ l, Gr.Dg x) → Buts pt cm qt dm (Gr.grouped cm g g2 l) (Gr.grouped dm g g2 l) := by
  induction g, g2, l using Gr.pcs_ind with
  | one g g2 l hk =>
    intro hl
    rw [Gr.grouped_one hk, Gr.grouped_one hk]
    exact Buts.plain h h' fun x hx => dig_sign (hl x hx)
  | more g g2 l hk ih =>
    intro hl
    rw [Gr.grouped_more hk, Gr.grouped_more hk]
    exact (ih fun x hx => hl x (List.mem_of_mem_take hx)).app (.cons (But.comma h h') (Buts.plain h h' fun x hx => dig_sign (hl x (List.mem_of_mem_drop hx))))
/-- with other signs it is the same, but for those -/
theorem shown_buts {p : Np.PatV} (hp : Np.Aff p.pre) (hs : Np.Aff p.suf) {pt cm qt dm : UInt8} (h : SymOk pt cm) (h' : SymOk qt dm) (c : Int) (s : Nat) : Buts pt cm qt dm (shownL p pt cm c s) (shownL p qt dm c s) := by
  unfold shownL bodyL midL
  refine Buts.app ?_ (Buts.app (Buts.app ?_ (Buts.app ?_ ?_)) ?_)
  · split
    · exact .cons (But.plain h h' (by decide)) .nil
    · exact .nil
  · exact Buts.plain h h' fun x hx => aff_no_sign (hp.2 x hx)
  · exact grouped_buts h h' _ _ _ (pad_digs _ _)
  · unfold fracL
    split
    · exact .nil
    · refine .cons (But.point h h') (Buts.plain h h' fun x hx => dig_sign ?_)
      rcases List.mem_append.1 hx with hx | hx
      · exact low_digs _ _ x hx
      · exact noughts_digs _ x hx
  · exact Buts.plain h h' fun x hx => aff_no_sign (hs.2 x hx)
/-- of the number turned about nought it is the same, but for the minus -/
theorem shown_turn (p : Np.PatV) (pt cm : UInt8) (c : Int) (s : Nat) : (c = 0 ∧ shownL p pt cm (-c) s = shownL p pt cm c s) ∨ (0 < c ∧ shownL p pt cm (-c) s = 45 :: shownL p pt cm c s) ∨ (c < 0 ∧ 45 :: shownL p pt cm (-c) s = shownL p pt cm c s) := by
  unfold shownL
  rw [Int.natAbs_neg]
  rcases Int.lt_trichotomy c 0 with h | h | h
  · right; right
    exact ⟨h, by rw [if_neg (by omega), if_pos h]; rfl⟩
  · left; subst h; exact ⟨rfl, rfl⟩
  · right; left
    exact ⟨h, by rw [if_pos (by omega), if_neg (by omega)]; rfl⟩
/-! ### without groups; whole numbers -/
theorem pad_nought {a : Nat} (h : 1 ≤ a) : pad a 0 = noughts a := by
  obtain ⟨k, rfl⟩ : ∃ k, a = k + 1 := ⟨a - 1, by omega⟩
  unfold pad
  rw [Lib.nDigits_small (by decide), digits_first (by decide)]
  show noughts k ++ [48] = noughts (k + 1)
  unfold noughts; rw [List.replicate_succ']
theorem intU_plain (a n : Nat) : ∀ k, k ≤ a → Np.intU a 0 0 n k = noughts k
  | 0, _ => rfl
  | k + 1, h => by
    have ih := intU_plain a n k (by omega)
    show (if 0 < 0 ∧ k + 1 < n ∧ (k + 1 = 0 ∨ 0 < 0 ∧ k + 1 = 0 + 0) then [44] else []) ++ ((if a < k + 1 then [35] else [48]) ++ Np.intU a 0 0 n k) = _
    rw [if_neg (by omega), if_neg (by omega), ih]; rfl
theorem fracU_plain (m : Nat) : ∀ k, k ≤ m → Np.fracU m k = if k = 0 then [] else 46 :: noughts k
  | 0, _ => rfl
  | k + 1, h => by
    have ih := fracU_plain m k (by omega)
    show Np.fracU m k ++ ((if k = 0 then [46] else []) ++ (if k < m then [48] else [35])) = _
    rw [ih, if_pos (show k < m by omega), if_neg (show ¬ k + 1 = 0 by omega)]
    by_cases h0 : k = 0
    · subst h0; rfl
    · rw [if_neg h0, if_neg h0]
      unfold noughts
      rw [List.replicate_succ' (n := k)]; rfl
/-- a pattern without groups whose digits behind the point are all told looks like what it makes of 0 -/
theorem plain_looks {p : Np.PatV} (h : Np.patF p = 0) (hg : p.g = 0) (hg2 : p.g2 = 0) (hb : p.b = p.m) : Np.patT p = shownL p 46 44 0 0 := by
  obtain ⟨_, ⟨⟨a1, _⟩, _⟩, _⟩ := Np.patF_zero.1 h
  unfold Np.patT shownL bodyL midL
  rw [if_neg (by decide), List.nil_append, hg, hg2, hb]
  have e1 : Np.intT p.a.toNat (0 : Int).toNat (0 : Int).toNat = noughts p.a.toNat := by
    unfold Np.intT
    show Np.intU p.a.toNat 0 0 (Np.places p.a.toNat 0 0) (Np.places p.a.toNat 0 0) = _
    have : Np.places p.a.toNat 0 0 = p.a.toNat := by unfold Np.places; rw [if_neg (by omega)]
    rw [this]; exact intU_plain _ _ _ (Nat.le_refl _)
  have e2 : Gr.grouped 44 (0 : Int).toNat (0 : Int).toNat (pad p.a.toNat ((0 : Int).natAbs / 10 ^ 0)) = noughts p.a.toNat := by
    show Gr.grouped 44 0 0 (pad p.a.toNat 0) = noughts p.a.toNat
    rw [Gr.grouped_one (.inl rfl)]
    exact pad_nought (by omega)
  have e3 : fracL 46 p.m.toNat (0 : Int).natAbs 0 = Np.fracU p.m.toNat p.m.toNat := by
    rw [fracU_plain _ _ (Nat.le_refl _)]
    unfold fracL
    show (if ([] : List UInt8) ++ noughts (p.m.toNat - 0) = [] then [] else 46 :: ([] ++ noughts (p.m.toNat - 0))) = _
    rw [List.nil_append, Nat.sub_zero]
    by_cases h0 : p.m.toNat = 0
    · rw [h0, if_pos rfl]; rfl
    · rw [if_neg h0, if_neg]
      unfold noughts
      intro e
      have := congrArg List.length e
      simp at this
      omega
  rw [e1, e2, e3]
def wholeP (g g2 : Int) : Np.PatV := ⟨[], [], 1, 0, 3, g, g2⟩
/-- of a whole number the digits in groups -/
theorem whole_shown (g g2 n : Int) : shownL (wholeP g g2) 46 44 n 0 = (if n < 0 then [45] else []) ++ Gr.grouped 44 g.toNat g2.toNat (Lib.decDigits n.natAbs) := by
  unfold shownL bodyL midL
  have e1 : fracL 46 (wholeP g g2).b.toNat n.natAbs 0 = [] := rfl
  have e2 : pad (wholeP g g2).a.toNat (n.natAbs / 10 ^ 0) = Lib.decDigits n.natAbs := by
    rw [Nat.pow_zero, Nat.div_one]; exact pad_one _
  rw [e1, e2]
  show _ ++ ([] ++ (_ ++ []) ++ []) = _
  simp [wholeP]
theorem whole_fit (g g2 n : Int) : fitI (wholeP g g2) n 0 = (n, 0) := by unfold fitI trimI; rw [if_neg (by simp)]
end No
end Go.Proofs.YtehocgemgdbikaaDoor

/- The number of a text, step by step: plain facts. Nothing of the program stands here. -/
namespace Go.Proofs.YtehocgemgdbikaaDoor
namespace No
open D

theorem scan_digs (pt : UInt8) : ∀ (l : List UInt8) (b : Bool), Digs (scanL pt l b).1
  | [], _ => fun c hc => by simp [scanL] at hc
  | c :: r, b => by
    show Digs (let q := scanL pt r (b || c == pt); if Gr.Dg c then (c :: q.1, if b || c == pt then q.2 + 1 else q.2) else q).1
    have ih := scan_digs pt r (b || c == pt)
    by_cases h : Gr.Dg c
    · simp only [if_pos h]
      intro x hx
      rcases List.mem_cons.1 hx with rfl | hx
      · exact h
      · exact ih x hx
    · simp only [if_neg h]; exact ih
theorem scan_dig {pt c : UInt8} (r : List UInt8) (b : Bool) (h : Gr.Dg c) : scanL pt (c :: r) b = (c :: (scanL pt r (b || c == pt)).1, (if b || c == pt then 1 else 0) + (scanL pt r (b || c == pt)).2) := by
  show (let q := scanL pt r (b || c == pt); if Gr.Dg c then (c :: q.1, if b || c == pt then q.2 + 1 else q.2) else q) = _
  simp only [if_pos h]
  cases (b || c == pt) <;> simp <;> omega
theorem scan_count (pt : UInt8) : ∀ (l : List UInt8) (b : Bool), (scanL pt l b).2 ≤ (scanL pt l b).1.length ∧ (scanL pt l b).1.length ≤ l.length
  | [], _ => by simp [scanL]
  | c :: r, b => by
    have ih := scan_count pt r (b || c == pt)
    by_cases h : Gr.Dg c
    · rw [scan_dig r b h]
      simp only [List.length_cons]
      generalize hk : (if (b || c == pt) = true then 1 else 0 : Nat) = k
      have : k ≤ 1 := by rw [← hk]; split <;> omega
      omega
    · rw [scan_skip r b h, List.length_cons]; omega
theorem strip_done : ∀ (k : Nat) (l : List UInt8), (stripL l k).2 = 0 ∨ (stripL l k).1.getLast? ≠ some 48
  | 0, _ => .inl rfl
  | k + 1, l => by
    unfold stripL
    split
    · exact strip_done k l.dropLast
    · rename_i h; exact .inr h
theorem strip_pre : ∀ (k : Nat) (l : List UInt8), ∃ r, l = (stripL l k).1 ++ r
  | 0, l => ⟨[], by simp [stripL]⟩
  | k + 1, l => by
    unfold stripL
    split
    · rename_i h
      obtain ⟨r, hr⟩ := strip_pre k l.dropLast
      have hne : l ≠ [] := fun e => by rw [e] at h; simp at h
      have e := List.dropLast_concat_getLast hne
      rw [hr] at e
      exact ⟨r ++ [l.getLast hne], by rw [← List.append_assoc]; exact e.symm⟩
    · exact ⟨[], by simp⟩
theorem strip_yes {l : List UInt8} {k : Nat} (h : l.getLast? = some 48) : stripL l (k + 1) = stripL l.dropLast k := by
  conv => lhs; unfold stripL
  rw [if_pos h]
theorem strip_no {l : List UInt8} {k : Nat} (h : l.getLast? ≠ some 48) : stripL l (k + 1) = (l, k + 1) := by
  unfold stripL
  rw [if_neg h]
theorem strip_digs {l : List UInt8} (k : Nat) (h : Digs l) : Digs (stripL l k).1 := by
  obtain ⟨r, hr⟩ := strip_pre k l
  intro c hc
  exact h c (by rw [hr]; exact List.mem_append_left _ hc)
theorem strip_len {l : List UInt8} (k : Nat) : (stripL l k).1.length ≤ l.length := by
  obtain ⟨r, hr⟩ := strip_pre k l
  have := congrArg List.length hr
  rw [List.length_append] at this
  omega
theorem strip_cnt : ∀ (k : Nat) (l : List UInt8), (stripL l k).2 ≤ k
  | 0, _ => Nat.le_refl _
  | k + 1, l => by
    unfold stripL
    split
    · have := strip_cnt k l.dropLast; omega
    · exact Nat.le_refl _
/-- more digits, no less -/
theorem addD_up : ∀ (r : List UInt8) (z : Int), 0 ≤ z → Digs r → z ≤ addD z r
  | [], z, _, _ => by simp [addD]
  | c :: r, z, h0, h => by
    have hc := h c (by simp)
    have := addD_up r (10 * z + ((c.toNat : Int) - 48)) (by omega) fun d hd => h d (by simp [hd])
    show z ≤ addD (10 * z + ((c.toNat : Int) - 48)) r
    omega
theorem addD_pos (l : List UInt8) (h : Digs l) : 0 ≤ addD 0 l := (addD_room l 0 (Int.le_refl _) h).1
theorem addD_take {l : List UInt8} (h : Digs l) (i : Nat) : addD 0 (l.take i) ≤ addD 0 l := by
  conv => rhs; rw [← List.take_append_drop i l, addD_app]
  exact addD_up _ _ (addD_pos _ fun c hc => h c (List.mem_of_mem_take hc)) fun c hc => h c (List.mem_of_mem_drop hc)
theorem addD_step (l : List UInt8) (i : Nat) (hi : i < l.length) : addD 0 (l.take (i + 1)) = 10 * addD 0 (l.take i) + ((l[i].toNat : Int) - 48) := by
  rw [List.take_succ_eq_append_getElem hi, addD_snoc]
theorem last_mod {l : List UInt8} (h : Digs l) (hl : l.getLast? ≠ some 48) (hne : l ≠ []) : addD 0 l % 10 ≠ 0 := by
  have e := List.dropLast_concat_getLast hne
  rw [List.getLast?_eq_some_getLast hne] at hl
  have hd := h (l.getLast hne) (List.getLast_mem hne)
  rw [← e, addD_snoc]
  intro hm
  apply hl
  congr 1
  apply UInt8.toNat_inj.1
  show _ = 48
  omega
/-- the sign of a text, its digits' number -/
def sgnT (t : List UInt8) : Int := if negT t then -1 else 1
theorem readC_eq (p : Np.PatV) (pt : UInt8) (t : List UInt8) : readC p pt t = (sgnT t * addD 0 (scanT p pt t).1, (scanT p pt t).2) := rfl
theorem scanT_digs (p : Np.PatV) (pt : UInt8) (t : List UInt8) : Digs (scanT p pt t).1 := strip_digs _ (scan_digs _ _ _)
theorem sgn_abs (t : List UInt8) (n : Int) : (sgnT t * n).natAbs = n.natAbs := by
  unfold sgnT
  split <;> simp
theorem read_done (p : Np.PatV) (pt : UInt8) (t : List UInt8) : (readC p pt t).2 = 0 ∨ (readC p pt t).1 % 10 ≠ 0 := by
  rw [readC_eq]
  dsimp only
  rcases strip_done (scanL pt (midT p t) false).2 (scanL pt (midT p t) false).1 with h | h
  · exact .inl h
  · by_cases h0 : (scanT p pt t).2 = 0
    · exact .inl h0
    · right
      have hne : (scanT p pt t).1 ≠ [] := by
        intro e
        have h1 := (scan_count pt (midT p t) false).1
        have hc : (scanT p pt t).2 ≤ (scanT p pt t).1.length := by
          unfold scanT
          generalize (scanL pt (midT p t) false).1 = l at *
          generalize (scanL pt (midT p t) false).2 = k at *
          clear h e h0
          induction k generalizing l with
          | zero => simp [stripL]
          | succ k ih =>
            unfold stripL
            split
            · exact ih l.dropLast (by rw [List.length_dropLast]; omega)
            · exact h1
        rw [e] at hc
        simp at hc
        omega
      have := last_mod (scanT_digs p pt t) h hne
      generalize addD 0 (scanT p pt t).1 = n at *
      unfold sgnT
      split <;> omega
theorem readO_none {p : Np.PatV} {pt cm : UInt8} {t : List UInt8} (h : 1000000000000000 < addD 0 (scanT p pt t).1) : readO p pt cm t = none := by
  unfold readO
  rw [if_neg]
  rintro ⟨⟨_, _, h3⟩, _⟩
  rw [readC_eq] at h3
  dsimp only at h3
  rw [sgn_abs] at h3
  omega
theorem readO_far {p : Np.PatV} {pt cm : UInt8} {t : List UInt8} (h : p.m.toNat < (scanT p pt t).2) : readO p pt cm t = none := by
  unfold readO
  rw [if_neg]
  rintro ⟨⟨h1, _, _⟩, _⟩
  rw [readC_eq] at h1
  dsimp only at h1
  omega
/-- what is shown of the number that a text could be that of -/
theorem readO_fit {p : Np.PatV} {pt cm : UInt8} {t : List UInt8} (h1 : (scanT p pt t).2 ≤ p.m.toNat) (h2 : addD 0 (scanT p pt t).1 ≤ 1000000000000000) :
    readO p pt cm t = if shownL p pt cm (fitI p (readC p pt t).1 (readC p pt t).2).1 (fitI p (readC p pt t).1 (readC p pt t).2).2 = t then some (readC p pt t) else none := by
  have hp := addD_pos _ (scanT_digs p pt t)
  have hF : Fit p (readC p pt t).1 (readC p pt t).2 := by
    refine ⟨h1, read_done p pt t, ?_⟩
    rw [readC_eq]
    dsimp only
    rw [sgn_abs]
    omega
  rw [fit_self hF]
  unfold readO
  by_cases h : shownL p pt cm (readC p pt t).1 (readC p pt t).2 = t
  · rw [if_pos ⟨hF, h⟩, if_pos h]
  · rw [if_neg (fun e => h e.2), if_neg h]
end No
end Go.Proofs.YtehocgemgdbikaaDoor

/- Numbers by patterns, as plain facts on bytes: the number that a text could be that of, by the pieces that the text has (its sign, what is ahead of the point, what is behind it); what is shown of a number, by the text of the number, rounded. Nothing of the program stands here. -/
namespace Go.Proofs.YtehocgemgdbikaaDoor
namespace No
open D

/-! ### noughts at the end of a text -/
theorem trimR_keep {l : List UInt8} (h : l.getLast? ≠ some 48) : Lib.trimRightB l 48 = l := by
  unfold Lib.trimRightB
  rw [← List.head?_reverse] at h
  cases hr : l.reverse with
  | nil => rw [List.reverse_eq_nil_iff.1 hr]; rfl
  | cons c r =>
    rw [hr] at h
    have hc : (c == 48) = false := by rw [beq_eq_false_iff_ne]; intro e; subst e; exact h rfl
    rw [List.dropWhile_cons, hc]
    simp only [Bool.false_eq_true, if_false]
    rw [← hr, List.reverse_reverse]
theorem trimR_noughts (l : List UInt8) : ∀ z, Lib.trimRightB (l ++ noughts z) 48 = Lib.trimRightB l 48
  | 0 => by simp [noughts]
  | z + 1 => by
    have e : l ++ noughts (z + 1) = (l ++ noughts z) ++ [48] := by unfold noughts; rw [List.replicate_succ']; simp
    rw [e, ← trimR_noughts l z]
    unfold Lib.trimRightB
    rw [List.reverse_append, List.reverse_singleton, List.singleton_append, List.dropWhile_cons]
    rfl
theorem low_last {s n : Nat} (h : s = 0 ∨ n % 10 ≠ 0) : (low s n).getLast? ≠ some 48 := by
  cases s with
  | zero => simp [low]
  | succ s =>
    have hn := h.resolve_left (by omega)
    have e : (low (s + 1) n).getLast? = some (dgt n) := by
      show (low s (n / 10) ++ [dgt n]).getLast? = _
      simp
    rw [e]
    intro hd
    have := (dgt_dig n).2.2
    rw [Option.some.inj hd] at this
    have : (48 : UInt8).toNat = 48 := rfl
    omega
theorem low_up (k n : Nat) : ∀ j, low (k + j) (n * 10 ^ j) = low k n ++ noughts j
  | 0 => by simp [noughts]
  | j + 1 => by
    show low (k + j) (n * 10 ^ (j + 1) / 10) ++ [dgt (n * 10 ^ (j + 1))] = _
    have e : n * 10 ^ (j + 1) = n * 10 ^ j * 10 := by rw [Nat.pow_succ, Nat.mul_assoc]
    rw [e, Nat.mul_div_cancel _ (by decide), low_up k n j]
    have : dgt (n * 10 ^ j * 10) = 48 := by unfold dgt; rw [Nat.mul_mod_left]; rfl
    rw [this, List.append_assoc]
    congr 1
    unfold noughts; rw [List.replicate_succ']
/-! ### what is shown, by the rounded number's text -/
/-- the number, rounded to no more digits than are shown -/
def tI (p : Np.PatV) (s : Nat) : Nat := min s p.m.toNat
def rI (p : Np.PatV) (c : Int) (s : Nat) : Int := rc c s (tI p s : Nat) 5
theorem round_ok {p : Np.PatV} {c : Int} {s : Nat} (hr : Right c s) : roundF c s (tI p s : Nat) 5 = 0 ∧ Right (rI p c s) (tI p s : Nat) := by
  have h9 := hr.2.1
  have hle : tI p s ≤ s := Nat.min_le_left _ _
  have hR : -1000000000000000 ≤ rI p c s ∧ rI p c s ≤ 1000000000000000 := by
    by_cases h : tI p s < s
    · exact fewer_room (way := 5) hr (by omega)
    · have e : tI p s = s := by omega
      unfold rI
      rw [e, rc_more (Int.le_refl _) h9, Int.sub_self, ten_zero, Int.mul_one]
      exact hr.2.2
  refine ⟨roundF_zero.2 ⟨hr, ⟨by omega, by omega⟩, by omega, hR⟩, by omega, by omega, hR.1, hR.2⟩
theorem fit_trim {p : Np.PatV} {c : Int} {s : Nat} (hr : Right c s) : fitI p c s = trimI (rI p c s) (tI p s) := by
  have h9 := hr.2.1
  have hv := fit_val (p := p) hr
  have hf := fit_fit (p := p) hr
  have ht := trim_same (c := rI p c s) (s := tI p s) (by have : tI p s ≤ s := Nat.min_le_left _ _; omega)
  have htd := trim_done (tI p s) (rI p c s)
  have htl := trim_le (tI p s) (rI p c s)
  have hts : tI p s ≤ s := Nat.min_le_left _ _
  have htm : tI p s ≤ p.m.toNat := Nat.min_le_right _ _
  rw [show (rc c s (min p.m.toNat s : Nat) 5) = rI p c s by unfold rI tI; rw [Nat.min_comm], show (min p.m.toNat s) = tI p s by unfold tI; rw [Nat.min_comm]] at hv
  rw [← ht] at hv
  generalize trimI (rI p c s) (tI p s) = x at *
  by_cases hms : p.m.toNat ≤ 9 ∨ (fitI p c s).2 ≤ 9
  · have hk : (fitI p c s).2 ≤ 9 := by rcases hms with h | h; exact Nat.le_trans hf.1 h; exact h
    exact fit_one hf.2.1 htd hk (by omega) hv
  · exfalso
    have hle : (fitI p c s).2 ≤ s := by
      unfold fitI
      have h1 := trim_le s c
      split
      · have h2 := trim_le p.m.toNat (rc (trimI c s).1 (trimI c s).2 p.m.toNat 5); omega
      · exact h1
    omega
where
  fit_one {x y : Int × Nat} (hx : x.2 = 0 ∨ x.1 % 10 ≠ 0) (hy : y.2 = 0 ∨ y.1 % 10 ≠ 0) (h9 : x.2 ≤ 9) (h9' : y.2 ≤ 9) (hv : val x.1 x.2 = val y.1 y.2) : x = y := by
    obtain ⟨a, i⟩ := x
    obtain ⟨b, j⟩ := y
    dsimp only at *
    have step : ∀ {a b : Int} {i j : Nat}, i ≤ j → j ≤ 9 → val a i = val b j → b = a * 10 ^ (j - i) := fun {a b i j} h1 h2 hv => by
      have e := val_rc_more (c := a) (s := i) (t := j) (way := 5) (by omega) (by omega)
      rw [hv] at e
      have := coef_of_val e
      rw [rc_more (by omega) (by omega)] at this
      rw [← this, show ((j : Int) - (i : Int)) = ((j - i : Nat) : Int) by omega]
      rfl
    have ten10 : ∀ {a : Int} {k : Nat}, 0 < k → a * 10 ^ k % 10 = 0 := fun {a k} hk => by
      obtain ⟨k, rfl⟩ : ∃ l, k = l + 1 := ⟨k - 1, by omega⟩
      rw [Int.pow_succ, ← Int.mul_assoc]
      omega
    rcases Nat.lt_trichotomy i j with h | h | h
    · exfalso
      have e := step (Nat.le_of_lt h) h9' hv
      have := ten10 (a := a) (k := j - i) (by omega)
      rw [← e] at this
      rcases hy with hy | hy
      · omega
      · exact hy this
    · subst h
      rw [coef_of_val hv]
    · exfalso
      have e := step (Nat.le_of_lt h) h9 hv.symm
      have := ten10 (a := b) (k := i - j) (by omega)
      rw [← e] at this
      rcases hx with hx | hx
      · omega
      · exact hx this
/-- what the rounded number's text tells of what is shown -/
theorem fit_text {p : Np.PatV} {c : Int} {s : Nat} (hr : Right c s) :
    (rI p c s < 0 ↔ (fitI p c s).1 < 0) ∧ (rI p c s).natAbs / 10 ^ tI p s = (fitI p c s).1.natAbs / 10 ^ (fitI p c s).2 ∧ Lib.trimRightB (low (tI p s) (rI p c s).natAbs) 48 = low (fitI p c s).2 (fitI p c s).1.natAbs := by
  rw [fit_trim hr]
  have hv := trim_val (tI p s) (rI p c s)
  have hl := trim_le (tI p s) (rI p c s)
  have hd := trim_done (tI p s) (rI p c s)
  generalize trimI (rI p c s) (tI p s) = x at *
  obtain ⟨e, k⟩ := x
  generalize rI p c s = r at *
  generalize tI p s = t at *
  dsimp only at *
  obtain ⟨j, rfl⟩ : ∃ j, t = k + j := ⟨t - k, by omega⟩
  rw [Nat.add_sub_cancel_left] at hv
  have hn : r.natAbs = e.natAbs * 10 ^ j := by rw [← hv, Int.natAbs_mul, Int.natAbs_pow]; rfl
  have hp : (0 : Int) < 10 ^ j := Int.pow_pos (by decide)
  refine ⟨?_, ?_, ?_⟩
  · rw [← hv]
    constructor
    · intro h
      by_cases h' : e < 0
      · exact h'
      · have := Int.mul_nonneg (Int.not_lt.1 h') (Int.le_of_lt hp); omega
    · exact fun h => Int.mul_neg_of_neg_of_pos h hp
  · rw [hn, Nat.pow_add, Nat.mul_comm (10 ^ k), Nat.mul_comm e.natAbs, Nat.mul_div_mul_left _ _ (Nat.pow_pos (by decide))]
  · rw [hn, low_up, trimR_noughts]
    exact trimR_keep (low_last (by rcases hd with h | h; exact .inl h; exact .inr (by omega)))
/-- the sign for the point and the digits behind it, at least so many -/
def partL (pt : UInt8) (b : Nat) (l : List UInt8) : List UInt8 :=
  if Lib.trimRightB l 48 ++ noughts (b - (Lib.trimRightB l 48).length) = [] then [] else pt :: (Lib.trimRightB l 48 ++ noughts (b - (Lib.trimRightB l 48).length))
theorem shown_text {p : Np.PatV} {pt cm : UInt8} {c : Int} {s : Nat} (hr : Right c s) :
    shownL p pt cm (fitI p c s).1 (fitI p c s).2 = (if rI p c s < 0 then [45] else []) ++ (p.pre ++ (Gr.grouped cm p.g.toNat p.g2.toNat (pad p.a.toNat ((rI p c s).natAbs / 10 ^ tI p s)) ++ partL pt p.b.toNat (low (tI p s) (rI p c s).natAbs)) ++ p.suf) := by
  obtain ⟨h1, h2, h3⟩ := fit_text (p := p) hr
  unfold shownL bodyL midL partL fracL
  rw [h3, h2, low_length]
  by_cases h : (fitI p c s).1 < 0
  · rw [if_pos h, if_pos (h1.2 h)]
  · rw [if_neg h, if_neg (fun h' => h (h1.1 h'))]
/-! ### the number that a text could be that of -/
def innerT (p : Np.PatV) (t : List UInt8) : List UInt8 := Lib.trimSuffix (Lib.trimPrefix (bareT t) p.pre) p.suf
def wholeT (p : Np.PatV) (pt : UInt8) (t : List UInt8) : List UInt8 := (Lib.cut (innerT p t) [pt]).1
def partT (p : Np.PatV) (pt : UInt8) (t : List UInt8) : List UInt8 := Lib.trimRightB (Lib.cut (innerT p t) [pt]).2.1 48
def looseL (p : Np.PatV) (pt cm : UInt8) (t : List UInt8) : Option (Int × Nat) :=
  if Gr.takeF (wholeT p pt t) p.g p.g2 cm = 0 then
    (Ru.atoiO (Gr.takeT (wholeT p pt t) p.g p.g2 cm ++ partT p pt t)).map fun v => (if negT t then -v else v, (partT p pt t).length)
  else none
theorem hasPre_app (a b : List UInt8) : Lib.hasPrefix (a ++ b) a = true := by unfold Lib.hasPrefix; simp
theorem hasSuf_app (a b : List UInt8) : Lib.hasSuffix (a ++ b) b = true := by unfold Lib.hasSuffix; simp
theorem parse_noughts (l : List UInt8) : ∀ j, Lib.parseUint10 0 (noughts j ++ l) = Lib.parseUint10 0 l
  | 0 => rfl
  | j + 1 => by
    have e : noughts (j + 1) ++ l = 48 :: (noughts j ++ l) := by unfold noughts; rw [List.replicate_succ]; rfl
    rw [e]
    simp only [Lib.parseUint10]
    rw [if_pos (by decide), if_neg (by decide), if_neg (by decide)]
    exact parse_noughts l j
theorem atoi_pad {a n k : Nat} (h : n ≤ 1000000000000000) : Ru.atoiO (pad a (n / 10 ^ k) ++ low k n) = some (n : Int) := by
  have hm : Lib.parseMag (pad a (n / 10 ^ k) ++ low k n) = .ok n := by
    unfold Lib.parseMag
    rw [if_neg (fun e => pad_ne _ _ (List.append_eq_nil_iff.1 e).1)]
    unfold pad
    rw [List.append_assoc, parse_noughts]
    exact parse_all k n (by omega)
  have hd : Digs (pad a (n / 10 ^ k)) := pad_digs _ _
  obtain ⟨b, r, e⟩ := List.exists_cons_of_ne_nil (pad_ne a (n / 10 ^ k))
  rw [e] at hm hd ⊢
  have hb := hd b (by simp)
  rw [List.cons_append] at hm ⊢
  unfold Ru.atoiO
  rw [Lib.atoiAll_plain _ _ (by omega) (by omega), hm]
  unfold Lib.signless
  simp only
  rw [if_neg (by omega)]
/-- what Atoi tells of digits, and whatever behind them, is not below 0 -/
theorem atoi_num {l r : List UInt8} {v : Int} (h : Gr.Num l) (hv : Ru.atoiO (l ++ r) = some v) : 0 ≤ v ∧ v ≤ 9223372036854775807 := by
  obtain ⟨b, q, e⟩ := List.exists_cons_of_ne_nil h.1
  have hb := h.2 b (by rw [e]; simp)
  unfold Gr.Dg at hb
  rw [e, List.cons_append] at hv
  unfold Ru.atoiO at hv
  rw [Lib.atoiAll_plain _ _ (by omega) (by omega)] at hv
  generalize Lib.parseMag (b :: (q ++ r)) = m at hv
  rcases m with u | _ | _
  · unfold Lib.signless at hv
    dsimp only at hv
    by_cases hu : 9223372036854775808 ≤ u
    · rw [if_pos hu] at hv; cases hv
    · rw [if_neg hu] at hv
      have : (u : Int) = v := by simpa using hv
      omega
  · simp [Lib.signless] at hv
  · simp [Lib.signless] at hv
/-- of what is shown the number is told -/
theorem loose_back {p : Np.PatV} (hp : Np.patF p = 0) {pt cm : UInt8} (hy : SymOk pt cm) {c : Int} {s : Nat} (h : Fit p c s) : looseL p pt cm (shownL p pt cm c s) = some (c, s) := by
  obtain ⟨hA, hB⟩ := patF_parts hp
  obtain ⟨hneg, hbare⟩ := shown_neg hA.1 pt cm c s
  have hn : s = 0 ∨ c.natAbs % 10 ≠ 0 := by rcases h.2.1 with h | h; exact .inl h; exact .inr (by omega)
  have hin : innerT p (shownL p pt cm c s) = midL p pt cm c.natAbs s := by
    unfold innerT
    rw [hbare]
    unfold bodyL Lib.trimPrefix
    rw [List.append_assoc, hasPre_app, if_pos rfl, List.drop_left]
    unfold Lib.trimSuffix
    rw [hasSuf_app, if_pos rfl, List.length_append, Nat.add_sub_cancel, List.take_left]
  have hyn := hy
  obtain ⟨hne, hpt, hcm⟩ := hyn
  have hW := digs_dg (pad_digs p.a.toNat (c.natAbs / 10 ^ s))
  have hG : pt ∉ Gr.grouped cm p.g.toNat p.g2.toNat (pad p.a.toNat (c.natAbs / 10 ^ s)) := fun hm => by
    rcases grouped_mem _ _ _ _ pt hm with e | e
    · exact hne e
    · exact (sign_not hpt).1 (hW _ e)
  have hcut : (Lib.cut (innerT p (shownL p pt cm c s)) [pt]).1 = Gr.grouped cm p.g.toNat p.g2.toNat (pad p.a.toNat (c.natAbs / 10 ^ s)) ∧ (Lib.cut (innerT p (shownL p pt cm c s)) [pt]).2.1 = low s c.natAbs ++ noughts (p.b.toNat - s) := by
    rw [hin]
    unfold midL fracL
    by_cases h0 : low s c.natAbs ++ noughts (p.b.toNat - s) = []
    · rw [if_pos h0, List.append_nil, Ru.cut_no (Ru.first_one pt) hG, h0]
      exact ⟨rfl, rfl⟩
    · rw [if_neg h0]
      have := Ru.cut_hit (rest := low s c.natAbs ++ noughts (p.b.toNat - s)) (Ru.first_one pt) hG
      rw [List.singleton_append] at this
      rw [this]
      exact ⟨rfl, rfl⟩
  have hput : Gr.putF (pad p.a.toNat (c.natAbs / 10 ^ s)) p.g p.g2 cm = 0 := Gr.putF_zero.2 ⟨⟨⟨pad_ne _ _, hW⟩, (sign_not hcm).1⟩, hB⟩
  obtain ⟨ht1, ht2⟩ := Gr.take_put hput
  rw [Gr.putT_zero hput] at ht1 ht2
  have hpart : partT p pt (shownL p pt cm c s) = low s c.natAbs := by
    unfold partT
    rw [hcut.2, trimR_noughts]
    exact trimR_keep (low_last hn)
  unfold looseL
  rw [hpart]
  unfold wholeT
  rw [hcut.1, if_pos ht1, ht2, atoi_pad (by have := h.2.2; omega), hneg, low_length, Option.map_some]
  congr 1
  by_cases hc : c < 0
  · rw [decide_eq_true hc, if_pos rfl]; congr 1; omega
  · rw [decide_eq_false hc, if_neg (by decide)]; congr 1; omega
where
  patF_parts {p : Np.PatV} (hp : Np.patF p = 0) : (Np.Aff p.pre ∧ Np.Aff p.suf) ∧ Gr.SzOk p.g p.g2 := by
    unfold Np.patF at hp
    by_cases h1 : Np.Aff p.pre ∧ Np.Aff p.suf
    · rw [if_pos h1] at hp
      refine ⟨h1, ?_⟩
      split at hp
      · rename_i h2
        exact ⟨h2.2.2.2.1, h2.2.2.2.2⟩
      · cases hp
    · rw [if_neg h1] at hp; cases hp
/-- the number of a text: the one that it could be that of, if it is shown so -/
theorem read_loose {p : Np.PatV} (hp : Np.patF p = 0) {pt cm : UInt8} (hy : SymOk pt cm) (t : List UInt8) :
    (∀ d, looseL p pt cm t = some d → Right d.1 d.2 → shownL p pt cm (fitI p d.1 d.2).1 (fitI p d.1 d.2).2 = t → readO p pt cm t = some d) ∧
    (looseL p pt cm t = none → readO p pt cm t = none) ∧
    (∀ d, looseL p pt cm t = some d → ¬ (Right d.1 d.2 ∧ shownL p pt cm (fitI p d.1 d.2).1 (fitI p d.1 d.2).2 = t) → readO p pt cm t = none) := by
  have hA := (loose_back.patF_parts hp).1
  have hm9 : p.m.toNat ≤ 6 := by
    unfold Np.patF at hp
    rw [if_pos hA] at hp
    split at hp
    · rename_i h2; have := h2.2.1; omega
    · cases hp
  have key : ∀ d, readO p pt cm t = some d → looseL p pt cm t = some d ∧ Right d.1 d.2 ∧ shownL p pt cm (fitI p d.1 d.2).1 (fitI p d.1 d.2).2 = t := fun d hd => by
    obtain ⟨hF, hs⟩ := (readO_some hA.1 hy).1 hd
    refine ⟨?_, ?_, ?_⟩
    · rw [← hs]; exact loose_back hp hy hF
    · have h1 := hF.1
      have h2 := hF.2.2
      exact ⟨by omega, by omega, by omega, by omega⟩
    · rw [fit_self hF]; exact hs
  refine ⟨fun d hd hr hs => ?_, fun h => ?_, fun d hd hno => ?_⟩
  · have hF := fit_fit (p := p) hr
    have hb := loose_back hp hy hF
    rw [hs, hd] at hb
    have e : d = fitI p d.1 d.2 := by injection hb
    refine (readO_some hA.1 hy).2 ⟨?_, ?_⟩
    · rw [← e] at hF; exact hF
    · rw [← e] at hs; exact hs
  · cases ho : readO p pt cm t with
    | none => rfl
    | some d => rw [(key d ho).1] at h; cases h
  · cases ho : readO p pt cm t with
    | none => rfl
    | some e =>
      obtain ⟨h1, h2, h3⟩ := key e ho
      rw [hd] at h1
      have : d = e := by injection h1
      rw [this] at hno
      exact absurd ⟨h2, h3⟩ hno
end No
end Go.Proofs.YtehocgemgdbikaaDoor
