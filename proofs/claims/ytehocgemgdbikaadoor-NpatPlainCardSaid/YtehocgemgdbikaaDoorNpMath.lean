/- Patterns of numbers, as plain facts on bytes: what is wrong with one, its text, and back. Nothing of the program stands here. -/
import Derived.Test.YtehocgemgdbikaaDoorRuPlain
namespace Go.Proofs.YtehocgemgdbikaaDoor
namespace Np
open Ru

/-- a pattern -/
structure PatV where
  pre : List UInt8
  suf : List UInt8
  a : Int
  b : Int
  m : Int
  g : Int
  g2 : Int
deriving DecidableEq
/-- what may stand ahead and behind -/
def affL : List UInt8 := [97, 98, 99, 100, 101, 102, 103, 104, 105, 106, 107, 108, 109, 110, 111, 112, 113, 114, 115, 116, 117, 118, 119, 120, 121, 122, 65, 66, 67, 68, 69, 70, 71, 72, 73, 74, 75, 76, 77, 78, 79, 80, 81, 82, 83, 84, 85, 86, 87, 88, 89, 90, 32, 36, 37]
def Aff (l : List UInt8) : Prop := l.length ≤ 5 ∧ ∀ c ∈ l, affL.contains c = true
instance (l : List UInt8) : Decidable (Aff l) := inferInstanceAs (Decidable (_ ∧ _))
def Sizes (p : PatV) : Prop := (1 ≤ p.a ∧ p.a ≤ 9) ∧ (0 ≤ p.m ∧ p.m ≤ 6) ∧ (0 ≤ p.b ∧ p.b ≤ p.m) ∧ (0 ≤ p.g ∧ p.g ≤ 4) ∧ 0 ≤ p.g2 ∧ p.g2 ≤ 4
instance (p : PatV) : Decidable (Sizes p) := inferInstanceAs (Decidable (_ ∧ _))
def patF (p : PatV) : Nat := if Aff p.pre ∧ Aff p.suf then (if Sizes p then (if p.g2 ≠ 0 ∧ p.g = 0 then 3 else 0) else 1) else 3
theorem patF_zero {p : PatV} : patF p = 0 ↔ (Aff p.pre ∧ Aff p.suf) ∧ Sizes p ∧ ¬ (p.g2 ≠ 0 ∧ p.g = 0) := by
  unfold patF
  by_cases h1 : Aff p.pre ∧ Aff p.suf
  · by_cases h2 : Sizes p
    · by_cases h3 : p.g2 ≠ 0 ∧ p.g = 0
      · rw [if_pos h1, if_pos h2, if_pos h3]; exact ⟨fun h => by omega, fun h => absurd h3 h.2.2⟩
      · rw [if_pos h1, if_pos h2, if_neg h3]; exact ⟨fun _ => ⟨h1, h2, h3⟩, fun _ => rfl⟩
    · rw [if_pos h1, if_neg h2]; exact ⟨fun h => by omega, fun h => absurd h.2.1 h2⟩
  · rw [if_neg h1]; exact ⟨fun h => by omega, fun h => absurd h.1 h1⟩
/-- how many places there are ahead of the point -/
def places (a g g2 : Nat) : Nat := if 0 < g ∧ a < g + g2 + 1 then g + g2 + 1 else a
/-- the last so many places -/
def intU (a g g2 n : Nat) : Nat → List UInt8
  | 0 => []
  | k + 1 => (if 0 < g ∧ k + 1 < n ∧ (k + 1 = g ∨ 0 < g2 ∧ k + 1 = g + g2) then [44] else []) ++ ((if a < k + 1 then [35] else [48]) ++ intU a g g2 n k)
def intT (a g g2 : Nat) : List UInt8 := intU a g g2 (places a g g2) (places a g g2)
/-- so many places behind the point -/
def fracU (b : Nat) : Nat → List UInt8
  | 0 => []
  | k + 1 => fracU b k ++ ((if k = 0 then [46] else []) ++ (if k < b then [48] else [35]))
def patT (p : PatV) : List UInt8 := p.pre ++ (intT p.a.toNat p.g.toNat p.g2.toNat ++ fracU p.b.toNat p.m.toNat) ++ p.suf
/-! ### back -/
def mark (c : UInt8) : Bool := c == 35 || c == 48
def lastLen (l : List (List UInt8)) : Nat := match l.getLast? with | some x => x.length | none => 0
def decI (l : List UInt8) : Nat × Nat × Nat :=
  let s := cutL [44] l
  (l.count 48, if 1 < s.length then lastLen s else 0, if 2 < s.length then lastLen s.dropLast else 0)
def decF (l : List UInt8) : Nat × Nat := (l.count 48, l.length - 1)
def headOk (d : Bool) (l : List UInt8) : Bool := match l.head? with | some c => mark c | none => d
def lastOk (d : Bool) (l : List UInt8) : Bool := match l.getLast? with | some c => mark c | none => d
def intCheck (a g g2 : Nat) : Bool := a == 0 || (g2 != 0 && g == 0) || (decI (intT a g g2) == (a, g, g2) && decide ((intT a g g2).length ≤ 11) && (intT a g g2).all (fun c => c != 46) && headOk false (intT a g g2) && lastOk false (intT a g g2))
def fracCheck (b m : Nat) : Bool := decide (m < b) || (decF (fracU b m) == (b, m) && decide ((fracU b m).length ≤ 7) && (match (fracU b m).head? with | some c => c == 46 | none => true) && lastOk true (fracU b m))
set_option maxRecDepth 100000 in
theorem int_table : ((List.range 10).all fun a => (List.range 5).all fun g => (List.range 5).all fun g2 => intCheck a g g2) = true := by decide +kernel
set_option maxRecDepth 100000 in
theorem frac_table : ((List.range 7).all fun m => (List.range 7).all fun b => fracCheck b m) = true := by decide +kernel
theorem int_all {a g g2 : Nat} (h1 : a < 10) (h0 : 0 < a) (h2 : g < 5) (h3 : g2 < 5) (h4 : ¬ (g2 ≠ 0 ∧ g = 0)) : decI (intT a g g2) = (a, g, g2) ∧ (intT a g g2).length ≤ 11 ∧ (∀ c ∈ intT a g g2, c ≠ 46) ∧ headOk false (intT a g g2) = true ∧ lastOk false (intT a g g2) = true := by
  have h := int_table
  rw [List.all_eq_true] at h
  have h := h a (List.mem_range.2 h1)
  rw [List.all_eq_true] at h
  have h := h g (List.mem_range.2 h2)
  rw [List.all_eq_true] at h
  have h := h g2 (List.mem_range.2 h3)
  unfold intCheck at h
  simp only [Bool.or_eq_true, Bool.and_eq_true, beq_iff_eq, bne_iff_ne, decide_eq_true_iff, List.all_eq_true] at h
  rcases h with (h | h) | ⟨⟨⟨⟨k1, k2⟩, k3⟩, k4⟩, k5⟩
  · omega
  · exact absurd h h4
  · exact ⟨k1, k2, k3, k4, k5⟩
theorem frac_all {b m : Nat} (h1 : m < 7) (h2 : b ≤ m) : decF (fracU b m) = (b, m) ∧ (fracU b m).length ≤ 7 ∧ (match (fracU b m).head? with | some c => c == 46 | none => true) = true ∧ lastOk true (fracU b m) = true := by
  have h := frac_table
  rw [List.all_eq_true] at h
  have h := h m (List.mem_range.2 h1)
  rw [List.all_eq_true] at h
  have h := h b (List.mem_range.2 (by omega))
  unfold fracCheck at h
  simp only [Bool.or_eq_true, Bool.and_eq_true, beq_iff_eq, decide_eq_true_iff] at h
  rcases h with h | ⟨⟨⟨k1, k2⟩, k3⟩, k4⟩
  · omega
  · exact ⟨k1, k2, k3, k4⟩
/-- the pattern that a text could be that of -/
def decP (s : List UInt8) : PatV :=
  let pre := s.takeWhile (fun c => !mark c)
  let r := s.dropWhile (fun c => !mark c)
  let suf := (r.reverse.takeWhile (fun c => !mark c)).reverse
  let mid := (r.reverse.dropWhile (fun c => !mark c)).reverse
  let i := mid.takeWhile (fun c => c != 46)
  let f := mid.dropWhile (fun c => c != 46)
  ⟨pre, suf, (decI i).1, (decF f).1, (decF f).2, (decI i).2.1, (decI i).2.2⟩
theorem take_while_app {p : UInt8 → Bool} {x y : List UInt8} (h : ∀ c ∈ x, p c = true) (hy : ∀ c r, y = c :: r → p c = false) : (x ++ y).takeWhile p = x ∧ (x ++ y).dropWhile p = y := by
  induction x with
  | nil =>
    cases y with
    | nil => exact ⟨rfl, rfl⟩
    | cons c r => have := hy c r rfl; simp [this]
  | cons c x ih =>
    have hc := h c (by simp)
    have := ih fun d hd => h d (by simp [hd])
    simp [hc, this.1, this.2]
theorem head_of {l : List UInt8} (h : headOk false l = true) : ∃ c r, l = c :: r ∧ mark c = true := by
  cases l with
  | nil => simp [headOk] at h
  | cons c r => exact ⟨c, r, rfl, by simpa [headOk] using h⟩
theorem last_of {l : List UInt8} (h : lastOk false l = true) : ∃ c r, l.reverse = c :: r ∧ mark c = true := by
  unfold lastOk at h
  rw [List.getLast?_eq_head?_reverse] at h
  cases hl : l.reverse with
  | nil => rw [hl] at h; simp at h
  | cons c r => rw [hl] at h; exact ⟨c, r, rfl, by simpa using h⟩
theorem aff_mark {c : UInt8} (h : affL.contains c = true) : mark c = false := by
  have : affL.all (fun c => !mark c) = true := by decide
  have := List.all_eq_true.1 this c (by simpa using h)
  simpa using this
theorem dec_text {pre suf I F : List UInt8} (hp : Aff pre) (hs : Aff suf) (hI : ∀ c ∈ I, c ≠ 46) (hF : ∀ c r, F = c :: r → c = 46) (hh : headOk false I = true) (hl : lastOk false (I ++ F) = true) :
    decP (pre ++ (I ++ F) ++ suf) = ⟨pre, suf, (decI I).1, (decF F).1, (decF F).2, (decI I).2.1, (decI I).2.2⟩ := by
  obtain ⟨c1, r1, e1, m1⟩ := head_of hh
  obtain ⟨c2, r2, e2, m2⟩ := last_of hl
  have t1 := take_while_app (p := fun c => !mark c) (x := pre) (y := I ++ F ++ suf) (fun c hc => by rw [aff_mark (hp.2 c hc)]; rfl) (fun c r h => by
    rw [e1] at h
    have : c1 = c := by simpa using congrArg List.head? h
    rw [← this, m1]; rfl)
  rw [← List.append_assoc pre] at t1
  have t2 := take_while_app (p := fun c => !mark c) (x := suf.reverse) (y := (I ++ F).reverse) (fun c hc => by rw [aff_mark (hs.2 c (List.mem_reverse.1 hc))]; rfl) (fun c r h => by
    rw [e2] at h
    have : c2 = c := by simpa using congrArg List.head? h
    rw [← this, m2]; rfl)
  have t3 := take_while_app (p := fun c => c != 46) (x := I) (y := F) (fun c hc => by simpa using hI c hc) (fun c r h => by rw [hF c r h]; rfl)
  unfold decP
  simp only [t1.1, t1.2, List.reverse_append]
  rw [← List.reverse_append, t2.1, t2.2, List.reverse_reverse, List.reverse_reverse, t3.1, t3.2]
theorem last_app {I F : List UInt8} (h1 : lastOk false I = true) (h2 : lastOk true F = true) : lastOk false (I ++ F) = true := by
  cases hF : F.reverse with
  | nil => rw [List.reverse_eq_nil_iff.1 hF, List.append_nil]; exact h1
  | cons c r =>
    unfold lastOk at h2 ⊢
    rw [List.getLast?_eq_head?_reverse, hF] at h2
    rw [List.getLast?_eq_head?_reverse, List.reverse_append, hF]
    simpa using h2
/-- what a right pattern's text is made of -/
theorem text_parts {p : PatV} (h : patF p = 0) : ∃ I F : List UInt8, patT p = p.pre ++ (I ++ F) ++ p.suf ∧ Aff p.pre ∧ Aff p.suf ∧ (I ++ F).length ≤ 18 ∧ decP (patT p) = p := by
  obtain ⟨⟨h1, h2⟩, ⟨⟨a1, a9⟩, ⟨m0, m6⟩, ⟨b0, bm⟩, ⟨g0, g4⟩, k0, k4⟩, hz⟩ := patF_zero.1 h
  obtain ⟨i1, i2, i3, i4, i5⟩ := int_all (a := p.a.toNat) (g := p.g.toNat) (g2 := p.g2.toNat) (by omega) (by omega) (by omega) (by omega) (by omega)
  obtain ⟨f1, f2, f3, f4⟩ := frac_all (b := p.b.toNat) (m := p.m.toNat) (by omega) (by omega)
  refine ⟨intT p.a.toNat p.g.toNat p.g2.toNat, fracU p.b.toNat p.m.toNat, rfl, h1, h2, by rw [List.length_append]; omega, ?_⟩
  unfold patT
  rw [dec_text h1 h2 i3 (fun c r e => by rw [e] at f3; simpa using f3) i4 (last_app i5 f4), i1, f1]
  show PatV.mk p.pre p.suf (p.a.toNat : Int) (p.b.toNat : Int) (p.m.toNat : Int) (p.g.toNat : Int) (p.g2.toNat : Int) = p
  rw [show (p.a.toNat : Int) = p.a by omega, show (p.b.toNat : Int) = p.b by omega, show (p.m.toNat : Int) = p.m by omega, show (p.g.toNat : Int) = p.g by omega, show (p.g2.toNat : Int) = p.g2 by omega]
theorem dec_back {p : PatV} (h : patF p = 0) : decP (patT p) = p := by
  obtain ⟨_, _, _, _, _, _, h⟩ := text_parts h; exact h
theorem text_len {p : PatV} (h : patF p = 0) : (patT p).length ≤ 28 := by
  obtain ⟨I, F, e, h1, h2, h3, _⟩ := text_parts h
  rw [e, List.length_append, List.length_append]
  have := h1.1
  have := h2.1
  omega
/-- the pattern of a text -/
def patO (s : List UInt8) : Option PatV := if patF (decP s) = 0 ∧ patT (decP s) = s then some (decP s) else none
theorem patO_some {s : List UInt8} {p : PatV} : patO s = some p ↔ patF p = 0 ∧ patT p = s := by
  unfold patO
  constructor
  · intro h
    split at h
    · rename_i hk
      have : decP s = p := by simpa using h
      rw [← this]; exact hk
    · cases h
  · rintro ⟨h1, rfl⟩
    rw [dec_back h1, if_pos ⟨h1, rfl⟩]
theorem patO_none {s : List UInt8} : patO s = none ↔ ∀ p, patF p = 0 → patT p ≠ s := by
  constructor
  · intro h p h1 h2
    rw [patO_some.2 ⟨h1, h2⟩] at h; cases h
  · intro h
    cases hp : patO s with
    | none => rfl
    | some p => obtain ⟨h1, h2⟩ := patO_some.1 hp; exact absurd h2 (h p h1)
/-- where the places begin and end -/
structure Ends (s : List UInt8) (i t : Nat) : Prop where
  it : i ≤ t
  tl : t ≤ s.length
  ahead : ∀ c ∈ s.take i, mark c = false
  first : i = s.length ∨ ∃ c, s[i]? = some c ∧ mark c = true
  behind : ∀ c ∈ s.drop t, mark c = false
  last : t = i ∨ ∃ c, s[t - 1]? = some c ∧ mark c = true
theorem Ends.pre {s : List UInt8} {i t : Nat} (h : Ends s i t) : (decP s).pre = s.take i ∧ s.dropWhile (fun c => !mark c) = s.drop i := by
  have := take_while_app (p := fun c => !mark c) (x := s.take i) (y := s.drop i) (fun c hc => by rw [h.ahead c hc]; rfl) (fun c r e => by
    rcases h.first with h1 | ⟨d, h1, h2⟩
    · rw [List.drop_of_length_le (by omega)] at e; cases e
    · have : (s.drop i)[0]? = some c := by rw [e]; rfl
      rw [List.getElem?_drop, Nat.add_zero, h1] at this
      have : d = c := by simpa using this
      rw [← this, h2]; rfl)
  rw [List.take_append_drop] at this
  exact this
theorem Ends.suf {s : List UInt8} {i t : Nat} (h : Ends s i t) : (decP s).suf = s.drop t := by
  have hr := h.pre.2
  show ((s.dropWhile (fun c => !mark c)).reverse.takeWhile (fun c => !mark c)).reverse = s.drop t
  rw [hr]
  by_cases hti : t = i
  · subst hti
    rcases h.first with h1 | ⟨d, h1, h2⟩
    · rw [List.drop_of_length_le (by omega)]; rfl
    · have : d ∈ s.drop t := List.mem_of_getElem? (i := 0) (by rw [List.getElem?_drop, Nat.add_zero]; exact h1)
      rw [h.behind d this] at h2; cases h2
  · rcases h.last with h1 | ⟨d, h1, h2⟩
    · exact absurd h1 hti
    · have hit := h.it
      have e : s.drop i = (s.drop i).take (t - i) ++ s.drop t := by
        conv => lhs; rw [← List.take_append_drop (t - i) (s.drop i)]
        rw [List.drop_drop, show i + (t - i) = t by omega]
      have hd : ((s.drop i).take (t - i)).reverse.head? = some d := by
        rw [← List.getLast?_eq_head?_reverse, List.getLast?_eq_getElem?, List.length_take, List.length_drop, List.getElem?_take]
        have := h.tl
        rw [if_pos (by omega), List.getElem?_drop, ← h1]
        congr 1
        omega
      have := take_while_app (p := fun c => !mark c) (x := (s.drop t).reverse) (y := ((s.drop i).take (t - i)).reverse) (fun c hc => by rw [h.behind c (List.mem_reverse.1 hc)]; rfl) (fun c r e => by
        rw [e] at hd
        have : c = d := by simpa using hd
        rw [this, h2]; rfl)
      rw [e, List.reverse_append, this.1, List.reverse_reverse]
/-- of a right pattern's text the ends are near -/
theorem Ends.near {s : List UInt8} {i t : Nat} (h : Ends s i t) {p : PatV} (hp : patF p = 0) (hs : patT p = s) : i ≤ 5 ∧ s.length - t ≤ 5 ∧ t - i ≤ 18 ∧ p.pre = s.take i ∧ p.suf = s.drop t := by
  obtain ⟨I, F, e, h1, h2, h3, hd⟩ := text_parts hp
  rw [hs] at hd e
  have e1 := h.pre.1
  have e2 := h.suf
  rw [hd] at e1 e2
  have l1 := congrArg List.length e1
  have l2 := congrArg List.length e2
  have l3 := congrArg List.length e
  rw [List.length_take] at l1
  rw [List.length_drop] at l2
  rw [List.length_append, List.length_append] at l3
  have := h.it
  have := h.tl
  have := h1.1
  have := h2.1
  exact ⟨by omega, by omega, by omega, e1, e2⟩
def zeroP : PatV := ⟨[], [], 0, 0, 0, 0, 0⟩
/-- what Text tells -/
def patX (p : PatV) : List UInt8 := if patF p = 0 then patT p else []
/-- what Parse says -/
def patE (s : List UInt8) : Nat := if (patO s).isSome then 0 else 3
set_option maxRecDepth 100000 in
theorem fact_pat : patF ⟨[], [], 1, 1, 2, 3, 0⟩ = 0 ∧ patT ⟨[], [], 1, 1, 2, 3, 0⟩ = [35, 44, 35, 35, 48, 46, 48, 35] := by decide +kernel
end Np
end Go.Proofs.YtehocgemgdbikaaDoor
