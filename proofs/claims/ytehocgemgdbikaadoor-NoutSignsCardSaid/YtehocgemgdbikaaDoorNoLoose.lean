/- Numbers by patterns, as plain facts on bytes: the number that a text could be that of, by the pieces that the text has (its sign, what is ahead of the point, what is behind it); what is shown of a number, by the text of the number, rounded. Nothing of the program stands here. -/
import Derived.Test.YtehocgemgdbikaaDoorNoMath
import Derived.Test.YtehocgemgdbikaaDoorRuPlain
import Derived.Lib.TrimByte
import Derived.Lib.AtoiAllCases
namespace Go.Proofs.YtehocgemgdbikaaDoor
namespace No
open D

/-! ### noughts at the end of a text -/
theorem trimR_keep {l : List UInt8} (h : l.getLast? ≠ some 48) : Lib.trimRightB l 48 = l := by
  unfold Lib.trimRightB
  rw [← List.head?_reverse] at h
  cases hr : l.reverse with
  | nil => rw [List.reverse_eq_nil_iff.1 hr]; rfl
  | cons c r =>
    rw [hr] at h
    have hc : (c == 48) = false := by rw [beq_eq_false_iff_ne]; intro e; subst e; exact h rfl
    rw [List.dropWhile_cons, hc]
    simp only [Bool.false_eq_true, if_false]
    rw [← hr, List.reverse_reverse]
theorem trimR_noughts (l : List UInt8) : ∀ z, Lib.trimRightB (l ++ noughts z) 48 = Lib.trimRightB l 48
  | 0 => by simp [noughts]
  | z + 1 => by
    have e : l ++ noughts (z + 1) = (l ++ noughts z) ++ [48] := by unfold noughts; rw [List.replicate_succ']; simp
    rw [e, ← trimR_noughts l z]
    unfold Lib.trimRightB
    rw [List.reverse_append, List.reverse_singleton, List.singleton_append, List.dropWhile_cons]
    rfl
theorem low_last {s n : Nat} (h : s = 0 ∨ n % 10 ≠ 0) : (low s n).getLast? ≠ some 48 := by
  cases s with
  | zero => simp [low]
  | succ s =>
    have hn := h.resolve_left (by omega)
    have e : (low (s + 1) n).getLast? = some (dgt n) := by
      show (low s (n / 10) ++ [dgt n]).getLast? = _
      simp
    rw [e]
    intro hd
    have := (dgt_dig n).2.2
    rw [Option.some.inj hd] at this
    have : (48 : UInt8).toNat = 48 := rfl
    omega
theorem low_up (k n : Nat) : ∀ j, low (k + j) (n * 10 ^ j) = low k n ++ noughts j
  | 0 => by simp [noughts]
  | j + 1 => by
    show low (k + j) (n * 10 ^ (j + 1) / 10) ++ [dgt (n * 10 ^ (j + 1))] = _
    have e : n * 10 ^ (j + 1) = n * 10 ^ j * 10 := by rw [Nat.pow_succ, Nat.mul_assoc]
    rw [e, Nat.mul_div_cancel _ (by decide), low_up k n j]
    have : dgt (n * 10 ^ j * 10) = 48 := by unfold dgt; rw [Nat.mul_mod_left]; rfl
    rw [this, List.append_assoc]
    congr 1
    unfold noughts; rw [List.replicate_succ']
/-! ### what is shown, by the rounded number's text -/
/-- the number, rounded to no more digits than are shown -/
def tI (p : Np.PatV) (s : Nat) : Nat := min s p.m.toNat
def rI (p : Np.PatV) (c : Int) (s : Nat) : Int := rc c s (tI p s : Nat) 5
theorem round_ok {p : Np.PatV} {c : Int} {s : Nat} (hr : Right c s) : roundF c s (tI p s : Nat) 5 = 0 ∧ Right (rI p c s) (tI p s : Nat) := by
  have h9 := hr.2.1
  have hle : tI p s ≤ s := Nat.min_le_left _ _
  have hR : -1000000000000000 ≤ rI p c s ∧ rI p c s ≤ 1000000000000000 := by
    by_cases h : tI p s < s
    · exact fewer_room (way := 5) hr (by omega)
    · have e : tI p s = s := by omega
      unfold rI
      rw [e, rc_more (Int.le_refl _) h9, Int.sub_self, ten_zero, Int.mul_one]
      exact hr.2.2
  refine ⟨roundF_zero.2 ⟨hr, ⟨by omega, by omega⟩, by omega, hR⟩, by omega, by omega, hR.1, hR.2⟩
theorem fit_trim {p : Np.PatV} {c : Int} {s : Nat} (hr : Right c s) : fitI p c s = trimI (rI p c s) (tI p s) := by
  have h9 := hr.2.1
  have hv := fit_val (p := p) hr
  have hf := fit_fit (p := p) hr
  have ht := trim_same (c := rI p c s) (s := tI p s) (by have : tI p s ≤ s := Nat.min_le_left _ _; omega)
  have htd := trim_done (tI p s) (rI p c s)
  have htl := trim_le (tI p s) (rI p c s)
  have hts : tI p s ≤ s := Nat.min_le_left _ _
  have htm : tI p s ≤ p.m.toNat := Nat.min_le_right _ _
  rw [show (rc c s (min p.m.toNat s : Nat) 5) = rI p c s by unfold rI tI; rw [Nat.min_comm], show (min p.m.toNat s) = tI p s by unfold tI; rw [Nat.min_comm]] at hv
  rw [← ht] at hv
  generalize trimI (rI p c s) (tI p s) = x at *
  by_cases hms : p.m.toNat ≤ 9 ∨ (fitI p c s).2 ≤ 9
  · have hk : (fitI p c s).2 ≤ 9 := by rcases hms with h | h; exact Nat.le_trans hf.1 h; exact h
    exact fit_one hf.2.1 htd hk (by omega) hv
  · exfalso
    have hle : (fitI p c s).2 ≤ s := by
      unfold fitI
      have h1 := trim_le s c
      split
      · have h2 := trim_le p.m.toNat (rc (trimI c s).1 (trimI c s).2 p.m.toNat 5); omega
      · exact h1
    omega
where
  fit_one {x y : Int × Nat} (hx : x.2 = 0 ∨ x.1 % 10 ≠ 0) (hy : y.2 = 0 ∨ y.1 % 10 ≠ 0) (h9 : x.2 ≤ 9) (h9' : y.2 ≤ 9) (hv : val x.1 x.2 = val y.1 y.2) : x = y := by
    obtain ⟨a, i⟩ := x
    obtain ⟨b, j⟩ := y
    dsimp only at *
    have step : ∀ {a b : Int} {i j : Nat}, i ≤ j → j ≤ 9 → val a i = val b j → b = a * 10 ^ (j - i) := fun {a b i j} h1 h2 hv => by
      have e := val_rc_more (c := a) (s := i) (t := j) (way := 5) (by omega) (by omega)
      rw [hv] at e
      have := coef_of_val e
      rw [rc_more (by omega) (by omega)] at this
      rw [← this, show ((j : Int) - (i : Int)) = ((j - i : Nat) : Int) by omega]
      rfl
    have ten10 : ∀ {a : Int} {k : Nat}, 0 < k → a * 10 ^ k % 10 = 0 := fun {a k} hk => by
      obtain ⟨k, rfl⟩ : ∃ l, k = l + 1 := ⟨k - 1, by omega⟩
      rw [Int.pow_succ, ← Int.mul_assoc]
      omega
    rcases Nat.lt_trichotomy i j with h | h | h
    · exfalso
      have e := step (Nat.le_of_lt h) h9' hv
      have := ten10 (a := a) (k := j - i) (by omega)
      rw [← e] at this
      rcases hy with hy | hy
      · omega
      · exact hy this
    · subst h
      rw [coef_of_val hv]
    · exfalso
      have e := step (Nat.le_of_lt h) h9 hv.symm
      have := ten10 (a := b) (k := i - j) (by omega)
      rw [← e] at this
      rcases hx with hx | hx
      · omega
      · exact hx this
/-- what the rounded number's text tells of what is shown -/
theorem fit_text {p : Np.PatV} {c : Int} {s : Nat} (hr : Right c s) :
    (rI p c s < 0 ↔ (fitI p c s).1 < 0) ∧ (rI p c s).natAbs / 10 ^ tI p s = (fitI p c s).1.natAbs / 10 ^ (fitI p c s).2 ∧ Lib.trimRightB (low (tI p s) (rI p c s).natAbs) 48 = low (fitI p c s).2 (fitI p c s).1.natAbs := by
  rw [fit_trim hr]
  have hv := trim_val (tI p s) (rI p c s)
  have hl := trim_le (tI p s) (rI p c s)
  have hd := trim_done (tI p s) (rI p c s)
  generalize trimI (rI p c s) (tI p s) = x at *
  obtain ⟨e, k⟩ := x
  generalize rI p c s = r at *
  generalize tI p s = t at *
  dsimp only at *
  obtain ⟨j, rfl⟩ : ∃ j, t = k + j := ⟨t - k, by omega⟩
  rw [Nat.add_sub_cancel_left] at hv
  have hn : r.natAbs = e.natAbs * 10 ^ j := by rw [← hv, Int.natAbs_mul, Int.natAbs_pow]; rfl
  have hp : (0 : Int) < 10 ^ j := Int.pow_pos (by decide)
  refine ⟨?_, ?_, ?_⟩
  · rw [← hv]
    constructor
    · intro h
      by_cases h' : e < 0
      · exact h'
      · have := Int.mul_nonneg (Int.not_lt.1 h') (Int.le_of_lt hp); omega
    · exact fun h => Int.mul_neg_of_neg_of_pos h hp
  · rw [hn, Nat.pow_add, Nat.mul_comm (10 ^ k), Nat.mul_comm e.natAbs, Nat.mul_div_mul_left _ _ (Nat.pow_pos (by decide))]
  · rw [hn, low_up, trimR_noughts]
    exact trimR_keep (low_last (by rcases hd with h | h; exact .inl h; exact .inr (by omega)))
/-- the sign for the point and the digits behind it, at least so many -/
def partL (pt : UInt8) (b : Nat) (l : List UInt8) : List UInt8 :=
  if Lib.trimRightB l 48 ++ noughts (b - (Lib.trimRightB l 48).length) = [] then [] else pt :: (Lib.trimRightB l 48 ++ noughts (b - (Lib.trimRightB l 48).length))
theorem shown_text {p : Np.PatV} {pt cm : UInt8} {c : Int} {s : Nat} (hr : Right c s) :
    shownL p pt cm (fitI p c s).1 (fitI p c s).2 = (if rI p c s < 0 then [45] else []) ++ (p.pre ++ (Gr.grouped cm p.g.toNat p.g2.toNat (pad p.a.toNat ((rI p c s).natAbs / 10 ^ tI p s)) ++ partL pt p.b.toNat (low (tI p s) (rI p c s).natAbs)) ++ p.suf) := by
  obtain ⟨h1, h2, h3⟩ := fit_text (p := p) hr
  unfold shownL bodyL midL partL fracL
  rw [h3, h2, low_length]
  by_cases h : (fitI p c s).1 < 0
  · rw [if_pos h, if_pos (h1.2 h)]
  · rw [if_neg h, if_neg (fun h' => h (h1.1 h'))]
/-! ### the number that a text could be that of -/
def innerT (p : Np.PatV) (t : List UInt8) : List UInt8 := Lib.trimSuffix (Lib.trimPrefix (bareT t) p.pre) p.suf
def wholeT (p : Np.PatV) (pt : UInt8) (t : List UInt8) : List UInt8 := (Lib.cut (innerT p t) [pt]).1
def partT (p : Np.PatV) (pt : UInt8) (t : List UInt8) : List UInt8 := Lib.trimRightB (Lib.cut (innerT p t) [pt]).2.1 48
def looseL (p : Np.PatV) (pt cm : UInt8) (t : List UInt8) : Option (Int × Nat) :=
  if Gr.takeF (wholeT p pt t) p.g p.g2 cm = 0 then
    (Ru.atoiO (Gr.takeT (wholeT p pt t) p.g p.g2 cm ++ partT p pt t)).map fun v => (if negT t then -v else v, (partT p pt t).length)
  else none
theorem hasPre_app (a b : List UInt8) : Lib.hasPrefix (a ++ b) a = true := by unfold Lib.hasPrefix; simp
theorem hasSuf_app (a b : List UInt8) : Lib.hasSuffix (a ++ b) b = true := by unfold Lib.hasSuffix; simp
theorem parse_noughts (l : List UInt8) : ∀ j, Lib.parseUint10 0 (noughts j ++ l) = Lib.parseUint10 0 l
  | 0 => rfl
  | j + 1 => by
    have e : noughts (j + 1) ++ l = 48 :: (noughts j ++ l) := by unfold noughts; rw [List.replicate_succ]; rfl
    rw [e]
    simp only [Lib.parseUint10]
    rw [if_pos (by decide), if_neg (by decide), if_neg (by decide)]
    exact parse_noughts l j
theorem atoi_pad {a n k : Nat} (h : n ≤ 1000000000000000) : Ru.atoiO (pad a (n / 10 ^ k) ++ low k n) = some (n : Int) := by
  have hm : Lib.parseMag (pad a (n / 10 ^ k) ++ low k n) = .ok n := by
    unfold Lib.parseMag
    rw [if_neg (fun e => pad_ne _ _ (List.append_eq_nil_iff.1 e).1)]
    unfold pad
    rw [List.append_assoc, parse_noughts]
    exact parse_all k n (by omega)
  have hd : Digs (pad a (n / 10 ^ k)) := pad_digs _ _
  obtain ⟨b, r, e⟩ := List.exists_cons_of_ne_nil (pad_ne a (n / 10 ^ k))
  rw [e] at hm hd ⊢
  have hb := hd b (by simp)
  rw [List.cons_append] at hm ⊢
  unfold Ru.atoiO
  rw [Lib.atoiAll_plain _ _ (by omega) (by omega), hm]
  unfold Lib.signless
  simp only
  rw [if_neg (by omega)]
/-- what Atoi tells of digits, and whatever behind them, is not below 0 -/
theorem atoi_num {l r : List UInt8} {v : Int} (h : Gr.Num l) (hv : Ru.atoiO (l ++ r) = some v) : 0 ≤ v ∧ v ≤ 9223372036854775807 := by
  obtain ⟨b, q, e⟩ := List.exists_cons_of_ne_nil h.1
  have hb := h.2 b (by rw [e]; simp)
  unfold Gr.Dg at hb
  rw [e, List.cons_append] at hv
  unfold Ru.atoiO at hv
  rw [Lib.atoiAll_plain _ _ (by omega) (by omega)] at hv
  generalize Lib.parseMag (b :: (q ++ r)) = m at hv
  cases m with
  | ok u =>
    unfold Lib.signless at hv
    dsimp only at hv
    by_cases hu : 9223372036854775808 ≤ u
    · rw [if_pos hu] at hv; cases hv
    · rw [if_neg hu] at hv
      have : (u : Int) = v := by simpa using hv
      omega
  | «syntax» => simp [Lib.signless] at hv
  | range => simp [Lib.signless] at hv
/-- of what is shown the number is told -/
theorem loose_back {p : Np.PatV} (hp : Np.patF p = 0) {pt cm : UInt8} (hy : SymOk pt cm) {c : Int} {s : Nat} (h : Fit p c s) : looseL p pt cm (shownL p pt cm c s) = some (c, s) := by
  obtain ⟨hA, hB⟩ := patF_parts hp
  obtain ⟨hneg, hbare⟩ := shown_neg hA.1 pt cm c s
  have hn : s = 0 ∨ c.natAbs % 10 ≠ 0 := by rcases h.2.1 with h | h; exact .inl h; exact .inr (by omega)
  have hin : innerT p (shownL p pt cm c s) = midL p pt cm c.natAbs s := by
    unfold innerT
    rw [hbare]
    unfold bodyL Lib.trimPrefix
    rw [List.append_assoc, hasPre_app, if_pos rfl, List.drop_left]
    unfold Lib.trimSuffix
    rw [hasSuf_app, if_pos rfl, List.length_append, Nat.add_sub_cancel, List.take_left]
  have hyn := hy
  obtain ⟨hne, hpt, hcm⟩ := hyn
  have hW := digs_dg (pad_digs p.a.toNat (c.natAbs / 10 ^ s))
  have hG : pt ∉ Gr.grouped cm p.g.toNat p.g2.toNat (pad p.a.toNat (c.natAbs / 10 ^ s)) := fun hm => by
    rcases grouped_mem _ _ _ _ pt hm with e | e
    · exact hne e
    · exact (sign_not hpt).1 (hW _ e)
  have hcut : (Lib.cut (innerT p (shownL p pt cm c s)) [pt]).1 = Gr.grouped cm p.g.toNat p.g2.toNat (pad p.a.toNat (c.natAbs / 10 ^ s)) ∧ (Lib.cut (innerT p (shownL p pt cm c s)) [pt]).2.1 = low s c.natAbs ++ noughts (p.b.toNat - s) := by
    rw [hin]
    unfold midL fracL
    by_cases h0 : low s c.natAbs ++ noughts (p.b.toNat - s) = []
    · rw [if_pos h0, List.append_nil, Ru.cut_no (Ru.first_one pt) hG, h0]
      exact ⟨rfl, rfl⟩
    · rw [if_neg h0]
      have := Ru.cut_hit (rest := low s c.natAbs ++ noughts (p.b.toNat - s)) (Ru.first_one pt) hG
      rw [List.singleton_append] at this
      rw [this]
      exact ⟨rfl, rfl⟩
  have hput : Gr.putF (pad p.a.toNat (c.natAbs / 10 ^ s)) p.g p.g2 cm = 0 := Gr.putF_zero.2 ⟨⟨⟨pad_ne _ _, hW⟩, (sign_not hcm).1⟩, hB⟩
  obtain ⟨ht1, ht2⟩ := Gr.take_put hput
  rw [Gr.putT_zero hput] at ht1 ht2
  have hpart : partT p pt (shownL p pt cm c s) = low s c.natAbs := by
    unfold partT
    rw [hcut.2, trimR_noughts]
    exact trimR_keep (low_last hn)
  unfold looseL
  rw [hpart]
  unfold wholeT
  rw [hcut.1, if_pos ht1, ht2, atoi_pad (by have := h.2.2; omega), hneg, low_length, Option.map_some]
  congr 1
  by_cases hc : c < 0
  · rw [decide_eq_true hc, if_pos rfl]; congr 1; omega
  · rw [decide_eq_false hc, if_neg (by decide)]; congr 1; omega
where
  patF_parts {p : Np.PatV} (hp : Np.patF p = 0) : (Np.Aff p.pre ∧ Np.Aff p.suf) ∧ Gr.SzOk p.g p.g2 := by
    unfold Np.patF at hp
    by_cases h1 : Np.Aff p.pre ∧ Np.Aff p.suf
    · rw [if_pos h1] at hp
      refine ⟨h1, ?_⟩
      split at hp
      · rename_i h2
        exact ⟨h2.2.2.2.1, h2.2.2.2.2⟩
      · cases hp
    · rw [if_neg h1] at hp; cases hp
/-- the number of a text: the one that it could be that of, if it is shown so -/
theorem read_loose {p : Np.PatV} (hp : Np.patF p = 0) {pt cm : UInt8} (hy : SymOk pt cm) (t : List UInt8) :
    (∀ d, looseL p pt cm t = some d → Right d.1 d.2 → shownL p pt cm (fitI p d.1 d.2).1 (fitI p d.1 d.2).2 = t → readO p pt cm t = some d) ∧
    (looseL p pt cm t = none → readO p pt cm t = none) ∧
    (∀ d, looseL p pt cm t = some d → ¬ (Right d.1 d.2 ∧ shownL p pt cm (fitI p d.1 d.2).1 (fitI p d.1 d.2).2 = t) → readO p pt cm t = none) := by
  have hA := (loose_back.patF_parts hp).1
  have hm9 : p.m.toNat ≤ 6 := by
    unfold Np.patF at hp
    rw [if_pos hA] at hp
    split at hp
    · rename_i h2; have := h2.2.1; omega
    · cases hp
  have key : ∀ d, readO p pt cm t = some d → looseL p pt cm t = some d ∧ Right d.1 d.2 ∧ shownL p pt cm (fitI p d.1 d.2).1 (fitI p d.1 d.2).2 = t := fun d hd => by
    obtain ⟨hF, hs⟩ := (readO_some hA.1 hy).1 hd
    refine ⟨?_, ?_, ?_⟩
    · rw [← hs]; exact loose_back hp hy hF
    · have h1 := hF.1
      have h2 := hF.2.2
      exact ⟨by omega, by omega, by omega, by omega⟩
    · rw [fit_self hF]; exact hs
  refine ⟨fun d hd hr hs => ?_, fun h => ?_, fun d hd hno => ?_⟩
  · have hF := fit_fit (p := p) hr
    have hb := loose_back hp hy hF
    rw [hs, hd] at hb
    have e : d = fitI p d.1 d.2 := by injection hb
    refine (readO_some hA.1 hy).2 ⟨?_, ?_⟩
    · rw [← e] at hF; exact hF
    · rw [← e] at hs; exact hs
  · cases ho : readO p pt cm t with
    | none => rfl
    | some d => rw [(key d ho).1] at h; cases h
  · cases ho : readO p pt cm t with
    | none => rfl
    | some e =>
      obtain ⟨h1, h2, h3⟩ := key e ho
      rw [hd] at h1
      have : d = e := by injection h1
      rw [this] at hno
      exact absurd ⟨h2, h3⟩ hno
end No
end Go.Proofs.YtehocgemgdbikaaDoor
