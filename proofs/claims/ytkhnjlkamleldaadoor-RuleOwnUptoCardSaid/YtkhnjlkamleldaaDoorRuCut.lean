/- Plain facts on texts that are cut at a sign, from the left, and joined with it. Nothing of the program stands here. -/
namespace Go.Proofs.YtkhnjlkamleldaaDoor
namespace Ru

/-- texts joined -/
def joinL (sep : List UInt8) : List (List UInt8) → List UInt8
  | [] => []
  | [p] => p
  | p :: q :: l => p ++ (sep ++ joinL sep (q :: l))
/-- cut from the left: so far, what is left -/
def cutF (sep : List UInt8) : Nat → List UInt8 → List UInt8 → List (List UInt8)
  | 0, acc, r => [acc ++ r]
  | n + 1, acc, r => if sep.isPrefixOf r then acc :: cutF sep n [] (r.drop sep.length) else match r with
    | [] => [acc]
    | c :: r' => cutF sep n (acc ++ [c]) r'
def cutL (sep s : List UInt8) : List (List UInt8) := cutF sep (s.length + 1) [] s
theorem cutF_none (sep : List UInt8) : ∀ (n : Nat) (acc r : List UInt8), r.length < n → r.length < sep.length → cutF sep n acc r = [acc ++ r]
  | 0, _, _, h, _ => absurd h (by omega)
  | n + 1, acc, r, h, hs => by
    have hp : sep.isPrefixOf r = false := by
      rw [Bool.eq_false_iff]
      intro hp
      have := (List.isPrefixOf_iff_prefix.1 hp).length_le
      omega
    unfold cutF
    rw [hp]
    cases r with
    | nil => simp
    | cons c r' =>
      simp only [List.length_cons] at h hs
      simp only [Bool.false_eq_true, if_false]
      rw [cutF_none sep n _ r' (by omega) (by omega)]
      simp
theorem cutF_fuel (sep : List UInt8) (h0 : sep ≠ []) : ∀ (n m : Nat) (acc r : List UInt8), r.length < n → r.length < m → cutF sep n acc r = cutF sep m acc r
  | 0, _, _, _, h, _ => absurd h (by omega)
  | _ + 1, 0, _, _, _, h => absurd h (by omega)
  | n + 1, m + 1, acc, r, hn, hm => by
    unfold cutF
    split
    · rename_i hp
      have h1 := (List.isPrefixOf_iff_prefix.1 hp).length_le
      have h2 : 0 < sep.length := List.length_pos_iff.2 h0
      rw [cutF_fuel sep h0 n m [] _ (by rw [List.length_drop]; omega) (by rw [List.length_drop]; omega)]
    · cases r with
      | nil => rfl
      | cons c r' =>
        simp only [List.length_cons] at hn hm
        exact cutF_fuel sep h0 n m _ r' (by omega) (by omega)
/-- a sign's first place where this byte stands -/
def First (sep : List UInt8) (k : Nat) (c : UInt8) : Prop := sep[k]? = some c ∧ ∀ i, i < k → sep[i]? ≠ some c
theorem no_match {sep p rest : List UInt8} {k : Nat} {c : UInt8} (h : First sep k c) (hp : c ∉ p) (hr : rest = [] ∨ ∃ t, rest = sep ++ t) {i : Nat} (hi : i < p.length) : sep.isPrefixOf ((p ++ rest).drop i) = false := by
  rw [Bool.eq_false_iff]
  intro hm
  obtain ⟨u, hu⟩ := List.isPrefixOf_iff_prefix.1 hm
  rw [List.drop_append_of_le_length (by omega)] at hu
  have hk : (p.drop i ++ rest)[k]? = some c := by
    rw [← hu, List.getElem?_append_left (List.getElem?_eq_some_iff.1 h.1).1]
    exact h.1
  by_cases hlt : k < (p.drop i).length
  · rw [List.getElem?_append_left hlt, List.getElem?_drop] at hk
    exact hp (List.mem_of_getElem? hk)
  · rw [List.getElem?_append_right (by omega)] at hk
    rcases hr with rfl | ⟨t, rfl⟩
    · simp at hk
    · have hj : k - (p.drop i).length < k := by rw [List.length_drop] at *; omega
      have hl : k < sep.length := (List.getElem?_eq_some_iff.1 h.1).1
      rw [List.getElem?_append_left (by omega)] at hk
      exact h.2 _ hj hk
theorem cutF_skip (sep : List UInt8) : ∀ (p : List UInt8) (n : Nat) (acc rest : List UInt8), (∀ i, i < p.length → sep.isPrefixOf ((p ++ rest).drop i) = false) → p.length ≤ n → cutF sep n acc (p ++ rest) = cutF sep (n - p.length) (acc ++ p) rest
  | [], n, acc, rest, _, _ => by simp
  | c :: p, 0, _, _, _, h => absurd h (by simp)
  | c :: p, n + 1, acc, rest, hno, hn => by
    have h0 := hno 0 (by simp)
    simp only [List.drop_zero] at h0
    simp only [List.length_cons] at hn
    rw [List.cons_append] at h0 ⊢
    conv => lhs; unfold cutF
    rw [h0]
    simp only [Bool.false_eq_true, if_false]
    rw [cutF_skip sep p n (acc ++ [c]) rest (fun i hi => by have := hno (i + 1) (by simpa using hi); simpa using this) (by omega)]
    simp
theorem cutF_join {sep : List UInt8} {k : Nat} {c : UInt8} (h : First sep k c) : ∀ (ps : List (List UInt8)) (n : Nat), ps ≠ [] → (∀ p ∈ ps, c ∉ p) → (joinL sep ps).length < n → cutF sep n [] (joinL sep ps) = ps
  | [], _, h0, _, _ => absurd rfl h0
  | [p], n, _, hc, hn => by
    have hp := hc p (by simp)
    have := cutF_skip sep p n [] [] (fun i hi => no_match h hp (.inl rfl) hi) (by simp [joinL] at hn; omega)
    simp only [List.append_nil, List.nil_append] at this
    show cutF sep n [] p = [p]
    rw [this]
    have hl : k < sep.length := (List.getElem?_eq_some_iff.1 h.1).1
    rw [cutF_none sep _ p [] (by simp [joinL] at hn; simp; omega) (by simp; omega)]
    simp
  | p :: q :: l, n, _, hc, hn => by
    have hp := hc p (by simp)
    have hl : k < sep.length := (List.getElem?_eq_some_iff.1 h.1).1
    have hn' : p.length + (sep.length + (joinL sep (q :: l)).length) < n := by simpa [joinL] using hn
    show cutF sep n [] (p ++ (sep ++ joinL sep (q :: l))) = _
    rw [cutF_skip sep p n [] _ (fun i hi => no_match h hp (.inr ⟨_, rfl⟩) hi) (by omega)]
    obtain ⟨m, hm⟩ : ∃ m, n - p.length = m + 1 := ⟨n - p.length - 1, by omega⟩
    rw [hm]
    unfold cutF
    rw [List.isPrefixOf_iff_prefix.2 ⟨_, rfl⟩]
    simp only [if_true, List.nil_append]
    rw [List.drop_left, cutF_join h (q :: l) m (by simp) (fun x hx => hc x (by simp [hx])) (by omega)]
/-- what is joined is cut into the same -/
theorem cut_join {sep : List UInt8} {k : Nat} {c : UInt8} (h : First sep k c) {ps : List (List UInt8)} (h0 : ps ≠ []) (hc : ∀ p ∈ ps, c ∉ p) : cutL sep (joinL sep ps) = ps := cutF_join h ps _ h0 hc (by omega)
theorem cutF_ne (sep : List UInt8) : ∀ (n : Nat) (acc r : List UInt8), cutF sep n acc r ≠ []
  | 0, _, _ => by simp [cutF]
  | n + 1, acc, r => by
    unfold cutF
    split
    · simp
    · cases r with
      | nil => simp
      | cons c r' => exact cutF_ne sep n _ r'
theorem mem_join {sep : List UInt8} {x : UInt8} : ∀ {ps : List (List UInt8)}, x ∈ joinL sep ps → x ∈ sep ∨ ∃ p ∈ ps, x ∈ p
  | [], h => by simp [joinL] at h
  | [p], h => .inr ⟨p, by simp, h⟩
  | p :: q :: l, h => by
    simp only [joinL, List.mem_append] at h
    rcases h with h | h | h
    · exact .inr ⟨p, by simp, h⟩
    · exact .inl h
    · rcases mem_join h with h | ⟨y, hy, h⟩
      · exact .inl h
      · exact .inr ⟨y, List.mem_cons_of_mem _ hy, h⟩
end Ru
end Go.Proofs.YtkhnjlkamleldaaDoor
