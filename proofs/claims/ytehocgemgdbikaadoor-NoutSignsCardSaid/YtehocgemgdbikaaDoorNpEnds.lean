/- A pattern's parts as a program takes them out of its text: the places by the first and the last one, the groups by their last signs. Nothing of the program stands here. -/
import Derived.Test.YtehocgemgdbikaaDoorNpMath
import Derived.Lib.IndexAny
import Derived.Lib.CutLaws
namespace Go.Proofs.YtehocgemgdbikaaDoor
namespace Np
open Ru

theorem pre_no {c d : UInt8} {l : List UInt8} (h : ¬ c = d) : ([c] : List UInt8).isPrefixOf (d :: l) = false := by
  show (c == d && List.isPrefixOf [] l) = false
  rw [beq_eq_false_iff_ne.2 h]; rfl
theorem pre_yes (c : UInt8) (l : List UInt8) : ([c] : List UInt8).isPrefixOf (c :: l) = true := by
  show (c == c && List.isPrefixOf [] l) = true
  simp
theorem cutF_pure (c : UInt8) : ∀ (n : Nat) (acc y : List UInt8), y.length < n → c ∉ y → cutF [c] n acc y = [acc ++ y]
  | 0, _, _, h, _ => absurd h (by omega)
  | n + 1, acc, [], _, _ => by
    unfold cutF
    rw [show ([c] : List UInt8).isPrefixOf [] = false from rfl]; simp
  | n + 1, acc, d :: y, h, hc => by
    have hd : ¬ c = d := fun e => hc (by simp [e])
    unfold cutF
    rw [pre_no hd]
    simp only [Bool.false_eq_true, if_false]
    rw [cutF_pure c n _ y (by simp only [List.length_cons] at h; omega) (fun hm => hc (by simp [hm]))]
    simp
theorem cutF_last (c : UInt8) {y : List UInt8} (hy : c ∉ y) : ∀ (x : List UInt8) (n : Nat) (acc : List UInt8), x.length + y.length + 1 < n → cutF [c] n acc (x ++ c :: y) = cutF [c] n acc x ++ [y]
  | _, 0, _, h => absurd h (by omega)
  | [], n + 1, acc, h => by
    conv => lhs; unfold cutF
    rw [List.nil_append, pre_yes]
    simp only [if_true]
    rw [show (c :: y).drop ([c] : List UInt8).length = y from rfl, cutF_pure c n [] y (by simp only [List.length_nil] at h; omega) hy, cutF_pure c (n + 1) acc [] (by simp) (by simp)]
    simp
  | d :: x, n + 1, acc, h => by
    have hn : x.length + y.length + 1 < n := by simp only [List.length_cons] at h; omega
    by_cases hd : c = d
    · subst hd
      unfold cutF
      rw [List.cons_append, pre_yes, pre_yes]
      simp only [if_true]
      rw [show (c :: (x ++ c :: y)).drop ([c] : List UInt8).length = x ++ c :: y from rfl, show (c :: x).drop ([c] : List UInt8).length = x from rfl, cutF_last c hy x n [] hn]
      simp
    · unfold cutF
      rw [List.cons_append, pre_no hd, pre_no hd]
      simp only [Bool.false_eq_true, if_false]
      exact cutF_last c hy x n _ hn
theorem cut_pure {c : UInt8} {y : List UInt8} (h : c ∉ y) : cutL [c] y = [y] := by
  unfold cutL
  rw [cutF_pure c _ [] y (by omega) h]; simp
theorem cut_last {c : UInt8} {y : List UInt8} (hy : c ∉ y) (x : List UInt8) : cutL [c] (x ++ c :: y) = cutL [c] x ++ [y] := by
  unfold cutL
  rw [cutF_last c hy x _ [] (by simp), cutF_fuel [c] (by simp) _ (x.length + 1) [] x (by simp; omega) (by omega)]
theorem sizes_none {l : List UInt8} (h : 44 ∉ l) : (decI l).2 = (0, 0) := by
  unfold decI
  rw [cut_pure h]; rfl
theorem sizes_one {x y : List UInt8} (hy : 44 ∉ y) (hx : 44 ∉ x) : (decI (x ++ 44 :: y)).2 = (y.length, 0) := by
  unfold decI
  rw [cut_last hy, cut_pure hx]; rfl
theorem sizes_two {x1 y1 y : List UInt8} (hy : 44 ∉ y) (hy1 : 44 ∉ y1) : (decI ((x1 ++ 44 :: y1) ++ 44 :: y)).2 = (y.length, y1.length) := by
  unfold decI
  rw [cut_last hy, cut_last hy1]
  have h0 := List.length_pos_iff.2 (cut_ne [44] x1)
  generalize cutL [44] x1 = p at *
  have e1 : (p ++ [y1] ++ [y]).dropLast = p ++ [y1] := List.dropLast_concat
  have e2 : 2 < (p ++ [y1] ++ [y]).length := by simp; omega
  simp only [e1, e2, if_true, show 1 < (p ++ [y1] ++ [y]).length from by omega]
  simp [lastLen]
theorem Ends.mid {s : List UInt8} {i t : Nat} (h : Ends s i t) : ((s.dropWhile (fun c => !mark c)).reverse.dropWhile (fun c => !mark c)).reverse = (s.drop i).take (t - i) := by
  have hr := h.pre.2
  rw [hr]
  have hit := h.it
  have e : s.drop i = (s.drop i).take (t - i) ++ s.drop t := by
    conv => lhs; rw [← List.take_append_drop (t - i) (s.drop i)]
    rw [List.drop_drop, show i + (t - i) = t by omega]
  have hd : ∀ c r, ((s.drop i).take (t - i)).reverse = c :: r → mark c = true := by
    intro c r e2
    rcases h.last with h1 | ⟨d, h1, h2⟩
    · rw [show t - i = 0 by omega] at e2; simp at e2
    · by_cases hti : t = i
      · rw [show t - i = 0 by omega] at e2; simp at e2
      · have hd : ((s.drop i).take (t - i)).reverse.head? = some d := by
          rw [← List.getLast?_eq_head?_reverse, List.getLast?_eq_getElem?, List.length_take, List.length_drop, List.getElem?_take]
          have := h.tl
          rw [if_pos (by omega), List.getElem?_drop, ← h1]
          congr 1
          omega
        rw [e2] at hd
        have : c = d := by simpa using hd
        rw [this, h2]
  have := take_while_app (p := fun c => !mark c) (x := (s.drop t).reverse) (y := ((s.drop i).take (t - i)).reverse) (fun c hc => by rw [h.behind c (List.mem_reverse.1 hc)]; rfl) (fun c r e => by rw [hd c r e]; rfl)
  conv => lhs; rw [e, List.reverse_append, this.2, List.reverse_reverse]
theorem take_pure {p : List UInt8} (h : 46 ∉ p) : p.takeWhile (fun c => c != 46) = p ∧ p.dropWhile (fun c => c != 46) = [] := by
  have := take_while_app (p := fun c => c != 46) (x := p) (y := []) (fun c hc => by rw [bne_iff_ne]; exact fun e : c = 46 => h (e ▸ hc)) (fun c r e => by cases e)
  simpa using this
theorem take_point {p : List UInt8} (h : 46 ∉ p) (l : List UInt8) : (p ++ 46 :: l).takeWhile (fun c => c != 46) = p ∧ (p ++ 46 :: l).dropWhile (fun c => c != 46) = 46 :: l := by
  exact take_while_app (p := fun c => c != 46) (x := p) (y := 46 :: l) (fun c hc => by rw [bne_iff_ne]; exact fun e : c = 46 => h (e ▸ hc)) (fun c r e => by
    injection e with e1 _; rw [← e1]; rfl)
theorem split_at (c : UInt8) : ∀ l : List UInt8, c ∉ l ∨ ∃ p r, l = p ++ c :: r ∧ c ∉ p
  | [] => .inl (by simp)
  | d :: l => by
    by_cases hd : c = d
    · exact .inr ⟨[], l, by simp [hd], by simp⟩
    · rcases split_at c l with h | ⟨p, r, e, h⟩
      · exact .inl (by simp [hd, h])
      · exact .inr ⟨d :: p, r, by simp [e], by simp [hd, h]⟩
/-- what is ahead of a text's first point and what is behind it -/
def wholeP (l : List UInt8) : List UInt8 := (Lib.cut l [46]).1
def partP (l : List UInt8) : List UInt8 := (Lib.cut l [46]).2.1
theorem cut_while (l : List UInt8) : l.takeWhile (fun c => c != 46) = wholeP l ∧ (l.dropWhile (fun c => c != 46) = [] ∧ partP l = [] ∨ l.dropWhile (fun c => c != 46) = 46 :: partP l) := by
  unfold wholeP partP
  rcases split_at 46 l with h | ⟨p, r, rfl, h⟩
  · rw [D.cut_none (fun c hc e => h (e ▸ hc)), (take_pure h).1, (take_pure h).2]
    exact ⟨rfl, .inl ⟨rfl, rfl⟩⟩
  · rw [D.cut_point (fun c hc e => h (e ▸ hc)), (take_point h r).1, (take_point h r).2]
    exact ⟨rfl, .inr rfl⟩
/-- the parts of a text that has places -/
theorem Ends.cand {s : List UInt8} {i t : Nat} (h : Ends s i t) :
    decP s = ⟨s.take i, s.drop t, (List.count 48 (wholeP ((s.drop i).take (t - i))) : Nat), (List.count 48 (partP ((s.drop i).take (t - i))) : Nat), ((partP ((s.drop i).take (t - i))).length : Nat), ((decI (wholeP ((s.drop i).take (t - i)))).2.1 : Nat), ((decI (wholeP ((s.drop i).take (t - i)))).2.2 : Nat)⟩ := by
  have h1 := h.pre.1
  have h2 := h.suf
  have h3 := h.mid
  obtain ⟨c1, c2⟩ := cut_while ((s.drop i).take (t - i))
  unfold decP at h1 h2 ⊢
  simp only at h1 h2 ⊢
  rw [h1, h2, h3, c1]
  rcases c2 with ⟨c2, c3⟩ | c2
  · rw [c2, c3]; rfl
  · rw [c2]
    unfold decF
    simp
    rfl
/-- a text without places is none's -/
theorem none_of {s : List UInt8} (h : ∀ c ∈ s, mark c = false) : patO s = none := by
  unfold patO
  rw [if_neg]
  rintro ⟨h1, -⟩
  have ha := (patF_zero.1 h1).2.1.1.1
  have hd : s.dropWhile (fun c => !mark c) = [] := by
    have := take_while_app (p := fun c => !mark c) (x := s) (y := []) (fun c hc => by rw [h c hc]; rfl) (fun c r e => by cases e)
    simpa using this.2
  unfold decP at ha
  simp only at ha
  rw [hd] at ha
  simp [decI] at ha
theorem mark_chars (c : UInt8) : mark c = ([48, 35] : List UInt8).contains c := by
  unfold mark
  simp [Bool.or_comm]
  rfl
end Np
end Go.Proofs.YtehocgemgdbikaaDoor
