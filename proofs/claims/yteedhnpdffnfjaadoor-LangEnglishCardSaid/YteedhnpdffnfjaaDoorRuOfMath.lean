/- What the rule that a text reads as is made of: as many parts, relations and ranges as the text has room for. -/
import Derived.Test.YteedhnpdffnfjaaDoorRuParseRule
import Derived.Test.YteedhnpdffnfjaaDoorRuFacts
namespace Go.Proofs.YteedhnpdffnfjaaDoor
namespace Ru
open Go.RowKit Go.Maps D

theorem tail_few (o : UInt8) (m : Int) (a b : List UInt8) {n : Nat} (h : b.length ≤ n) : (tailOf o m a b).rs.length ≤ n + 1 ∧ 0 ≤ (tailOf o m a b).op ∧ (tailOf o m a b).op < 256 := by
  have h1 := cut_many [44] b (by simp)
  have h2 := o.toNat_lt
  refine ⟨?_, ?_, ?_⟩
  · show ((cutL [44] b).map rgOfL).length ≤ n + 1
    rw [List.length_map]; omega
  · show (0 : Int) ≤ (o.toNat : Int); omega
  · show (o.toNat : Int) < 256; omega
theorem relW_few (W : List (List UInt8)) {n : Nat} (h : ∀ p ∈ W, p.length ≤ n) : (relOfW W).rs.length ≤ n + 1 ∧ 0 ≤ (relOfW W).op ∧ (relOfW W).op < 256 := by
  unfold relOfW
  split
  · split
    · exact tail_few _ _ _ _ (h _ (by simp))
    · exact tail_few _ _ _ _ (h _ (by simp))
  · exact tail_few _ _ _ _ (h _ (by simp))
  · exact ⟨Nat.zero_le _, by decide, by decide⟩
theorem rel_of_few (s : List UInt8) : (relOfL s).rs.length ≤ s.length + 1 ∧ 0 ≤ (relOfL s).op ∧ (relOfL s).op < 256 := relW_few _ fun p hp => cut_le_all [32] s p hp
theorem rule_of_few (s : List UInt8) : (ruleOfL s).length ≤ s.length + 1 ∧ ∀ p ∈ ruleOfL s, p.length ≤ s.length + 1 ∧ ∀ x ∈ p, x.rs.length ≤ s.length + 1 ∧ 0 ≤ x.op ∧ x.op < 256 := by
  refine ⟨by unfold ruleOfL; rw [List.length_map]; exact cut_many _ _ (by simp), fun p hp => ?_⟩
  obtain ⟨q, hq, rfl⟩ := List.mem_map.1 (show p ∈ (cutL [32, 111, 114, 32] s).map partOfL from hp)
  have hql := cut_le_all _ s q hq
  refine ⟨?_, fun x hx => ?_⟩
  · have := cut_many [32, 97, 110, 100, 32] q (by simp)
    show ((cutL [32, 97, 110, 100, 32] q).map relOfL).length ≤ _
    rw [List.length_map]; omega
  · obtain ⟨t, ht, rfl⟩ := List.mem_map.1 (show x ∈ (cutL [32, 97, 110, 100, 32] q).map relOfL from hx)
    have htl := cut_le_all _ q t ht
    obtain ⟨h1, h2⟩ := rel_of_few t
    exact ⟨by omega, h2⟩
theorem few_of {s : List UInt8} {ps : List PartX} (hs : s.length ≤ 1073741824) (hr : ruleV ps = ruleOfL s) : ps.length ≤ 1073741825 ∧ FewS ps ∧ Byt ps := by
  obtain ⟨h1, h2⟩ := rule_of_few s
  rw [← hr] at h1 h2
  refine ⟨by simp only [ruleV, List.length_map] at h1; omega, fun p hp => ?_, fun p hp x hx => ?_⟩
  · obtain ⟨h3, h4⟩ := h2 _ (List.mem_map.2 ⟨p, hp, rfl⟩)
    refine ⟨by simp only [relsV, List.length_map] at h3; omega, fun x hx => ?_⟩
    have := (h4 _ (List.mem_map.2 ⟨x, hx, rfl⟩)).1
    omega
  · obtain ⟨h3, h4⟩ := h2 _ (List.mem_map.2 ⟨p, hp, rfl⟩)
    exact (h4 _ (List.mem_map.2 ⟨x, hx, rfl⟩)).2
/-- a text is a rule's just if it is that of the rule that it reads as -/
theorem is_of {s : List UInt8} {r : List (List RelV)} (h : IsRule s r) : ruleOfL s = r := by rw [← h.2]; exact rule_back (ruleF_zero.1 h.1).1
theorem is_none {s : List UInt8} (h : ¬ IsRule s (ruleOfL s)) : ∀ r, ¬ IsRule s r := fun r hr => h (by rw [is_of hr]; exact hr)
def ParseNil (w : World) (e : Ending) (w' : World) : Prop := e = .returned (.tuple #[.slice none 0 0, .iface 30 (.int .i64 3)]) ∧ Below w.heap.size w w'
theorem parse_nil (s : ByteArray) (w : World) (hs : s.size ≤ 1073741824) (hE : Env w) (h : ∀ r, ¬ IsRule s.data.toList r) : Calls Tryd.prog 24 #[.string s] w (ParseNil w) := (parse_no s w hs hE h).mono fun _ _ h => h
end Ru
end Go.Proofs.YteedhnpdffnfjaaDoor
