/- The program's Text: the text of a rule, or what is wrong with it; what lay in memory stays as it was. -/
import Derived.Test.YtkhnjlkamleldaaGreatDoorRuTextParts
import Derived.Test.YtkhnjlkamleldaaGreatDoorRuHoldsAll
namespace Go.Proofs.YtkhnjlkamleldaaGreatDoor
namespace Ru
open Go.RowKit D

/-- rows of a size that a text bears -/
def FewS (ps : List PartX) : Prop := ∀ p ∈ ps, p.xs.length ≤ 1073741826 ∧ ∀ x ∈ p.xs, x.v.rs.length ≤ 1073741826
theorem FewS.few {ps : List PartX} (h : FewS ps) : Few ps := fun p hp => ⟨by have := (h p hp).1; unfold maxLen; omega, fun x hx => by have := (h p hp).2 x hx; unfold maxLen; omega⟩
theorem parts_size {ps : List PartX} (h : ∀ p ∈ ps, partOk (relsV p.xs)) (hz : ∀ p ∈ ps, p.xs.length ≤ 20 ∧ ∀ x ∈ p.xs, x.v.rs.length ≤ 1073741826) (hl : ps.length ≤ 20) : (joinL [32, 111, 114, 32] (ps.map fun p => partT (relsV p.xs))).length ≤ 20 * 860000000004 :=
  join_bound' [32, 111, 114, 32] 860000000000 _ (by show 860000000000 + 4 ≤ _; omega) _ (fun p hp => by
    obtain ⟨x, hx, rfl⟩ := List.mem_map.1 hp
    have := rels_size (fun y hy => (h x hx).2 _ (List.mem_map.2 ⟨y, hy, rfl⟩)) (hz x hx).2 (hz x hx).1
    rw [part_text] at this
    omega) (by rwa [List.length_map])
theorem rule_text (ps : List PartX) : joinL [32, 111, 114, 32] (ps.map fun p => partT (relsV p.xs)) = ruleT (ruleV ps) := by
  unfold ruleT ruleV
  rw [List.map_map]
  rfl
theorem join_sum (sep : List UInt8) : ∀ ps : List (List UInt8), (joinL sep ps).length ≤ (ps.map List.length).sum + ps.length * sep.length
  | [] => by simp [joinL]
  | [p] => by simp [joinL]
  | p :: q :: l => by
    have := join_sum sep (q :: l)
    simp only [joinL, List.length_append, List.map_cons, List.sum_cons, List.length_cons] at *
    rw [Nat.add_mul (l.length + 1) 1]
    omega
theorem sum_le {α : Type} (f : α → Nat) (M : Nat) : ∀ l : List α, (∀ x ∈ l, f x ≤ M) → (l.map f).sum ≤ l.length * M
  | [], _ => by simp
  | x :: l, h => by
    have h1 := h x (by simp)
    have h2 := sum_le f M l fun y hy => h y (by simp [hy])
    simp only [List.map_cons, List.sum_cons, List.length_cons, Nat.add_mul]
    omega
/-- how long a right rule's text is -/
theorem rule_size {r : List (List RelV)} (h : ruleOk r) (N : Nat) (hz : ∀ p ∈ r, ∀ x ∈ p, x.rs.length ≤ N) : (ruleT r).length ≤ total r * (60 + 40 * N + 9) := by
  have hp : ∀ p ∈ r, (partT p).length ≤ p.length * (60 + 40 * N + 5) := fun p hp => by
    have h1 := join_sum [32, 97, 110, 100, 32] (p.map relT)
    have h2 := sum_le (fun x => (relT x).length) (60 + 40 * N) p fun x hx => by
      have := rel_size ((h.2 p hp).2 x hx)
      have := hz p hp x hx
      omega
    unfold partT
    rw [List.map_map, List.length_map] at h1
    show _ ≤ p.length * (60 + 40 * N + 5)
    rw [Nat.mul_add p.length _ 5]
    refine Nat.le_trans h1 (Nat.add_le_add h2 (Nat.le_refl _))
  have h1 := join_sum [32, 111, 114, 32] (r.map partT)
  rw [List.map_map, List.length_map] at h1
  have h3 : ∀ (l : List (List RelV)), (∀ p ∈ l, p ∈ r) → (l.map (List.length ∘ partT)).sum + l.length * 4 ≤ total l * (60 + 40 * N + 9) := by
    intro l
    induction l with
    | nil => intro _; simp
    | cons p l ih =>
      intro hl
      have h4 := hp p (hl p (by simp))
      have h5 := ih fun q hq => hl q (by simp [hq])
      have h6 : 1 ≤ p.length := List.length_pos_iff.2 (h.2 p (hl p (by simp))).1
      have h7 : total (p :: l) = p.length + total l := by simp [total]
      rw [h7, Nat.add_mul]
      simp only [List.map_cons, List.sum_cons, List.length_cons]
      show (partT p).length + (l.map (List.length ∘ partT)).sum + (l.length + 1) * 4 ≤ _
      have h8 : p.length * (60 + 40 * N + 5) + p.length * 4 = p.length * (60 + 40 * N + 9) := by rw [← Nat.mul_add]
      omega
  exact Nat.le_trans h1 (h3 r fun p hp => hp)
/-- what Text tells -/
def textS (r : List (List RelV)) : ByteArray := if ruleF r = 0 then str (ruleT r) else ⟨#[]⟩
def GivesT (w : World) (r : List (List RelV)) (e : Ending) (w' : World) : Prop := e = .returned (.tuple #[.string (textS r), errV (ruleF r)]) ∧ Below w.heap.size w w'
theorem total_few {ps : List PartX} (hz : FewS ps) : total (ruleV ps) ≤ ps.length * 1073741826 := by
  unfold total ruleV
  rw [List.map_map]
  induction ps with
  | nil => simp
  | cons p l ih =>
    have h1 := (hz p (by simp)).1
    have h2 := ih fun q hq => hz q (by simp [hq])
    simp only [List.map_cons, List.sum_cons, Function.comp, relsV, List.length_map, List.length_cons] at *
    rw [Nat.add_mul]
    omega
set_option maxHeartbeats 2000000 in
set_option maxRecDepth 100000 in
theorem text_any (A : Option Addr) (n c : Nat) (ps : List PartX) (w : World) (h : RuleAt w w.heap.size A n ps) (hn : n ≤ 1073741826) (hz : FewS ps) (hy : Byt ps) (hE : Env w) :
    Calls Tryz.prog 9 #[.slice A n c] w (GivesT w (ruleV ps)) := by
  have ht := total_few hz
  have hlen := h.len
  have CK := Lib.hid (check_any A n c ps w h (by unfold maxLen; omega) hz.few hy (by omega))
  by_cases h0 : ruleF (ruleV ps) = 0
  · obtain ⟨hok, h20⟩ := ruleF_zero.1 h0
    have hne : ∀ p ∈ ruleV ps, p ≠ [] := fun p hp => (hok.2 p hp).1
    have hl20 : ps.length ≤ 20 := by have := total_len hne; simp only [ruleV, List.length_map] at this; unfold ruleV at h20; omega
    have hpz : ∀ p ∈ ps, p.xs.length ≤ 20 ∧ ∀ x ∈ p.xs, x.v.rs.length ≤ 1073741826 := fun p hp => ⟨by
      have := total_ge (l := ruleV ps) (p := relsV p.xs) (List.mem_map.2 ⟨p, hp, rfl⟩)
      simp only [relsV, List.length_map] at this
      omega, (hz p hp).2⟩
    have hpo : ∀ p ∈ ps, partOk (relsV p.xs) := fun p hp => hok.2 _ (List.mem_map.2 ⟨p, hp, rfl⟩)
    have CJ := Lib.hid fun (W : World) (hW : Below w.heap.size w W) => joinPart_any A n c ps W ((h.below hW).more hW.size) (by omega) hpz hpo (hE.later hW) (Nat.le_trans (parts_size hpo hpz hl20) (by omega))
    rw [rule_text] at CJ
    have HT : Hid (textS (ruleV ps) = str (ruleT (ruleV ps))) := Lib.hid (if_pos h0)
    unfold GivesT
    rw [HT.out, h0]
    rw [h0] at CK
    clear h hz hy hE ht hok h20 hne hpz hpo h0 HT
    go_enter Tryz.func9, Tryz.ntmps9
    go_wp2_with (first
      | (go_at_call 20; (with_reducible refine CK.out.mono ?_); rintro e w2 ⟨rfl, hb2⟩; rw [errV_zero])
      | (go_at_call 21; (with_reducible refine (CJ.out _ hb2).mono ?_); rintro e w3 ⟨rfl, hb3⟩))
    exact bodyPost_ret (v := .tuple #[.string (str (ruleT (ruleV ps))), .nilIface]) (by simp [results, Tryz.results9, go_sem]) rfl ⟨rfl, bel_call hb2 hb3⟩
  · obtain ⟨z, hz'⟩ := errV_ne h0
    have HT : Hid (textS (ruleV ps) = ⟨#[]⟩) := Lib.hid (if_neg h0)
    unfold GivesT
    rw [HT.out, hz']
    clear h hz hy hE ht h0 HT
    go_enter Tryz.func9, Tryz.ntmps9
    go_wp2_with (first
      | (go_at_call 20; (with_reducible refine CK.out.mono ?_); rintro e w2 ⟨rfl, hb2⟩; rw [hz']))
    exact bodyPost_ret (v := .tuple #[.string ⟨#[]⟩, .iface 26 (.int .i64 z)]) (by simp [results, Tryz.results9, go_sem]) rfl ⟨rfl, hb2⟩
end Ru
end Go.Proofs.YtkhnjlkamleldaaGreatDoor
