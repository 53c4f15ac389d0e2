/- The program's Parse: the rule of a text, a row of the call's own, or that there is none; what lay in memory stays as it was. -/
import Derived.Test.YteedhnpdffnfjaaDoorRuRead
import Derived.Test.YteedhnpdffnfjaaDoorRuText
namespace Go.Proofs.YteedhnpdffnfjaaDoor
namespace Ru
open Go.RowKit Go.Maps D

theorem mapM_all {α : Type} {f : List UInt8 → Option α} : ∀ {l : List (List UInt8)} {d : List α}, l.mapM f = some d → d.length = l.length ∧ ∀ x ∈ d, ∃ p ∈ l, f p = some x
  | [], d, h => by
    have : d = [] := by simpa using h.symm
    subst this
    exact ⟨rfl, fun x hx => (by cases hx)⟩
  | y :: l, d, h => by
    rw [List.mapM_cons] at h
    cases hy : f y with
    | none => rw [hy] at h; cases h
    | some a =>
      rw [hy] at h
      cases hl : l.mapM f with
      | none => rw [hl] at h; cases h
      | some b =>
        rw [hl] at h
        have : d = a :: b := by simpa using h.symm
        subst this
        obtain ⟨h1, h2⟩ := mapM_all hl
        refine ⟨by simp [h1], fun x hx => ?_⟩
        rcases List.mem_cons.1 hx with rfl | hx
        · exact ⟨y, by simp, hy⟩
        · obtain ⟨p, hp, hf⟩ := h2 x hx
          exact ⟨p, by simp [hp], hf⟩
theorem rel_read_few {s : List UInt8} {x : RelV} (h : relP s = some x) : x.rs.length ≤ s.length + 2 ∧ 0 ≤ x.op ∧ x.op < 256 := by
  unfold relP at h
  split at h
  · rename_i c _
    split at h
    · rename_i m rs _ hrs
      injection h with h
      subst h
      have h1 := (mapM_all (show (splitL [44] (signP s).2.1).mapM rgP = some rs from hrs)).1
      have h2 := split_many [44] (signP s).2.1
      have h3 : (signP s).2.1.length ≤ s.length := by
        have c1 := cut_le s [32, 33, 61, 32]
        have c2 := cut_le (Lib.cut s [32, 33, 61, 32]).1 [32, 61, 32]
        unfold signP
        split
        · exact c1.2
        · exact Nat.le_trans c2.2 c1.1
      have hb := c.toNat_lt
      exact ⟨by show rs.length ≤ _; omega, by show (0 : Int) ≤ (c.toNat : Int); omega, by show (c.toNat : Int) < 256; omega⟩
    · cases h
  · cases h
theorem rule_read_few {s : List UInt8} {r : List (List RelV)} (h : ruleP s = some r) : r.length ≤ s.length + 2 ∧ ∀ p ∈ r, p.length ≤ s.length + 2 ∧ ∀ x ∈ p, x.rs.length ≤ s.length + 2 ∧ 0 ≤ x.op ∧ x.op < 256 := by
  obtain ⟨h1, h2⟩ := mapM_all h
  refine ⟨by have := split_many [32, 111, 114, 32] s; omega, fun p hp => ?_⟩
  obtain ⟨q, hq, hf⟩ := h2 p hp
  have hql := split_le _ _ _ hq
  obtain ⟨h3, h4⟩ := mapM_all hf
  refine ⟨by have := split_many [32, 97, 110, 100, 32] q; omega, fun x hx => ?_⟩
  obtain ⟨t, ht, hg⟩ := h4 x hx
  have htl := split_le _ _ _ ht
  obtain ⟨h5, h6⟩ := rel_read_few hg
  exact ⟨by omega, h6⟩
theorem few_read {s : List UInt8} {r : List (List RelV)} {ps : List PartX} (h : ruleP s = some r) (hs : s.length ≤ 1073741824) (hr : ruleV ps = r) : ps.length ≤ 1073741826 ∧ FewS ps ∧ Byt ps := by
  obtain ⟨h1, h2⟩ := rule_read_few h
  subst hr
  refine ⟨by simp only [ruleV, List.length_map] at h1; omega, fun p hp => ?_, fun p hp x hx => ?_⟩
  · obtain ⟨h3, h4⟩ := h2 _ (List.mem_map.2 ⟨p, hp, rfl⟩)
    refine ⟨by simp only [relsV, List.length_map] at h3; omega, fun x hx => ?_⟩
    have := (h4 _ (List.mem_map.2 ⟨x, hx, rfl⟩)).1
    omega
  · obtain ⟨h3, h4⟩ := h2 _ (List.mem_map.2 ⟨p, hp, rfl⟩)
    exact (h4 _ (List.mem_map.2 ⟨x, hx, rfl⟩)).2

def ParseYes (w : World) (r : List (List RelV)) (e : Ending) (w' : World) : Prop := ∃ (ps : List PartX) (A : Option Addr) (c : Nat), ruleV ps = r ∧ e = .returned (.tuple #[.slice A ps.length c, .nilIface]) ∧ ps.length ≤ c ∧ OwnRule w' w.heap.size (.slice A ps.length c) ps ∧ Below w.heap.size w w'
def ParseNo (w : World) (e : Ending) (w' : World) : Prop := e = .returned (.tuple #[.slice none 0 0, errV 3]) ∧ Below w.heap.size w w'
def SplitPartN (w : World) (e : Ending) (w' : World) : Prop := e = .returned (.tuple #[.slice none 0 0, .bool false]) ∧ Below w.heap.size w w'
def SplitPartS (w : World) (r : List (List RelV)) (e : Ending) (w' : World) : Prop := ∃ (ps : List PartX) (A : Option Addr) (c : Nat), ruleV ps = r ∧ e = .returned (.tuple #[.slice A ps.length c, .bool true]) ∧ ps.length ≤ c ∧ OwnRule w' w.heap.size (.slice A ps.length c) ps ∧ Below w.heap.size w w'
theorem parts_none {args : Array Value} {w : World} (h : Calls Tryd.prog 30 args w (SplitPartP w none)) : Calls Tryd.prog 30 args w (SplitPartN w) :=
  h.mono fun e w' ⟨hd, hb⟩ => by
    rcases hd with ⟨_, he⟩ | ⟨xs, A, c, h1, _⟩
    · exact ⟨he, hb⟩
    · cases h1
theorem parts_some {args : Array Value} {w : World} {r : List (List RelV)} (h : Calls Tryd.prog 30 args w (SplitPartP w (some r))) : Calls Tryd.prog 30 args w (SplitPartS w r) :=
  h.mono fun e w' ⟨hd, hb⟩ => by
    rcases hd with ⟨h1, _⟩ | ⟨xs, A, c, h1, he, hc, ho⟩
    · cases h1
    · injection h1 with h1; exact ⟨xs, A, c, h1.symm, he, hc, ho, hb⟩
theorem text_read {s : List UInt8} {r : List (List RelV)} (h : ruleP s = some r) (hs : s.length ≤ 1073741824) (A : Option Addr) (c : Nat) (ps : List PartX) (base : Nat) (W : World) (hr : ruleV ps = r) (ho : OwnRule W base (.slice A ps.length c) ps) (hE : Env W) :
    Calls Tryd.prog 34 #[.slice A ps.length c] W (GivesT W r) := by
  obtain ⟨h1, h2, h3⟩ := few_read h hs hr
  obtain ⟨A', c', e, _, _, hR⟩ := ho.rule
  injection e with e1 _ e2
  subst e1; subst e2
  have := text_any A ps.length c ps W hR h1 h2 h3 hE
  rwa [hr] at this
set_option maxHeartbeats 4000000 in
set_option maxRecDepth 100000 in
theorem parse_no (s : ByteArray) (w : World) (hs : s.size ≤ 1073741824) (hE : Env w) (h : ∀ r, ¬ IsRule s.data.toList r) : Calls Tryd.prog 24 #[.string s] w (ParseNo w) := by
  have hsl : s.data.toList.length ≤ 1073741824 := by rw [← ba_size]; exact hs
  have HC := splitPart_any s w (by omega) hE
  have e3 : errV 3 = .iface 30 (.int .i64 3) := rfl
  cases ho : ruleP s.data.toList with
  | none =>
    rw [ho] at HC
    have HN := Lib.hid (parts_none HC)
    unfold ParseNo
    rw [e3]
    clear HC ho h hE hs hsl e3
    go_enter Tryd.func24, Tryd.ntmps24
    go_wp2_with (go_at_call 30; (with_reducible refine (HN.out).mono ?_); rintro e w2 ⟨rfl, hb2⟩; dsimp only)
    exact bodyPost_ret (v := .tuple #[.slice none 0 0, .iface 30 (.int .i64 3)]) (by simp [results, Tryd.results24, go_sem]) rfl ⟨rfl, hb2⟩
  | some r =>
    rw [ho] at HC
    have HN := Lib.hid (parts_some HC)
    have CT := Lib.hid fun A c ps base W hr hown hW => text_read ho hsl A c ps base W hr hown (hE.later (w := w) (W := W) hW)
    unfold ParseNo
    rw [e3]
    by_cases hf : ruleF r = 0
    · have hne : str (ruleT r) ≠ s := fun e => h r ⟨hf, by rw [← e, str_data]⟩
      obtain ⟨t1, t2⟩ := toList_ne hne
      have HT : Hid (textS r = str (ruleT r)) := Lib.hid (if_pos hf)
      have HF : Hid (errV (ruleF r) = .nilIface) := Lib.hid (by rw [hf]; rfl)
      clear HC ho h hE hs hsl e3 hf hne
      generalize str (ruleT r) = rt at *
      go_enter Tryd.func24, Tryd.ntmps24
      go_wp2_with (first
        | (go_at_call 30; (with_reducible refine (HN.out).mono ?_); rintro e w2 ⟨ps, A, c, hr, rfl, hc, hown, hb2⟩; dsimp only)
        | (go_at_call 34; (with_reducible refine (CT.out A c ps _ _ hr hown hb2).mono ?_); rintro e w3 ⟨rfl, hb3⟩; rw [HT.out, HF.out]; dsimp only))
      exact bodyPost_ret (v := .tuple #[.slice none 0 0, .iface 30 (.int .i64 3)]) (by simp [results, Tryd.results24, go_sem]) rfl ⟨rfl, bel_call hb2 hb3⟩
    · obtain ⟨z, hz⟩ := errV_ne hf
      have HZ := Lib.hid hz
      clear HC ho h hE hs hsl e3 hf hz
      go_enter Tryd.func24, Tryd.ntmps24
      go_wp2_with (first
        | (go_at_call 30; (with_reducible refine (HN.out).mono ?_); rintro e w2 ⟨ps, A, c, hr, rfl, hc, hown, hb2⟩; dsimp only)
        | (go_at_call 34; (with_reducible refine (CT.out A c ps _ _ hr hown hb2).mono ?_); rintro e w3 ⟨rfl, hb3⟩; rw [HZ.out]; dsimp only))
      exact bodyPost_ret (v := .tuple #[.slice none 0 0, .iface 30 (.int .i64 3)]) (by simp [results, Tryd.results24, go_sem]) rfl ⟨rfl, bel_call hb2 hb3⟩
set_option maxHeartbeats 4000000 in
set_option maxRecDepth 100000 in
theorem parse_yes (s : ByteArray) (r : List (List RelV)) (w : World) (hs : s.size ≤ 1073741824) (hE : Env w) (h : IsRule s.data.toList r) : Calls Tryd.prog 24 #[.string s] w (ParseYes w r) := by
  have hsl : s.data.toList.length ≤ 1073741824 := by rw [← ba_size]; exact hs
  have HC := splitPart_any s w (by omega) hE
  have ho := h.read
  rw [ho] at HC
  have HN := Lib.hid (parts_some HC)
  have CT := Lib.hid fun A c ps base W hr hown hW => text_read ho hsl A c ps base W hr hown (hE.later (w := w) (W := W) hW)
  have HT : Hid (textS r = s) := Lib.hid ((if_pos h.1).trans (str_eq h.2.symm).symm)
  have HF : Hid (errV (ruleF r) = .nilIface) := Lib.hid (by rw [h.1]; rfl)
  clear HC ho h hE hs hsl
  go_enter Tryd.func24, Tryd.ntmps24
  go_wp2_with (first
    | (go_at_call 30; (with_reducible refine (HN.out).mono ?_); rintro e w2 ⟨ps, A, c, hr, rfl, hc, hown, hb2⟩; dsimp only)
    | (go_at_call 34; (with_reducible refine (CT.out A c ps _ _ hr hown hb2).mono ?_); rintro e w3 ⟨rfl, hb3⟩; rw [HT.out, HF.out]; dsimp only))
  exact bodyPost_ret (v := .tuple #[.slice A ps.length c, .nilIface]) (by simp [results, Tryd.results24, go_sem]) rfl ⟨ps, A, c, hr, rfl, hc, hown.later hb3, bel_call hb2 hb3⟩
end Ru
end Go.Proofs.YteedhnpdffnfjaaDoor
