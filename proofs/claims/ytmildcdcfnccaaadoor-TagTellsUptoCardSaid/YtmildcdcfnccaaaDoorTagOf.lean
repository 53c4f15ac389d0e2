/- The reference's TagOf: words for its walk, and that what it finds of a text is what the plain parse finds. -/
import Derived.Test.YtmildcdcfnccaaaDoorCutWalk
import Derived.Test.YtmildcdcfnccaaaDoorRefFaultWalk
import Derived.Test.YtmildcdcfnccaaaDoorJoined
import Derived.Test.YtmildcdcfnccaaaDoorRefLower
namespace Go.Proofs.YtmildcdcfnccaaaDoor
open Go.RowKit

/-- script, region and rest, as the reference has them -/
def rscr (r : List ByteArray) : ByteArray := match r with
  | [] => ⟨#[]⟩
  | x :: _ => if x.size = 4 then upB (x.extract 0 1) ++ x.extract 1 x.size else ⟨#[]⟩
def isRR : List ByteArray → Bool
  | [] => false
  | x :: _ => decide (x.size < 4)
def rreg (r : List ByteArray) : ByteArray := match r with
  | [] => ⟨#[]⟩
  | x :: _ => if x.size < 4 then upB x else ⟨#[]⟩
def rtag (x : ByteArray) (r : List ByteArray) : TagB := ⟨x, rscr r, rreg (restS r), offIf (isRR (restS r)) (restS r)⟩

/-- a list in small letters -/
def Small (l : List ByteArray) : Prop := ∀ p ∈ l, P.lo p.data.toList = p.data.toList
theorem loB_small {p : ByteArray} (h : P.lo p.data.toList = p.data.toList) : loB p = p := ba_ext (by rw [loB_data]; exact h)
theorem rscr_small {r : List ByteArray} (h : Small r) : rscr r = scrOf r := by
  cases r with
  | nil => rfl
  | cons x r' =>
    have hx := h x (by simp)
    have h1 : P.lo (x.extract 1 x.size).data.toList = (x.extract 1 x.size).data.toList := by
      rw [extract_list]
      unfold P.lo at hx ⊢
      rw [List.map_take, List.map_drop, hx]
    show (if x.size = 4 then upB (x.extract 0 1) ++ x.extract 1 x.size else _) = (if x.size = 4 then upB (x.extract 0 1) ++ loB (x.extract 1 x.size) else _)
    rw [loB_small h1]
theorem rreg_near {r : List ByteArray} (h : ∀ x r', r = x :: r' → 2 ≤ x.size) : rreg r = regOf r ∧ isRR r = isReg r := by
  cases r with
  | nil => exact ⟨rfl, rfl⟩
  | cons x r' =>
    have hx := h x r' rfl
    have e : isRR (x :: r') = isReg (x :: r') := by
      unfold isRR isReg
      rw [Bool.eq_iff_iff]
      simp
      omega
    refine ⟨?_, e⟩
    show (if x.size < 4 then upB x else _) = (if isReg [x] then upB x else _)
    have e' : decide (x.size < 4) = isReg [x] := e
    by_cases h4 : x.size < 4
    · rw [if_pos h4, if_pos (by rw [← e']; exact decide_eq_true h4)]
    · rw [if_neg h4, if_neg (by rw [← e']; simp [h4])]
theorem small_off {b : Bool} {r : List ByteArray} (h : Small r) : Small (offIf b r) := fun p hp => h p (offIf_mem hp)
theorem loB_map {r : List ByteArray} (h : Small r) : r.map loB = r := by
  have : ∀ p ∈ r, loB p = p := fun p hp => loB_small (h p hp)
  rw [List.map_congr_left this]; simp
theorem rtag_asg {x : ByteArray} {r : List ByteArray} (h : Small (x :: r)) (h2 : ∀ y r', restS r = y :: r' → 2 ≤ y.size) : rtag x r = assignB x r := by
  have hr : Small r := fun p hp => h p (by simp [hp])
  obtain ⟨e1, e2⟩ := rreg_near h2
  unfold rtag assignB
  rw [rscr_small hr, e1, e2, loB_small (h x (by simp))]
  have : restR r = offIf (isReg (restS r)) (restS r) := rfl
  have hm : (offIf (isReg (restS r)) (restS r)).map loB = offIf (isReg (restS r)) (restS r) := loB_map (small_off (r := restS r) (small_off hr))
  rw [this, hm]
theorem pieces_small {l : P.Bs} (hl : P.lo l = l) : ∀ p ∈ P.pieces l, P.lo p = p := by
  obtain ⟨q, r, hp, hd, hg⟩ := P.pieces_spec l
  rw [hp]
  have e : P.glue (P.los (q :: r)) = P.glue (q :: r) := by rw [← P.glue_lo, hg, hl]
  have e2 : P.los (q :: r) = q :: r := P.glue_inj (P.los_self_dashless hd) hd e
  intro p hpm
  obtain ⟨j, hj, rfl⟩ := List.getElem_of_mem hpm
  have h3 : (P.los (q :: r))[j]? = (q :: r)[j]? := by rw [e2]
  unfold P.los at h3
  rw [List.getElem?_map, List.getElem?_eq_getElem hj] at h3
  exact Option.some.inj h3

/-- what is found of the pieces of a text in small letters -/
theorem tagOf_spec {s x : ByteArray} {r : List ByteArray} (h : bs (x :: r) = P.pieces (P.lo s.data.toList)) :
    (P.fault (rtag x r).plain = 0 ∧ P.lo (P.glue (P.parts (rtag x r).plain)) = P.lo s.data.toList → parseB s = some (rtag x r)) ∧
    (¬ (P.fault (rtag x r).plain = 0 ∧ P.lo (P.glue (P.parts (rtag x r).plain)) = P.lo s.data.toList) → parseB s = none) := by
  have hpd := parse_data s
  constructor
  · rintro ⟨h0, e⟩
    have h1 := P.parse_back h0 (l := s.data.toList) e.symm
    rw [h1] at hpd
    cases hx : parseB s with
    | none => rw [hx] at hpd; cases hpd
    | some t =>
      rw [hx] at hpd
      simp only [Option.map_some, Option.some.injEq] at hpd
      rw [plain_inj hpd]
  · intro hne
    cases hx : parseB s with
    | none => rfl
    | some t =>
      exfalso
      apply hne
      rw [hx] at hpd
      simp only [Option.map_some] at hpd
      obtain ⟨hf, he⟩ := P.parse_sound hpd.symm
      have hR := P.right_of hf
      have hpr := P.parts_right hR
      have hdl := P.parts_dashless hR
      have hpc : P.pieces (P.lo s.data.toList) = P.los (P.parts t.plain) := by
        rw [← he]
        rw [hpr] at hdl ⊢
        rw [P.glue_lo]
        exact P.pieces_glue (P.los_self_dashless hdl)
      rw [hpc] at h
      have hsm : Small (x :: r) := fun p hp => by
        have : p.data.toList ∈ P.los (P.parts t.plain) := by rw [← h]; exact List.mem_map.2 ⟨p, hp, rfl⟩
        obtain ⟨q, _, hq⟩ := List.mem_map.1 this
        rw [← hq, P.lo_lo]
      have hlos : P.los (bs (x :: r)) = P.los (P.parts t.plain) := by
        rw [h]
        have : ∀ p ∈ P.los (P.parts t.plain), P.lo p = p := fun p hp => by
          obtain ⟨q, _, hq⟩ := List.mem_map.1 hp
          rw [← hq, P.lo_lo]
        unfold P.los at this ⊢
        rw [List.map_congr_left this]; simp
      have hab := P.asg_back hR (x := x.data.toList) (r := bs r) hlos
      have hlen : ∀ p ∈ bs r, 2 ≤ p.length := fun p hp => by
        have : p ∈ P.los (P.parts t.plain) := by rw [← h]; exact List.mem_cons_of_mem _ hp
        obtain ⟨q, hq, rfl⟩ := List.mem_map.1 this
        rw [show (P.lo q).length = q.length from by simp [P.lo]]
        rw [hpr] at hq
        rcases List.mem_cons.1 hq with rfl | hq
        · exact (P.lang_facts hR.lang).2.2.1
        rcases List.mem_append.1 hq with hq | hq
        · unfold P.opt at hq
          split at hq
          · cases hq
          · rename_i hne'
            rcases List.mem_cons.1 hq with rfl | hq
            · have := (P.script_facts (hR.script.resolve_left hne')).2.2; omega
            · cases hq
        rcases List.mem_append.1 hq with hq | hq
        · unfold P.opt at hq
          split at hq
          · cases hq
          · rename_i hne'
            rcases List.mem_cons.1 hq with rfl | hq
            · have := (P.region_facts (hR.region.resolve_left hne')).2.2; omega
            · cases hq
        · have := (P.variant_facts (hR.vars q hq)).2.2.1; omega
      have hra : rtag x r = assignB x r := rtag_asg hsm fun y r' hy => by
        have hm : y ∈ r := by
          have : y ∈ restS r := by rw [hy]; simp
          exact offIf_mem this
        have := hlen y.data.toList (List.mem_map.2 ⟨y, hm, rfl⟩)
        rwa [size_list] at this
      have hpl : (rtag x r).plain = t.plain := by rw [hra, assign_data]; exact hab
      rw [hpl]
      exact ⟨hf, he⟩
end Go.Proofs.YtmildcdcfnccaaaDoor
