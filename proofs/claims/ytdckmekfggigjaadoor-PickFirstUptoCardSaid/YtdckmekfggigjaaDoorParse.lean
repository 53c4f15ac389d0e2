/- The program's Parse: it hands back the tag that its plain twin finds, or ErrForm and no tag; what lay in memory stays as it was. -/
import Derived.Test.YtdckmekfggigjaaDoorAssign
import Derived.Test.YtdckmekfggigjaaDoorSplit
import Derived.Lib.SplitLaws
namespace Go.Proofs.YtdckmekfggigjaaDoor
open Go.RowKit

/-- the parts of a name, seven at most -/
def partsB (s : ByteArray) : List ByteArray := Lib.splitB dash 0 (min 7 (s.size + 1) - 1) s
def restS (r : List ByteArray) : List ByteArray := offIf (isScr r) r
def restR (r : List ByteArray) : List ByteArray := offIf (isReg (restS r)) (restS r)
structure TagB where
  lang : ByteArray
  script : ByteArray
  region : ByteArray
  vars : List ByteArray
def TagB.plain (t : TagB) : P.Tg := tagT t.lang t.script t.region t.vars
def assignB (x : ByteArray) (r : List ByteArray) : TagB := ⟨loB x, scrOf r, regOf (restS r), (restR r).map loB⟩
def parseB (s : ByteArray) : Option TagB := match partsB s with
  | [] => none
  | x :: r => if 6 < r.length + 1 then none else if P.fault (assignB x r).plain = 0 then some (assignB x r) else none

theorem splitB_pos (sep : ByteArray) (save k : Nat) (s : ByteArray) : Lib.splitB sep save k s ≠ [] := by
  cases k with
  | zero => simp [Lib.splitB]
  | succ k => unfold Lib.splitB; split <;> simp
theorem splitB_size (sep : ByteArray) : ∀ (k : Nat) (s : ByteArray), ∀ p ∈ Lib.splitB sep 0 k s, p.size ≤ s.size
  | 0, s, p, hp => by simp [Lib.splitB] at hp; subst hp; exact Nat.le_refl _
  | k + 1, s, p, hp => by
    unfold Lib.splitB at hp
    split at hp
    · simp at hp; subst hp; exact Nat.le_refl _
    · rcases List.mem_cons.1 hp with rfl | h
      · rw [ByteArray.size_extract]; omega
      · have := splitB_size sep k _ p h
        rw [ByteArray.size_extract] at this
        omega
theorem offIf_mem {b : Bool} {r : List ByteArray} {p : ByteArray} (h : p ∈ offIf b r) : p ∈ r := by
  unfold offIf at h
  split at h
  · exact List.mem_of_mem_drop h
  · exact h
theorem scrOf_size (r : List ByteArray) : (scrOf r).size ≤ 8 := by
  rcases r with _ | ⟨x, r⟩
  · exact Nat.zero_le _
  · unfold scrOf
    by_cases h : x.size = 4
    · simp only [h, if_true, ByteArray.size_append, upB_size, loB_size, ByteArray.size_extract]; omega
    · simp only [h, if_false]; exact Nat.zero_le _
theorem regOf_size (r : List ByteArray) : (regOf r).size ≤ 8 := by
  cases h : isReg r
  · rw [reg_no h]; exact Nat.zero_le _
  · rcases r with _ | ⟨x, r⟩
    · simp [isReg] at h
    · have : x.size = 2 ∨ x.size = 3 := by simpa [isReg] using h
      rw [reg_yes h, upB_size]; omega
theorem cells_row (w : World) (l : List ByteArray) (N : Nat) (t : TypeId) : Row (w.alloc (.cells (Lib.cellsOf l N) t)) w.heap.size 0 l := fun j hj => by
  have hm := World.cell?_alloc_mark w (Lib.cellsOf l N) t (0, 0) j
  rw [Nat.zero_add]
  refine hm.trans ?_
  unfold Lib.cellsOf
  rw [List.getElem?_toArray, List.getElem?_append_left (by simpa using hj)]
  simp [hj]

/-- a tag as a value -/
def tagV (L S R : ByteArray) (A : Option Addr) (n c : Nat) : Value := .agg #[.string L, .string S, .string R, .slice A n c]
/-- t is what assign makes of x and r -/
def ParseFit (t : TagB) (x : ByteArray) (r : List ByteArray) : Prop := loB x = t.lang ∧ scrOf r = t.script ∧ regOf (offIf (isScr r) r) = t.region ∧ (offIf (isReg (offIf (isScr r) r)) (offIf (isScr r) r)).map loB = t.vars
theorem Reads.far {w : World} {B n : Nat} {A : Option Addr} {xs : List Value} {p : Addr} (h : Reads w B 1 A n xs) (hne : ∀ ad, A = some ad → ad.block ≠ p.block) (u : Value) : Reads (w.setCell p u) B 1 A n xs :=
  ⟨h.1, fun hn => by
    obtain ⟨ad, rfl, hb, hc⟩ := h.2 hn
    refine ⟨ad, rfl, hb, fun j v hv => ?_⟩
    rw [World.cell?_setCell_other]
    · exact hc j v hv
    · intro e; exact hne ad rfl (by rw [← block_of_add ad j]; first | (rw [e]) | (rw [← e]))⟩
theorem fit_of {t : TagB} {x S R : ByteArray} {r r2 r3 : List ByteArray} (h : ParseFit t x r) (h1 : AsgDef r S r2) (h2 : AsgDef2 r2 R r3) : S = t.script ∧ R = t.region ∧ r3.map loB = t.vars := by
  obtain ⟨rfl, rfl⟩ := h1
  obtain ⟨rfl, rfl⟩ := h2
  exact ⟨h.2.1, h.2.2.1, h.2.2.2⟩
theorem len_of {t : TagB} {r3 : List ByteArray} (h : r3.map loB = t.vars) : t.vars.length = r3.length := by rw [← h]; simp
theorem errV_zero : errV 0 = .nilIface := rfl
theorem errV_succ (k : Nat) : errV (k + 1) = .iface 24 (.int .i64 ((k + 1 : Nat) : Int)) := if_neg (by omega)
def zeroTag : Value := .agg #[.string ⟨#[]⟩, .string ⟨#[]⟩, .string ⟨#[]⟩, .slice none 0 0]
def ParsePost (w : World) (s : ByteArray) (e : Ending) (w' : World) : Prop :=
  Below w.heap.size w w' ∧ ((parseB s = none ∧ e = .returned (.tuple #[zeroTag, errV 3])) ∨
    ∃ (t : TagB) (A : Option Addr) (n c : Nat), parseB s = some t ∧ e = .returned (.tuple #[tagV t.lang t.script t.region A n c, errV 0]) ∧ Reads w' w'.heap.size 1 A n (sv t.vars))

set_option maxHeartbeats 2000000 in
set_option maxRecDepth 100000 in
theorem parse_any (s : ByteArray) (w : World) (hs : s.size ≤ 140737488355328) :
    Calls Tryd.prog 21 #[.string s] w (ParsePost w s) := by
  have hsplit := splitN_any s (w.alloc (.cells #[.string ⟨#[]⟩, .string ⟨#[]⟩, .string ⟨#[]⟩, .slice none 0 0] 29)) hs
  have hlen : (partsB s).length ≤ min 7 (s.size + 1) := by have := Lib.splitB_length_le dash 0 (min 7 (s.size + 1) - 1) s; unfold partsB; omega
  have hrow := cells_row (w.alloc (.cells #[.string ⟨#[]⟩, .string ⟨#[]⟩, .string ⟨#[]⟩, .slice none 0 0] 29)) (partsB s) (min 7 (s.size + 1)) 9
  have hszs : ∀ p ∈ partsB s, p.size ≤ s.size := splitB_size dash _ s
  have hpos : partsB s ≠ [] := splitB_pos dash 0 _ s
  have hdef : parseB s = match partsB s with
    | [] => none
    | x :: r => if 6 < r.length + 1 then none else if P.fault (assignB x r).plain = 0 then some (assignB x r) else none := rfl
  have e1 : partsB s = Lib.splitB dash 0 (min 7 (s.size + 1) - 1) s := rfl
  rw [← e1] at hsplit
  clear e1
  generalize partsB s = ps at *
  generalize hN : min 7 (s.size + 1) = N at *
  have hN7 : N ≤ 7 := by omega
  clear hN
  rcases ps with _ | ⟨x, r⟩
  · exact absurd rfl hpos
  have HS := Lib.hid hsplit; clear hsplit
  have hb0 : Below w.heap.size w ((w.alloc (.cells #[.string ⟨#[]⟩, .string ⟨#[]⟩, .string ⟨#[]⟩, .slice none 0 0] 29)).alloc (.cells (Lib.cellsOf (x :: r) N) 9)) := ((Below.refl _ _).alloc (Nat.le_refl _) _).alloc (by simp) _
  have hblk0 : Blk ((w.alloc (.cells #[.string ⟨#[]⟩, .string ⟨#[]⟩, .string ⟨#[]⟩, .slice none 0 0] 29)).alloc (.cells (Lib.cellsOf (x :: r) N) 9)) w.heap.size 29 #[.string ⟨#[]⟩, .string ⟨#[]⟩, .string ⟨#[]⟩, .slice none 0 0] := (Blk.new _ _ _).alloc _
  have hsz0 : w.heap.size + 1 < ((w.alloc (.cells #[.string ⟨#[]⟩, .string ⟨#[]⟩, .string ⟨#[]⟩, .slice none 0 0] 29)).alloc (.cells (Lib.cellsOf (x :: r) N) 9)).heap.size := by simp
  clear hpos
  simp only [List.length_cons] at hlen
  by_cases h6 : 6 < r.length + 1
  · have hnone : parseB s = none := by rw [hdef]; exact if_pos h6
    have HNO := Lib.hid hnone; clear hnone hdef hrow hszs
    go_enter Tryd.func21, Tryd.ntmps21
    go_wp2_with (go_at_call 37; refine HS.out.mono ?_; rintro e w' ⟨rfl, rfl⟩)
    exact bodyPost_ret (v := .tuple #[zeroTag, errV 3]) (by simp [results, Tryd.results21, go_sem, zeroTag, errV]) rfl ⟨hb0, .inl ⟨HNO.out, rfl⟩⟩
  · have hasg := fun (hr : Row ((w.alloc (.cells #[.string ⟨#[]⟩, .string ⟨#[]⟩, .string ⟨#[]⟩, .slice none 0 0] 29)).alloc (.cells (Lib.cellsOf (x :: r) N) 9)) (w.heap.size + 1) 0 (x :: r)) =>
      assign_any (w.heap.size + 1) r.length N x r _ (by simp) hr rfl (by omega) (by omega) hN7 (fun p hp => by have := hszs p hp; unfold maxLen; omega)
    have hasg' := hasg (by have := hrow; simpa using this)
    have HA := Lib.hid hasg'; clear hasg hasg' hrow
    have hdef' : parseB s = if P.fault (assignB x r).plain = 0 then some (assignB x r) else none := by rw [hdef]; exact if_neg h6
    have HD := Lib.hid hdef'; clear hdef hdef'
    have HSZ := Lib.hid hszs; clear hszs
    have h6i : ¬ (6 : Int) < (r.length : Int) + 1 := by omega
    have HSL : Hid ((assignB x r).lang.size ≤ maxLen ∧ (assignB x r).script.size ≤ maxLen ∧ (assignB x r).region.size ≤ maxLen ∧ ∀ v ∈ (assignB x r).vars, v.size ≤ maxLen) := Lib.hid (by
      refine ⟨?_, ?_, ?_, ?_⟩
      · show (loB x).size ≤ _
        have := HSZ.out x (by simp); rw [loB_size]; unfold maxLen; omega
      · have := scrOf_size r; show (scrOf r).size ≤ _; unfold maxLen; omega
      · have := regOf_size (restS r); show (regOf (restS r)).size ≤ _; unfold maxLen; omega
      · intro v hv
        obtain ⟨p, hp, rfl⟩ := List.mem_map.1 hv
        have := HSZ.out p (List.mem_cons_of_mem _ (offIf_mem (offIf_mem hp)))
        rw [loB_size]; unfold maxLen; omega)
    have HVL : Hid ((assignB x r).vars.length ≤ 100) := Lib.hid (by
      have h1 : (restR r).length ≤ r.length := by
        unfold restR restS offIf
        split <;> split <;> simp <;> omega
      have : (assignB x r).vars.length = (restR r).length := by simp [assignB]
      omega)
    have HFIT : Hid (ParseFit (assignB x r) x r) := Lib.hid ⟨rfl, rfl, rfl, rfl⟩
    generalize assignB x r = t at *
    cases hk : P.fault t.plain with
    | zero =>
      have HK := Lib.hid hk; clear hk
      have HB0 := Lib.hid hblk0; clear hblk0
      go_enter Tryd.func21, Tryd.ntmps21
      go_wp2_with (first
        | (go_at_call 37; refine HS.out.mono ?_; rintro e w' ⟨rfl, rfl⟩)
        | (go_at_call 38; refine HA.out.mono ?_; rintro e w2 ⟨S, R, r2, r3, A, n, c, rfl, hd1, hd2, hlen3, hrd, hfr, hb2⟩; obtain ⟨hS, hR, hV⟩ := fit_of HFIT.out hd1 hd2; subst hS; subst hR; rw [HFIT.out.1]; rw [hV] at hrd; (have hn100 : n ≤ 100 := by rw [← hlen3, ← len_of hV]; exact HVL.out); clear hd1 hd2 hV hlen3; (have HRD := Lib.hid (hrd.alloc (Nat.le_refl _) (.cells #[.string t.lang, .string t.script, .string t.region, .slice A n c] 29))); (have HB2 := Lib.hid (HB0.out.below hb2 (by simp; omega))); (have HBN := Lib.hid (Blk.new w2 29 #[.string t.lang, .string t.script, .string t.region, .slice A n c])); (have HSZ2 : w.heap.size + 2 ≤ w2.heap.size := by have := hb2.size; simp at this; omega); (have hbl2 := (hb0.trans (hb2.mono (by simp; omega))).alloc (by omega) (.cells #[.string t.lang, .string t.script, .string t.region, .slice A n c] 29)))
        | (go_at_call 33; refine (check_any t.lang t.script t.region A n c t.vars _ (HRD.out.more (by simp)) HSL.out.2.2.2 (by unfold maxLen; omega) HSL.out.1 HSL.out.2.1 HSL.out.2.2.1).mono ?_; rintro e w3 ⟨rfl, hb3⟩; rw [show tagT t.lang t.script t.region t.vars = t.plain from rfl, HK.out, errV_zero]; (have hres := (HB2.out.alloc _).below hb3 (by simp; omega)); (have hc0 := hres.cell 0); (have hc1 := hres.cell 1); (have hc2 := hres.cell 2); (have hc3 := hres.cell 3); (have hf0 := hres.frozen 0); (have hf1 := hres.frozen 1); (have hf2 := hres.frozen 2); (have hf3 := hres.frozen 3); simp at hc0 hc1 hc2 hc3; (have hnew := HBN.out.below hb3 (by simp)); (have hd0 := hnew.cell 0); (have hd1 := hnew.cell 1); (have hd2 := hnew.cell 2); (have hd3 := hnew.cell 3); simp at hd0 hd1 hd2 hd3))
      change bodyPost _ _ _ _ _ (stored4 w w3 (.string t.lang) (.string t.script) (.string t.region) (.slice A n c))
      have hbl3 := hbl2.trans (hb3.mono (by simp; omega))
      have hbl4 : Below w.heap.size w (stored4 w w3 (.string t.lang) (.string t.script) (.string t.region) (.slice A n c)) := (((hbl3.setCell (Nat.le_refl _) _).setCell (Nat.le_refl _) _).setCell (Nat.le_refl _) _).setCell (Nat.le_refl _) _
      have hblk : Blk (stored4 w w3 (.string t.lang) (.string t.script) (.string t.region) (.slice A n c)) w.heap.size 29 #[.string t.lang, .string t.script, .string t.region, (.slice A n c)] := (((hres.set_ 0 _).set_ 1 _).set_ 2 _).set_ 3 _
      have hz0 := hblk.cell 0
      have hz1 := hblk.cell 1
      have hz2 := hblk.cell 2
      have hz3 := hblk.cell 3
      simp at hz0 hz1 hz2 hz3
      have hne : ∀ ad, A = some ad → ad.block ≠ w.heap.size := fun ad had => by have := hfr ad had; simp at this; omega
      have hfin : Reads (stored4 w w3 (.string t.lang) (.string t.script) (.string t.region) (.slice A n c)) (stored4 w w3 (.string t.lang) (.string t.script) (.string t.region) (.slice A n c)).heap.size 1 A n (sv t.vars) :=
        ((((((((HRD.out.more (by simp)).below hb3).more hb3.size).far (p := ⟨w.heap.size, 0, none⟩) hne _).far (p := ⟨w.heap.size, 1, none⟩) hne _).far (p := ⟨w.heap.size, 2, none⟩) hne _).far (p := ⟨w.heap.size, 3, none⟩) hne _)).more (by simp [stored4, World.setCell])
      have hsome : parseB s = some t := by rw [HD.out, if_pos HK.out]
      exact bodyPost_ret (v := .tuple #[.agg #[.string t.lang, .string t.script, .string t.region, (.slice A n c)], errV 0]) (by simp [results, Tryd.results21, go_sem, errV, hz0, hz1, hz2, hz3]) rfl ⟨hbl4, .inr ⟨t, A, n, c, hsome, rfl, hfin⟩⟩
    | succ k =>
      have HK := Lib.hid hk; clear hk
      have HB0 := Lib.hid hblk0; clear hblk0
      go_enter Tryd.func21, Tryd.ntmps21
      go_wp2_with (first
        | (go_at_call 37; refine HS.out.mono ?_; rintro e w' ⟨rfl, rfl⟩)
        | (go_at_call 38; refine HA.out.mono ?_; rintro e w2 ⟨S, R, r2, r3, A, n, c, rfl, hd1, hd2, hlen3, hrd, hfr, hb2⟩; obtain ⟨hS, hR, hV⟩ := fit_of HFIT.out hd1 hd2; subst hS; subst hR; rw [HFIT.out.1]; rw [hV] at hrd; (have hn100 : n ≤ 100 := by rw [← hlen3, ← len_of hV]; exact HVL.out); clear hd1 hd2 hV hlen3; (have HRD := Lib.hid (hrd.alloc (Nat.le_refl _) (.cells #[.string t.lang, .string t.script, .string t.region, .slice A n c] 29))); (have HB2 := Lib.hid (HB0.out.below hb2 (by simp; omega))); (have HBN := Lib.hid (Blk.new w2 29 #[.string t.lang, .string t.script, .string t.region, .slice A n c])); (have HSZ2 : w.heap.size + 2 ≤ w2.heap.size := by have := hb2.size; simp at this; omega); (have hbl2 := (hb0.trans (hb2.mono (by simp; omega))).alloc (by omega) (.cells #[.string t.lang, .string t.script, .string t.region, .slice A n c] 29)))
        | (go_at_call 33; refine (check_any t.lang t.script t.region A n c t.vars _ (HRD.out.more (by simp)) HSL.out.2.2.2 (by unfold maxLen; omega) HSL.out.1 HSL.out.2.1 HSL.out.2.2.1).mono ?_; rintro e w3 ⟨rfl, hb3⟩; rw [show tagT t.lang t.script t.region t.vars = t.plain from rfl, HK.out, errV_succ]; (have hres := (HB2.out.alloc _).below hb3 (by simp; omega)); (have hc0 := hres.cell 0); (have hc1 := hres.cell 1); (have hc2 := hres.cell 2); (have hc3 := hres.cell 3); (have hf0 := hres.frozen 0); (have hf1 := hres.frozen 1); (have hf2 := hres.frozen 2); (have hf3 := hres.frozen 3); simp at hc0 hc1 hc2 hc3))
      change bodyPost _ _ _ _ _ (stored4 w w3 (.string ⟨#[]⟩) (.string ⟨#[]⟩) (.string ⟨#[]⟩) (.slice none 0 0))
      have hbl3 := hbl2.trans (hb3.mono (by simp; omega))
      have hbl4 : Below w.heap.size w (stored4 w w3 (.string ⟨#[]⟩) (.string ⟨#[]⟩) (.string ⟨#[]⟩) (.slice none 0 0)) := (((hbl3.setCell (Nat.le_refl _) _).setCell (Nat.le_refl _) _).setCell (Nat.le_refl _) _).setCell (Nat.le_refl _) _
      have hblk : Blk (stored4 w w3 (.string ⟨#[]⟩) (.string ⟨#[]⟩) (.string ⟨#[]⟩) (.slice none 0 0)) w.heap.size 29 #[.string ⟨#[]⟩, .string ⟨#[]⟩, .string ⟨#[]⟩, (.slice none 0 0)] := (((hres.set_ 0 _).set_ 1 _).set_ 2 _).set_ 3 _
      have hz0 := hblk.cell 0
      have hz1 := hblk.cell 1
      have hz2 := hblk.cell 2
      have hz3 := hblk.cell 3
      simp at hz0 hz1 hz2 hz3
      have hnone : parseB s = none := by rw [HD.out, if_neg (by rw [HK.out]; omega)]
      exact bodyPost_ret (v := .tuple #[.agg #[.string ⟨#[]⟩, .string ⟨#[]⟩, .string ⟨#[]⟩, (.slice none 0 0)], errV 3]) (by simp [results, Tryd.results21, go_sem, errV, hz0, hz1, hz2, hz3]) rfl ⟨hbl4, .inl ⟨hnone, rfl⟩⟩
end Go.Proofs.YtdckmekfggigjaaDoor
