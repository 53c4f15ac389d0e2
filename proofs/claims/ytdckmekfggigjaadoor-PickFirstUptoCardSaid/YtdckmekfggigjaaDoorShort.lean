/- The law TagShort: it returns true for every two tags; what lay in memory stays as it was. -/
import Derived.Test.YtdckmekfggigjaaDoorBridge
import Derived.Deep.RegionHeld3
import Derived.Deep.DrawnRows
namespace Go.Proofs.YtdckmekfggigjaaDoor
open Go.RowKit

def ParsedTo (w : World) (t : TagB) (e : Ending) (w' : World) : Prop :=
  ∃ (A : Option Addr) (n c : Nat), e = .returned (.tuple #[.agg #[.string t.lang, .string t.script, .string t.region, .slice A n c], .nilIface]) ∧ Reads w' w'.heap.size 1 A n (sv t.vars) ∧ Below w.heap.size w w'
theorem parse_some {s : ByteArray} {t : TagB} (h : parseB s = some t) (w : World) (hs : s.size ≤ 140737488355328) :
    Calls Tryd.prog 21 #[.string s] w (ParsedTo w t) :=
  (parse_any s w hs).mono fun e w' ⟨hb, h'⟩ => by
    rcases h' with ⟨h1, _⟩ | ⟨t', A, n, c, h1, he, hr⟩
    · rw [h] at h1; cases h1
    · rw [h] at h1; injection h1 with h1; subst h1
      exact ⟨A, n, c, he, hr, hb⟩
def enus : TagB := ⟨⟨#[101, 110]⟩, ⟨#[]⟩, ⟨#[85, 83]⟩, []⟩
theorem parse_enus : parseB ⟨#[101, 110, 45, 117, 115]⟩ = some enus := by kernel_rfl

/-- the text of a tag -/
def textOf (L S R : ByteArray) (vs : List ByteArray) : ByteArray := ⟨(Lib.join (bs (partsOf L S R vs)) [45]).toArray⟩
theorem parts_plain (L S R : ByteArray) (vs : List ByteArray) : bs (partsOf L S R vs) = P.parts (tagT L S R vs) := by
  unfold partsOf P.parts bs
  have : ∀ p : ByteArray, full p = !(p.data.toList).isEmpty := fun p => by unfold full; rw [toList_data]
  rw [List.filter_congr (fun p _ => this p)]
  have e : ([L.data.toList, S.data.toList, R.data.toList] ++ vs.map fun v => v.data.toList) = (allOf L S R vs).map fun v => v.data.toList := by simp [allOf]
  show _ = ([L.data.toList, S.data.toList, R.data.toList] ++ bs vs).filter _
  unfold bs
  rw [e, List.filter_map]
  rfl
theorem text_plain (L S R : ByteArray) (vs : List ByteArray) : (textOf L S R vs).data.toList = P.glue (P.parts (tagT L S R vs)) := by
  unfold textOf P.glue; rw [parts_plain]
theorem same_iff {L S R : ByteArray} {vs : List ByteArray} {L' S' R' : ByteArray} {vs' : List ByteArray} (h : P.fault (tagT L S R vs) = 0) (h' : P.fault (tagT L' S' R' vs') = 0) :
    ((textOf L S R vs).toList == (textOf L' S' R' vs').toList) = SameTag L S R vs L' S' R' vs' := by
  rw [Bool.eq_iff_iff, beq_iff_eq, toList_data, toList_data, text_plain, text_plain]
  unfold SameTag
  simp only [Bool.and_eq_true, decide_eq_true_eq]
  constructor
  · intro e
    have := plain_inj (t := ⟨L, S, R, vs⟩) (u := ⟨L', S', R', vs'⟩) (P.text_inj h h' e)
    injection this with h1 h2 h3 h4
    exact ⟨⟨⟨h4, h1⟩, h2⟩, h3⟩
  · rintro ⟨⟨⟨rfl, rfl⟩, rfl⟩, rfl⟩; rfl
theorem parts_pos {L S R : ByteArray} {vs : List ByteArray} (h : P.fault (tagT L S R vs) = 0) : ∃ q r, bs (partsOf L S R vs) = q :: r ∧ r.length ≤ 5 ∧ (textOf L S R vs).size = r.length + Lib.lens (q :: r) ∧ Lib.lens (q :: r) ≤ 1000 := by
  have hR := P.right_of h
  rw [parts_plain, P.parts_right hR]
  refine ⟨_, _, rfl, P.parts_few hR, ?_, ?_⟩
  · rw [← size_list, text_plain, P.parts_right hR, P.glue_length]
  · have hle : ∀ p ∈ P.parts (tagT L S R vs), p.length ≤ 8 := fun p hp => by
      rw [P.parts_right hR] at hp
      rcases List.mem_cons.1 hp with rfl | hp
      · have := (P.lang_facts hR.lang).2.2.2; omega
      rcases List.mem_append.1 hp with hp | hp
      · unfold P.opt at hp
        split at hp
        · cases hp
        · rename_i hne
          rcases List.mem_cons.1 hp with rfl | hp
          · have := (P.script_facts (hR.script.resolve_left hne)).2.2; omega
          · cases hp
      rcases List.mem_append.1 hp with hp | hp
      · unfold P.opt at hp
        split at hp
        · cases hp
        · rename_i hne
          rcases List.mem_cons.1 hp with rfl | hp
          · have := (P.region_facts (hR.region.resolve_left hne)).2.2; omega
          · cases hp
      · exact (P.variant_facts (hR.vars p hp)).2.2.2
    have hlens : ∀ l : List P.Bs, (∀ p ∈ l, p.length ≤ 8) → Lib.lens l ≤ 8 * l.length := by
      intro l
      induction l with
      | nil => intro _; simp [Lib.lens]
      | cons a l ih =>
        intro hl
        have h1 := hl a (by simp)
        have h2 := ih fun p hp => hl p (List.mem_cons_of_mem _ hp)
        have e : Lib.lens (a :: l) = a.length + Lib.lens l := by simp [Lib.lens]
        rw [e, List.length_cons]; omega
    rw [P.parts_right hR] at hle
    have := hlens _ hle
    have := P.parts_few hR
    simp only [List.length_cons] at *
    omega
end Go.Proofs.YtdckmekfggigjaaDoor
