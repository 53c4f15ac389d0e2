/- The reference's TagOf, walked: it finds the tag that the plain parse finds, or none; what lay in memory stays as it was. -/
import Derived.Test.YtmildcdcfnccaaaDoorTagOf
namespace Go.Proofs.YtmildcdcfnccaaaDoor
open Go.RowKit
attribute [local go_sem ↓] Go.wp_at_zero Go.wp_at_succ

/-- where the walk stands: block gt is the tag so far, block g the pieces, the result's block is as it was made, what lay below is as it was -/
structure T2 (w W3 wx : World) (g gt : Nat) (L S R : ByteArray) (v : Value) : Prop where
  tag : Blk wx gt 24 #[.string L, .string S, .string R, v]
  res : Blk wx w.heap.size 24 #[.string ⟨#[]⟩, .string ⟨#[]⟩, .string ⟨#[]⟩, .slice none 0 0]
  below : Below w.heap.size w wx
  same : wx.heap[g]? = W3.heap[g]?
  gg : w.heap.size < g
  lt : g < gt
section
variable {w W3 wx wy : World} {g gt : Nat} {L S R : ByteArray} {v : Value}
theorem T2.row (h : T2 w W3 wx g gt L S R v) {o : Nat} {r : List ByteArray} (hr : Row W3 g o r) : Row wx g o r := fun j hj => (World.cell?_of_block h.same).trans (hr j hj)
theorem T2.keep (h : T2 w W3 wx g gt L S R v) {o : Nat} {y : Value} (h0 : W3.cell? ⟨g, o, none⟩ = some y) : wx.cell? ⟨g, o, none⟩ = some y := (World.cell?_of_block h.same).trans h0
theorem T2.glt (h : T2 w W3 wx g gt L S R v) : g < wx.heap.size := by have := h.tag.lt; have := h.lt; omega
theorem T2.later (h : T2 w W3 wx g gt L S R v) (hb : Below wx.heap.size wx wy) : T2 w W3 wy g gt L S R v :=
  ⟨h.tag.below hb h.tag.lt, h.res.below hb h.res.lt, h.below.trans (hb.mono h.below.size), (hb.block g h.glt).trans h.same, h.gg, h.lt⟩
theorem T2.drew (h : T2 w W3 wx g gt L S R v) : T2 w W3 wx.drew g gt L S R v := ⟨h.tag.drew, h.res.drew, h.below.drew, h.same, h.gg, h.lt⟩
theorem T2.set_ (h : T2 w W3 wx g gt L S R v) (i : Nat) (u : Value) {cs : Array Value} (hcs : (#[.string L, .string S, .string R, v] : Array Value).setIfInBounds i u = cs) :
    Blk (wx.setCell ⟨gt, i, none⟩ u) gt 24 cs ∧ Blk (wx.setCell ⟨gt, i, none⟩ u) w.heap.size 24 #[.string ⟨#[]⟩, .string ⟨#[]⟩, .string ⟨#[]⟩, .slice none 0 0] ∧ Below w.heap.size w (wx.setCell ⟨gt, i, none⟩ u) ∧ (wx.setCell ⟨gt, i, none⟩ u).heap[g]? = W3.heap[g]? := by
  have h1 := h.gg
  have h2 := h.lt
  exact ⟨by rw [← hcs]; exact h.tag.set_ i u, h.res.far (by simp; omega) _, h.below.setCell (by simp; omega) _, (Below.heap_setCell wx ⟨gt, i, none⟩ u g (by simp; omega)).trans h.same⟩
theorem T2.setS (h : T2 w W3 wx g gt L S R v) (X : ByteArray) : T2 w W3 (wx.setCell ⟨gt, 1, none⟩ (.string X)) g gt L X R v := by
  obtain ⟨a, b, c, d⟩ := h.set_ 1 (.string X) rfl
  exact ⟨a, b, c, d, h.gg, h.lt⟩
theorem T2.setR (h : T2 w W3 wx g gt L S R v) (X : ByteArray) : T2 w W3 (wx.setCell ⟨gt, 2, none⟩ (.string X)) g gt L S X v := by
  obtain ⟨a, b, c, d⟩ := h.set_ 2 (.string X) rfl
  exact ⟨a, b, c, d, h.gg, h.lt⟩
theorem T2.setV (h : T2 w W3 wx g gt L S R v) (u : Value) : T2 w W3 (wx.setCell ⟨gt, 3, none⟩ u) g gt L S R u := by
  obtain ⟨a, b, c, d⟩ := h.set_ 3 u rfl
  exact ⟨a, b, c, d, h.gg, h.lt⟩
theorem T2.grown (h : T2 w W3 wx g gt L S R v) (hg : wx.grownBy wy none) : T2 w W3 wy g gt L S R v :=
  ⟨h.tag.grown hg (by simp), h.res.grown hg (by simp), h.below.grown hg h.below.size (fun b hb => by cases hb), (hg.block g h.glt (by simp)).trans h.same, h.gg, h.lt⟩
theorem T2.at0 (h : T2 w W3 wx g gt L S R v) (i : Nat) : wx.cell? ⟨gt, i, none⟩ = (#[.string L, .string S, .string R, v] : Array Value)[i]? := h.tag.cell i
end
theorem own_nonempty {w : World} {base : Nat} {v : Value} {xs : List Value} (h : w.ownsRow base 9 1 v xs.length xs) (h0 : xs ≠ []) : ∃ g c, v = .slice (some ⟨g, 0, none⟩) xs.length c ∧ base ≤ g ∧ xs.length ≤ c ∧ g < w.heap.size ∧ ∀ j u, xs[j]? = some u → w.cell? ⟨g, j, none⟩ = some u := by
  rcases h.2 with ⟨_, he⟩ | ⟨g, cap, cur, rfl, hb, hg, hc, _⟩
  · exact absurd (List.eq_nil_of_length_eq_zero he) h0
  · refine ⟨g, cap, rfl, hb, hc, (Array.getElem?_eq_some_iff.1 hg).1, fun j u hj => ?_⟩
    have := h.cells (g := g) rfl j u hj
    unfold Addr.add at this
    by_cases h0 : j = 0
    · subst h0; simpa using this
    · simpa [h0] using this
theorem row_reads {w : World} {g o B : Nat} {r : List ByteArray} (h : Row w g o r) (hg : g < B) : Reads w B 1 (some ⟨g, o, none⟩) r.length (sv r) :=
  ⟨by simp [sv], fun _ => ⟨_, rfl, hg, fun j u hu => by
    have hj : j < r.length := by have := (List.getElem?_eq_some_iff.1 hu).1; simpa [sv] using this
    unfold sv at hu
    rw [List.getElem?_map, List.getElem?_eq_getElem hj] at hu
    injection hu with hu
    have hc := h j hj
    rw [hu] at hc
    unfold Addr.add
    by_cases h0 : j = 0
    · subst h0; simpa using hc
    · simpa [h0] using hc⟩⟩
/-- what is found of the parts -/
def SpecAt (s x S R : ByteArray) (r3 : List ByteArray) : Prop :=
  (P.fault (tagT x S R r3) = 0 ∧ lowB (textOf x S R r3) = lowB s → parseB s = some ⟨x, S, R, r3⟩) ∧ (¬ (P.fault (tagT x S R r3) = 0 ∧ lowB (textOf x S R r3) = lowB s) → parseB s = none)
theorem specAt_of {s x : ByteArray} {r : List ByteArray} (h : bs (x :: r) = P.pieces (P.lo s.data.toList)) : SpecAt s x (rscr r) (rreg (offIf (isScr r) r)) (offIf (isRR (offIf (isScr r) r)) (offIf (isScr r) r)) := by
  have e : lowB (textOf x (rscr r) (rreg (offIf (isScr r) r)) (offIf (isRR (offIf (isScr r) r)) (offIf (isScr r) r))) = lowB s ↔ P.lo (P.glue (P.parts (rtag x r).plain)) = P.lo s.data.toList := by
    have h1 : P.glue (P.parts (rtag x r).plain) = (textOf x (rscr r) (rreg (offIf (isScr r) r)) (offIf (isRR (offIf (isScr r) r)) (offIf (isScr r) r))).data.toList := (text_plain _ _ _ _).symm
    rw [h1, ← lowB_data, ← lowB_data]
    exact ⟨fun h => by rw [h], fun h => ba_ext h⟩
  have hsp := tagOf_spec h
  exact ⟨fun ⟨h0, h1⟩ => hsp.1 ⟨h0, e.1 h1⟩, fun hn => hsp.2 fun ⟨h0, h1⟩ => hn ⟨h0, e.2 h1⟩⟩
theorem rscr_size {r : List ByteArray} {B : Nat} (h : ∀ p ∈ r, p.size ≤ B) (hB : 8 ≤ B) : (rscr r).size ≤ B := by
  cases r with
  | nil => exact Nat.zero_le _
  | cons x r' =>
    show (if x.size = 4 then upB (x.extract 0 1) ++ x.extract 1 x.size else ⟨#[]⟩ : ByteArray).size ≤ B
    split
    · rw [ByteArray.size_append, upB_size, ByteArray.size_extract, ByteArray.size_extract]; omega
    · exact Nat.zero_le _
theorem rreg_size {r : List ByteArray} {B : Nat} (h : ∀ p ∈ r, p.size ≤ B) : (rreg r).size ≤ B := by
  cases r with
  | nil => exact Nat.zero_le _
  | cons x r' =>
    show (if x.size < 4 then upB x else ⟨#[]⟩ : ByteArray).size ≤ B
    split
    · rw [upB_size]; exact h x (by simp)
    · exact Nat.zero_le _
def TagOfPost (w : World) (s : ByteArray) (e : Ending) (w' : World) : Prop :=
  Below w.heap.size w w' ∧ ((parseB s = none ∧ e = .returned (.tuple #[zeroTag, .bool false])) ∨
    ∃ (t : TagB) (A : Option Addr) (n c : Nat), parseB s = some t ∧ e = .returned (.tuple #[tagV t.lang t.script t.region A n c, .bool true]) ∧ Reads w' w'.heap.size 1 A n (sv t.vars))

set_option maxHeartbeats 4000000 in
set_option maxRecDepth 100000 in
theorem tagOf_any (s : ByteArray) (w : World) (hs : s.size ≤ 1048576) : Calls Tryd.prog 10 #[.string s] w (TagOfPost w s) := by
  have HLOW : Hid (∀ W : World, Calls Tryd.prog 15 #[.string s] W fun e w' => e = .returned (.string (lowB s)) ∧ Below W.heap.size W w') := Lib.hid (fun W => refLower_any s W (by unfold maxLen; omega))
  have hcut : ∀ W, Calls Tryd.prog 25 #[.string (lowB s), .string dash] W (CutPost W (lowB s)) := fun W => cut_any (lowB s) W (by rw [lowB_size]; omega)
  have HCUT := Lib.hid hcut; clear hcut
  unfold dash at HCUT
  go_enter Tryd.func10, Tryd.ntmps10
  go_upto_region 2 with (first
    | (go_at_call 15; (with_reducible refine (HLOW.out _).mono ?_); rintro e w1 ⟨rfl, hb1⟩)
    | (go_at_call 25; (with_reducible refine (HCUT.out _).mono ?_); rintro e w2 ⟨l, v2, rfl, hown, hb2, hl, hsm, hll⟩))
  have hlo : (lowB s).data.toList = P.lo s.data.toList := lowB_data s
  rw [hlo] at hl
  rw [lowB_size] at hsm hll
  have hne : l ≠ [] := by
    rintro rfl
    obtain ⟨q, r, hp, _, _⟩ := P.pieces_spec (P.lo s.data.toList)
    rw [hp] at hl; simp [bs] at hl
  obtain ⟨x, r, rfl⟩ : ∃ x r, l = x :: r := by
    cases l with
    | nil => exact absurd rfl hne
    | cons x r => exact ⟨x, r, rfl⟩
  have hown' : w2.ownsRow w1.heap.size 9 1 v2 (sv (x :: r)).length (sv (x :: r)) := by simpa [sv] using hown
  obtain ⟨g, c, rfl, hbg, hlc, hgl, hcell⟩ := own_nonempty hown' (by simp [sv])
  have hrow : Row w2 g 0 (x :: r) := fun j hj => by rw [Nat.zero_add]; exact hcell j _ (by unfold sv; rw [List.getElem?_map, List.getElem?_eq_getElem hj]; rfl)
  have hll2 : (sv (x :: r)).length = r.length + 1 := by simp [sv]
  rw [hll2] at hlc ⊢
  have hspec := specAt_of hl
  have hB2 : Below w.heap.size w w2 := ((Below.refl w.heap.size w).alloc (Nat.le_refl _) _).trans ((hb1.trans (hb2.mono hb1.size)).mono (by simp))
  have hres : Blk w2 w.heap.size 24 #[.string ⟨#[]⟩, .string ⟨#[]⟩, .string ⟨#[]⟩, .slice none 0 0] := ((Blk.new w 24 _).below hb1 (by simp)).below hb2 (by have := hb1.size; simp at this; omega)
  have hgw : w.heap.size < g := by have := hb1.size; simp at this; omega
  have hst : T2 w w2 (w2.alloc (.cells #[.string x, .string ⟨#[]⟩, .string ⟨#[]⟩, .slice none 0 0] 24)) g w2.heap.size x ⟨#[]⟩ ⟨#[]⟩ (.slice none 0 0) :=
    ⟨Blk.new _ _ _, hres.alloc _, up_alloc hB2 _, Below.heap_alloc w2 _ g hgl, hgw, hgl⟩
  have hx := hrow.head
  have HT := Lib.hid hrow.tail
  have HSZ := Lib.hid hsm
  have HSPEC := Lib.hid hspec
  have HLEN : Hid (r.length ≤ 1048576) := Lib.hid (by simp at hll; omega)
  have hcc : r.length + 1 ≤ c := hlc
  clear hown hown' hl hlo hsm hll hne hcell hrow hll2 hspec hlc hb1 hb2 HCUT hres hB2
  generalize hm : r.length = m at *
  have HN := Lib.hid hm; clear hm
  go_upto_region 4 with (refine wpList_cut1 _ rfl (.tmp 13) 22 rfl g 0 (m + 1) c rfl elem22 size22 (by omega) hcc ?_; intro o1 ho1)
  have HT1 : Hid (Row w2 g o1 r) := Lib.hid (by
    rcases r with _ | ⟨y, r'⟩
    · intro j hj; simp at hj
    · have := ho1 (by have := HN.out; simp at this; omega)
      subst this; exact HT.out)
  have HRS : Hid ((rscr r).size ≤ maxLen ∧ ∀ p ∈ r, p.size ≤ maxLen) := Lib.hid (by
    have h1 : ∀ p ∈ r, p.size ≤ maxLen := fun p hp => by have := HSZ.out p (by simp [hp]); unfold maxLen; omega
    exact ⟨rscr_size h1 (by decide), h1⟩)
  have HXS : Hid (x.size ≤ maxLen) := Lib.hid (by have := HSZ.out x (by simp); unfold maxLen; omega)
  clear hx HT ho1 HSZ
  have hmc : m ≤ c - 1 := by omega
  generalize c - 1 = c1 at *
  have hm' : m + 1 - 1 = m := by omega
  clear hcc
  generalize w2.heap.size = gt at *
  generalize w2.alloc (.cells #[.string x, .string ⟨#[]⟩, .string ⟨#[]⟩, .slice none 0 0] 24) = W0 at *
  go_cut [24] (fun s24 wx => s24 = .bool (isScr r) ∧ T2 w w2 wx g gt x ⟨#[]⟩ ⟨#[]⟩ (.slice none 0 0))
  case first =>
    rcases r with _ | ⟨y, r'⟩
    · have hm0 := HN.out
      simp at hm0
      subst hm0
      go_wp2_with fail
      go_meet
      exact ⟨rfl, hst⟩
    · have hy := (hst.row HT1.out).head
      have hm0 : 0 < m := by have := HN.out; simp at this; omega
      by_cases h4 : y.size = 4
      · have hb : ((y.size : Int) == 4) = true := by simp [h4]
        have HF := Lib.hid (scr_four (r := r') h4)
        clear h4
        go_wp2_with fail
        go_meet
        exact ⟨by rw [HF.out], hst⟩
      · have hb : ((y.size : Int) == 4) = false := by simp; omega
        have HF := Lib.hid (scr_not (r := r') h4)
        clear h4
        go_wp2_with fail
        go_meet
        exact ⟨by rw [HF.out], hst⟩
  case rest =>
    obtain ⟨rfl, hst1⟩ := hcut
    clear hst
    go_upto_if 24 with fail
    go_cut [4] (fun s4 wx => ∃ o2 m2 c2 : Nat, s4 = .slice (some ⟨g, o2, none⟩) m2 c2 ∧ Row w2 g o2 (offIf (isScr r) r) ∧ Hid ((offIf (isScr r) r).length = m2) ∧ m2 ≤ c2 ∧ m2 ≤ m ∧ T2 w w2 wx g gt x (rscr r) ⟨#[]⟩ (.slice none 0 0))
    case first =>
      cases hsc : isScr r
      · have hso : rscr r = ⟨#[]⟩ := by
          rcases r with _ | ⟨y, r'⟩
          · rfl
          · have : y.size ≠ 4 := by simpa [isScr] using hsc
            simp [rscr, this]
        have HSO := Lib.hid hso; clear hso
        have HSC := Lib.hid hsc; clear hsc
        go_wp2_with fail
        go_meet
        exact ⟨o1, m, c1, rfl, by rw [HSC.out]; exact HT1.out, by rw [HSC.out]; exact HN, hmc, by omega, by rw [HSO.out]; exact hst1⟩
      · obtain ⟨y, r', rfl⟩ : ∃ y r', r = y :: r' := by
          rcases r with _ | ⟨y, r'⟩
          · simp [isScr] at hsc
          · exact ⟨y, r', rfl⟩
        have hy4 : y.size = 4 := by simpa [isScr] using hsc
        have hy0 := HT1.out.head
        have HY0 := Lib.hid hy0; clear hy0
        have hy := (hst1.row HT1.out).head
        have hi1 : (1 : Int) ≤ (y.size : Int) := by omega
        have hy5 : y.size ≤ 4 := by omega
        have HSC := Lib.hid hsc
        have HY4 := Lib.hid hy4; clear hy4 hsc
        have hmn : 0 < m := by have := HN.out; simp at this; omega
        have hmi : (0 : Int) < (m : Int) := by omega
        have hso : rscr (y :: r') = upB (y.extract 0 1) ++ y.extract 1 y.size := by simp [rscr, HY4.out]
        have hus : (upB (y.extract 0 1)).size ≤ 4 := by rw [upB_size, ByteArray.size_extract]; omega
        have hls : (y.extract 1 y.size).size ≤ 4 := by rw [ByteArray.size_extract]; omega
        have cU : ∀ W, Calls Tryd.prog 16 #[.string (y.extract 0 1)] W fun e w' => e = .returned (.string (upB (y.extract 0 1))) ∧ Below W.heap.size W w' := fun W => refUpper_any _ W (by unfold maxLen; simp; omega)
        have CU := Lib.hid cU; clear cU
        have HSO := Lib.hid hso; clear hso
        generalize upB (y.extract 0 1) = U at *
        have hUV : ¬ 9223372036854775807 < U.size + (y.extract 1 y.size).size := by omega
        have hUV2 : ¬ 9223372036854775807 < U.size + (y.size - 1) := by omega
        go_wp2_with fail
        go_region_held3 (fun w' => w'.cell? ⟨g, o1, none⟩ = some (.string y))
          (first | assumption | exact T2.keep (by assumption) HY0.out | exact T2.keep (T2.setS (by assumption) _) HY0.out)
          (first
            | (go_at_call 16; refine (CU.out _).mono ?_; rintro e wu ⟨rfl, hbU⟩; (have hstU : T2 w w2 wu g gt x ⟨#[]⟩ ⟨#[]⟩ (.slice none 0 0) := by first | exact T2.later (by assumption) hbU | exact T2.later (T2.drew (by assumption)) hbU); (have hcU := hstU.at0 1); (have hfU := hstU.tag.frozen 1); simp at hcU))
        have hstN := hstU.setS (U ++ y.extract 1 y.size)
        have HR1 : ∀ o2, (2 ≤ m → o2 = o1 + 1) → Row w2 g o2 r' := fun o2 ho2 => by
          rcases r' with _ | ⟨z, r''⟩
          · intro j hj; simp at hj
          · have := ho2 (by have := HN.out; simp at this; omega)
            subst this; exact HT1.out.tail
        have HR := Lib.hid HR1; clear HR1
        clear hcU hfU hstU hbU hy hUV
        go_wp2_with (refine wpList_cut1 _ rfl (.tmp 36) 22 rfl g o1 m c1 rfl elem22 size22 (by omega) (by omega) ?_; intro o2 ho2)
        go_meet
        exact ⟨o2, m - 1, c1 - 1, rfl, by rw [HSC.out]; exact HR.out o2 ho2, Lib.hid (by have := HN.out; simp at this; rw [HSC.out]; simp [offIf]; omega), by omega, by omega, by rw [HSO.out]; exact hstN⟩
    case rest =>
      obtain ⟨o2, m2, c2, rfl, hrow2, hlen2, hmc2, hm2, hst2⟩ := hcut
      have HSZ2 : Hid (∀ p ∈ offIf (isScr r) r, p.size ≤ maxLen) := Lib.hid (fun p hp => HRS.out.2 p (offIf_mem hp))
      have HSS : Hid ((rscr r).size ≤ maxLen) := Lib.hid HRS.out.1
      clear hst1 HT1 HRS
      generalize rscr r = S at *
      generalize offIf (isScr r) r = r2 at *
      have HROW := Lib.hid hrow2; clear hrow2
      go_upto_region 7 with fail
      go_cut [47] (fun s47 wx => s47 = .bool (isRR r2) ∧ T2 w w2 wx g gt x S ⟨#[]⟩ (.slice none 0 0))
      case first =>
        rcases r2 with _ | ⟨y, r'⟩
        · have hm0 := hlen2.out
          simp at hm0
          subst hm0
          go_wp2_with fail
          go_meet
          exact ⟨rfl, hst2⟩
        · have hy := (hst2.row HROW.out).head
          have hm0 : 0 < m2 := by have := hlen2.out; simp at this; omega
          by_cases h4 : y.size < 4
          · have hb : ((y.size : Int) < 4) := by omega
            have HF : Hid (isRR (y :: r') = true) := Lib.hid (decide_eq_true h4)
            clear h4
            go_wp2_with fail
            go_meet
            exact ⟨by rw [HF.out], hst2⟩
          · have hb : ¬ ((y.size : Int) < 4) := by omega
            have HF : Hid (isRR (y :: r') = false) := Lib.hid (decide_eq_false h4)
            clear h4
            go_wp2_with fail
            go_meet
            exact ⟨by rw [HF.out], hst2⟩
      case rest =>
        obtain ⟨rfl, hst3⟩ := hcut
        clear hst2
        go_upto_if 47 with fail
        go_cut [4] (fun s4 wx => ∃ o3 m3 c3 : Nat, s4 = .slice (some ⟨g, o3, none⟩) m3 c3 ∧ Row w2 g o3 (offIf (isRR r2) r2) ∧ Hid ((offIf (isRR r2) r2).length = m3) ∧ m3 ≤ c3 ∧ m3 ≤ m2 ∧ T2 w w2 wx g gt x S (rreg r2) (.slice none 0 0))
        case first =>
          cases hrc : isRR r2
          · have HRO : Hid (rreg r2 = ⟨#[]⟩) := Lib.hid (by
              rcases r2 with _ | ⟨y, r'⟩
              · rfl
              · have : ¬ y.size < 4 := by simpa [isRR] using hrc
                simp [rreg, this])
            have HRC := Lib.hid hrc; clear hrc
            go_wp2_with fail
            go_meet
            exact ⟨o2, m2, c2, rfl, by rw [HRC.out]; exact HROW.out, by rw [HRC.out]; exact hlen2, hmc2, by omega, by rw [HRO.out]; exact hst3⟩
          · obtain ⟨y, r', rfl⟩ : ∃ y r', r2 = y :: r' := by
              rcases r2 with _ | ⟨y, r'⟩
              · simp [isRR] at hrc
              · exact ⟨y, r', rfl⟩
            have HRO : Hid (rreg (y :: r') = upB y) := Lib.hid (by
              have : y.size < 4 := by simpa [isRR] using hrc
              simp [rreg, this])
            have HRC := Lib.hid hrc; clear hrc
            have hy := (hst3.row HROW.out).head
            have hc1 := hst3.at0 2
            have hf1 := hst3.tag.frozen 2
            simp at hc1
            have hsy := HSZ2.out y (by simp)
            have hm0 : 0 < m2 := by have := hlen2.out; simp at this; omega
            have HR1 : ∀ o3, (2 ≤ m2 → o3 = o2 + 1) → Row w2 g o3 r' := fun o3 ho3 => by
              rcases r' with _ | ⟨z, r''⟩
              · intro j hj; simp at hj
              · have := ho3 (by have := hlen2.out; simp at this; omega)
                subst this; exact HROW.out.tail
            have HR := Lib.hid HR1; clear HR1
            go_wp2_with (first
              | (go_at_call 16; refine (refUpper_any y _ hsy).mono ?_; rintro e wu ⟨rfl, hbU⟩; (have hstU : T2 w w2 wu g gt x S ⟨#[]⟩ (.slice none 0 0) := hst3.later hbU); (have hcU := hstU.at0 2); (have hfU := hstU.tag.frozen 2); simp at hcU)
              | (refine wpList_cut1 _ rfl (.tmp 53) 22 rfl g o2 m2 c2 rfl elem22 size22 (by omega) (by omega) ?_; intro o3 ho3))
            go_meet
            exact ⟨o3, m2 - 1, c2 - 1, rfl, by rw [HRC.out]; exact HR.out o3 ho3, Lib.hid (by have := hlen2.out; simp at this; rw [HRC.out]; simp [offIf]; omega), by omega, by omega, by rw [HRO.out]; exact hstU.setR (upB y)⟩
        case rest =>
          obtain ⟨o3, m3, c3, rfl, hrow3, hlen3, hmc3, hm3, hst4⟩ := hcut
          have HSZ3 : Hid (∀ p ∈ offIf (isRR r2) r2, p.size ≤ maxLen) := Lib.hid (fun p hp => HSZ2.out p (offIf_mem hp))
          have HRSZ : Hid ((rreg r2).size ≤ maxLen) := Lib.hid (rreg_size HSZ2.out)
          clear hst3 HROW HSZ2
          generalize rreg r2 = R at *
          generalize offIf (isRR r2) r2 = r3 at *
          obtain ⟨i0, hi0, hz0, hz1, hz2⟩ := info_parts str_info
          have hlen3' := hlen3.out
          subst hlen3'
          have hrd3 := row_reads (hst4.row hrow3) hst4.glt
          have hc3 := hst4.at0 3
          have hf3 := hst4.tag.frozen 3
          simp at hc3
          have hl3 := HLEN.out
          have hgt : gt < wc.heap.size := hst4.tag.lt
          go_upto_region 11 with (at_builtin; refine wpList_append_any _ rfl (.tmp 56) (.tmp 57) _ rfl wc.heap.size 9 i0 _ 1 16 Tryd.underlying22 hi0 hz0 hz1 hz2 rfl (by omega) (.slice none 0 0) 0 [] rfl (World.ownsRow_nil _ _ _ _) wc.heap.size (some ⟨g, o3, none⟩) r3.length c3 (sv r3) rfl hrd3 (sv_one r3) (by unfold maxLen; omega) (by omega) (Nat.le_refl _) ?_; intro v2 w4 hown2 hg2 hat2; (have hown3 : w4.ownsRow wc.heap.size 9 1 v2 r3.length (sv r3) := by simpa using hown2); obtain ⟨A3, c4, rfl, hc4, hrd4⟩ := own_form hown3; (have hst5 := hst4.grown hg2); (have hcA := hst5.at0 3); (have hfA := hst5.tag.frozen 3); simp at hcA)
          have hst6 := hst5.setV (.slice A3 r3.length c4)
          have hrd6 := Reads.of_own (own_far hown3 hgt (i := 3) (.slice A3 r3.length c4))
          have hfar : ∀ ad, A3 = some ad → ad.block ≠ w.heap.size := by
            rintro ad rfl
            rcases hown3.2 with ⟨h0, _⟩ | ⟨b, cap, cur, hv, hbg, _⟩
            · cases h0
            · injection hv with hA; injection hA with hA; subst hA
              have := hst4.glt; have := hst4.gg
              show b ≠ w.heap.size
              omega
          clear hown2 hown3 hg2 hat2 hrd4 hcA hfA hst5 hst4 hrow3 hrd3 hc3 hf3 hgt hi0 hz0 hz1 hz2 hlen2
          generalize w4.setCell ⟨gt, 3, none⟩ (.slice A3 r3.length c4) = W6 at *
          have hn3 : r3.length < maxLen := by unfold maxLen; omega
          have HFL := Lib.hid (refFault_any x S R A3 r3.length c4 r3 W6 hrd6 HSZ3.out hn3 hc4 HXS.out HRSZ.out)
          have hq0 := hst6.at0 0
          have hq1 := hst6.at0 1
          have hq2 := hst6.at0 2
          have hq3 := hst6.at0 3
          simp at hq0 hq1 hq2 hq3
          cases hk : P.fault (tagT x S R r3) with
          | succ k =>
            have hno := HSPEC.out.2 (by rw [hk]; omega)
            have HNO := Lib.hid hno; clear hno
            have HK := Lib.hid hk; clear hk HSPEC
            have hz : (((k + 1 : Nat) : Int) != 0) = true := by rw [bne_iff_ne]; omega
            generalize hzz : ((k + 1 : Nat) : Int) = z at *
            have HZ := Lib.hid hzz; clear hzz
            go_wp2_with (go_at_call 7; (with_reducible refine HFL.out.mono ?_); rintro e w7 ⟨rfl, hb7⟩; rw [HK.out, HZ.out]; (have hres := (hst6.later hb7).res); (have hbl := (hst6.later hb7).below); (have hc0 := hres.cell 0); (have hc1 := hres.cell 1); (have hc2 := hres.cell 2); (have hc3 := hres.cell 3); (have hf0 := hres.frozen 0); (have hf1 := hres.frozen 1); (have hf2 := hres.frozen 2); (have hf3 := hres.frozen 3); simp at hc0 hc1 hc2 hc3)
            change bodyPost _ _ _ _ _ (stored4 w w7 (.string ⟨#[]⟩) (.string ⟨#[]⟩) (.string ⟨#[]⟩) (.slice none 0 0))
            have hbl4 : Below w.heap.size w (stored4 w w7 (.string ⟨#[]⟩) (.string ⟨#[]⟩) (.string ⟨#[]⟩) (.slice none 0 0)) := (((hbl.setCell (Nat.le_refl _) _).setCell (Nat.le_refl _) _).setCell (Nat.le_refl _) _).setCell (Nat.le_refl _) _
            have hblk : Blk (stored4 w w7 (.string ⟨#[]⟩) (.string ⟨#[]⟩) (.string ⟨#[]⟩) (.slice none 0 0)) w.heap.size 24 #[.string ⟨#[]⟩, .string ⟨#[]⟩, .string ⟨#[]⟩, (.slice none 0 0)] := (((hres.set_ 0 _).set_ 1 _).set_ 2 _).set_ 3 _
            have hz0 := hblk.cell 0
            have hz1 := hblk.cell 1
            have hz2 := hblk.cell 2
            have hz3 := hblk.cell 3
            simp at hz0 hz1 hz2 hz3
            exact bodyPost_ret (v := .tuple #[zeroTag, .bool false]) (by simp [results, Tryd.results10, go_sem, zeroTag, hz0, hz1, hz2, hz3]) rfl ⟨hbl4, .inl ⟨HNO.out, rfl⟩⟩
          | zero =>
            have hkn := known (n := r3.length) hk rfl
            have HTT : Hid (∀ W : World, Reads W W.heap.size 1 A3 r3.length (sv r3) → Calls Tryd.prog 14 #[.agg #[.string x, .string S, .string R, .slice A3 r3.length c4]] W fun e w' => e = .returned (.string (textOf x S R r3)) ∧ Below W.heap.size W w') := Lib.hid (fun W hr => tagText_any x S R A3 r3.length c4 r3 W hr hkn.few hkn.short)
            have HLT : Hid (∀ W : World, Calls Tryd.prog 15 #[.string (textOf x S R r3)] W fun e w' => e = .returned (.string (lowB (textOf x S R r3))) ∧ Below W.heap.size W w') := Lib.hid (fun W => refLower_any _ W (by have := hkn.size; have := hkn.len; have := hkn.lens; unfold maxLen; omega))
            have HSP : Hid ((lowB (textOf x S R r3) = lowB s → parseB s = some ⟨x, S, R, r3⟩) ∧ (lowB (textOf x S R r3) ≠ lowB s → parseB s = none)) := Lib.hid ⟨fun h => HSPEC.out.1 ⟨hk, h⟩, fun h => HSPEC.out.2 fun h' => h h'.2⟩
            have HK := Lib.hid hk; clear hk HSPEC hkn
            generalize lowB (textOf x S R r3) = LT at *
            generalize textOf x S R r3 = T at *
            generalize lowB s = LS at *
            go_upto_if 70 with (first
              | (go_at_call 15; (with_reducible refine (HLT.out _).mono ?_); rintro e w9 ⟨rfl, hb9⟩; (have hst9 := hst8.later hb9))
              | (go_at_call 15; (with_reducible refine (HLOW.out _).mono ?_); rintro e wa ⟨rfl, hba⟩; (have hsta := hst9.later hba))
              | (go_at_call 14; (with_reducible refine (HTT.out _ ((hrd6.below hb7).more hb7.size)).mono ?_); rintro e w8 ⟨rfl, hb8⟩; (have hst8 := hst7.later hb8))
              | (go_at_call 7; (with_reducible refine HFL.out.mono ?_); rintro e w7 ⟨rfl, hb7⟩; rw [HK.out]; (have hst7 := hst6.later hb7); (have hp0 := hst7.at0 0); (have hp1 := hst7.at0 1); (have hp2 := hst7.at0 2); (have hp3 := hst7.at0 3); simp at hp0 hp1 hp2 hp3))
            have hres := hsta.res
            have hbl := hsta.below
            have hc0 := hres.cell 0
            have hc1 := hres.cell 1
            have hc2 := hres.cell 2
            have hc3 := hres.cell 3
            have hf0 := hres.frozen 0
            have hf1 := hres.frozen 1
            have hf2 := hres.frozen 2
            have hf3 := hres.frozen 3
            simp at hc0 hc1 hc2 hc3
            clear hq0 hq1 hq2 hq3 hp0 hp1 hp2 hp3 HTT HLT HFL HLOW
            by_cases he : LT = LS
            · have hsome := HSP.out.1 he
              have HSO := Lib.hid hsome; clear hsome HSP
              have hb : (!LT.toList == LS.toList) = false := by rw [str_beq]; simp [he]
              rw [hb]
              clear he hb
              have ha0 := hsta.at0 0
              have ha1 := hsta.at0 1
              have ha2 := hsta.at0 2
              have ha3 := hsta.at0 3
              simp at ha0 ha1 ha2 ha3
              have hba7 := (hb8.trans (hb9.mono hb8.size)).trans (hba.mono (by have := hb8.size; have := hb9.size; omega))
              have hrda := (hrd6.below (hb7.trans (hba7.mono hb7.size))).more (by have := hb7.size; have := hba7.size; omega)
              clear hst6 hst7 hst8 hst9 hb7 hb8 hb9 hba
              go_wp2_with fail
              change bodyPost _ _ _ _ _ (stored4 w wa (.string x) (.string S) (.string R) (.slice A3 r3.length c4))
              have hbl4 : Below w.heap.size w (stored4 w wa (.string x) (.string S) (.string R) (.slice A3 r3.length c4)) := (((hbl.setCell (Nat.le_refl _) _).setCell (Nat.le_refl _) _).setCell (Nat.le_refl _) _).setCell (Nat.le_refl _) _
              have hblk : Blk (stored4 w wa (.string x) (.string S) (.string R) (.slice A3 r3.length c4)) w.heap.size 24 #[.string x, .string S, .string R, (.slice A3 r3.length c4)] := (((hres.set_ 0 _).set_ 1 _).set_ 2 _).set_ 3 _
              have hz0 := hblk.cell 0
              have hz1 := hblk.cell 1
              have hz2 := hblk.cell 2
              have hz3 := hblk.cell 3
              simp at hz0 hz1 hz2 hz3
              have hfin : Reads (stored4 w wa (.string x) (.string S) (.string R) (.slice A3 r3.length c4)) (stored4 w wa (.string x) (.string S) (.string R) (.slice A3 r3.length c4)).heap.size 1 A3 r3.length (sv r3) :=
                ((((hrda.far (p := ⟨w.heap.size, 0, none⟩) hfar _).far (p := ⟨w.heap.size, 1, none⟩) hfar _).far (p := ⟨w.heap.size, 2, none⟩) hfar _).far (p := ⟨w.heap.size, 3, none⟩) hfar _).more (by simp [stored4, World.setCell]; exact hba7.size)
              exact bodyPost_ret (v := .tuple #[.agg #[.string x, .string S, .string R, .slice A3 r3.length c4], .bool true]) (by simp [results, Tryd.results10, go_sem, hz0, hz1, hz2, hz3]) rfl ⟨hbl4, .inr ⟨⟨x, S, R, r3⟩, A3, r3.length, c4, HSO.out, rfl, hfin⟩⟩
            · have hno := HSP.out.2 he
              have HNO := Lib.hid hno; clear hno HSP
              have hb : (!LT.toList == LS.toList) = true := by rw [str_beq]; simp [he]
              rw [hb]
              clear he hb hst6 hst7 hst8 hst9 hb7 hb8 hb9 hba
              go_wp2_with fail
              change bodyPost _ _ _ _ _ (stored4 w wa (.string ⟨#[]⟩) (.string ⟨#[]⟩) (.string ⟨#[]⟩) (.slice none 0 0))
              have hbl4 : Below w.heap.size w (stored4 w wa (.string ⟨#[]⟩) (.string ⟨#[]⟩) (.string ⟨#[]⟩) (.slice none 0 0)) := (((hbl.setCell (Nat.le_refl _) _).setCell (Nat.le_refl _) _).setCell (Nat.le_refl _) _).setCell (Nat.le_refl _) _
              have hblk : Blk (stored4 w wa (.string ⟨#[]⟩) (.string ⟨#[]⟩) (.string ⟨#[]⟩) (.slice none 0 0)) w.heap.size 24 #[.string ⟨#[]⟩, .string ⟨#[]⟩, .string ⟨#[]⟩, (.slice none 0 0)] := (((hres.set_ 0 _).set_ 1 _).set_ 2 _).set_ 3 _
              have hz0 := hblk.cell 0
              have hz1 := hblk.cell 1
              have hz2 := hblk.cell 2
              have hz3 := hblk.cell 3
              simp at hz0 hz1 hz2 hz3
              exact bodyPost_ret (v := .tuple #[zeroTag, .bool false]) (by simp [results, Tryd.results10, go_sem, zeroTag, hz0, hz1, hz2, hz3]) rfl ⟨hbl4, .inl ⟨HNO.out, rfl⟩⟩
end Go.Proofs.YtmildcdcfnccaaaDoor
