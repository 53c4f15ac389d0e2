/- The program's assign: it gives each part its place by its length, in the case that is usual there; what lay in memory stays as it was. -/
import Derived.Test.YtdckmekfggigjaaDoorLower
import Derived.Test.YtdckmekfggigjaaDoorText
import Derived.Deep.RegionHeld3
import Derived.Deep.DrawnRows
import Derived.Deep.DeepCutAuto
import Derived.Deep.AppendLies
namespace Go.Proofs.YtdckmekfggigjaaDoor
open Go.RowKit

def loB (p : ByteArray) : ByteArray := ⟨(p.data.toList.map P.lowc).toArray⟩
def upB (p : ByteArray) : ByteArray := ⟨(p.data.toList.map P.uppc).toArray⟩
theorem loB_size (p : ByteArray) : (loB p).size = p.size := by unfold loB; show (List.map P.lowc p.data.toList).toArray.size = p.data.size; simp
theorem upB_size (p : ByteArray) : (upB p).size = p.size := by unfold upB; show (List.map P.uppc p.data.toList).toArray.size = p.data.size; simp
def isScr : List ByteArray → Bool
  | [] => false
  | x :: _ => decide (x.size = 4)
def isReg : List ByteArray → Bool
  | [] => false
  | x :: _ => decide (x.size = 2) || decide (x.size = 3)
def scrOf (r : List ByteArray) : ByteArray := match r with
  | [] => ⟨#[]⟩
  | x :: _ => if x.size = 4 then upB (x.extract 0 1) ++ loB (x.extract 1 x.size) else ⟨#[]⟩
def regOf (r : List ByteArray) : ByteArray := match r with
  | [] => ⟨#[]⟩
  | x :: _ => if isReg [x] then upB x else ⟨#[]⟩
def offIf (b : Bool) (r : List ByteArray) : List ByteArray := if b then r.drop 1 else r

/-- the parts r lie in block g from o on -/
def Row (w : World) (g o : Nat) (r : List ByteArray) : Prop := ∀ j (h : j < r.length), w.cell? ⟨g, o + j, none⟩ = some (.string r[j])
theorem Row.head {w : World} {g o : Nat} {x : ByteArray} {r : List ByteArray} (h : Row w g o (x :: r)) : w.cell? ⟨g, o, none⟩ = some (.string x) := h 0 (by simp)
theorem Row.tail {w : World} {g o : Nat} {x : ByteArray} {r : List ByteArray} (h : Row w g o (x :: r)) : Row w g (o + 1) r := fun j hj => by
  have := h (j + 1) (by simpa using hj)
  rw [show o + 1 + j = o + (j + 1) from by omega]
  simpa using this

/-- 's[1:]' of a slice of texts -/
theorem wpList_cut1 {P : Program} (w : World) {ops : Array Oper} {rest : List Oper} {o : Oper} {a : Act} {Q : Exit → Act → World → Prop}
    (hg : o.guard = none) (x : Operand) (t : TypeId) (hop : o.op = Op.slice t x (some (.const (.int .i64 1))) none none) (g o1 n c : Nat) (hx : a.eval x = .slice (some ⟨g, o1, none⟩) n c)
    (ht : P.underlying t = some (.slice (P.elem t))) (hsz : ∀ w, (sizeOf (P.elem t)).run P w = .ok 1 w) (hn : 1 ≤ n) (hc : n ≤ c)
    (hK : ∀ o2, (2 ≤ n → o2 = o1 + 1) → wpList P ops Q rest (a.put o.dst (.slice (some ⟨g, o2, none⟩) (n - 1) (c - 1))) w) :
    wpList P ops Q (o :: rest) a w := by
  refine wpList_plain hg fun K' hK' => ?_
  have hrun : (Instr.sliceAt t (.slice (some ⟨g, o1, none⟩) n c) (some (.int .i64 1)) none none).run P w = .ok (.slice (some ⟨g, if c = 1 then o1 else o1 + 1, none⟩) (n - 1) (c - 1)) w := by
    rw [run_sliceAt_slice w t _ _ _ _ ht, run_slice_l w t (some ⟨g, o1, none⟩) n c ht .i64 1 (by omega) (by omega), hsz]
    unfold sliced
    by_cases h1 : c = 1
    · simp [h1, Result.andThen]
    · simp [h1, Result.andThen, Addr.add]
  have he : a.eval (.const (.int .i64 1)) = .int .i64 1 := rfl
  unfold Oper.wp
  simp [execOp, hop, hx, he, hrun, Result.andThen]
  exact hK' _ _ (hK (if c = 1 then o1 else o1 + 1) (fun h2 => by rw [if_neg (by omega)]))
theorem elem22 : Tryd.prog.underlying 27 = some (.slice (Tryd.prog.elem 27)) := by kernel_rfl
theorem size22 (w : World) : (sizeOf (Tryd.prog.elem 27)).run Tryd.prog w = .ok 1 w := by kernel_rfl

/-- where the walk stands: block gt is the tag so far, the result's block is as it was made, what lay below is as it was -/
structure St (w wx : World) (gt : Nat) (L S R : ByteArray) (v : Value) : Prop where
  tag : Blk wx gt 29 #[.string L, .string S, .string R, v]
  res : Blk wx w.heap.size 29 #[.string ⟨#[]⟩, .string ⟨#[]⟩, .string ⟨#[]⟩, .slice none 0 0]
  below : Below w.heap.size w wx
  lt : w.heap.size < gt

theorem St.row {w wx : World} {gt : Nat} {L S R : ByteArray} {v : Value} (h : St w wx gt L S R v) {g o : Nat} {r : List ByteArray} (hg : g < w.heap.size) (hr : Row w g o r) : Row wx g o r := fun j hj =>
  (h.below.cell (p := ⟨g, o + j, none⟩) hg).trans (hr j hj)
theorem St.later {w wx wy : World} {gt : Nat} {L S R : ByteArray} {v : Value} (h : St w wx gt L S R v) (hb : Below wx.heap.size wx wy) : St w wy gt L S R v :=
  ⟨h.tag.below hb h.tag.lt, h.res.below hb h.res.lt, h.below.trans (hb.mono h.below.size), h.lt⟩
theorem St.at0 {w wx : World} {gt : Nat} {L S R : ByteArray} {v : Value} (h : St w wx gt L S R v) (i : Nat) : wx.cell? ⟨gt, i, none⟩ = (#[.string L, .string S, .string R, v] : Array Value)[i]? := h.tag.cell i
theorem keepW {w wx : World} {gt g o : Nat} {L S R : ByteArray} {v y : Value} (hg : g < w.heap.size) (h0 : w.cell? ⟨g, o, none⟩ = some y) (h : St w wx gt L S R v) : wx.cell? ⟨g, o, none⟩ = some y :=
  (h.below.cell (p := ⟨g, o, none⟩) hg).trans h0
theorem St.drew {w wx : World} {gt : Nat} {L S R : ByteArray} {v : Value} (h : St w wx gt L S R v) : St w wx.drew gt L S R v := ⟨h.tag.drew, h.res.drew, h.below.drew, h.lt⟩
theorem St.alloc {w wx : World} {gt : Nat} {L S R : ByteArray} {v : Value} (h : St w wx gt L S R v) (o : Obj) : St w (wx.alloc o) gt L S R v := ⟨h.tag.alloc o, h.res.alloc o, h.below.alloc h.below.size o, h.lt⟩
theorem St.grown {w wx wy : World} {gt base : Nat} {L S R : ByteArray} {v : Value} {row : Option Nat} (h : St w wx gt L S R v) (hg : wx.grownBy wy row) (hr : ∀ b, row = some b → base ≤ b) (hgt : gt < base) : St w wy gt L S R v :=
  ⟨h.tag.grown hg (fun e => by have := hr _ e.symm; omega), h.res.grown hg (fun e => by have := hr _ e.symm; have := h.lt; omega), h.below.grown hg h.below.size (fun b hb => by have := hr _ hb; have := h.lt; omega), h.lt⟩
theorem St.setV {w wx : World} {gt : Nat} {L S R : ByteArray} {v : Value} (h : St w wx gt L S R v) (u : Value) : St w (wx.setCell ⟨gt, 3, none⟩ u) gt L S R u :=
  ⟨h.tag.set_ 3 _, h.res.far (by simp; have := h.lt; omega) _, h.below.setCell (by simp; have := h.lt; omega) _, h.lt⟩
theorem own_below {w wx : World} {base : Nat} {t : TypeId} {v : Value} {n : Nat} {xs : List Value} (h : w.ownsRow base t 1 v n xs) (hb : Below w.heap.size w wx) : wx.ownsRow base t 1 v n xs := by
  refine ⟨h.1, ?_⟩
  rcases h.2 with hn | ⟨g, cap, cur, rfl, hg, hgg, rest⟩
  · exact .inl hn
  · exact .inr ⟨g, cap, cur, rfl, hg, (hb.block g (Array.getElem?_eq_some_iff.1 hgg).1).trans hgg, rest⟩
theorem own_far {w : World} {base : Nat} {t : TypeId} {v : Value} {n gt i : Nat} {xs : List Value} (h : w.ownsRow base t 1 v n xs) (hgt : gt < base) (u : Value) : (w.setCell ⟨gt, i, none⟩ u).ownsRow base t 1 v n xs := by
  refine ⟨h.1, ?_⟩
  rcases h.2 with hn | ⟨g, cap, cur, rfl, hg, hgg, rest⟩
  · exact .inl hn
  · exact .inr ⟨g, cap, cur, rfl, hg, (Below.heap_setCell w ⟨gt, i, none⟩ u g (by simp; omega)).trans hgg, rest⟩
theorem reads_one (w : World) (x : Value) (t : TypeId) : Reads (w.alloc (.cells #[x] t)) (w.heap.size + 1) 1 (some ⟨w.heap.size, 0, none⟩) 1 [x] :=
  ⟨by simp, fun _ => ⟨_, rfl, by simp, cell_one_new w x t⟩⟩
theorem St.setS {w wx : World} {gt : Nat} {L S R : ByteArray} {v : Value} (h : St w wx gt L S R v) (X : ByteArray) : St w (wx.setCell ⟨gt, 1, none⟩ (.string X)) gt L X R v :=
  ⟨h.tag.set_ 1 _, h.res.far (by simp; have := h.lt; omega) _, h.below.setCell (by simp; have := h.lt; omega) _, h.lt⟩
theorem St.setR {w wx : World} {gt : Nat} {L S R : ByteArray} {v : Value} (h : St w wx gt L S R v) (X : ByteArray) : St w (wx.setCell ⟨gt, 2, none⟩ (.string X)) gt L S X v :=
  ⟨h.tag.set_ 2 _, h.res.far (by simp; have := h.lt; omega) _, h.below.setCell (by simp; have := h.lt; omega) _, h.lt⟩
theorem scr_nil : isScr [] = false := rfl
theorem scr_four {y : ByteArray} {r : List ByteArray} (h : y.size = 4) : isScr (y :: r) = true := by simp [isScr, h]
theorem scr_not {y : ByteArray} {r : List ByteArray} (h : y.size ≠ 4) : isScr (y :: r) = false := by simp [isScr, h]

theorem reg_no {r : List ByteArray} (h : isReg r = false) : regOf r = ⟨#[]⟩ := by
  rcases r with _ | ⟨y, r'⟩
  · rfl
  · have h' : isReg [y] = false := h
    simp [regOf, h']
theorem reg_yes {y : ByteArray} {r : List ByteArray} (h : isReg (y :: r) = true) : regOf (y :: r) = upB y := by
  have h' : isReg [y] = true := h
  simp [regOf, h']
def AsgDef (r : List ByteArray) (S : ByteArray) (r2 : List ByteArray) : Prop := S = scrOf r ∧ r2 = offIf (isScr r) r

def AsgDef2 (r2 : List ByteArray) (R : ByteArray) (r3 : List ByteArray) : Prop := R = regOf r2 ∧ r3 = offIf (isReg r2) r2
/-- behind k rounds: the tag's variants are the first k parts in small letters -/
def LoopAt (w W3 wr : World) (gt : Nat) (L S R : ByteArray) (k : Nat) (vs : List ByteArray) : Prop :=
  ∃ v, St w wr gt L S R v ∧ wr.ownsRow W3.heap.size 9 1 v k (sv (vs.map loB)) ∧ W3.heap.size ≤ wr.heap.size

/-- the tag that is handed back: language, script, region, variants -/
def AssignPost (w : World) (x : ByteArray) (r : List ByteArray) (e : Ending) (w' : World) : Prop :=
  ∃ (S R : ByteArray) (r2 r3 : List ByteArray) (A : Option Addr) (n c : Nat), e = .returned (.agg #[.string (loB x), .string S, .string R, .slice A n c]) ∧ AsgDef r S r2 ∧ AsgDef2 r2 R r3 ∧ r3.length = n ∧
    Reads w' w'.heap.size 1 A n (sv (r3.map loB)) ∧ (∀ ad, A = some ad → w.heap.size ≤ ad.block) ∧ Below w.heap.size w w'
/-- the tag is stored into the result -/
def stored4 (w wr : World) (a b c d : Value) : World := (((wr.setCell ⟨w.heap.size, 0, none⟩ a).setCell ⟨w.heap.size, 1, none⟩ b).setCell ⟨w.heap.size, 2, none⟩ c).setCell ⟨w.heap.size, 3, none⟩ d
theorem stored4_blk {w wr : World} {gt : Nat} {L S R : ByteArray} {v : Value} (h : St w wr gt L S R v) (a b c d : Value) : Blk (stored4 w wr a b c d) w.heap.size 29 #[a, b, c, d] :=
  (((h.res.set_ 0 a).set_ 1 b).set_ 2 c).set_ 3 d
theorem AssignPost_of {w wr : World} {gt base n c : Nat} {A : Option Addr} {x S R : ByteArray} {r r2 r3 : List ByteArray} (h : St w wr gt (loB x) S R (.slice A n c)) (hr : wr.ownsRow base 9 1 (.slice A n c) n (sv (r3.map loB))) (hb : w.heap.size < base)
    (h1 : AsgDef r S r2) (h2 : AsgDef2 r2 R r3) (h3 : r3.length = n) :
    AssignPost w x r (.returned (.agg #[.string (loB x), .string S, .string R, .slice A n c])) (stored4 w wr (.string (loB x)) (.string S) (.string R) (.slice A n c)) := by
  refine ⟨S, R, r2, r3, A, n, c, rfl, h1, h2, h3, Reads.of_own (base := base) (c := c) (e := 9) ?_, ?_, ?_⟩
  · exact own_far (own_far (own_far (own_far hr hb _) hb _) hb _) hb _
  · rintro ad rfl
    rcases hr.2 with ⟨h0, _⟩ | ⟨g, cap, cur, hv, hbg, _⟩
    · cases h0
    · injection hv with hA; injection hA with hA; subst hA; exact Nat.le_trans (Nat.le_of_lt hb) hbg
  · exact (((h.below.setCell (Nat.le_refl _) _).setCell (Nat.le_refl _) _).setCell (Nat.le_refl _) _).setCell (Nat.le_refl _) _

set_option maxHeartbeats 2000000 in
set_option maxRecDepth 100000 in
theorem assign_any (g m c : Nat) (x : ByteArray) (r : List ByteArray) (w : World) (hg : g < w.heap.size) (h : Row w g 0 (x :: r)) (hn : r.length = m) (hn2 : m < 6) (hc : m + 1 ≤ c) (hc2 : c ≤ 7) (hsz : ∀ p ∈ x :: r, p.size ≤ maxLen) :
    Calls Tryd.prog 38 #[.slice (some ⟨g, 0, none⟩) (m + 1) c] w (AssignPost w x r) := by
  have hx := h.head
  have ht := h.tail
  have hs0 := hsz x (by simp)
  have HSZ := Lib.hid hsz; clear hsz
  have HN := Lib.hid hn
  have HT := Lib.hid ht; clear ht h hn
  go_enter Tryd.func38, Tryd.ntmps38
  go_upto_region 3 with (first
    | (go_at_call 51; refine (lower_any x _ hs0).mono ?_; rintro e w1 ⟨rfl, hb1⟩)
    | (refine wpList_cut1 _ rfl (.tmp 12) 27 rfl g 0 (m + 1) c rfl elem22 size22 (by omega) hc ?_; intro o1 ho1))
  have hst : St w (w1.alloc (.cells #[.string ⟨(x.data.toList.map P.lowc).toArray⟩, .string ⟨#[]⟩, .string ⟨#[]⟩, .slice none 0 0] 29)) w1.heap.size (loB x) ⟨#[]⟩ ⟨#[]⟩ (.slice none 0 0) := by
    have hlt : w.heap.size < w1.heap.size := by have := hb1.size; simp at this; omega
    refine ⟨Blk.new _ _ _, ?_, ?_, hlt⟩
    · exact ((Blk.new w 29 _).below hb1 (by simp)).alloc _
    · exact (((Below.refl w.heap.size w).alloc (Nat.le_refl _) _).trans (hb1.mono (by simp))).alloc (by omega) _
  have HT1 : Hid (Row w g o1 r) := Lib.hid (by
    rcases r with _ | ⟨y, r'⟩
    · intro j hj; simp at hj
    · have := ho1 (by have := HN.out; simp at this; omega)
      subst this; exact HT.out)
  clear hx HT ho1 hb1
  have hm : m + 1 - 1 = m := by omega
  generalize w1.heap.size = gt at *
  generalize w1.alloc (.cells #[.string ⟨(x.data.toList.map P.lowc).toArray⟩, .string ⟨#[]⟩, .string ⟨#[]⟩, .slice none 0 0] 29) = W0 at *
  go_cut [23] (fun s23 wx => s23 = .bool (isScr r) ∧ St w wx gt (loB x) ⟨#[]⟩ ⟨#[]⟩ (.slice none 0 0))
  case first =>
    rcases r with _ | ⟨y, r'⟩
    · have hm0 := HN.out
      simp at hm0
      subst hm0
      go_wp2_with fail
      go_meet
      exact ⟨rfl, hst⟩
    · have hy := (hst.row hg HT1.out).head
      have hm0 : 0 < m := by have := HN.out; simp at this; omega
      by_cases h4 : y.size = 4
      · have hb : ((y.size : Int) == 4) = true := by simp [h4]
        have HF := Lib.hid (scr_four (r := r') h4)
        clear h4
        go_wp2_with fail
        go_meet
        exact ⟨by rw [HF.out], hst⟩
      · have hb : ((y.size : Int) == 4) = false := by simp; omega
        have HF := Lib.hid (scr_not (r := r') h4)
        clear h4
        go_wp2_with fail
        go_meet
        exact ⟨by rw [HF.out], hst⟩
  case rest =>
    obtain ⟨rfl, hst1⟩ := hcut
    clear hst
    go_upto_if 23 with fail
    go_cut [4] (fun s4 wx => ∃ o2 m2 c2 : Nat, s4 = .slice (some ⟨g, o2, none⟩) m2 c2 ∧ Row w g o2 (offIf (isScr r) r) ∧ Hid ((offIf (isScr r) r).length = m2) ∧ m2 ≤ c2 ∧ m2 ≤ m ∧ c2 ≤ 7 ∧ St w wx gt (loB x) (scrOf r) ⟨#[]⟩ (.slice none 0 0))
    case first =>
      cases hsc : isScr r
      · have hso : scrOf r = ⟨#[]⟩ := by
          rcases r with _ | ⟨y, r'⟩
          · rfl
          · have : y.size ≠ 4 := by simpa [isScr] using hsc
            simp [scrOf, this]
        have HSO := Lib.hid hso; clear hso
        have HSC := Lib.hid hsc; clear hsc
        go_wp2_with fail
        go_meet
        exact ⟨o1, m, c - 1, rfl, by rw [HSC.out]; exact HT1.out, by rw [HSC.out]; exact HN, by omega, by omega, by omega, by rw [HSO.out]; exact hst1⟩
      · obtain ⟨y, r', rfl⟩ : ∃ y r', r = y :: r' := by
          rcases r with _ | ⟨y, r'⟩
          · simp [isScr] at hsc
          · exact ⟨y, r', rfl⟩
        have hy4 : y.size = 4 := by simpa [isScr] using hsc
        have hy0 := HT1.out.head
        have HY0 := Lib.hid hy0; clear hy0
        have hy := (hst1.row hg HT1.out).head
        have hc1 := hst1.at0 1
        have hf1 := hst1.tag.frozen 1
        simp at hc1
        have hi1 : (1 : Int) ≤ (y.size : Int) := by omega
        have hsy := HSZ.out y (by simp)
        have hy5 : y.size ≤ 4 := by omega
        have HSC := Lib.hid hsc
        have HY4 := Lib.hid hy4; clear hy4 hsc hsy
        have hmn : 0 < m := by have := HN.out; simp at this; omega
        have hmi : (0 : Int) < (m : Int) := by omega
        have hso : scrOf (y :: r') = upB (y.extract 0 1) ++ loB (y.extract 1 y.size) := by simp [scrOf, HY4.out]
        have hus : (upB (y.extract 0 1)).size ≤ 4 := by rw [upB_size, ByteArray.size_extract]; omega
        have hls : (loB (y.extract 1 y.size)).size ≤ 4 := by rw [loB_size, ByteArray.size_extract]; omega
        have cU : ∀ W, Calls Tryd.prog 52 #[.string (y.extract 0 1)] W fun e w' => e = .returned (.string (upB (y.extract 0 1))) ∧ Below W.heap.size W w' := fun W => upper_any _ W (by unfold maxLen; simp; omega)
        have cL : ∀ W, Calls Tryd.prog 51 #[.string (y.extract 1 y.size)] W fun e w' => e = .returned (.string (loB (y.extract 1 y.size))) ∧ Below W.heap.size W w' := fun W => lower_any _ W (by unfold maxLen; simp; omega)
        have CU := Lib.hid cU; clear cU
        have CL := Lib.hid cL; clear cL
        have HSO := Lib.hid hso; clear hso
        generalize upB (y.extract 0 1) = U at *
        generalize loB (y.extract 1 y.size) = V at *
        have hUV : ¬ 9223372036854775807 < U.size + V.size := by omega
        clear hc1 hf1
        go_wp2_with fail
        go_region_held3 (fun w' => w'.cell? ⟨g, o1, none⟩ = some (.string y))
          (first | assumption | exact keepW hg HY0.out (by assumption) | exact keepW hg HY0.out (St.setS (by assumption) _))
          (first
            | (go_at_call 52; refine (CU.out _).mono ?_; rintro e wu ⟨rfl, hbU⟩; (have hstU : St w wu gt (loB x) ⟨#[]⟩ ⟨#[]⟩ (.slice none 0 0) := by first | exact St.later (by assumption) hbU | exact St.later (St.drew (by assumption)) hbU); (have hcU := hstU.at0 1); (have hfU := hstU.tag.frozen 1); simp at hcU)
            | (go_at_call 51; refine (CL.out _).mono ?_; rintro e wl ⟨rfl, hbL⟩; (have hstL : St w wl gt (loB x) ⟨#[]⟩ ⟨#[]⟩ (.slice none 0 0) := by first | exact St.later (by assumption) hbL | exact St.later (St.drew (by assumption)) hbL); (have hcL := hstL.at0 1); (have hfL := hstL.tag.frozen 1); simp at hcL))
        have hstN := hstL.setS (U ++ V)
        have HR1 : ∀ o2, (2 ≤ m → o2 = o1 + 1) → Row w g o2 r' := fun o2 ho2 => by
          rcases r' with _ | ⟨z, r''⟩
          · intro j hj; simp at hj
          · have := ho2 (by have := HN.out; simp at this; omega)
            subst this; exact HT1.out.tail
        have HR := Lib.hid HR1; clear HR1
        clear hcU hfU hcL hfL hstU hstL hbU hbL hy hUV
        go_wp2_with (refine wpList_cut1 _ rfl (.tmp 36) 27 rfl g o1 m (c - 1) rfl elem22 size22 (by omega) (by omega) ?_; intro o2 ho2)
        go_meet
        exact ⟨o2, m - 1, c - 2, rfl, by rw [HSC.out]; exact HR.out o2 ho2, Lib.hid (by have := HN.out; simp at this; rw [HSC.out]; simp [offIf]; omega), by omega, by omega, by omega, by rw [HSO.out]; exact hstN⟩
    case rest =>
      obtain ⟨o2, m2, c2, rfl, hrow2, hlen2, hmc2, hm2, hc27, hst2⟩ := hcut
      have HSZ2 : Hid (∀ p ∈ offIf (isScr r) r, p.size ≤ maxLen) := Lib.hid (fun p hp => by
        unfold offIf at hp
        split at hp
        · exact HSZ.out p (List.mem_cons_of_mem _ (List.mem_of_mem_drop hp))
        · exact HSZ.out p (List.mem_cons_of_mem _ hp))
      clear hst1 HT1
      have HDEF : Hid (AsgDef r (scrOf r) (offIf (isScr r) r)) := Lib.hid ⟨rfl, rfl⟩
      generalize scrOf r = S at *
      generalize offIf (isScr r) r = r2 at *
      have HROW := Lib.hid hrow2; clear hrow2
      go_upto_region 6 with fail
      go_cut [54] (fun s54 wx => s54 = .bool (isReg r2) ∧ St w wx gt (loB x) S ⟨#[]⟩ (.slice none 0 0))
      case first =>
        rcases r2 with _ | ⟨y, r'⟩
        · have hm0 := hlen2.out
          simp at hm0
          subst hm0
          go_wp2_with fail
          go_meet
          exact ⟨rfl, hst2⟩
        · have hy := (hst2.row hg HROW.out).head
          have hm0 : 0 < m2 := by have := hlen2.out; simp at this; omega
          by_cases h2 : y.size = 2
          · have hb : ((y.size : Int) == 2) = true := by simp [h2]
            have HF : Hid (isReg (y :: r') = true) := Lib.hid (by simp [isReg, h2])
            clear h2
            go_wp2_with fail
            go_meet
            exact ⟨by rw [HF.out], hst2⟩
          · have hb : ((y.size : Int) == 2) = false := by simp; omega
            by_cases h3 : y.size = 3
            · have hb3 : ((y.size : Int) == 3) = true := by simp [h3]
              have HF : Hid (isReg (y :: r') = true) := Lib.hid (by simp [isReg, h3])
              clear h2 h3
              go_wp2_with fail
              go_meet
              exact ⟨by rw [HF.out], hst2⟩
            · have hb3 : ((y.size : Int) == 3) = false := by simp; omega
              have HF : Hid (isReg (y :: r') = false) := Lib.hid (by simp [isReg, h2, h3])
              clear h2 h3
              go_wp2_with fail
              go_meet
              exact ⟨by rw [HF.out], hst2⟩
      case rest =>
        obtain ⟨rfl, hst3⟩ := hcut
        clear hst2
        go_upto_if 54 with fail
        go_cut [4] (fun s4 wx => ∃ o3 m3 c3 : Nat, s4 = .slice (some ⟨g, o3, none⟩) m3 c3 ∧ Row w g o3 (offIf (isReg r2) r2) ∧ Hid ((offIf (isReg r2) r2).length = m3) ∧ m3 ≤ c3 ∧ m3 ≤ m2 ∧ St w wx gt (loB x) S (regOf r2) (.slice none 0 0))
        case first =>
          cases hrc : isReg r2
          · have HRO : Hid (regOf r2 = ⟨#[]⟩) := Lib.hid (reg_no hrc)
            have HRC := Lib.hid hrc; clear hrc
            go_wp2_with fail
            go_meet
            exact ⟨o2, m2, c2, rfl, by rw [HRC.out]; exact HROW.out, by rw [HRC.out]; exact hlen2, hmc2, by omega, by rw [HRO.out]; exact hst3⟩
          · obtain ⟨y, r', rfl⟩ : ∃ y r', r2 = y :: r' := by
              rcases r2 with _ | ⟨y, r'⟩
              · simp [isReg] at hrc
              · exact ⟨y, r', rfl⟩
            have HRO : Hid (regOf (y :: r') = upB y) := Lib.hid (reg_yes hrc)
            have HRC := Lib.hid hrc; clear hrc
            have hy := (hst3.row hg HROW.out).head
            have hc1 := hst3.at0 2
            have hf1 := hst3.tag.frozen 2
            simp at hc1
            have hsy := HSZ2.out y (by simp)
            have hm0 : 0 < m2 := by have := hlen2.out; simp at this; omega
            have HR1 : ∀ o3, (2 ≤ m2 → o3 = o2 + 1) → Row w g o3 r' := fun o3 ho3 => by
              rcases r' with _ | ⟨z, r''⟩
              · intro j hj; simp at hj
              · have := ho3 (by have := hlen2.out; simp at this; omega)
                subst this; exact HROW.out.tail
            have HR := Lib.hid HR1; clear HR1
            go_wp2_with (first
              | (go_at_call 52; refine (upper_any y _ hsy).mono ?_; rintro e wu ⟨rfl, hbU⟩; (have hstU : St w wu gt (loB x) S ⟨#[]⟩ (.slice none 0 0) := hst3.later hbU); (have hcU := hstU.at0 2); (have hfU := hstU.tag.frozen 2); simp at hcU)
              | (refine wpList_cut1 _ rfl (.tmp 60) 27 rfl g o2 m2 c2 rfl elem22 size22 (by omega) (by omega) ?_; intro o3 ho3))
            go_meet
            exact ⟨o3, m2 - 1, c2 - 1, rfl, by rw [HRC.out]; exact HR.out o3 ho3, Lib.hid (by have := hlen2.out; simp at this; rw [HRC.out]; simp [offIf]; omega), by omega, by omega, by rw [HRO.out]; exact hstU.setR (upB y)⟩
        case rest =>
          obtain ⟨o3, m3, c3, rfl, hrow3, hlen3, hmc3, hm3, hst4⟩ := hcut
          have HSZ3 : Hid (∀ p ∈ offIf (isReg r2) r2, p.size ≤ maxLen) := Lib.hid (fun p hp => by
            unfold offIf at hp
            split at hp
            · exact HSZ2.out p (List.mem_of_mem_drop hp)
            · exact HSZ2.out p hp)
          clear hst3 HROW
          have HDEF2 : Hid (AsgDef2 r2 (regOf r2) (offIf (isReg r2) r2)) := Lib.hid ⟨rfl, rfl⟩
          generalize regOf r2 = R at *
          generalize offIf (isReg r2) r2 = r3 at *
          have HROW3 := Lib.hid hrow3; clear hrow3
          have hgt : gt < wc.heap.size := hst4.tag.lt
          obtain ⟨i0, hi0, hz0, hz1, hz2⟩ := info_parts str_info
          go_wp2_with fail
          go_loopw [64] (fun i wr => ∃ k : Nat, k ≤ m3 ∧ i = .int .i64 k ∧ LoopAt w wc wr gt (loB x) S R k (r3.take k)) (fun i _ => m3 - (intOf i).toNat)
          case atStart => exact ⟨0, Nat.zero_le _, rfl, .slice none 0 0, hst4, World.ownsRow_nil _ _ _ _, Nat.le_refl _⟩
          case round =>
            obtain ⟨k, hk, rfl, v, hst, hown, hsz⟩ := hrel
            by_cases hlt : k < m3
            · have hkl : k < r3.length := by rw [hlen3.out]; exact hlt
              have hp := (hst.row hg HROW3.out) k hkl
              have hsp := HSZ3.out _ (List.getElem_mem hkl)
              have htk : r3.take (k + 1) = r3.take k ++ [r3[k]] := List.take_succ_eq_append_getElem hkl
              have HTK := Lib.hid htk; clear htk
              generalize r3[k] = p at *
              have hc3 := hst.at0 3
              have hf3 := hst.tag.frozen 3
              simp at hc3
              have cL : ∀ W, Calls Tryd.prog 51 #[.string p] W fun e w' => e = .returned (.string (loB p)) ∧ Below W.heap.size W w' := fun W => lower_any p W hsp
              have CL := Lib.hid cL; clear cL
              have hk6 : k + 1 ≤ 100 := by omega
              have hgr : gt < wr.heap.size := hst.tag.lt
              have hrowb : ∀ b, v.ownBlock = some b → wc.heap.size ≤ b := fun b hb => (hown.lt b hb).1
              go_wp2_with fail
              go_region_law (first
                | (refine step_append_any _ (by rfl) (.tmp 69) (.tmp 72) 27 (by rfl) wc.heap.size 9 i0 _ 1 16 Tryd.underlying27 hi0 hz0 hz1 hz2 rfl (by omega) v k (sv ((r3.take k).map loB)) (by rfl) (hownL.alloc _) (wl.heap.size + 1) (some ⟨wl.heap.size, 0, none⟩) 1 1 [.string (loB p)] (by rfl) (reads_one _ _ _) (sv_one [loB p]) (by unfold maxLen; omega) (by omega) (by simp; omega) ?_; intro v2 w2 hown2 hg2 hat2; obtain ⟨A2, cc2, rfl, hcc2, hrd2⟩ := own_form hown2; (have hstA := St.grown (hstL.alloc (.cells #[.string (loB p)] 9)) hg2 hrowb hgt); (have hcA := hstA.at0 3); (have hfA := hstA.tag.frozen 3); simp at hcA)
                | (go_simp; go_at_call 51; refine (CL.out _).mono ?_; rintro e wl ⟨rfl, hbL⟩; (have hstL : St w wl gt (loB x) S R v := hst.drew.later hbL); (have hownL := own_below hown.drew hbL); (have hszL : wr.heap.size ≤ wl.heap.size := hbL.size); (have hcL := hstL.at0 3); (have hfL := hstL.tag.frozen 3); simp at hcL; (have hlL := hstL.tag.lt)))
              all_goals
                have hloop : LoopAt w wc (w2.setCell ⟨gt, 3, none⟩ (.slice A2 (k + 1) cc2)) gt (loB x) S R (k + 1) (r3.take (k + 1)) :=
                  ⟨_, hstA.setV _, own_far (by rw [HTK.out, List.map_append, List.map_singleton, sv_snoc]; exact hown2) hgt _, by have := hg2.size; simp at this; simp [World.setCell]; omega⟩
                have HLOOP := Lib.hid hloop
                clear hloop hcA hfA hstA hown2 hg2 hat2 hcL hfL hstL hownL hrd2
                go_wp2_with fail
                go_roundw
                case rel => exact ⟨k + 1, by omega, by go_num, HLOOP.out⟩
                case measure => simp [intOf]; omega
            · have hkm : k = m3 := by omega
              subst hkm
              have htk : r3.take k = r3 := List.take_of_length_le (by rw [hlen3.out]; omega)
              rw [htk] at hown
              obtain ⟨A3, cc3, rfl, hcc3, hrd3⟩ := own_form hown
              have hv0 := hst.at0 0
              have hv1 := hst.at0 1
              have hv2 := hst.at0 2
              have hv3 := hst.at0 3
              have hw0 := hst.res.cell 0
              have hw1 := hst.res.cell 1
              have hw2 := hst.res.cell 2
              have hw3 := hst.res.cell 3
              have hf0 := hst.res.frozen 0
              have hf1 := hst.res.frozen 1
              have hf2 := hst.res.frozen 2
              have hf3 := hst.res.frozen 3
              have hfin := AssignPost_of (c := cc3) hst hown (by have := hst4.lt; omega) HDEF.out HDEF2.out hlen3.out
              have hblk := stored4_blk hst (.string (loB x)) (.string S) (.string R) (.slice A3 k cc3)
              have hz0 := hblk.cell 0
              have hz1 := hblk.cell 1
              have hz2 := hblk.cell 2
              have hz3 := hblk.cell 3
              have HFIN := Lib.hid hfin
              have HZ : Hid ((stored4 w wr (.string (loB x)) (.string S) (.string R) (.slice A3 k cc3)).cell? ⟨w.heap.size, 0, none⟩ = some (.string (loB x)) ∧ (stored4 w wr (.string (loB x)) (.string S) (.string R) (.slice A3 k cc3)).cell? ⟨w.heap.size, 1, none⟩ = some (.string S) ∧
                (stored4 w wr (.string (loB x)) (.string S) (.string R) (.slice A3 k cc3)).cell? ⟨w.heap.size, 2, none⟩ = some (.string R) ∧ (stored4 w wr (.string (loB x)) (.string S) (.string R) (.slice A3 k cc3)).cell? ⟨w.heap.size, 3, none⟩ = some (.slice A3 k cc3)) := Lib.hid ⟨hz0, hz1, hz2, hz3⟩
              simp at hv0 hv1 hv2 hv3 hw0 hw1 hw2 hw3
              clear hfin htk hown hrd3 hst hblk hz0 hz1 hz2 hz3
              go_wp2_with fail
              change bodyPost _ _ _ _ _ (stored4 w wr (.string (loB x)) (.string S) (.string R) (.slice A3 k cc3))
              obtain ⟨hz0, hz1, hz2, hz3⟩ := HZ.out
              exact bodyPost_ret (v := .agg #[.string (loB x), .string S, .string R, .slice A3 k cc3]) (by simp [results, Tryd.results38, go_sem, hz0, hz1, hz2, hz3]) rfl HFIN.out
end Go.Proofs.YtdckmekfggigjaaDoor
