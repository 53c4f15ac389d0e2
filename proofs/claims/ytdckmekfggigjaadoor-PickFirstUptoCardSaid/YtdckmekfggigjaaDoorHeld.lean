/- Words for the walks of the laws on tags: a box that holds a tag; what Parse of a right tag's text is; that the fact 'tagged' holds. -/
import Derived.Test.YtdckmekfggigjaaDoorShortWalk
namespace Go.Proofs.YtdckmekfggigjaaDoor
open Go.RowKit
attribute [local go_sem ↓] Go.wp_at_zero Go.wp_at_succ

/-- the cells of a tag -/
abbrev tagCs (L S R : ByteArray) (A : Option Addr) (n c : Nat) : Array Value := #[.string L, .string S, .string R, .slice A n c]
/-- a box that holds a tag -/
structure TagAt (wx : World) (g : Nat) (L S R : ByteArray) (A : Option Addr) (n c : Nat) (vs : List ByteArray) : Prop where
  blk : Blk wx g 29 (tagCs L S R A n c)
  reads : Reads wx wx.heap.size 1 A n (sv vs)
section
variable {wx wy : World} {g : Nat} {L S R : ByteArray} {A : Option Addr} {n c : Nat} {vs : List ByteArray}
theorem TagAt.later (h : TagAt wx g L S R A n c vs) (hb : Below wx.heap.size wx wy) : TagAt wy g L S R A n c vs := ⟨h.blk.below hb h.blk.lt, (h.reads.below hb).more hb.size⟩
theorem TagAt.alloc (h : TagAt wx g L S R A n c vs) (o : Obj) : TagAt (wx.alloc o) g L S R A n c vs := ⟨h.blk.alloc o, (h.reads.alloc (Nat.le_refl _) o).more (by simp)⟩
theorem TagAt.drew (h : TagAt wx g L S R A n c vs) : TagAt wx.drew g L S R A n c vs := ⟨h.blk, h.reads⟩
theorem TagAt.drewN (h : TagAt wx g L S R A n c vs) (d : Nat) : TagAt (wx.drewN d) g L S R A n c vs := ⟨h.blk, h.reads⟩
theorem TagAt.new (wx : World) (h : Reads wx wx.heap.size 1 A n (sv vs)) : TagAt (wx.alloc (.cells (tagCs L S R A n c) 29)) wx.heap.size L S R A n c vs :=
  ⟨Blk.new _ _ _, (h.alloc (Nat.le_refl _) _).more (by simp)⟩
theorem TagAt.cells (h : TagAt wx g L S R A n c vs) : wx.cell? ⟨g, 0, none⟩ = some (.string L) ∧ wx.cell? ⟨g, 1, none⟩ = some (.string S) ∧ wx.cell? ⟨g, 2, none⟩ = some (.string R) ∧ wx.cell? ⟨g, 3, none⟩ = some (.slice A n c) :=
  ⟨h.blk.cell 0, h.blk.cell 1, h.blk.cell 2, h.blk.cell 3⟩
theorem up_alloc {w : World} (h : Below w.heap.size w wx) (o : Obj) : Below w.heap.size w (wx.alloc o) := h.alloc h.size o
theorem up_call {w : World} (h : Below w.heap.size w wx) (hb : Below wx.heap.size wx wy) : Below w.heap.size w wy := h.trans (hb.mono h.size)
end

/-- the letters of a text made small, made great -/
def lowB (s : ByteArray) : ByteArray := ⟨(s.data.toList.map P.lowc).toArray⟩
def uppB (s : ByteArray) : ByteArray := ⟨(s.data.toList.map P.uppc).toArray⟩
theorem lowB_data (s : ByteArray) : (lowB s).data.toList = P.lo s.data.toList := by simp [lowB, P.lo]
theorem uppB_data (s : ByteArray) : (uppB s).data.toList = P.up s.data.toList := by simp [uppB, P.up]
theorem lowB_size (s : ByteArray) : (lowB s).size = s.size := by rw [← size_list, lowB_data]; simp [P.lo]
theorem uppB_size (s : ByteArray) : (uppB s).size = s.size := by rw [← size_list, uppB_data]; simp [P.up]

/-- the box of the tag that was handed in, and what lay in memory -/
structure HeldT (w wx : World) (L S R : ByteArray) (A : Option Addr) (n c : Nat) (vs : List ByteArray) : Prop where
  at_ : TagAt wx w.heap.size L S R A n c vs
  below : Below w.heap.size w wx
section
variable {w wx wy : World} {L S R : ByteArray} {A : Option Addr} {n c : Nat} {vs : List ByteArray}
theorem HeldT.later (h : HeldT w wx L S R A n c vs) (hb : Below wx.heap.size wx wy) : HeldT w wy L S R A n c vs := ⟨h.at_.later hb, up_call h.below hb⟩
theorem HeldT.alloc (h : HeldT w wx L S R A n c vs) (o : Obj) : HeldT w (wx.alloc o) L S R A n c vs := ⟨h.at_.alloc o, up_alloc h.below o⟩
theorem HeldT.drew (h : HeldT w wx L S R A n c vs) : HeldT w wx.drew L S R A n c vs := ⟨h.at_.drew, h.below.drew⟩
theorem HeldT.all (h : HeldT w wx L S R A n c vs) : HeldT w wx L S R A n c vs ∧ wx.cell? ⟨w.heap.size, 0, none⟩ = some (.string L) ∧ wx.cell? ⟨w.heap.size, 1, none⟩ = some (.string S) ∧ wx.cell? ⟨w.heap.size, 2, none⟩ = some (.string R) ∧ wx.cell? ⟨w.heap.size, 3, none⟩ = some (.slice A n c) :=
  ⟨h, h.at_.cells⟩
end

theorem parse_text {L S R : ByteArray} {vs : List ByteArray} (h : P.fault (tagT L S R vs) = 0) {X : ByteArray} (e : P.lo X.data.toList = P.lo (textOf L S R vs).data.toList) : parseB X = some ⟨L, S, R, vs⟩ := by
  rw [text_plain] at e
  have h1 := P.parse_back h e
  have h2 := parse_data X
  rw [h1] at h2
  cases hx : parseB X with
  | none => rw [hx] at h2; cases h2
  | some t =>
    rw [hx] at h2
    simp only [Option.map_some, Option.some.injEq] at h2
    rw [plain_inj (t := t) (u := ⟨L, S, R, vs⟩) h2]
theorem text_parse {s : ByteArray} {t : TagB} (h : parseB s = some t) : P.fault (tagT t.lang t.script t.region t.vars) = 0 ∧ lowB (textOf t.lang t.script t.region t.vars) = lowB s := by
  have h2 := parse_data s
  rw [h] at h2
  obtain ⟨h3, h4⟩ := P.parse_sound (t := t.plain) (l := s.data.toList) h2.symm
  refine ⟨h3, ba_ext ?_⟩
  rw [lowB_data, lowB_data, text_plain]
  exact h4
theorem parse_none {s : ByteArray} (h : parseB s = none) (w : World) (hs : s.size ≤ 140737488355328) :
    Calls Tryd.prog 21 #[.string s] w fun e w' => e = .returned (.tuple #[zeroTag, .iface 24 (.int .i64 3)]) ∧ Below w.heap.size w w' :=
  (parse_any s w hs).mono fun e w' ⟨hb, h'⟩ => by
    rcases h' with ⟨_, he⟩ | ⟨t', A, n, c, h1, he, hr⟩
    · exact ⟨he, hb⟩
    · rw [h] at h1; cases h1

theorem same_self (L S R : ByteArray) (vs : List ByteArray) : SameTag L S R vs L S R vs = true := by simp [SameTag]
theorem parse_de : parseB ⟨#[68, 69, 45, 108, 97, 116, 110, 45, 97, 116]⟩ = some ⟨⟨#[100, 101]⟩, ⟨#[76, 97, 116, 110]⟩, ⟨#[65, 84]⟩, []⟩ := by kernel_rfl

set_option maxHeartbeats 1000000 in
theorem tagged_any (w : World) : Calls Tryd.prog 8 #[] w (TrueBelow w) := by
  have HP := Lib.hid (parse_some parse_de w (by decide))
  go_enter Tryd.func8, Tryd.ntmps8
  go_wp2_with (go_at_call 21; refine HP.out.mono ?_; rintro e w1 ⟨A1, n1, c1, rfl, hrd1, hb1⟩)
  go_ret
  exact ⟨rfl, up_alloc hb1 _⟩
end Go.Proofs.YtdckmekfggigjaaDoor
