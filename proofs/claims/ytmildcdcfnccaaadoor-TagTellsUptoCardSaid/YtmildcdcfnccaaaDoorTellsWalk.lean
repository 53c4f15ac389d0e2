/- The law TagTells, walked: it returns true for every tag and every text that is not too long; what lay in memory stays as it was. -/
import Derived.Test.YtmildcdcfnccaaaDoorTagOfWalk
import Derived.Test.YtmildcdcfnccaaaDoorTold
import Derived.Test.YtmildcdcfnccaaaDoorBackWalk
namespace Go.Proofs.YtmildcdcfnccaaaDoor
open Go.RowKit
attribute [local go_sem ↓] Go.wp_at_zero Go.wp_at_succ

/-- the box of the tag that was handed in, and what lay in memory -/
structure HeldT (w wx : World) (L S R : ByteArray) (A : Option Addr) (n c : Nat) (vs : List ByteArray) : Prop where
  at_ : TagAt wx w.heap.size L S R A n c vs
  below : Below w.heap.size w wx
section
variable {w wx wy : World} {L S R : ByteArray} {A : Option Addr} {n c : Nat} {vs : List ByteArray}
theorem HeldT.later (h : HeldT w wx L S R A n c vs) (hb : Below wx.heap.size wx wy) : HeldT w wy L S R A n c vs := ⟨h.at_.later hb, up_call h.below hb⟩
theorem HeldT.alloc (h : HeldT w wx L S R A n c vs) (o : Obj) : HeldT w (wx.alloc o) L S R A n c vs := ⟨h.at_.alloc o, up_alloc h.below o⟩
theorem HeldT.drew (h : HeldT w wx L S R A n c vs) : HeldT w wx.drew L S R A n c vs := ⟨h.at_.drew, h.below.drew⟩
theorem HeldT.all (h : HeldT w wx L S R A n c vs) : HeldT w wx L S R A n c vs ∧ wx.cell? ⟨w.heap.size, 0, none⟩ = some (.string L) ∧ wx.cell? ⟨w.heap.size, 1, none⟩ = some (.string S) ∧ wx.cell? ⟨w.heap.size, 2, none⟩ = some (.string R) ∧ wx.cell? ⟨w.heap.size, 3, none⟩ = some (.slice A n c) :=
  ⟨h, h.at_.cells⟩
end
theorem tagOf_none {s : ByteArray} (h : parseB s = none) (w : World) (hs : s.size ≤ 1048576) :
    Calls Tryd.prog 10 #[.string s] w fun e w' => e = .returned (.tuple #[zeroTag, .bool false]) ∧ Below w.heap.size w w' :=
  (tagOf_any s w hs).mono fun e w' ⟨hb, h'⟩ => by
    rcases h' with ⟨_, he⟩ | ⟨t', A, n, c, h1, _⟩
    · exact ⟨he, hb⟩
    · rw [h] at h1; cases h1
theorem tagOf_some {s : ByteArray} {t : TagB} (h : parseB s = some t) (w : World) (hs : s.size ≤ 1048576) :
    Calls Tryd.prog 10 #[.string s] w fun e w' => ∃ (A : Option Addr) (n c : Nat), e = .returned (.tuple #[.agg #[.string t.lang, .string t.script, .string t.region, .slice A n c], .bool true]) ∧ Reads w' w'.heap.size 1 A n (sv t.vars) ∧ Below w.heap.size w w' :=
  (tagOf_any s w hs).mono fun e w' ⟨hb, h'⟩ => by
    rcases h' with ⟨h1, _⟩ | ⟨t', A, n, c, h1, he, hr⟩
    · rw [h] at h1; cases h1
    · rw [h] at h1; injection h1 with h1; subst h1
      exact ⟨A, n, c, he, hr, hb⟩

set_option maxHeartbeats 8000000 in
set_option maxRecDepth 100000 in
theorem tells_any (L S R : ByteArray) (A : Option Addr) (n c : Nat) (vs : List ByteArray) (s : ByteArray) (w : World)
    (h : Reads w w.heap.size 1 A n (sv vs)) (hn : n < maxLen) (hnc : n ≤ c)
    (hL : L.size ≤ maxLen) (hS : S.size ≤ maxLen) (hR : R.size ≤ maxLen) (hvs : ∀ v ∈ vs, v.size ≤ maxLen) (hs : s.size ≤ 1048576)
    (mx : Int) (hmx : w.cell? ⟨1, 0, none⟩ = some (.int .i64 mx)) (hE : ErrType w) :
    Calls Tryd.prog 3 #[.agg #[.string L, .string S, .string R, .slice A n c], .string s] w (TrueBelow w) := by
  have hlt0 := World.block_lt_of_cell? w _ hmx
  have hlt1 := World.block_lt_of_cell? w _ hE
  have hm : ∀ W, Below w.heap.size w W → W.cell? ⟨1, 0, none⟩ = some (.int .i64 mx) := fun W hb => by rw [hb.cell hlt0]; exact hmx
  have he : ∀ W, Below w.heap.size w W → ErrType W := fun W hb => by unfold ErrType; rw [hb.cell hlt1]; exact hE
  have ra : ∀ W, Below w.heap.size w W → Reads W W.heap.size 1 A n (sv vs) := fun W hb => (h.below hb).more hb.size
  have hH0 : HeldT w (w.alloc (.cells (tagCs L S R A n c) 24)) L S R A n c vs := ⟨TagAt.new w h, up_alloc (Below.refl _ _) _⟩
  have CF := Lib.hid (fun (W : World) (hb : Below w.heap.size w W) => tagged_any W mx (hm W hb))
  have CC := Lib.hid (fun (W : World) (hb : Below w.heap.size w W) => check_any L S R A n c vs W (ra W hb) hvs hn hL hS hR)
  have CR := Lib.hid (fun (W : World) (hb : Below w.heap.size w W) => refFault_any L S R A n c vs W (ra W hb) hvs hn hnc hL hR)
  have CE := Lib.hid (fun (W : World) (hb : Below w.heap.size w W) => error_same (P.fault (tagT L S R vs)) W (he W hb))
  have CE0 : Hid (∀ (W : World), Below w.heap.size w W → Calls Tryd.prog 8 #[.nilIface, .int .i64 0] W (TrueBelow W)) := Lib.hid (fun W hb => error_same 0 W (he W hb))
  have CE3 : Hid (∀ (W : World), Below w.heap.size w W → Calls Tryd.prog 8 #[.iface 26 (.int .i64 3), .int .i64 3] W (TrueBelow W)) := Lib.hid (fun W hb => error_same 3 W (he W hb))
  have hvl := (ra w (Below.refl _ _)).len
  have KT : Hid (P.fault (tagT L S R vs) = 0 → (∀ W : World, Below w.heap.size w W → TextCall L S R A n c (textOf L S R vs) W) ∧
      ∀ W : World, Below w.heap.size w W → Calls Tryd.prog 14 #[.agg #[.string L, .string S, .string R, .slice A n c]] W fun e w' => e = .returned (.string (textOf L S R vs)) ∧ Below W.heap.size W w') := Lib.hid (fun hf => by
    have hk := known hf hvl
    exact ⟨fun W hb => text_any L S R A n c vs W (ra W hb) hk.few hk.short, fun W hb => tagText_any L S R A n c vs W (ra W hb) hk.few hk.short⟩)
  have HM := Lib.hid hm
  clear hmx hlt0 hlt1 hE hm he ra hvl h hvs hL hS hR hnc
  generalize P.fault (tagT L S R vs) = k at *
  generalize textOf L S R vs = T at *
  cases hp : parseB s with
  | none =>
    have CO := Lib.hid (fun (W : World) => tagOf_none hp W hs)
    have CP := Lib.hid (fun (W : World) (hb : Below w.heap.size w W) => parse_none hp W mx (HM.out W hb) (by omega))
    have CS : Hid (∀ W : World, Calls Tryd.prog 12 #[.agg #[.string ⟨#[]⟩, .string ⟨#[]⟩, .string ⟨#[]⟩, .slice none 0 0], .agg #[.string ⟨#[]⟩, .string ⟨#[]⟩, .string ⟨#[]⟩, .slice none 0 0]] W fun e w' => e = .returned (.bool true) ∧ Below W.heap.size W w') :=
      Lib.hid (fun W => by have := sameTag_any ⟨#[]⟩ ⟨#[]⟩ ⟨#[]⟩ none 0 0 [] ⟨#[]⟩ ⟨#[]⟩ ⟨#[]⟩ none 0 0 [] W Reads.none_ Reads.none_ (by decide) (by decide); rw [same_self] at this; exact this)
    clear hp
    go_enter Tryd.func3, Tryd.ntmps3
    go_upto_region 2 with (go_at_call 6; (with_reducible refine (CF.out _ hH0.below).mono ?_); rintro e w1 ⟨rfl, hb1⟩)
    have hH1 := hH0.later hb1
    obtain ⟨-, t0, t1, t2, t3⟩ := hH1.all
    clear hb1 hH0 CF
    go_upto_region 3 with (go_at_call 7; (with_reducible refine (CR.out _ hH1.below).mono ?_); rintro e w2 ⟨rfl, hb2⟩)
    have hH2 := hH1.later hb2
    clear t0 t1 t2 t3
    obtain ⟨-, t0, t1, t2, t3⟩ := hH2.all
    clear hb2 hH1 CR
    go_upto_region 4 with (first
      | (go_at_call 9; (with_reducible refine (CC.out _ hH2.below).mono ?_); rintro e w3 ⟨rfl, hb3⟩; (have hH3 := hH2.later hb3))
      | (go_at_call 8; (with_reducible refine (CE.out _ hH3.below).mono ?_); rintro e w4 ⟨rfl, hb4⟩; (have hH4 := hH3.later hb4)))
    clear t0 t1 t2 t3 hb3 hb4 hH2 hH3 CC CE
    go_upto_region 9 with (first
      | (go_at_call 11; (with_reducible refine (CP.out _ hH5.below).mono ?_); rintro e w6 ⟨rfl, hb6⟩; unfold zeroTag; (have hH6 := (hH5.later hb6).alloc (.cells #[.string ⟨#[]⟩, .string ⟨#[]⟩, .string ⟨#[]⟩, .slice none 0 0] 24)); (have hW6 := (hW5.later hb6).alloc (.cells #[.string ⟨#[]⟩, .string ⟨#[]⟩, .string ⟨#[]⟩, .slice none 0 0] 24)); (have hX6 := TagAt.new (L := ⟨#[]⟩) (S := ⟨#[]⟩) (R := ⟨#[]⟩) (A := none) (n := 0) (c := 0) (vs := []) w6 Reads.none_))
      | (go_at_call 10; (with_reducible refine (CO.out _).mono ?_); rintro e w5 ⟨rfl, hb5⟩; unfold zeroTag; (have hH5 := (hH4.later hb5).alloc (.cells #[.string ⟨#[]⟩, .string ⟨#[]⟩, .string ⟨#[]⟩, .slice none 0 0] 24)); (have hW5 := TagAt.new (L := ⟨#[]⟩) (S := ⟨#[]⟩) (R := ⟨#[]⟩) (A := none) (n := 0) (c := 0) (vs := []) w5 Reads.none_)))
    clear hH4 hH5 hW5 hb5 hb6 CO CP
    go_upto_region 10 with (go_at_call 8; (with_reducible refine (CE3.out _ hH6.below).mono ?_); rintro e w7 ⟨rfl, hb7⟩)
    have hH7 := hH6.later hb7
    have hW7 := hW6.later hb7
    have hX7 := hX6.later hb7
    obtain ⟨x0, x1, x2, x3⟩ := hX7.cells
    obtain ⟨y0, y1, y2, y3⟩ := hW7.cells
    clear hH6 hW6 hX6 hb7
    go_upto_region 11 with (go_at_call 12; (with_reducible refine (CS.out _).mono ?_); rintro e w8 ⟨rfl, hb8⟩)
    have hH9 := hH7.later hb8
    obtain ⟨-, t0, t1, t2, t3⟩ := hH9.all
    clear hH7 hW7 hX7 x0 x1 x2 x3 y0 y1 y2 y3 hb8 CS CE3 CE0
    rcases Nat.eq_zero_or_pos k with h0 | h0
    · subst h0
      obtain ⟨KX, KY⟩ := KT.out rfl
      have HX := Lib.hid KX; have HY := Lib.hid KY
      clear KX KY KT
      go_wp2_with fail
      go_region_held3 (fun wx => HeldT w wx L S R A n c vs ∧ wx.cell? ⟨w.heap.size, 0, none⟩ = some (.string L) ∧ wx.cell? ⟨w.heap.size, 1, none⟩ = some (.string S) ∧ wx.cell? ⟨w.heap.size, 2, none⟩ = some (.string R) ∧ wx.cell? ⟨w.heap.size, 3, none⟩ = some (.slice A n c))
        (first | exact HeldT.all (by assumption) | exact HeldT.all (HeldT.drew (by assumption)))
        (first
          | (go_at_call 13; (with_reducible refine (HX.out _ ?_).mono ?_); (first | exact HeldT.below (by assumption) | exact HeldT.below (HeldT.drew (by assumption))); rintro e wy ⟨rfl, hby⟩; (have hTy : HeldT w wy L S R A n c vs := by first | exact HeldT.later (by assumption) hby | exact HeldT.later (HeldT.drew (by assumption)) hby))
          | (go_at_call 14; (with_reducible refine (HY.out _ ?_).mono ?_); (first | exact HeldT.below (by assumption) | exact HeldT.below (HeldT.drew (by assumption))); rintro e wz ⟨rfl, hbz⟩; (have hTz : HeldT w wz L S R A n c vs := by first | exact HeldT.later (by assumption) hbz | exact HeldT.later (HeldT.drew (by assumption)) hbz)))
      all_goals
        go_wp2_with fail
        go_ret
        exact ⟨rfl, HeldT.below (by first | assumption | exact HeldT.drew (by assumption))⟩
    · have hz : ((k : Int) != 0) = true := by rw [bne_iff_ne]; omega
      clear KT
      go_wp2_with fail
      go_quiet (fail)
      go_wp2_with fail
      go_ret
      exact ⟨rfl, below_drewN hH9.below _⟩
  | some x =>
    obtain ⟨xL, xS, xR, xV⟩ := x
    have CO := Lib.hid (fun (W : World) => tagOf_some hp W hs)
    have CP := Lib.hid (fun (W : World) (hb : Below w.heap.size w W) => parse_some hp W mx (HM.out W hb) (by omega))
    have hfew : xV.length < maxLen := by
      have h1 : (tagT xL xS xR xV).vars.length ≤ 3 := (P.right_of (text_parse hp).1).few
      have h2 : (tagT xL xS xR xV).vars.length = xV.length := by simp [tagT, bs]
      unfold maxLen; omega
    have CS : Hid (∀ (W : World) (A1 : Option Addr) (n1 c1 : Nat) (A2 : Option Addr) (n2 c2 : Nat), Reads W W.heap.size 1 A1 n1 (sv xV) → Reads W W.heap.size 1 A2 n2 (sv xV) →
        Calls Tryd.prog 12 #[.agg #[.string xL, .string xS, .string xR, .slice A1 n1 c1], .agg #[.string xL, .string xS, .string xR, .slice A2 n2 c2]] W fun e w' => e = .returned (.bool true) ∧ Below W.heap.size W w') :=
      Lib.hid (fun W A1 n1 c1 A2 n2 c2 h1 h2 => by have := sameTag_any xL xS xR A1 n1 c1 xV xL xS xR A2 n2 c2 xV W h1 h2 (by have := h1.len; omega) (by have := h2.len; omega); rw [same_self] at this; exact this)
    clear hp hfew
    go_enter Tryd.func3, Tryd.ntmps3
    go_upto_region 2 with (go_at_call 6; (with_reducible refine (CF.out _ hH0.below).mono ?_); rintro e w1 ⟨rfl, hb1⟩)
    have hH1 := hH0.later hb1
    obtain ⟨-, t0, t1, t2, t3⟩ := hH1.all
    clear hb1 hH0 CF
    go_upto_region 3 with (go_at_call 7; (with_reducible refine (CR.out _ hH1.below).mono ?_); rintro e w2 ⟨rfl, hb2⟩)
    have hH2 := hH1.later hb2
    clear t0 t1 t2 t3
    obtain ⟨-, t0, t1, t2, t3⟩ := hH2.all
    clear hb2 hH1 CR
    go_upto_region 4 with (first
      | (go_at_call 9; (with_reducible refine (CC.out _ hH2.below).mono ?_); rintro e w3 ⟨rfl, hb3⟩; (have hH3 := hH2.later hb3))
      | (go_at_call 8; (with_reducible refine (CE.out _ hH3.below).mono ?_); rintro e w4 ⟨rfl, hb4⟩; (have hH4 := hH3.later hb4)))
    clear t0 t1 t2 t3 hb3 hb4 hH2 hH3 CC CE
    go_upto_region 9 with (first
      | (go_at_call 11; (with_reducible refine (CP.out _ hH5.below).mono ?_); rintro e w6 ⟨A6, n6, c6, rfl, hrd6, hb6⟩; (have hH6 := (hH5.later hb6).alloc (.cells (tagCs xL xS xR A6 n6 c6) 24)); (have hW6 := (hW5.later hb6).alloc (.cells (tagCs xL xS xR A6 n6 c6) 24)); (have hX6 := TagAt.new (L := xL) (S := xS) (R := xR) (c := c6) w6 hrd6))
      | (go_at_call 10; (with_reducible refine (CO.out _).mono ?_); rintro e w5 ⟨A5, n5, c5, rfl, hrd5, hb5⟩; (have hH5 := (hH4.later hb5).alloc (.cells (tagCs xL xS xR A5 n5 c5) 24)); (have hW5 := TagAt.new (L := xL) (S := xS) (R := xR) (c := c5) w5 hrd5)))
    clear hH4 hH5 hW5 hb5 hb6 hrd5 hrd6 CO CP
    go_upto_region 10 with (go_at_call 8; (with_reducible refine (CE0.out _ hH6.below).mono ?_); rintro e w7 ⟨rfl, hb7⟩)
    have hH7 := hH6.later hb7
    have hW7 := hW6.later hb7
    have hX7 := hX6.later hb7
    obtain ⟨x0, x1, x2, x3⟩ := hX7.cells
    obtain ⟨y0, y1, y2, y3⟩ := hW7.cells
    clear hH6 hW6 hX6 hb7
    go_upto_region 11 with (go_at_call 12; (with_reducible refine (CS.out _ _ _ _ _ _ _ hX7.reads hW7.reads).mono ?_); rintro e w8 ⟨rfl, hb8⟩)
    have hH9 := hH7.later hb8
    obtain ⟨-, t0, t1, t2, t3⟩ := hH9.all
    clear hH7 hW7 hX7 x0 x1 x2 x3 y0 y1 y2 y3 hb8 CS CE3 CE0
    rcases Nat.eq_zero_or_pos k with h0 | h0
    · subst h0
      obtain ⟨KX, KY⟩ := KT.out rfl
      have HX := Lib.hid KX; have HY := Lib.hid KY
      clear KX KY KT
      go_wp2_with fail
      go_region_held3 (fun wx => HeldT w wx L S R A n c vs ∧ wx.cell? ⟨w.heap.size, 0, none⟩ = some (.string L) ∧ wx.cell? ⟨w.heap.size, 1, none⟩ = some (.string S) ∧ wx.cell? ⟨w.heap.size, 2, none⟩ = some (.string R) ∧ wx.cell? ⟨w.heap.size, 3, none⟩ = some (.slice A n c))
        (first | exact HeldT.all (by assumption) | exact HeldT.all (HeldT.drew (by assumption)))
        (first
          | (go_at_call 13; (with_reducible refine (HX.out _ ?_).mono ?_); (first | exact HeldT.below (by assumption) | exact HeldT.below (HeldT.drew (by assumption))); rintro e wy ⟨rfl, hby⟩; (have hTy : HeldT w wy L S R A n c vs := by first | exact HeldT.later (by assumption) hby | exact HeldT.later (HeldT.drew (by assumption)) hby))
          | (go_at_call 14; (with_reducible refine (HY.out _ ?_).mono ?_); (first | exact HeldT.below (by assumption) | exact HeldT.below (HeldT.drew (by assumption))); rintro e wz ⟨rfl, hbz⟩; (have hTz : HeldT w wz L S R A n c vs := by first | exact HeldT.later (by assumption) hbz | exact HeldT.later (HeldT.drew (by assumption)) hbz)))
      all_goals
        go_wp2_with fail
        go_ret
        exact ⟨rfl, HeldT.below (by first | assumption | exact HeldT.drew (by assumption))⟩
    · have hz : ((k : Int) != 0) = true := by rw [bne_iff_ne]; omega
      clear KT
      go_wp2_with fail
      go_quiet (fail)
      go_wp2_with fail
      go_ret
      exact ⟨rfl, below_drewN hH9.below _⟩
end Go.Proofs.YtmildcdcfnccaaaDoor
