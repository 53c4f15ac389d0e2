/- The law TagShort, walked: it returns true for every two tags; what lay in memory stays as it was. -/
import Derived.Test.YtmildcdcfnccaaaDoorShort
namespace Go.Proofs.YtmildcdcfnccaaaDoor
open Go.RowKit
attribute [local go_sem ↓] Go.wp_at_zero Go.wp_at_succ

def TrueBelow (w : World) (e : Ending) (w' : World) : Prop := e = .returned (.bool true) ∧ Below w.heap.size w w'

/-- two boxes of tags that lie above what lay in memory -/
structure Two (w wx : World) (cs cs' : Array Value) : Prop where
  below : Below w.heap.size w wx
  one : Blk wx w.heap.size 24 cs
  two : Blk wx (w.heap.size + 1) 24 cs'
section
variable {w wx wy : World} {cs cs' : Array Value}
theorem Two.start (w : World) (cs cs' : Array Value) : Two w ((w.alloc (.cells cs 24)).alloc (.cells cs' 24)) cs cs' :=
  ⟨((Below.refl _ _).alloc (Nat.le_refl _) _).alloc (by simp) _, (Blk.new _ _ _).alloc _, by have := Blk.new (w.alloc (.cells cs 24)) 24 cs'; simpa using this⟩
theorem Two.sz (h : Two w wx cs cs') : w.heap.size + 1 < wx.heap.size := h.two.lt
theorem Two.later (h : Two w wx cs cs') (hb : Below wx.heap.size wx wy) : Two w wy cs cs' :=
  ⟨h.below.trans (hb.mono (by have := h.sz; omega)), h.one.below hb (by have := h.sz; omega), h.two.below hb (by have := h.sz; omega)⟩
theorem Two.alloc (h : Two w wx cs cs') (o : Obj) : Two w (wx.alloc o) cs cs' := ⟨h.below.alloc (by have := h.sz; omega) _, h.one.alloc _, h.two.alloc _⟩
theorem Two.drewN (h : Two w wx cs cs') (d : Nat) : Two w (wx.drewN d) cs cs' := ⟨below_drewN h.below d, h.one, h.two⟩
theorem Two.drew (h : Two w wx cs cs') : Two w wx.drew cs cs' := ⟨below_drewN h.below 1, h.one, h.two⟩
theorem Two.all {a0 a1 a2 a3 b0 b1 b2 b3 : Value} (h : Two w wx #[a0, a1, a2, a3] #[b0, b1, b2, b3]) : Two w wx #[a0, a1, a2, a3] #[b0, b1, b2, b3] ∧
    wx.cell? ⟨w.heap.size, 0, none⟩ = some a0 ∧ wx.cell? ⟨w.heap.size, 1, none⟩ = some a1 ∧ wx.cell? ⟨w.heap.size, 2, none⟩ = some a2 ∧ wx.cell? ⟨w.heap.size, 3, none⟩ = some a3 ∧
    wx.cell? ⟨w.heap.size + 1, 0, none⟩ = some b0 ∧ wx.cell? ⟨w.heap.size + 1, 1, none⟩ = some b1 ∧ wx.cell? ⟨w.heap.size + 1, 2, none⟩ = some b2 ∧ wx.cell? ⟨w.heap.size + 1, 3, none⟩ = some b3 :=
  ⟨h, h.one.cell 0, h.one.cell 1, h.one.cell 2, h.one.cell 3, h.two.cell 0, h.two.cell 1, h.two.cell 2, h.two.cell 3⟩
theorem Two.cells {a0 a1 a2 a3 b0 b1 b2 b3 : Value} (h : Two w wx #[a0, a1, a2, a3] #[b0, b1, b2, b3]) :
    wx.cell? ⟨w.heap.size, 0, none⟩ = some a0 ∧ wx.cell? ⟨w.heap.size, 1, none⟩ = some a1 ∧ wx.cell? ⟨w.heap.size, 2, none⟩ = some a2 ∧ wx.cell? ⟨w.heap.size, 3, none⟩ = some a3 ∧
    wx.cell? ⟨w.heap.size + 1, 0, none⟩ = some b0 ∧ wx.cell? ⟨w.heap.size + 1, 1, none⟩ = some b1 ∧ wx.cell? ⟨w.heap.size + 1, 2, none⟩ = some b2 ∧ wx.cell? ⟨w.heap.size + 1, 3, none⟩ = some b3 :=
  ⟨h.one.cell 0, h.one.cell 1, h.one.cell 2, h.one.cell 3, h.two.cell 0, h.two.cell 1, h.two.cell 2, h.two.cell 3⟩
end

abbrev TextCall (L S R : ByteArray) (A : Option Addr) (n c : Nat) (T : ByteArray) (W : World) : Prop :=
  Calls Tryd.prog 13 #[.agg #[.string L, .string S, .string R, .slice A n c]] W fun e w' => e = .returned (.string T) ∧ Below W.heap.size W w'
/-- what is known of a right tag -/
structure Known (L S R : ByteArray) (n : Nat) (vs : List ByteArray) : Prop where
  few : Few n
  short : Short (Lib.join (bs (partsOf L S R vs)) [45])
  size : (textOf L S R vs).size + 1 = (partsOf L S R vs).length + Lib.lens (bs (partsOf L S R vs))
  len : (partsOf L S R vs).length ≤ 6
  lens : Lib.lens (bs (partsOf L S R vs)) ≤ 1000
theorem known {L S R : ByteArray} {n : Nat} {vs : List ByteArray} (h : P.fault (tagT L S R vs) = 0) (hl : vs.length = n) : Known L S R n vs := by
  obtain ⟨q, r, h1, h2, h3, h4⟩ := parts_pos h
  have hf := (P.right_of h).few
  have hvl : (tagT L S R vs).vars.length = vs.length := by simp [tagT, bs]
  have hpl : (partsOf L S R vs).length = r.length + 1 := by
    have : (bs (partsOf L S R vs)).length = r.length + 1 := by rw [h1]; rfl
    simpa [bs] using this
  have hsz : (Lib.join (bs (partsOf L S R vs)) [45]).length = (textOf L S R vs).size := by unfold textOf; rw [← size_list]
  refine ⟨by unfold Few; omega, by unfold Short; omega, by rw [h1]; omega, by omega, by rw [h1]; exact h4⟩

set_option maxHeartbeats 4000000 in
set_option maxRecDepth 100000 in
theorem short_any (L S R : ByteArray) (A : Option Addr) (n c : Nat) (vs : List ByteArray) (L' S' R' : ByteArray) (A' : Option Addr) (n' c' : Nat) (vs' : List ByteArray) (w : World)
    (h : Reads w w.heap.size 1 A n (sv vs)) (h' : Reads w w.heap.size 1 A' n' (sv vs')) (hn : n < maxLen) (hn' : n' < maxLen)
    (hL : L.size ≤ maxLen) (hS : S.size ≤ maxLen) (hR : R.size ≤ maxLen) (hvs : ∀ v ∈ vs, v.size ≤ maxLen) (hL' : L'.size ≤ maxLen) (hS' : S'.size ≤ maxLen) (hR' : R'.size ≤ maxLen) (hvs' : ∀ v ∈ vs', v.size ≤ maxLen)
    (mx : Int) (hmx : w.cell? ⟨1, 0, none⟩ = some (.int .i64 mx)) :
    Calls Tryd.prog 5 #[.agg #[.string L, .string S, .string R, .slice A n c], .agg #[.string L', .string S', .string R', .slice A' n' c']] w (TrueBelow w) := by
  have hlt0 := World.block_lt_of_cell? w _ hmx
  have hmx1 : ((w.alloc (.cells #[.string L, .string S, .string R, .slice A n c] 24)).alloc (.cells #[.string L', .string S', .string R', .slice A' n' c'] 24)).cell? ⟨1, 0, none⟩ = some (.int .i64 mx) := by
    rw [World.cell?_alloc_lt _ _ _ (by simp; omega), World.cell?_alloc_lt _ _ _ hlt0]; exact hmx
  have hpar := parse_some parse_enus _ mx hmx1 (by decide)
  have HP := Lib.hid hpar; clear hpar hmx hmx1 hlt0
  have hT0 := Two.start w #[.string L, .string S, .string R, .slice A n c] #[.string L', .string S', .string R', .slice A' n' c']
  have ra : ∀ W, Below w.heap.size w W → Reads W W.heap.size 1 A n (sv vs) := fun W hb => (h.below hb).more hb.size
  have rb : ∀ W, Below w.heap.size w W → Reads W W.heap.size 1 A' n' (sv vs') := fun W hb => (h'.below hb).more hb.size
  have CA := Lib.hid (fun (W : World) (hb : Below w.heap.size w W) => check_any L S R A n c vs W (ra W hb) hvs hn hL hS hR)
  have CB := Lib.hid (fun (W : World) (hb : Below w.heap.size w W) => check_any L' S' R' A' n' c' vs' W (rb W hb) hvs' hn' hL' hS' hR')
  have CTA : Hid (Few n → Short (Lib.join (bs (partsOf L S R vs)) [45]) → ∀ (W : World), Below w.heap.size w W → TextCall L S R A n c (textOf L S R vs) W) := Lib.hid (fun hf hj W hb => text_any L S R A n c vs W (ra W hb) hf hj)
  have CTB : Hid (Few n' → Short (Lib.join (bs (partsOf L' S' R' vs')) [45]) → ∀ (W : World), Below w.heap.size w W → TextCall L' S' R' A' n' c' (textOf L' S' R' vs') W) := Lib.hid (fun hf hj W hb => text_any L' S' R' A' n' c' vs' W (rb W hb) hf hj)
  have CS := Lib.hid (fun (W : World) (hb : Below w.heap.size w W) => sameTag_any L S R A n c vs L' S' R' A' n' c' vs' W (ra W hb) (rb W hb) hn hn')
  have hlen := (ra w (Below.refl _ _)).len
  have hlen' := (rb w (Below.refl _ _)).len
  have KA := Lib.hid (fun (h : P.fault (tagT L S R vs) = 0) => known h hlen)
  have KB := Lib.hid (fun (h : P.fault (tagT L' S' R' vs') = 0) => known h hlen')
  clear hlen hlen'
  have CP := Lib.hid (fun (hf : Few n) (W : World) (hb : Below w.heap.size w W) => parts_any L S R A n c vs W (ra W hb) hf)
  have RA := Lib.hid ra; have RB := Lib.hid rb; clear ra rb h h'
  cases hfa : P.fault (tagT L S R vs) with
  | succ ka =>
    have HFA := Lib.hid hfa; clear hfa
    go_enter Tryd.func5, Tryd.ntmps5
    go_wp2_with (first
      | (go_at_call 11; refine HP.out.mono ?_; rintro e w1 ⟨A1, n1, c1, rfl, hrd1, hb1⟩; unfold enus; (have hT1 := (hT0.later hb1).alloc (.cells #[.string ⟨#[101, 110]⟩, .string ⟨#[]⟩, .string ⟨#[85, 83]⟩, .slice A1 n1 c1] 24)); obtain ⟨hc0, hc1, hc2, hc3, hd0, hd1, hd2, hd3⟩ := hT1.cells)
      | (go_at_call 9; refine (CA.out _ hT1.below).mono ?_; rintro e w2 ⟨rfl, hb2⟩; rw [HFA.out, errV_succ]))
    go_ret
    exact ⟨rfl, hT1.below.trans (hb2.mono hT1.below.size)⟩
  | zero =>
    have hfa0 := hfa
    have HFA := Lib.hid hfa; clear hfa
    cases hfb : P.fault (tagT L' S' R' vs') with
    | succ kb =>
      have HFB := Lib.hid hfb; clear hfb
      go_enter Tryd.func5, Tryd.ntmps5
      go_wp2_with (first
        | (go_at_call 9; refine (CB.out _ hT2.below).mono ?_; rintro e w3 ⟨rfl, hb3⟩; rw [HFB.out, errV_succ])
        | (go_at_call 9; refine (CA.out _ hT1.below).mono ?_; rintro e w2 ⟨rfl, hb2⟩; rw [HFA.out, errV_zero]; (have hT2 := hT1.later hb2); obtain ⟨he0, he1, he2, he3, hg0, hg1, hg2, hg3⟩ := hT2.cells)
        | (go_at_call 11; refine HP.out.mono ?_; rintro e w1 ⟨A1, n1, c1, rfl, hrd1, hb1⟩; unfold enus; (have hT1 := (hT0.later hb1).alloc (.cells #[.string ⟨#[101, 110]⟩, .string ⟨#[]⟩, .string ⟨#[85, 83]⟩, .slice A1 n1 c1] 24)); obtain ⟨hc0, hc1, hc2, hc3, hd0, hd1, hd2, hd3⟩ := hT1.cells))
      go_ret
      exact ⟨rfl, hT2.below.trans (hb3.mono hT2.below.size)⟩
    | zero =>
      have hsm := same_iff hfa0 hfb
      have ka := KA.out hfa0
      have kb := KB.out hfb
      have HFB := Lib.hid hfb; clear hfb
      have hk1 := ka.size
      have hk2 := ka.len
      have hk3 := ka.lens
      have HTA := Lib.hid (CTA.out ka.few ka.short)
      have HTB := Lib.hid (CTB.out kb.few kb.short)
      have HPA := Lib.hid (CP.out ka.few)
      clear CTA CTB KA KB CP ka kb
      generalize partsOf L S R vs = ps at *
      generalize textOf L S R vs = TA at *
      generalize textOf L' S' R' vs' = TB at *
      generalize SameTag L S R vs L' S' R' vs' = sm at *
      have HSM := Lib.hid hsm; clear hsm
      have hall : Lib.lens (bs ps) = Lib.lens ((bs ps).take ps.length) := by rw [List.take_of_length_le (by simp [bs])]
      have HALL := Lib.hid hall; clear hall
      go_enter Tryd.func5, Tryd.ntmps5
      go_wp2_with (first
        | (go_at_call 17; refine (HPA.out _ hT4.below).mono ?_; rintro e w5 ⟨v5, rfl, hown5, hb5⟩; obtain ⟨A5, c5, rfl, hc5, hrd5⟩ := own_form hown5)
        | (go_at_call 12; refine (CS.out _ hT3.below).mono ?_; rintro e w4 ⟨rfl, hb4⟩; (have hT4 := hT3.later hb4); obtain ⟨hj0, hj1, hj2, hj3, -, -, -, -⟩ := hT4.cells)
        | (go_at_call 9; refine (CB.out _ hT2.below).mono ?_; rintro e w3 ⟨rfl, hb3⟩; rw [HFB.out, errV_zero]; (have hT3 := hT2.later hb3); obtain ⟨hh0, hh1, hh2, hh3, hi0, hi1, hi2, hi3⟩ := hT3.cells)
        | (go_at_call 9; refine (CA.out _ hT1.below).mono ?_; rintro e w2 ⟨rfl, hb2⟩; rw [HFA.out, errV_zero]; (have hT2 := hT1.later hb2); obtain ⟨he0, he1, he2, he3, hg0, hg1, hg2, hg3⟩ := hT2.cells)
        | (go_at_call 11; refine HP.out.mono ?_; rintro e w1 ⟨A1, n1, c1, rfl, hrd1, hb1⟩; unfold enus; (have hT1 := (hT0.later hb1).alloc (.cells #[.string ⟨#[101, 110]⟩, .string ⟨#[]⟩, .string ⟨#[85, 83]⟩, .slice A1 n1 c1] 24)); obtain ⟨hc0, hc1, hc2, hc3, hd0, hd1, hd2, hd3⟩ := hT1.cells))
      have hT5 := hT4.later hb5
      clear hc0 hc1 hc2 hc3 hd0 hd1 hd2 hd3 he0 he1 he2 he3 hg0 hg1 hg2 hg3 hh0 hh1 hh2 hh3 hi0 hi1 hi2 hi3 hj0 hj1 hj2 hj3 hT0 hT1 hT2 hT3 hT4 hown5 hrd1 hb1 hb2 hb3 hb4 hb5 HP HPA CA CB CS RA RB HFA HFB
      go_loop [9, 10] (fun v i => ∃ k : Nat, k ≤ ps.length ∧ i = .int .i64 k ∧ v = .int .i64 ((ps.length : Int) - 1 + (Lib.lens ((bs ps).take k) : Nat))) (fun _ i => ps.length - (intOf i).toNat)
      case atStart => exact ⟨0, Nat.zero_le _, rfl, by simp [Lib.lens]⟩
      case round =>
        obtain ⟨k, hk, rfl, rfl⟩ := hrel
        by_cases hlt : k < ps.length
        · obtain ⟨ad, rfl, hadb, hcell⟩ := hrd5.str hlt hlt
          have hls := Lib.lens_take_succ (bs ps) k ps[k].data.toList (by simp [bs, hlt])
          have hle := Lib.lens_take_le (bs ps) (k + 1)
          rw [size_list] at hls
          go_wp2_with fail
          go_round
          case rel => exact ⟨k + 1, by omega, by go_num, by rw [hls]; congr 1; omega⟩
          case measure => simp [intOf]; omega
        · have hkk : k = ps.length := by omega
          subst hkk
          rw [← HALL.out]
          have hts : (ps.length : Int) - 1 + (Lib.lens (bs ps) : Nat) = (TA.size : Int) := by omega
          rw [hts]
          obtain ⟨hc0, hc1, hc2, hc3, hd0, hd1, hd2, hd3⟩ := hT5.cells
          have hsm := HSM.out
          clear hk1 hk2 hk3 hrd5 hts HSM HALL
          cases sm
          all_goals
            go_wp2_with fail
            go_region_held3 (fun wx => Two w wx #[.string L, .string S, .string R, .slice A n c] #[.string L', .string S', .string R', .slice A' n' c'] ∧
                wx.cell? ⟨w.heap.size, 0, none⟩ = some (.string L) ∧ wx.cell? ⟨w.heap.size, 1, none⟩ = some (.string S) ∧ wx.cell? ⟨w.heap.size, 2, none⟩ = some (.string R) ∧ wx.cell? ⟨w.heap.size, 3, none⟩ = some (.slice A n c) ∧
                wx.cell? ⟨w.heap.size + 1, 0, none⟩ = some (.string L') ∧ wx.cell? ⟨w.heap.size + 1, 1, none⟩ = some (.string S') ∧ wx.cell? ⟨w.heap.size + 1, 2, none⟩ = some (.string R') ∧ wx.cell? ⟨w.heap.size + 1, 3, none⟩ = some (.slice A' n' c'))
              (first | exact Two.all (by assumption) | exact Two.all (Two.drew (by assumption)))
              (first
                | (go_at_call 13; with_reducible refine (HTA.out _ ?_).mono ?_; (first | exact Two.below (by assumption) | exact Two.below (Two.drew (by assumption))); rintro e wy ⟨rfl, hby⟩; (have hTy : Two w wy #[.string L, .string S, .string R, .slice A n c] #[.string L', .string S', .string R', .slice A' n' c'] := by first | exact Two.later (by assumption) hby | exact Two.later (Two.drew (by assumption)) hby))
                | (go_at_call 13; with_reducible refine (HTB.out _ ?_).mono ?_; (first | exact Two.below (by assumption) | exact Two.below (Two.drew (by assumption))); rintro e wz ⟨rfl, hbz⟩; (have hTz : Two w wz #[.string L, .string S, .string R, .slice A n c] #[.string L', .string S', .string R', .slice A' n' c'] := by first | exact Two.later (by assumption) hbz | exact Two.later (Two.drew (by assumption)) hbz)))
            go_wp2_with fail
            go_ret
            exact ⟨rfl, Two.below (by first | assumption | exact Two.drew (by assumption))⟩
end Go.Proofs.YtmildcdcfnccaaaDoor
