/- strings.IndexAny at the two places of a pattern, of any text. -/
import Derived.Test.YtonbjfepckolnaaDoorNpScan
namespace Go.Proofs.YtonbjfepckolnaaDoor
namespace Np
open Go.RowKit Go.Maps D Ru

theorem rune_high (r : Int) (w : World) (h1 : 128 ≤ r) : Calls Tryd.prog 28 #[.string ⟨#[48, 35]⟩, .int .i32 r] w (Gives w (.int .i64 (-1))) := by
  by_cases h2 : r = 65533
  · subst h2; exact rune_wrong w
  · cases hv : Lib.validRune r
    · exact rune_invalid r w h1 h2 hv
    · exact rune_valid r w h1 h2 hv
/-- is it a place: what IndexRune says of an ASCII byte -/
def runeI (x : UInt8) : Int := Lib.indexByte [48, 35] x
theorem runeI_mark (x : UInt8) : mark x = decide (0 ≤ runeI x) := (mark_chars x).trans (Lib.contains_iff_indexByte [48, 35] x)
theorem rune_low (x : UInt8) (w : World) (h1 : x.toNat < 128) : Calls Tryd.prog 28 #[.string ⟨#[48, 35]⟩, .int .i32 x.toNat] w (Gives w (.int .i64 (runeI x))) := by
  refine (Tryd.strings_IndexRune_ascii ⟨#[48, 35]⟩ x.toNat w (by omega) (by omega)).mono fun e w' ⟨h1, h2⟩ => ?_
  rw [h2]
  exact ⟨by rw [h1]; simp [runeI], Below.refl _ _⟩
/-- the first place -/
def firstI (l : List UInt8) : Int := Lib.indexAny l [48, 35]
def Till (l : List UInt8) (i : Nat) : Prop := ∀ j, j < i → j < l.length → mark (l.getD j 0) = false
theorem Till.zero (l : List UInt8) : Till l 0 := fun _ h => absurd h (Nat.not_lt_zero _)
theorem Till.more {l : List UInt8} {i d : Nat} (h : Till l i) (h2 : ∀ j, i ≤ j → j < i + d → j < l.length → mark (l.getD j 0) = false) : Till l (i + d) := fun j h3 h4 => by
  by_cases hj : j < i
  · exact h j hj h4
  · exact h2 j (by omega) h3 h4
theorem getD_get {l : List UInt8} {j : Nat} {b : UInt8} (h : l[j]? = some b) : l.getD j 0 = b := by
  rw [List.getD_eq_getElem?_getD, h]; rfl
theorem Till.any {l : List UInt8} {i : Nat} (h : Till l i) : Lib.NoAny l [48, 35] i := fun j b hj hb => by
  have := h j hj (List.getElem?_eq_some_iff.1 hb).1
  rw [getD_get hb, mark_chars] at this
  exact this
theorem first_hit {l : List UInt8} {i : Nat} (h : Till l i) (hi : i < l.length) (hm : mark (l.getD i 0) = true) : firstI l = i := by
  have e : l[i]? = some (l.getD i 0) := by rw [List.getD_eq_getElem?_getD, List.getElem?_eq_getElem hi]; rfl
  exact Lib.indexAny_hit h.any e (by rw [← mark_chars]; exact hm)
theorem first_none {l : List UInt8} (h : Till l l.length) : firstI l = -1 := Lib.indexAny_none h.any
theorem mark_high {x : UInt8} (h : 128 ≤ x.toNat) : mark x = false := by
  unfold mark
  rw [Bool.or_eq_false_iff, beq_eq_false_iff_ne, beq_eq_false_iff_ne]
  exact ⟨fun e => by subst e; exact absurd h (by decide), fun e => by subst e; exact absurd h (by decide)⟩
theorem getD_at (s : ByteArray) (j : Nat) (h : j < s.size) : s.data.toList.getD j 0 = s[j] := by
  rw [List.getD_eq_getElem?_getD, List.getElem?_eq_getElem (by simpa using h)]; rfl
/-- where the iterator stands -/
def ItAt (w : World) (s : ByteArray) (i : Nat) (wx : World) : Prop := Below w.heap.size w wx ∧ wx.heap[w.heap.size]? = some (.stringIter s i)
theorem ItAt.start (w : World) (s : ByteArray) : ItAt w s 0 (w.iter s 0) := ⟨below_iter _ _ _, World.iter_heap _ _ _⟩
theorem ItAt.next {w wx w2 : World} {s : ByteArray} {i : Nat} (h : ItAt w s i wx) (j : Nat) (hb : Below (wx.iterAt w.heap.size s j).heap.size (wx.iterAt w.heap.size s j) w2) : ItAt w s j w2 :=
  ⟨up_call (Lib.below_iterAt h.1 (Nat.le_refl _) s j) hb, by
    rw [hb.block _ (by rw [Lib.iterAt_size]; exact (Array.getElem?_eq_some_iff.1 h.2).1)]
    exact Lib.iterAt_heap wx w.heap.size s i j h.2⟩
set_option maxHeartbeats 4000000 in
set_option maxRecDepth 100000 in
theorem first_short (s : ByteArray) (w : World) (h8 : s.size ≤ 8) : Calls Tryd.prog 19 #[.string s, .string ⟨#[48, 35]⟩] w (Gives w (.int .i64 (firstI s.data.toList))) := by
  have CS := Lib.hid (Tryd.strings_shouldUseASCIISet (s.size : Int))
  have h8z : decide ((8 : Int) < (s.size : Int)) = false := decide_eq_false (by omega)
  rw [h8z] at CS
  clear h8z
  have CH := Lib.hid rune_high
  have CL := Lib.hid rune_low
  have hl : s.data.toList.length = s.size := by simp
  have HL := Lib.hid hl; clear hl
  go_enter Tryd.func19, Tryd.ntmps19
  go_wp2_with (go_at_call 29; (with_reducible refine (CS.out _).mono ?_); rintro e w' ⟨rfl, hw⟩; rw [hw])
  go_loopg [9, 10] s.size (fun g _ _ wx => ∃ i : Nat, i + g = s.size ∧ Hid (ItAt w s i wx) ∧ Hid (Till s.data.toList i))
  case atStart => exact ⟨0, by omega, Lib.hid (ItAt.start w s), Lib.hid (Till.zero _)⟩
  case round =>
    obtain ⟨i, hig, HI, HT⟩ := hrel
    cases gk with
    | zero =>
      obtain rfl : i = s.size := by omega
      have hnx := fun ty => Lib.run_next_end_at (P := Tryd.prog) wr w.heap.size s s.size ty HI.out.2 (by omega)
      have HF := Lib.hid (first_none (l := s.data.toList) (by rw [HL.out]; exact HT.out))
      go_wp2
      go_ret
      exact ⟨by rw [HF.out]; rfl, HI.out.1⟩
    | succ g =>
      have hi : i < s.size := by omega
      have hlen := HL.out
      have hgd := getD_at s i hi
      by_cases hx : (s[i]'hi).toNat < 128
      · have hnx := fun ty => Lib.run_next_ascii_at (P := Tryd.prog) wr w.heap.size s i ty HI.out.2 hi hx
        have hmk := runeI_mark s[i]
        have CX := Lib.hid (fun W => CL.out s[i] W hx)
        have HIT := Lib.hid (fun j w2 hb => HI.out.next (w2 := w2) j hb)
        have HG := Lib.hid hgd
        generalize hxx : s[i]'hi = x at *
        clear hxx hgd hlen
        by_cases hm : (0 : Int) ≤ runeI x
        · have HF := Lib.hid (first_hit HT.out (by rw [HL.out]; exact hi) (by rw [HG.out, hmk]; exact decide_eq_true hm))
          clear hmk
          generalize hq : wr.iterAt w.heap.size s (i + 1) = W1 at *
          go_wp2_with (go_at_call 28; (with_reducible refine (CX.out _).mono ?_); rintro e w2 ⟨rfl, hb2⟩)
          go_ret
          exact ⟨by rw [HF.out]; rfl, (HIT.out (i + 1) w2 (hq ▸ hb2)).1⟩
        · have HN := Lib.hid (HT.out.more (d := 1) (fun j h1 h2 _ => by
            rw [show j = i by omega, HG.out, hmk]; exact decide_eq_false hm))
          clear hmk
          generalize hq : wr.iterAt w.heap.size s (i + 1) = W1 at *
          go_wp2_with (go_at_call 28; (with_reducible refine (CX.out _).mono ?_); rintro e w2 ⟨rfl, hb2⟩)
          go_roundg g
          case measure => omega
          case rel => exact ⟨i + 1, by omega, Lib.hid (HIT.out (i + 1) w2 (hq ▸ hb2)), HN⟩
      · have hnx := fun ty => Lib.run_next_any_at (P := Tryd.prog) wr w.heap.size s i ty HI.out.2 hi
        have hhi := decode_high s i hi (by omega)
        have hsp := Hi.decode_span s i hi (by omega)
        have HIT := Lib.hid (fun j w2 hb => HI.out.next (w2 := w2) j hb)
        have hroom : i + (Utf8.decode s i).2 ≤ s.size := by
          have := (hsp ((Utf8.decode s i).2 - 1) (by omega)).1
          omega
        have HN := Lib.hid (HT.out.more (d := (Utf8.decode s i).2) (fun j h1 h2 h3 => by
          obtain ⟨k1, k2⟩ := hsp (j - i) (by omega)
          rw [show i + (j - i) = j by omega] at k1 k2
          rw [getD_at s j k1, ← Hi.get_bang s j k1]
          exact mark_high k2))
        have hd1 := hhi.2
        have CX := Lib.hid (fun W => CH.out (Utf8.decode s i).1 W (by omega))
        clear hsp hhi hgd hlen hx
        generalize (Utf8.decode s i).1 = r at *
        generalize (Utf8.decode s i).2 = d at *
        generalize hq : wr.iterAt w.heap.size s (i + d) = W1 at *
        go_wp2_with (go_at_call 28; (with_reducible refine (CX.out _).mono ?_); rintro e w2 ⟨rfl, hb2⟩)
        go_roundg (s.size - (i + d))
        case measure => omega
        case rel => exact ⟨i + d, by omega, Lib.hid (HIT.out (i + d) w2 (hq ▸ hb2)), HN⟩
end Np
end Go.Proofs.YtonbjfepckolnaaDoor
