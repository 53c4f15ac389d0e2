/- strings.LastIndexAny at the two places of a pattern, of short texts. -/
import Derived.Test.YtonbjfepckolnaaDoorNpFirst
namespace Go.Proofs.YtonbjfepckolnaaDoor
namespace Np
open Go.RowKit Go.Maps D Ru

/-- the last place -/
def lastK (l : List UInt8) : Nat → Int
  | 0 => -1
  | k + 1 => if mark (l.getD k 0) then (k : Int) else lastK l k
def lastI (l : List UInt8) : Int := lastK l l.length
theorem lastK_skip {l : List UInt8} {i : Nat} : ∀ {d : Nat}, (∀ j, i ≤ j → j < i + d → mark (l.getD j 0) = false) → lastK l (i + d) = lastK l i
  | 0, _ => rfl
  | d + 1, h => by
    rw [← Nat.add_assoc, lastK, h (i + d) (by omega) (by omega)]
    exact lastK_skip fun j h1 h2 => h j h1 (by omega)
theorem lastK_hit {l : List UInt8} {k : Nat} (h : mark (l.getD k 0) = true) : lastK l (k + 1) = k := by
  rw [lastK, h]; rfl
theorem lastK_miss {l : List UInt8} {k : Nat} (h : mark (l.getD k 0) = false) : lastK l (k + 1) = lastK l k := by
  rw [lastK, h]; rfl
/-- the tables of unicode/utf8 -/
def Tabs (w : World) : Prop := Lib.Utf8Tabs 2 3 w
theorem Tabs.later {w W : World} (h : Tabs w) (hb : Below w.heap.size w W) : Tabs W := by
  refine ⟨fun c hc => ?_, fun i hi => ⟨?_, ?_⟩⟩
  · have := h.1 c hc
    exact (hb.cell (World.block_lt_of_cell? w _ this)).trans this
  · have := (h.2 i hi).1
    exact (hb.cell (World.block_lt_of_cell? w _ this)).trans this
  · have := (h.2 i hi).2
    exact (hb.cell (World.block_lt_of_cell? w _ this)).trans this
theorem extract_take (s : ByteArray) (k : Nat) : (s.extract 0 k).data.toList = s.data.toList.take k := by
  rw [ByteArray.data_extract, Array.toList_extract]; simp
theorem take_getD (l : List UInt8) (k j : Nat) (h : j < k) : (l.take k).getD j 0 = l.getD j 0 := by
  rw [List.getD_eq_getElem?_getD, List.getD_eq_getElem?_getD, List.getElem?_take, if_pos h]
set_option maxHeartbeats 4000000 in
set_option maxRecDepth 100000 in
theorem last_one (s : ByteArray) (w : World) (h1 : s.size = 1) : Calls Tryd.prog 20 #[.string s, .string ⟨#[48, 35]⟩] w (Gives w (.int .i64 (lastI s.data.toList))) := by
  have hl : s.data.toList.length = 1 := by simpa using h1
  have hgd := getD_at s 0 (by omega)
  have hn1 : ((s.size : Int) == 1) = true := beq_iff_eq.2 (by omega)
  have hlt : (0 : Int) < (s.size : Int) := by omega
  have hb0 := Below.refl w.heap.size w
  unfold lastI
  rw [hl]
  by_cases hx : (s[0]'(by omega)).toNat < 128
  · have CX := Lib.hid (fun W => rune_low s[0] W hx)
    have hmk := runeI_mark s[0]
    have hw : IntKind.i32.wrap ((s[0]).toNat : Int) = ((s[0]).toNat : Int) := by rw [IntKind.wrap_i32]; omega
    have hge : ¬ (128 : Int) ≤ ((s[0]).toNat : Int) := by omega
    by_cases hm : (0 : Int) ≤ runeI s[0]
    · rw [lastK_hit (k := 0) (by rw [hgd, hmk]; exact decide_eq_true hm)]
      clear hmk hgd hl
      go_enter Tryd.func20, Tryd.ntmps20
      go_wp2_with (go_at_call 28; (with_reducible refine (CX.out _).mono ?_); rintro e w2 ⟨rfl, hb2⟩)
      go_ret
      exact ⟨rfl, hb2⟩
    · rw [lastK_miss (k := 0) (by rw [hgd, hmk]; exact decide_eq_false hm)]
      clear hmk hgd hl
      go_enter Tryd.func20, Tryd.ntmps20
      go_wp2_with (go_at_call 28; (with_reducible refine (CX.out _).mono ?_); rintro e w2 ⟨rfl, hb2⟩)
      go_ret
      exact ⟨rfl, hb2⟩
  · have CX := Lib.hid (fun W => rune_high 65533 W (by omega))
    rw [lastK_miss (k := 0) (by rw [hgd]; exact mark_high (by omega))]
    have hw : IntKind.i32.wrap ((s[0]).toNat : Int) = ((s[0]).toNat : Int) := by rw [IntKind.wrap_i32]; have := (s[0]).toNat_lt; omega
    have hge : (128 : Int) ≤ ((s[0]).toNat : Int) := by omega
    clear hgd hl hx
    go_enter Tryd.func20, Tryd.ntmps20
    go_wp2_with (go_at_call 28; (with_reducible refine (CX.out _).mono ?_); rintro e w2 ⟨rfl, hb2⟩)
    go_ret
    exact ⟨rfl, hb2⟩
set_option maxHeartbeats 4000000 in
set_option maxRecDepth 100000 in
theorem last_short (s : ByteArray) (w : World) (h1 : s.size ≠ 1) (h8 : s.size ≤ 8) (hT : Tabs w) : Calls Tryd.prog 20 #[.string s, .string ⟨#[48, 35]⟩] w (Gives w (.int .i64 (lastI s.data.toList))) := by
  have CS := Lib.hid (Tryd.strings_shouldUseASCIISet (s.size : Int))
  have h8z : decide ((8 : Int) < (s.size : Int)) = false := decide_eq_false (by omega)
  rw [h8z] at CS
  clear h8z
  have hn1 : ((s.size : Int) == 1) = false := beq_eq_false_iff_ne.2 (by omega)
  have hl : s.data.toList.length = s.size := by simp
  have HL := Lib.hid hl; clear hl
  have HTab := Lib.hid hT; clear hT
  go_enter Tryd.func20, Tryd.ntmps20
  go_wp2_with (go_at_call 29; (with_reducible refine (CS.out _).mono ?_); rintro e w' ⟨rfl, hw⟩; rw [hw])
  go_loopg [13, 14, 15] s.size (fun g i _ _ wx => ∃ k : Nat, g = k ∧ k ≤ s.size ∧ i = .int .i64 k ∧ Below w.heap.size w wx ∧ Hid (lastI s.data.toList = lastK s.data.toList k))
  case atStart => exact ⟨s.size, rfl, Nat.le_refl _, rfl, Below.refl _ _, Lib.hid (by unfold lastI; rw [HL.out])⟩
  case round =>
    obtain ⟨k, rfl, hk, rfl, hb, HK⟩ := hrel
    cases gk with
    | zero =>
      go_wp2
      go_ret
      exact ⟨by rw [HK.out]; rfl, hb⟩
    | succ k =>
      have hki : (0 : Int) < ((k + 1 : Nat) : Int) := by omega
      have hke : ((k + 1 : Nat) : Int) ≤ (s.size : Int) := by omega
      have hT2 := HTab.out.later hb
      have hne : (s.data.toList.take (k + 1)) ≠ [] := fun e => by
        have h0 : (s.data.toList.take (k + 1)).length = 0 := by rw [e]; rfl
        rw [List.length_take, HL.out] at h0
        omega
      have hlen : (s.data.toList.take (k + 1)).length = k + 1 := by rw [List.length_take, HL.out]; omega
      have hlast : (s.data.toList.take (k + 1)).getD ((s.data.toList.take (k + 1)).length - 1) 0 = s.data.toList.getD k 0 := by
        rw [hlen]; exact take_getD _ _ _ (by omega)
      have CD := Lib.hid (Tryd.utf8_DecodeLastRuneInString (s.extract 0 (k + 1)) wr (by rw [D.ba_size, extract_take, hlen]; omega) hT2)
      rw [extract_take] at CD
      by_cases hx : (s.data.toList.getD k 0).toNat < 128
      · have hd := Hi.last_low _ hne (by rw [hlast]; exact hx)
        rw [hlast] at hd
        rw [hd] at CD
        have CX := Lib.hid (fun W => rune_low (s.data.toList.getD k 0) W hx)
        have hmk := runeI_mark (s.data.toList.getD k 0)
        have hw : IntKind.i64.wrap (((k + 1 : Nat) : Int) - ((1 : Nat) : Int)) = (k : Int) := by rw [IntKind.wrap_i64]; omega
        by_cases hm : (0 : Int) ≤ runeI (s.data.toList.getD k 0)
        · have HF := Lib.hid (HK.out.trans (lastK_hit (by rw [hmk]; exact decide_eq_true hm)))
          clear hmk hd hlast hne hlen HK
          generalize s.data.toList.getD k 0 = x at *
          generalize hez : s.extract 0 (k + 1) = z at *
          go_wp2_with (first
            | (go_at_call 32; (with_reducible refine (CD.out).mono ?_); rintro e w2 ⟨rfl, hb2⟩; dsimp only)
            | (go_at_call 28; (with_reducible refine (CX.out _).mono ?_); rintro e w3 ⟨rfl, hb3⟩))
          go_ret
          exact ⟨by rw [HF.out]; rfl, up_call (up_call hb hb2) hb3⟩
        · have HF := Lib.hid (HK.out.trans (lastK_miss (by rw [hmk]; exact decide_eq_false hm)))
          clear hmk hd hlast hne hlen HK
          generalize s.data.toList.getD k 0 = x at *
          generalize hez : s.extract 0 (k + 1) = z at *
          go_wp2_with (first
            | (go_at_call 32; (with_reducible refine (CD.out).mono ?_); rintro e w2 ⟨rfl, hb2⟩; dsimp only)
            | (go_at_call 28; (with_reducible refine (CX.out _).mono ?_); rintro e w3 ⟨rfl, hb3⟩))
          go_roundg k
          case measure => omega
          case rel => exact ⟨k, rfl, by omega, rfl, up_call (up_call hb hb2) hb3, HF⟩
      · obtain ⟨d1, -, d3, d4, d5⟩ := Hi.last_span _ hne (by rw [hlast]; omega)
        rw [hlen] at d4 d5
        generalize Lib.decodeLastL (s.data.toList.take (k + 1)) = dd at *
        obtain ⟨r, d⟩ := dd
        simp only at d1 d3 d4 d5 CD
        obtain ⟨m, hm⟩ : ∃ m, k + 1 = m + d := ⟨k + 1 - d, by omega⟩
        have CX := Lib.hid (fun W => rune_high (r : Int) W (by omega))
        have HF := Lib.hid (HK.out.trans (show lastK s.data.toList (k + 1) = lastK s.data.toList m by
          rw [hm]
          exact lastK_skip fun j j1 j2 => by
            have := d5 j (by omega) (by omega)
            rw [take_getD _ _ _ (by omega)] at this
            exact mark_high this))
        have HV := Lib.hid (show Value.int .i64 (wrap64 ((k : Int) + 1 - (d : Int))) = .int .i64 m by unfold wrap64; congr 1; omega)
        have hmk2 : m < k + 1 := by omega
        have hms : m ≤ s.size := by omega
        clear d5 hlast hne hlen HK hx hm d4 d3
        generalize hez : s.extract 0 (k + 1) = z at *
        go_wp2_with (first
          | (go_at_call 32; (with_reducible refine (CD.out).mono ?_); rintro e w2 ⟨rfl, hb2⟩; dsimp only)
          | (go_at_call 28; (with_reducible refine (CX.out _).mono ?_); rintro e w3 ⟨rfl, hb3⟩))
        go_roundg m
        case measure => omega
        case rel => exact ⟨m, rfl, hms, HV.out, up_call (up_call hb hb2) hb3, HF⟩
end Np
end Go.Proofs.YtonbjfepckolnaaDoor
