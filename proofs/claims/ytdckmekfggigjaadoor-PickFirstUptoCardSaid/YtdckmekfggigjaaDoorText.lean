/- The parts of a tag that are there; and the program's Text, which joins them. -/
import Derived.Test.YtdckmekfggigjaaDoorSame
import Derived.Test.YtdckmekfggigjaaDoorShelf
namespace Go.Proofs.YtdckmekfggigjaaDoor
open Go.RowKit Go.Maps

theorem str_info : (Tryd.prog.info? 9).map (fun i => (i.zero, i.size, i.bytes)) = some (some (.string ⟨#[]⟩), 1, 16) := by kernel_rfl

/-- a bound that all tags of the statements keep -/
def Few (n : Nat) : Prop := n ≤ 1000000
/-- not empty -/
def full (p : ByteArray) : Bool := !p.toList.isEmpty
/-- language, script and region, then the variants -/
def allOf (L S R : ByteArray) (vs : List ByteArray) : List ByteArray := [L, S, R] ++ vs
def partsOf (L S R : ByteArray) (vs : List ByteArray) : List ByteArray := (allOf L S R vs).filter full

theorem sv_one (vs : List ByteArray) : ∀ u ∈ sv vs, u.oneCell' = true := by
  intro u hu
  obtain ⟨v, _, rfl⟩ := List.mem_map.1 hu
  rfl
theorem own_lit (w : World) (cs : List Value) (t : TypeId) {base : Nat} (hb : base ≤ w.heap.size) (hm : cs.length ≤ maxLen) :
    (w.alloc (.cells cs.toArray t)).ownsRow base t 1 (.slice (some ⟨w.heap.size, 0, none⟩) cs.length cs.length) cs.length cs :=
  ⟨by simp, .inr ⟨w.heap.size, cs.length, cs.toArray, rfl, hb, heap_alloc_new w _, Nat.le_refl _, hm, by simp, by simp⟩⟩
theorem own_form {w : World} {base : Nat} {t : TypeId} {v : Value} {n : Nat} {xs : List Value} (h : w.ownsRow base t 1 v n xs) :
    ∃ A c, v = .slice A n c ∧ n ≤ c ∧ Reads w w.heap.size 1 A n xs := by
  rcases h.2 with ⟨rfl, rfl⟩ | ⟨g, cap, cur, rfl, _, _, hc, _⟩
  · exact ⟨none, 0, rfl, Nat.le_refl _, Reads.of_own h⟩
  · exact ⟨_, _, rfl, hc, Reads.of_own h⟩
theorem own_mono {w : World} {base base' : Nat} {t : TypeId} {v : Value} {n : Nat} {xs : List Value} (h : w.ownsRow base t 1 v n xs) (hb : base' ≤ base) : w.ownsRow base' t 1 v n xs := by
  refine ⟨h.1, ?_⟩
  rcases h.2 with hn | ⟨g, cap, cur, rfl, hg, rest⟩
  · exact .inl hn
  · exact .inr ⟨g, cap, cur, rfl, by omega, rest⟩
theorem filter_hit (al : List ByteArray) (k : Nat) (hk : k < al.length) (h : full al[k] = true) : (al.take (k + 1)).filter full = (al.take k).filter full ++ [al[k]] := by
  rw [List.take_succ_eq_append_getElem hk, List.filter_append]; simp [h]
theorem filter_miss (al : List ByteArray) (k : Nat) (hk : k < al.length) (h : full al[k] = false) : (al.take (k + 1)).filter full = (al.take k).filter full := by
  rw [List.take_succ_eq_append_getElem hk, List.filter_append]; simp [h]
theorem filter_len (al : List ByteArray) (k : Nat) : ((al.take k).filter full).length ≤ k :=
  Nat.le_trans (List.length_filter_le _ _) (List.length_take_le _ _)
theorem sv_snoc (vs : List ByteArray) (x : ByteArray) : sv (vs ++ [x]) = sv vs ++ [.string x] := by simp [sv]

/-- a bound on a text that is joined -/
def Short (l : List UInt8) : Prop := l.length ≤ 140737488355328
theorem join_calls {w : World} {base : Nat} {A : Option Addr} {c : Nat} {ps : List ByteArray} (hown : w.ownsRow base 9 1 (.slice A ps.length c) ps.length (sv ps))
    (h0 : 0 < ps.length) (hj : Short (Lib.join (bs ps) [45])) (hn : ps.length ≤ 1000003) :
    Calls Tryd.prog 40 #[.slice A ps.length c, .string ⟨#[45]⟩] w fun e w' => e = .returned (.string ⟨(Lib.join (bs ps) [45]).toArray⟩) ∧ Below w.heap.size w w' := by
  rcases hown.2 with ⟨_, h⟩ | ⟨g, cap, cur, hv, hb, hg, hc, hm, hs, htake⟩
  · omega
  · injection hv with hA _ hc2
    subst hA; subst hc2
    have hlt : g < w.heap.size := (Array.getElem?_eq_some_iff.1 hg).1
    have hcells : ∀ (j : Nat) (x : ByteArray), ps[j]? = some x → w.cell? ⟨g, 0 + j, none⟩ = some (.string x) := by
      intro j x hx
      have h1 : (sv ps)[j]? = some (.string x) := by simp [sv, hx]
      have hjl : j < ps.length := (List.getElem?_eq_some_iff.1 hx).1
      rw [Nat.zero_add, hown.cellAt j (by omega)]
      exact h1
    exact Tryd.strings_Join g 0 c ps ⟨#[45]⟩ w hcells hlt (by omega) hc hj

set_option maxHeartbeats 4000000 in
set_option maxRecDepth 100000 in
theorem text_any (L S R : ByteArray) (A : Option Addr) (n c : Nat) (vs : List ByteArray) (w : World) (h : Reads w w.heap.size 1 A n (sv vs)) (hn : Few n) (hj : Short (Lib.join (bs (partsOf L S R vs)) [45])) :
    Calls Tryd.prog 24 #[.agg #[.string L, .string S, .string R, .slice A n c]] w fun e w' => e = .returned (.string ⟨(Lib.join (bs (partsOf L S R vs)) [45]).toArray⟩) ∧ Below w.heap.size w w' := by
  obtain ⟨i0, hi0, hz0, hz1, hz2⟩ := info_parts str_info
  have ha := (h.alloc (Nat.le_refl _) (.cells #[.string L, .string S, .string R, .slice A n c] 29)).alloc (by simp) (.cells #[.string L, .string S, .string R] 9)
  have hb : Below w.heap.size w ((w.alloc (.cells #[.string L, .string S, .string R, .slice A n c] 29)).alloc (.cells #[.string L, .string S, .string R] 9)) := ((Below.refl _ _).alloc (Nat.le_refl _) _).alloc (by simp) _
  have ho : ((w.alloc (.cells #[.string L, .string S, .string R, .slice A n c] 29)).alloc (.cells #[.string L, .string S, .string R] 9)).ownsRow (w.heap.size + 1) 9 1 (.slice (some ⟨w.heap.size + 1, 0, none⟩) 3 3) 3 (sv [L, S, R]) := by
    have := own_lit (w.alloc (.cells #[.string L, .string S, .string R, .slice A n c] 29)) (sv [L, S, R]) 9 (base := w.heap.size + 1) (by simp) (by simp [sv, maxLen])
    simpa [sv] using this
  have hl := h.len
  have hal : (allOf L S R vs).length = 3 + n := by simp [allOf, hl]; omega
  have hsv : sv [L, S, R] ++ sv vs = sv (allOf L S R vs) := by simp [sv, allOf]
  have HAL := Lib.hid hal
  have HSV := Lib.hid hsv
  clear hal hsv hl h
  unfold partsOf at hj ⊢
  generalize allOf L S R vs = al at *
  have H3 : 3 + n ≤ 1000003 := by unfold Few at hn; omega
  have HN := Lib.hid H3
  clear hn H3
  go_enter Tryd.func24, Tryd.ntmps24
  go_wp2_with (at_builtin; refine wpList_append_any _ rfl (.tmp 12) (.tmp 14) _ rfl (w.heap.size + 1) 9 i0 _ 1 16 Tryd.underlying27 hi0 hz0 hz1 hz2 rfl (by omega) (.slice (some ⟨w.heap.size + 1, 0, none⟩) 3 3) 3 (sv [L, S, R]) rfl ho w.heap.size A n c (sv vs) rfl ha (sv_one _) (by have := HN.out; unfold maxLen; omega) (by have := HN.out; omega) (by simp) ?_; intro v1 w1 hown1 hg1 hat1; obtain ⟨A1, c1, rfl, hc1, hr1⟩ := own_form hown1)
  rw [HSV.out] at hr1
  have hb1 : Below w.heap.size w w1 := hb.grown hg1 (by simp; omega) (fun j hj => by simp [Value.ownBlock] at hj; omega)
  clear hown1 hg1 hat1 ho ha hb HSV
  have HC1 := Lib.hid hc1; clear hc1
  go_loopw [3, 17] (fun v i wr => ∃ k : Nat, k ≤ 3 + n ∧ i = .int .i64 k ∧ wr.ownsRow w1.heap.size 9 1 v ((al.take k).filter full).length (sv ((al.take k).filter full)) ∧ Below w1.heap.size w1 wr) (fun _ i _ => 3 + n - (intOf i).toNat)
  case atStart => exact ⟨0, Nat.zero_le _, rfl, World.ownsRow_nil _ _ _ _, Below.refl _ _⟩
  case round =>
    obtain ⟨k, hk, rfl, hown, hbw⟩ := hrel
    have hH := HN.out
    by_cases hlt : k < 3 + n
    · have hka : k < al.length := by rw [HAL.out]; exact hlt
      obtain ⟨ad, rfl, hadb, hcell⟩ := (hr1.below hbw).str hlt hka
      have hfl := filter_len al k
      cases hf : full al[k]
      · have hm := filter_miss al k hka hf
        have HM := Lib.hid hm; clear hm
        have he : al[k].toList = [] := by simpa [full] using hf
        clear hf
        go_wp2_with fail
        go_roundw
        case rel => exact ⟨k + 1, by omega, by go_num, by rw [HM.out]; exact hown, hbw⟩
        case measure => simp [intOf]; omega
      · have hm := filter_hit al k hka hf
        have HM := Lib.hid hm; clear hm
        have he : al[k].toList.isEmpty = false := by simpa [full] using hf
        have he' : ¬ al[k].toList = [] := by simpa [full] using hf
        clear hf
        generalize al[k] = x at *
        go_wp2_with (at_builtin; refine wpList_append_own _ rfl (.tmp 23) (.tmp 25) _ rfl w1.heap.size 9 i0 _ 1 16 Tryd.underlying27 hi0 hz0 hz1 hz2 rfl (by decide) _ _ _ rfl (hown.alloc _) ⟨wr.heap.size, 0, none⟩ 1 1 [.string x] rfl rfl (cell_one_new _ _ _) (sv_one [x]) (by unfold maxLen; omega) (by omega) (by have := hbw.size; simp; omega) ?_; intro v2 w2 hown2 hg2 hnil2)
        have hbw2 : Below w1.heap.size w1 w2 := (hbw.alloc hbw.size _).grown hg2 (by have := hbw.size; simp; omega) (fun j hj => (hown.lt j hj).1)
        go_roundw
        case rel => exact ⟨k + 1, by omega, by go_num, by rw [HM.out, sv_snoc]; simpa using hown2, hbw2⟩
        case measure => simp [intOf]; omega
    · have hkn : al.take k = al := List.take_of_length_le (by rw [HAL.out]; omega)
      rw [hkn] at hown
      clear hkn
      obtain ⟨A2, c2, rfl, hc2, hr2⟩ := own_form hown
      have hbx := hb1.trans (hbw.mono hb1.size)
      rcases Nat.eq_zero_or_pos (al.filter full).length with h0 | h0
      · have h00 : al.filter full = [] := List.eq_nil_of_length_eq_zero h0
        rw [h00]
        have H00 := Lib.hid h00
        clear hown hr2 h0 h00 hj
        go_wp2_with (go_at_call 40; refine (Tryd.strings_Join_none _ _ _ _).mono ?_; rintro e w' ⟨rfl, rfl⟩)
        go_ret
        exact ⟨by rw [H00.out]; rfl, hbx⟩
      · have hjoin := join_calls hown h0 hj (by have := List.length_filter_le full al; have := HAL.out; omega)
        have HJ := Lib.hid hjoin
        clear hown hr2 h0 hj hjoin hc2
        go_wp2_with (go_at_call 40; refine HJ.out.mono ?_; rintro e w' ⟨rfl, hb3⟩)
        go_ret
        exact ⟨rfl, hbx.trans (hb3.mono hbx.size)⟩
end Go.Proofs.YtdckmekfggigjaaDoor
