/- What the laws on groups ask of the program's Put. And what follows from it. -/
import Derived.Test.YtehocgemgdbikaaDoorGrMath
import Derived.Test.YtehocgemgdbikaaDoorKit
import Derived.Laws.IdiomStrings
namespace Go.Proofs.YtehocgemgdbikaaDoor
namespace Gr
open Go.RowKit D Ru

/-- Put, behind whatever call of a law's own, of texts up to a length -/
structure PutOk (N : Nat) (w : World) : Prop where
  put : ∀ (l : List UInt8) (g g2 : Int) (c : UInt8) (W : World), Below w.heap.size w W → l.length ≤ N → Calls Tryd.prog 9 #[.string (str l), .int .i64 g, .int .i64 g2, .int .u8 c.toNat] W (TextE W (putT l g g2 c) (putF l g g2 c))
theorem PutOk.putY {N : Nat} {w : World} (h : PutOk N w) {l : List UInt8} {g g2 : Int} {c : UInt8} (hl : l.length ≤ N) (hp : putF l g g2 c = 0) : ∀ W, Below w.heap.size w W → Calls Tryd.prog 9 #[.string (str l), .int .i64 g, .int .i64 g2, .int .u8 c.toNat] W (TextY W (str (putT l g g2 c))) :=
  fun W hW => textE_yes (h.put l g g2 c W hW hl) hp
theorem PutOk.putN {N : Nat} {w : World} (h : PutOk N w) {l : List UInt8} {g g2 : Int} {c : UInt8} (hl : l.length ≤ N) (hp : putF l g g2 c ≠ 0) : ∀ W, Below w.heap.size w W → Calls Tryd.prog 9 #[.string (str l), .int .i64 g, .int .i64 g2, .int .u8 c.toNat] W (TextN W (putF l g g2 c)) :=
  fun W hW => textE_no (h.put l g g2 c W hW hl) hp (putT_no hp)
/-- the fact that each law asks first -/
theorem fact_calls {N : Nat} {w : World} (h : PutOk N w) (hN : 5 ≤ N) (W : World) (hW : Below w.heap.size w W) : Calls Tryd.prog 9 #[.string ⟨#[49, 50, 51, 52, 53]⟩, .int .i64 3, .int .i64 0, .int .u8 44] W (TextY W ⟨#[49, 50, 44, 51, 52, 53]⟩) := by
  have := h.putY (l := [49, 50, 51, 52, 53]) (c := 44) hN fact_put.1 W hW
  rw [fact_put.2] at this
  exact this
end Gr
end Go.Proofs.YtehocgemgdbikaaDoor

/- The program's Put: what it says, what it tells. -/
namespace Go.Proofs.YtehocgemgdbikaaDoor
namespace Gr
open Go.RowKit Go.Maps D Ru

theorem isDigit_any (c : UInt8) (w : World) : Calls Tryd.prog 23 #[.int .u8 c.toNat] w fun e w' => e = .returned (.bool (decide (Dg c))) ∧ w = w' := by
  have hb : c.toNat < 256 := c.toNat_lt
  by_cases h1 : (48 : Int) ≤ c.toNat <;> by_cases h2 : (c.toNat : Int) ≤ 57
  all_goals
    go_enter Tryd.func23, Tryd.ntmps23
    go_wp2
    go_ret
    exact ⟨ret_bool (by show _ = decide (48 ≤ c.toNat ∧ c.toNat ≤ 57); rw [Bool.eq_iff_iff]; simp; omega), rfl⟩
theorem fits_any (g : Int) (w : World) : Calls Tryd.prog 24 #[.int .i64 g] w fun e w' => e = .returned (.bool (decide (0 ≤ g ∧ g ≤ 4))) ∧ w = w' := by
  by_cases h1 : (0 : Int) ≤ g <;> by_cases h2 : g ≤ 4
  all_goals
    go_enter Tryd.func24, Tryd.ntmps24
    go_wp2
    go_ret
    exact ⟨ret_bool (by rw [Bool.eq_iff_iff]; simp; omega), rfl⟩
theorem starts_any (k g h : Nat) (w : World) (hh : 0 < h) (hk : k < 4611686018427387904) (hg : g ≤ 4) : Calls Tryd.prog 40 #[.int .i64 k, .int .i64 g, .int .i64 h] w fun e w' => e = .returned (.bool (starts g h k)) ∧ w = w' := by
  have h0 : ((h : Int) == 0) = false := by rw [beq_eq_false_iff_ne]; omega
  by_cases h1 : g ≤ k
  · have h1i : (g : Int) ≤ (k : Int) := by omega
    have hs : starts g h k = decide ((k - g) % h = 0) := by unfold starts; rw [decide_eq_true h1]; rfl
    rw [hs]
    have hw : IntKind.i64.wrap ((k : Int) - (g : Int)) = ((k - g : Nat) : Int) := by rw [IntKind.wrap_i64]; omega
    have hm : ((k - g : Nat) : Int).tmod (h : Int) = (((k - g) % h : Nat) : Int) := by rw [Int.tmod_eq_emod_of_nonneg (by omega)]; omega
    have hb : (k - g) % h < 4611686018427387904 := Nat.lt_of_le_of_lt (Nat.mod_le _ _) (by omega)
    generalize (k - g) % h = r at *
    have hw2 : IntKind.i64.wrap ((r : Nat) : Int) = ((r : Nat) : Int) := by rw [IntKind.wrap_i64]; omega
    go_enter Tryd.func40, Tryd.ntmps40
    go_wp2_with fail
    go_ret
    exact ⟨ret_bool (by rw [Bool.eq_iff_iff]; simp), rfl⟩
  · have h1i : ¬ (g : Int) ≤ (k : Int) := by omega
    have hs : starts g h k = false := by unfold starts; rw [decide_eq_false h1]; rfl
    rw [hs]
    go_enter Tryd.func40, Tryd.ntmps40
    go_wp2_with fail
    go_ret
    exact ⟨rfl, rfl⟩
theorem snoc_t (p : UInt8 → Bool) (s : ByteArray) (k : Nat) (h : k < s.size) (ha : (s.data.toList.take k).all p = true) (hp : p s[k] = true) : (s.data.toList.take (k + 1)).all p = true := by
  rw [take_snoc s k h, List.all_append, ha]; simp [hp]
theorem num_no (s : ByteArray) (k : Nat) (h : k < s.size) (hp : ¬ Dg s[k]) : ¬ Num s.data.toList := fun hn => hp (hn.2 _ (List.getElem_mem (by simpa using h)))
set_option maxHeartbeats 1000000 in
theorem are_any (s : ByteArray) (w : World) (hs : s.size ≤ maxLen) : Calls Tryd.prog 22 #[.string s] w fun e w' => e = .returned (.bool (decide (Num s.data.toList))) ∧ w = w' := by
  unfold maxLen at hs
  have hsl : s.data.toList.length = s.size := by simp
  have HL := Lib.hid hsl; clear hsl
  go_enter Tryd.func22, Tryd.ntmps22
  go_wp2_with fail
  go_loopw [6] (fun i wr => ∃ k : Nat, k ≤ s.size ∧ i = .int .i64 k ∧ w = wr ∧ Hid ((s.data.toList.take k).all (fun c => decide (Dg c)) = true)) (fun i _ => s.size - (intOf i).toNat)
  case atStart => exact ⟨0, Nat.zero_le _, rfl, rfl, Lib.hid rfl⟩
  case round =>
    obtain ⟨k, hk, rfl, rfl, hall⟩ := hrel
    by_cases hlt : k < s.size
    · have hki : (k : Int) < (s.size : Int) := by omega
      have CD := Lib.hid (isDigit_any s[k])
      by_cases hd : Dg s[k]
      · rw [decide_eq_true hd] at CD
        have HD := Lib.hid hd; clear hd
        go_wp2_with (go_at_call 23; (with_reducible refine (CD.out _).mono ?_); rintro e w' ⟨rfl, rfl⟩)
        go_roundw
        case rel => exact ⟨k + 1, by omega, by go_num, trivial, Lib.hid (snoc_t _ s k hlt hall.out (by simpa using HD.out))⟩
        case measure => simp [intOf]; omega
      · rw [decide_eq_false hd] at CD
        have HN := Lib.hid (num_no s k hlt hd); clear hd
        go_wp2_with (go_at_call 23; (with_reducible refine (CD.out _).mono ?_); rintro e w' ⟨rfl, rfl⟩)
        go_ret
        exact ⟨ret_bool (by rw [decide_eq_false HN.out]), rfl⟩
    · have hki : ¬ (k : Int) < (s.size : Int) := by omega
      have hfin : ∀ c ∈ s.data.toList, Dg c := by
        have := hall.out
        rw [List.take_of_length_le (by have := HL.out; omega), List.all_eq_true] at this
        intro c hc; simpa using this c hc
      by_cases he : s = ⟨#[]⟩
      · subst he
        clear hfin
        go_wp2_with fail
        go_ret
        exact ⟨rfl, rfl⟩
      · have hne : s.toList.isEmpty = false := by simpa using (toList_ne he).2
        have hne2 : ¬ s.toList = [] := by simpa using hne
        have HF := Lib.hid (show Num s.data.toList from ⟨fun e => he (ba_ext e), hfin⟩)
        clear hfin
        go_wp2_with fail
        go_ret
        exact ⟨ret_bool (by rw [decide_eq_true HF.out]), rfl⟩
/-- bytes as cells -/
def bC (l : List UInt8) : List Value := l.map fun b => .int .u8 b.toNat
theorem bC_app (a b : List UInt8) : bC (a ++ b) = bC a ++ bC b := List.map_append
theorem u8_info : (Tryd.prog.info? 5).map (fun i => (i.zero, i.size, i.bytes)) = some (some (.int .u8 0), 1, 1) := by kernel_rfl
theorem own_mono {w : World} {base base' : Nat} {t : TypeId} {v : Value} {n : Nat} {xs : List Value} (h : w.ownsRow base t 1 v n xs) (hb : base' ≤ base) : w.ownsRow base' t 1 v n xs := own_base h hb
/-- a row of bytes, made a text of -/
theorem back_own {w : World} {base : Nat} {v : Value} {l : List UInt8} (h : w.ownsRow base 5 1 v l.length (bC l)) (hl : l ≠ []) :
    (convert 57 9 v).run Tryd.prog w = .ok (.string (str l)) w := by
  obtain ⟨A, c, rfl, _, _, hr, _⟩ := own_shape h
  obtain ⟨ad, rfl, _, hc⟩ := hr.2 (List.length_pos_iff.2 hl)
  exact run_convert_bytes_back w _ _ 5 ad c l Tryd.underlying57 Tryd.underlying5 Tryd.underlying9 fun j hj => hc j _ (by unfold bC; rw [List.getElem?_map, List.getElem?_eq_getElem hj]; rfl)
set_option maxHeartbeats 4000000 in
set_option maxRecDepth 100000 in
theorem insert_any (l : List UInt8) (g h : Nat) (c : UInt8) (w : World) (hl : l ≠ []) (hh : 0 < h) (hg : g ≤ 4) (hG : (ins0 c g h l).length ≤ 70368744177664) (hn : l.length ≤ 70368744177664) :
    Calls Tryd.prog 25 #[.string (str l), .int .i64 g, .int .i64 h, .int .u8 c.toNat] w (Gives w (.string (str (ins0 c g h l)))) := by
  obtain ⟨i0, hi0, hz0, hz1, hz2⟩ := info_parts u8_info
  have hsz : (str l).size = l.length := by rw [D.ba_size, str_data]
  have HST := Lib.hid (fun i hi => rest_step c g h l i hi)
  have HEN := Lib.hid (rest_end c g h l hl)
  have HLG := Lib.hid hG
  have CS := Lib.hid (fun k (hk : k ≤ l.length) => starts_any k g h · hh (by omega) hg)
  have HSB : ∀ S : ByteArray, S = str l → ∀ (k : Nat) (hk : k < l.length) (hk' : k < S.size), S[k]'hk' = l[k] := by
    rintro _ rfl k hk hk'
    show l.toArray[k] = l[k]; simp
  have HNE := Lib.hid (show ins0 c g h l ≠ [] by
    cases l with
    | nil => exact absurd rfl hl
    | cons x l => simp [ins0])
  have H0 : restI c g h l 0 = ins0 c g h l := if_pos rfl
  have HX0 := Lib.hid H0
  clear hG hl hh hg H0
  generalize ins0 c g h l = G at *
  obtain ⟨S, hS⟩ : ∃ S, S = str l := ⟨_, rfl⟩
  have HSB := Lib.hid (HSB S hS)
  rw [← hS] at hsz ⊢
  clear hS
  go_enter Tryd.func25, Tryd.ntmps25
  go_wp2_with fail
  go_loopw [9, 13] (fun v i wr => ∃ (k : Nat) (acc : List UInt8), k ≤ l.length ∧ i = .int .i64 k ∧ wr.ownsRow w.heap.size 5 1 v acc.length (bC acc) ∧ Below w.heap.size w wr ∧ Hid (acc ++ restI c g h l k = G)) (fun _ i _ => l.length - (intOf i).toNat)
  case atStart => exact ⟨0, [], Nat.zero_le _, rfl, World.ownsRow_nil _ _ _ _, Below.refl _ _, Lib.hid (by rw [HX0.out]; rfl)⟩
  case round =>
    obtain ⟨k, acc, hk, rfl, hown, hbw, HR⟩ := hrel
    by_cases hlt : k < l.length
    · have hki : (k : Int) < (S.size : Int) := by omega
      have hkS : k < S.size := by omega
      have hb1 := HSB.out k hlt hkS
      have hst := HST.out k hlt
      have hlen : acc.length + 1 ≤ 70368744177664 ∧ ((decide (0 < k) && starts g h (l.length - k)) = true → acc.length + 1 + 1 ≤ 70368744177664) := by
        have h1 := HLG.out
        have h2 := HR.out
        rw [hst] at h2
        have h3 := congrArg List.length h2
        simp only [List.length_append, List.length_singleton] at h3
        refine ⟨by omega, fun hc => ?_⟩
        rw [if_pos hc] at h3
        simp only [List.length_singleton] at h3
        omega
      have hw : IntKind.i64.wrap ((S.size : Int) - (k : Int)) = ((l.length - k : Nat) : Int) := by rw [IntKind.wrap_i64]; omega
      have CK := fun W => CS.out W (l.length - k) (by omega)
      rw [show ((l.length - k : Nat) : Int) = (l.length : Int) - (k : Int) by omega] at CK
      have CK := Lib.hid CK
      rw [← hb1] at hst
      have ho : ∀ x : UInt8, ∀ u ∈ ([.int .u8 (x.toNat : Int)] : List Value), u.oneCell' = true := by intro x u hu; simp at hu; subst hu; rfl
      by_cases hcm : (decide (0 < k) && starts g h (l.length - k)) = true
      · rw [hcm] at hst
        have hk0 : (0 : Int) < (k : Int) := by
          have := (Bool.and_eq_true_iff.1 hcm).1
          simp at this; omega
        rw [(Bool.and_eq_true_iff.1 hcm).2] at CK
        have hl2 := hlen.2 hcm
        have HHR := Lib.hid (show (acc ++ [c] ++ [S[k]]) ++ restI c g h l (k + 1) = G by rw [← HR.out, hst]; simp)
        clear hlen hcm hst hb1 HST HR HX0 HEN HSB
        go_wp2_with (first
          | (go_at_call 40; (with_reducible refine (CK.out _).mono ?_); rintro e w' ⟨rfl, rfl⟩)
          | (at_builtin; refine wpList_append_own _ rfl (.tmp 27) (.tmp 29) _ rfl w.heap.size 5 i0 _ 1 1 Tryd.underlying57 hi0 hz0 hz1 hz2 rfl (by decide) _ _ _ rfl (hown.alloc _) ⟨wr.heap.size, 0, none⟩ 1 1 [.int .u8 (c.toNat : Int)] rfl rfl (cell_one_new _ _ _) (ho c) (by unfold maxLen; omega) (by omega) (by have := hbw.size; simp; omega) ?_; intro v2 w2 hown2 hg2 hnil2; (have hbw2 : Below w.heap.size w w2 := (hbw.alloc hbw.size _).grown hg2 (by have := hbw.size; simp; omega) (fun j hj => (hown.lt j hj).1)))
          | (at_builtin; refine wpList_append_own _ rfl (.tmp 31) (.tmp 35) _ rfl w.heap.size 5 i0 _ 1 1 Tryd.underlying57 hi0 hz0 hz1 hz2 rfl (by decide) _ _ _ rfl (hown2.alloc _) ⟨w2.heap.size, 0, none⟩ 1 1 [.int .u8 (S[k].toNat : Int)] rfl rfl (cell_one_new _ _ _) (ho S[k]) (by unfold maxLen; omega) (by omega) (by have := hbw2.size; simp; omega) ?_; intro v3 w3 hown3 hg3 hnil3; (have hbw3 : Below w.heap.size w w3 := (hbw2.alloc hbw2.size _).grown hg3 (by have := hbw2.size; simp; omega) (fun j hj => (hown2.lt j hj).1))))
        go_roundw
        case rel => exact ⟨k + 1, acc ++ [c] ++ [S[k]], by omega, by go_num, by simpa [bC] using hown3, hbw3, HHR⟩
        case measure => simp [intOf]; omega
      · have hcf : (decide (0 < k) && starts g h (l.length - k)) = false := by simpa using hcm
        rw [hcf] at hst
        have HHR := Lib.hid (show (acc ++ [S[k]]) ++ restI c g h l (k + 1) = G by rw [← HR.out, hst]; simp)
        have hl1 := hlen.1
        clear hlen hcm hst hb1 HST HR HX0 HEN HSB
        by_cases hk0 : k = 0
        · subst hk0
          clear hcf CK
          go_wp2_with (at_builtin; refine wpList_append_own _ rfl (.tmp 31) (.tmp 35) _ rfl w.heap.size 5 i0 _ 1 1 Tryd.underlying57 hi0 hz0 hz1 hz2 rfl (by decide) _ _ _ rfl (hown.alloc _) ⟨wr.heap.size, 0, none⟩ 1 1 [.int .u8 (S[0].toNat : Int)] rfl rfl (cell_one_new _ _ _) (ho S[0]) (by unfold maxLen; omega) (by omega) (by have := hbw.size; simp; omega) ?_; intro v3 w3 hown3 hg3 hnil3; (have hbw3 : Below w.heap.size w w3 := (hbw.alloc hbw.size _).grown hg3 (by have := hbw.size; simp; omega) (fun j hj => (hown.lt j hj).1)))
          go_roundw
          case rel => exact ⟨1, acc ++ [S[0]], by omega, by go_num, by simpa [bC] using hown3, hbw3, HHR⟩
          case measure => simp [intOf]; omega
        · have hk0i : (0 : Int) < (k : Int) := by omega
          have hsf : starts g h (l.length - k) = false := by
            rw [decide_eq_true (show 0 < k by omega), Bool.true_and] at hcf; exact hcf
          rw [hsf] at CK
          clear hcf hsf hk0
          go_wp2_with (first
            | (go_at_call 40; (with_reducible refine (CK.out _).mono ?_); rintro e w' ⟨rfl, rfl⟩)
            | (at_builtin; refine wpList_append_own _ rfl (.tmp 31) (.tmp 35) _ rfl w.heap.size 5 i0 _ 1 1 Tryd.underlying57 hi0 hz0 hz1 hz2 rfl (by decide) _ _ _ rfl (hown.alloc _) ⟨wr.heap.size, 0, none⟩ 1 1 [.int .u8 (S[k].toNat : Int)] rfl rfl (cell_one_new _ _ _) (ho S[k]) (by unfold maxLen; omega) (by omega) (by have := hbw.size; simp; omega) ?_; intro v3 w3 hown3 hg3 hnil3; (have hbw3 : Below w.heap.size w w3 := (hbw.alloc hbw.size _).grown hg3 (by have := hbw.size; simp; omega) (fun j hj => (hown.lt j hj).1))))
          go_roundw
          case rel => exact ⟨k + 1, acc ++ [S[k]], by omega, by go_num, by simpa [bC] using hown3, hbw3, HHR⟩
          case measure => simp [intOf]; omega
    · obtain rfl : k = l.length := by omega
      have hacc : acc = G := by have := HR.out; rw [HEN.out, List.append_nil] at this; exact this
      subst hacc
      have hconv := back_own hown HNE.out
      have hki : ¬ (l.length : Int) < (S.size : Int) := by omega
      go_wp2_with fail
      go_ret
      exact ⟨rfl, hbw⟩
/-- Put, whatever the arguments, of texts up to so many bytes -/
theorem put_any (l : List UInt8) (g g2 : Int) (c : UInt8) (w : World) (hl : l.length ≤ 35184372088832) : Calls Tryd.prog 9 #[.string (str l), .int .i64 g, .int .i64 g2, .int .u8 c.toNat] w (TextE w (putT l g g2 c) (putF l g g2 c)) := by
  have CA := Lib.hid (fun W => are_any (str l) W (by unfold maxLen; rw [D.ba_size, str_data]; omega))
  have CD := Lib.hid (isDigit_any c)
  have CG := Lib.hid (fits_any g)
  have CH := Lib.hid (fits_any g2)
  rw [str_data] at CA
  have hb0 := Below.refl w.heap.size w
  by_cases hN : Num l
  · by_cases hD : Dg c
    · have hF : putF l g g2 c = 3 := by unfold putF; rw [if_neg (fun h => h.2 hD)]
      rw [putT_no (by rw [hF]; decide), hF]
      rw [decide_eq_true hN] at CA
      rw [decide_eq_true hD] at CD
      clear hN hD hF CG CH hl
      generalize str l = L at *
      generalize hci : (c.toNat : Int) = ci at *
      go_enter Tryd.func9, Tryd.ntmps9
      go_wp2_with (first | (go_at_call 22; (with_reducible refine (CA.out _).mono ?_); rintro e w' ⟨rfl, rfl⟩) | (go_at_call 23; (with_reducible refine (CD.out _).mono ?_); rintro e w' ⟨rfl, rfl⟩))
      go_ret2
      exact ⟨rfl, hb0⟩
    · rw [decide_eq_true hN] at CA
      rw [decide_eq_false hD] at CD
      by_cases hz : SzOk g g2
      · have hF : putF l g g2 c = 0 := putF_zero.2 ⟨⟨hN, hD⟩, hz⟩
        rw [putT_zero hF, hF]
        obtain ⟨⟨hg0, hg4⟩, hh0, hh4⟩ := hz
        rw [decide_eq_true ⟨hg0, hg4⟩] at CG
        rw [decide_eq_true ⟨hh0, hh4⟩] at CH
        obtain ⟨gn, rfl⟩ := Int.eq_ofNat_of_zero_le hg0
        obtain ⟨hn, rfl⟩ := Int.eq_ofNat_of_zero_le hh0
        rw [Int.toNat_natCast, Int.toNat_natCast]
        by_cases hg : gn = 0
        · subst hg
          rw [grouped_none]
          rw [show ((0 : Nat) : Int) = 0 from rfl] at CG ⊢
          clear hN hD hF hl
          generalize hL : str l = L at *
          generalize hci : (c.toNat : Int) = ci at *
          go_enter Tryd.func9, Tryd.ntmps9
          go_wp2_with (first | (go_at_call 22; (with_reducible refine (CA.out _).mono ?_); rintro e w' ⟨rfl, rfl⟩) | (go_at_call 23; (with_reducible refine (CD.out _).mono ?_); rintro e w' ⟨rfl, rfl⟩) | (go_at_call 24; (with_reducible refine (CG.out _).mono ?_); rintro e w' ⟨rfl, rfl⟩) | (go_at_call 24; (with_reducible refine (CH.out _).mono ?_); rintro e w' ⟨rfl, rfl⟩))
          go_ret2
          exact ⟨by rw [hL]; rfl, hb0⟩
        · rw [grouped_ins c gn hn l hg hN.1]
          have hlen := ins_len c gn hn l hg hN.1
          have hnp := next_pos (g2 := hn) hg
          have CI := Lib.hid (insert_any l gn (nextG gn hn) c w hN.1 (by omega) (by omega) (by omega) (by omega))
          have hgz : ((gn : Int) == 0) = false := by rw [beq_eq_false_iff_ne]; omega
          generalize ins0 c gn (nextG gn hn) l = R at *
          have hg0' : ¬ gn = 0 := hg
          clear hN hD hF hl hlen hnp
          by_cases hh : hn = 0
          · subst hh
            rw [show nextG gn 0 = gn from if_pos rfl] at CI
            rw [show ((0 : Nat) : Int) = 0 from rfl] at CH ⊢
            generalize str l = L at *
            generalize hci : (c.toNat : Int) = ci at *
            go_enter Tryd.func9, Tryd.ntmps9
            go_wp2_with (first | (go_at_call 22; (with_reducible refine (CA.out _).mono ?_); rintro e w' ⟨rfl, rfl⟩) | (go_at_call 23; (with_reducible refine (CD.out _).mono ?_); rintro e w' ⟨rfl, rfl⟩) | (go_at_call 24; (with_reducible refine (CG.out _).mono ?_); rintro e w' ⟨rfl, rfl⟩) | (go_at_call 24; (with_reducible refine (CH.out _).mono ?_); rintro e w' ⟨rfl, rfl⟩) | (go_at_call 25; (with_reducible refine (CI.out).mono ?_); rintro e w1 ⟨rfl, hb1⟩))
            go_ret2
            exact ⟨rfl, hb1⟩
          · have hhz : ((hn : Int) == 0) = false := by rw [beq_eq_false_iff_ne]; omega
            rw [show nextG gn hn = hn from if_neg hh] at CI
            generalize str l = L at *
            generalize hci : (c.toNat : Int) = ci at *
            go_enter Tryd.func9, Tryd.ntmps9
            go_wp2_with (first | (go_at_call 22; (with_reducible refine (CA.out _).mono ?_); rintro e w' ⟨rfl, rfl⟩) | (go_at_call 23; (with_reducible refine (CD.out _).mono ?_); rintro e w' ⟨rfl, rfl⟩) | (go_at_call 24; (with_reducible refine (CG.out _).mono ?_); rintro e w' ⟨rfl, rfl⟩) | (go_at_call 24; (with_reducible refine (CH.out _).mono ?_); rintro e w' ⟨rfl, rfl⟩) | (go_at_call 25; (with_reducible refine (CI.out).mono ?_); rintro e w1 ⟨rfl, hb1⟩))
            go_ret2
            exact ⟨rfl, hb1⟩
      · have hF : putF l g g2 c = 1 := by unfold putF; rw [if_pos ⟨hN, hD⟩, if_neg hz]
        rw [putT_no (by rw [hF]; decide), hF]
        by_cases hg : 0 ≤ g ∧ g ≤ 4
        · have hh : ¬ (0 ≤ g2 ∧ g2 ≤ 4) := fun h => hz ⟨hg, h⟩
          rw [decide_eq_true hg] at CG
          rw [decide_eq_false hh] at CH
          clear hN hD hF hl hz hg hh
          generalize str l = L at *
          generalize hci : (c.toNat : Int) = ci at *
          go_enter Tryd.func9, Tryd.ntmps9
          go_wp2_with (first | (go_at_call 22; (with_reducible refine (CA.out _).mono ?_); rintro e w' ⟨rfl, rfl⟩) | (go_at_call 23; (with_reducible refine (CD.out _).mono ?_); rintro e w' ⟨rfl, rfl⟩) | (go_at_call 24; (with_reducible refine (CG.out _).mono ?_); rintro e w' ⟨rfl, rfl⟩) | (go_at_call 24; (with_reducible refine (CH.out _).mono ?_); rintro e w' ⟨rfl, rfl⟩))
          go_ret2
          exact ⟨rfl, hb0⟩
        · rw [decide_eq_false hg] at CG
          clear hN hD hF hl hz hg
          generalize str l = L at *
          generalize hci : (c.toNat : Int) = ci at *
          go_enter Tryd.func9, Tryd.ntmps9
          go_wp2_with (first | (go_at_call 22; (with_reducible refine (CA.out _).mono ?_); rintro e w' ⟨rfl, rfl⟩) | (go_at_call 23; (with_reducible refine (CD.out _).mono ?_); rintro e w' ⟨rfl, rfl⟩) | (go_at_call 24; (with_reducible refine (CG.out _).mono ?_); rintro e w' ⟨rfl, rfl⟩))
          go_ret2
          exact ⟨rfl, hb0⟩
  · have hF : putF l g g2 c = 3 := by unfold putF; rw [if_neg (fun h => hN h.1)]
    rw [putT_no (by rw [hF]; decide), hF]
    rw [decide_eq_false hN] at CA
    clear hN hF CG CH hl
    generalize str l = L at *
    generalize hci : (c.toNat : Int) = ci at *
    go_enter Tryd.func9, Tryd.ntmps9
    go_wp2_with (first | (go_at_call 22; (with_reducible refine (CA.out _).mono ?_); rintro e w' ⟨rfl, rfl⟩))
    go_ret2
    exact ⟨rfl, hb0⟩
theorem put_ok (N : Nat) (w : World) (hN : N ≤ 35184372088832) : PutOk N w := ⟨fun l g g2 c W _ hl => put_any l g g2 c W (by omega)⟩
end Gr
end Go.Proofs.YtehocgemgdbikaaDoor
