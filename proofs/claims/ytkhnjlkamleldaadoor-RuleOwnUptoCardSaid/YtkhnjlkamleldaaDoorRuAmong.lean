/- The program's isAmong, relHolds: whether a relation holds, by a map of what each operand is; what lay in memory stays as it was. -/
import Derived.Test.YtkhnjlkamleldaaDoorRuCheck
namespace Go.Proofs.YtkhnjlkamleldaaDoor
namespace Ru
open Go.RowKit Go.Maps D

/-- a box that holds a value, wherever it was made -/
def BoxAt (w : World) (g : Nat) (v : Value) : Prop := w.cell? ⟨g, 0, none⟩ = some v
theorem BoxAt.later {w w' : World} {g : Nat} {v : Value} (h : BoxAt w g v) (hb : Below w.heap.size w w') : BoxAt w' g v := (hb.cell (World.block_lt_of_cell? _ _ h)).trans h
abbrev inF (g : Nat) : Value := .func (.func 61) #[] #[.pointer (some ⟨g, 0, none⟩)]
set_option maxHeartbeats 1000000 in
theorem among1_any (a b x : Int) (g : Nat) (w : World) (hx : BoxAt w g (.int .i64 x)) :
    Calls Tryd.prog 61 #[.agg #[.int .i64 a, .int .i64 b], .pointer (some ⟨g, 0, none⟩)] w (GivesB w (inRg x (a, b))) := by
  have H0 : Hid (Bs w _ [_]) := Lib.hid (bs_one w [.int .i64 a, .int .i64 b] 41)
  obtain ⟨d0, d1, -⟩ := H0.out.cells
  have hx1 : World.cell? _ ⟨g, 0, none⟩ = some (.int .i64 x) := hx.later H0.out.below
  clear hx
  go_enter Tryd.func61, Tryd.ntmps61
  by_cases h0 : a ≤ x
  · by_cases h1 : x ≤ b
    · have HE : Hid (inRg x (a, b) = true) := Lib.hid (by unfold inRg; simp [h0, h1])
      go_wp2_with fail
      go_ret
      exact ⟨ret_b HE.out.symm, H0.out.below⟩
    · have HE : Hid (inRg x (a, b) = false) := Lib.hid (by unfold inRg; simp [h1])
      go_wp2_with fail
      go_ret
      exact ⟨ret_b HE.out.symm, H0.out.below⟩
  · have HE : Hid (inRg x (a, b) = false) := Lib.hid (by unfold inRg; simp [h0])
    go_wp2_with fail
    go_ret
    exact ⟨ret_b HE.out.symm, H0.out.below⟩

set_option maxHeartbeats 2000000 in
set_option maxRecDepth 100000 in
theorem indexRg_any (A : Option Addr) (n c : Nat) (rs : List (Int × Int)) (x : Int) (g : Nat) (w : World) (hr : RgsAt w w.heap.size A n rs) (hl : rs.length = n) (hn : n ≤ maxLen) (hx : BoxAt w g (.int .i64 x)) :
    Calls Tryd.prog 78 #[.slice A n c, inF g] w fun e w' => ∃ z : Int, e = .returned (.int .i64 z) ∧ decide (0 ≤ z) = rs.any (inRg x) ∧ Below w.heap.size w w' := by
  have HR := Lib.hid hr
  have HL := Lib.hid hl
  have HX := Lib.hid hx
  unfold maxLen at hn
  clear hr hl hx
  go_enter Tryd.func78, Tryd.ntmps78
  go_wp2_with fail
  go_loopw [8] (fun i wr => ∃ k : Nat, k ≤ n ∧ i = .int .i64 k ∧ Below w.heap.size w wr ∧ Hid ((rs.take k).any (inRg x) = false)) (fun i _ => n - (intOf i).toNat)
  case atStart => exact ⟨0, Nat.zero_le _, rfl, Below.refl _ _, Lib.hid (by simp)⟩
  case round =>
    obtain ⟨k, hk, rfl, hb, HA⟩ := hrel
    by_cases hlt : k < n
    · have hkr : k < rs.length := by have := HL.out; omega
      obtain ⟨ad, rfl, hadb, x0, x1⟩ := rg_at ((HR.out.below hb).more hb.size) hkr
      rw [← add_of_add, add_pos _ _ (by omega)] at x1
      have HM := Lib.hid (List.getElem_mem hkr)
      have HK := Lib.hid (any_take rs x k hkr)
      have hbx := HX.out.later hb
      generalize rs[k] = r at *
      obtain ⟨a, b⟩ := r
      dsimp only at *
      have hki : (k : Int) < (n : Int) := by omega
      have CC := Lib.hid (among1_any a b x g wr hbx)
      cases hi : inRg x (a, b) with
      | true =>
        have HE : Hid (decide (0 ≤ (k : Int)) = rs.any (inRg x)) := Lib.hid (by rw [decide_eq_true (by omega)]; exact (List.any_eq_true.2 ⟨_, HM.out, hi⟩).symm)
        rw [hi] at CC
        clear hi HK hbx
        go_wp2_with (go_at_call 61; (with_reducible refine CC.out.mono ?_); rintro e w2 ⟨rfl, hb2⟩)
        go_ret
        exact ⟨_, rfl, HE.out, bel_call hb hb2⟩
      | false =>
        rw [hi] at CC HK
        clear hi hbx
        go_wp2_with (go_at_call 61; (with_reducible refine CC.out.mono ?_); rintro e w2 ⟨rfl, hb2⟩)
        go_roundw
        case rel => exact ⟨k + 1, by omega, by go_num, bel_call hb hb2, Lib.hid (by rw [HK.out, HA.out]; rfl)⟩
        case measure => simp [intOf]; omega
    · have hki : ¬ ((k : Int) < (n : Int)) := by omega
      have HE : Hid (decide (0 ≤ (-1 : Int)) = rs.any (inRg x)) := Lib.hid (by
        have := HA.out
        rw [List.take_of_length_le (by have := HL.out; omega)] at this
        rw [this]; rfl)
      clear hlt hk
      go_wp2_with fail
      go_ret
      exact ⟨_, rfl, HE.out, hb⟩
set_option maxHeartbeats 1000000 in
theorem containsRg_any (A : Option Addr) (n c : Nat) (rs : List (Int × Int)) (x : Int) (g : Nat) (w : World) (hr : RgsAt w w.heap.size A n rs) (hl : rs.length = n) (hn : n ≤ maxLen) (hx : BoxAt w g (.int .i64 x)) :
    Calls Tryd.prog 60 #[.slice A n c, inF g] w (GivesB w (rs.any (inRg x))) := by
  have HI := Lib.hid (indexRg_any A n c rs x g w hr hl hn hx)
  clear hr hl hx
  generalize rs.any (inRg x) = res at *
  go_enter Tryd.func60, Tryd.ntmps60
  go_wp2_with (go_at_call 78; (with_reducible refine HI.out.mono ?_); rintro e w2 ⟨z, rfl, hd, hb2⟩; (have HD := Lib.hid hd); clear hd)
  go_ret
  exact ⟨ret_b HD.out, hb2⟩
set_option maxHeartbeats 1000000 in
theorem isAmong_any (A : Option Addr) (n c : Nat) (rs : List (Int × Int)) (x : Int) (w : World) (hr : RgsAt w w.heap.size A n rs) (hl : rs.length = n) (hn : n ≤ maxLen) :
    Calls Tryd.prog 47 #[.int .i64 x, .slice A n c] w (GivesB w (rs.any (inRg x))) := by
  have H0 : Hid (Bs w _ [_]) := Lib.hid (bs_one w [.int .i64 x] 3)
  have HC := Lib.hid (containsRg_any A n c rs x w.heap.size (w.alloc (.cells #[.int .i64 x] 3)) ((hr.below H0.out.below).more H0.out.below.size) hl hn H0.out.cells.1)
  clear hr hl
  go_enter Tryd.func47, Tryd.ntmps47
  go_wp2_with (go_at_call 60; (with_reducible refine HC.out.mono ?_); rintro e w2 ⟨rfl, hb2⟩)
  go_ret
  exact ⟨rfl, bel_call H0.out.below hb2⟩
theorem rel_not {op mod T I V W F : Int} {nt : Bool} {rs : List (Int × Int)} (hr : relOk ⟨op, mod, nt, rs⟩) (h : asks op T = false) : relH ⟨op, mod, nt, rs⟩ I V W F T = nt := by
  have h := of_decide_eq_false h
  unfold relH
  rw [if_pos]
  by_cases hc : op = 110 ∧ T ≠ 0
  · exact hc
  · exact absurd ⟨hr.1, hc⟩ h
theorem rel_so {op mod T I V W F : Int} {nt : Bool} {rs : List (Int × Int)} (h : asks op T = true) : relH ⟨op, mod, nt, rs⟩ I V W F T = (rs.any (inRg (modV mod (opV op I V W F T))) != nt) := by
  have h := of_decide_eq_true h
  unfold relH
  rw [if_neg h.2]
set_option maxHeartbeats 4000000 in
set_option maxRecDepth 100000 in
theorem relHolds_any (op mod : Int) (nt : Bool) (A : Option Addr) (n c : Nat) (rs : List (Int × Int)) (I V W F T : Int) (mb : Nat) (w : World) (hr : RgsAt w w.heap.size A n rs) (hl : rs.length = n) (hn : n ≤ maxLen) (hok : relOk ⟨op, mod, nt, rs⟩) (hM : OpsAt w mb I V W F T) :
    Calls Tryd.prog 38 #[.agg #[.int .u8 op, .int .i64 mod, .bool nt, .slice A n c], .map (some mb)] w (GivesB w (relH ⟨op, mod, nt, rs⟩ I V W F T)) := by
  have H0 : Hid (Bs w _ [_]) := Lib.hid (bs_one w [.int .u8 op, .int .i64 mod, .bool nt, .slice A n c] 40)
  obtain ⟨d0, d1, d2, d3, -⟩ := H0.out.cells
  have hM0 : OpsAt _ mb I V W F T := map_later hM H0.out.below
  have hby : 0 ≤ op ∧ op < 256 := by rcases hok.1 with h | h | h | h | h | h <;> (have h : op = _ := h; omega)
  have HBY := Lib.hid hby
  have hm : 0 ≤ mod ∧ mod ≤ 1000000 := hok.2.1
  have HN := Lib.hid fun h => rel_not (I := I) (V := V) (W := W) (F := F) (T := T) hok h
  have HS := Lib.hid fun (h : asks op T = true) => rel_so (mod := mod) (nt := nt) (rs := rs) (I := I) (V := V) (W := W) (F := F) h
  have CC := Lib.hid fun (x : Int) (W' : World) (hW : Below w.heap.size w W') => isAmong_any A n c rs x W' ((hr.below hW).more hW.size) hl hn
  have HAS := Lib.hid (ops_has I V W F T op)
  have HAT := Lib.hid fun (h : asks op T = true) => ops_at (I := I) (V := V) (W := W) (F := F) h
  generalize relH ⟨op, mod, nt, rs⟩ I V W F T = res at *
  generalize opV op I V W F T = y at *
  clear hr hl hM hby hok
  go_enter Tryd.func38, Tryd.ntmps38
  go_upto_region 1 with fail
  obtain ⟨v0, hv0⟩ : ∃ V', w.alloc (.cells #[.int .u8 op, .int .i64 mod, .bool nt, .slice A n c] 40) = V' := ⟨_, rfl⟩
  rw [hv0] at H0 hM0 d0 d1 d2 d3 ⊢
  clear hv0
  have HSX : Hid (∀ wx, Below v0.heap.size v0 wx → Below v0.heap.size v0 wx ∧ wx.cell? ⟨w.heap.size, 2, none⟩ = some (.bool nt) ∧ wx.cell? ⟨w.heap.size, 3, none⟩ = some (.slice A n c)) := Lib.hid fun wx hb => by
    obtain ⟨-, -, z2, z3, -⟩ := (H0.out.call hb).cells
    exact ⟨hb, z2, z3⟩
  cases ha : asks op T with
  | false =>
    have HE := Lib.hid (HN.out ha)
    rw [ha] at HAS
    clear ha
    go_wp2_with (first
      | (at_lookup; refine wpList_lookup_own_ok_int _ rfl _ _ 57 rfl 5 3 .i64 keyed8 Tryd.underlying57 Tryd.underlying3 (zeroI _) mb 6 _ rfl hM0 _ _ rfl (key_byte HBY.out) ?_; intro cc hcc _; rw [HAS.out]; clear hcc))
    go_ret
    exact ⟨ret_b HE.out.symm, H0.out.below⟩
  | true =>
    have HE := HS.out ha
    have HCA := Lib.hid (HAT.out ha (.lit (.int .i64 0)))
    rw [ha] at HAS
    clear ha HS HN HAT
    by_cases h0 : mod = 0
    · have HE : Hid (res = (rs.any (inRg y) != nt)) := Lib.hid (by rw [HE]; unfold modV; rw [if_neg (by omega)])
      have CY : Hid (∀ W', Below v0.heap.size v0 W' → Calls Tryd.prog 47 #[.int .i64 y, .slice A n c] W' (GivesB W' (rs.any (inRg y)))) := Lib.hid fun W' hW => CC.out y W' (bel_call H0.out.below hW)
      have h0b : (mod != 0) = false := by simp [h0]
      generalize rs.any (inRg y) = al at *
      clear h0 CC hm
      go_upto_region 6 with (first
        | (at_lookup; refine wpList_lookup_own_ok_int _ rfl _ _ 57 rfl 5 3 .i64 keyed8 Tryd.underlying57 Tryd.underlying3 (zeroI _) mb 6 _ rfl hM0 _ _ rfl (key_byte HBY.out) ?_; intro cc hcc _; rw [HAS.out]; obtain rfl : y = cc := (by rw [HCA.out] at hcc; injection hcc with hcc; injection hcc); clear hcc))
      have hB0 := Below.refl v0.heap.size v0
      go_region_held3 (fun wx => Below v0.heap.size v0 wx ∧ wx.cell? ⟨w.heap.size, 2, none⟩ = some (.bool nt) ∧ wx.cell? ⟨w.heap.size, 3, none⟩ = some (.slice A n c))
        (first | exact HSX.out _ (by assumption) | exact HSX.out _ (Below.drew (by assumption)))
        (first
          | (go_at_call 47; (with_reducible refine (CY.out _ ?_).mono ?_); (first | assumption | exact Below.drew (by assumption)); rintro e wy ⟨rfl, hby⟩; (have hTy : Below v0.heap.size v0 wy := by first | exact bel_call (by assumption) hby | exact bel_call (Below.drew (by assumption)) hby)))
      go_wp2_with fail
      go_ret
      exact ⟨ret_b HE.out.symm, bel_call H0.out.below hTy⟩
    · have hm0 : 0 < mod := by omega
      have HE : Hid (res = (rs.any (inRg (y.tmod mod)) != nt)) := Lib.hid (by rw [HE]; unfold modV; rw [if_pos hm0])
      have CY : Hid (∀ W', Below v0.heap.size v0 W' → Calls Tryd.prog 47 #[.int .i64 (y.tmod mod), .slice A n c] W' (GivesB W' (rs.any (inRg (y.tmod mod))))) := Lib.hid fun W' hW => CC.out _ W' (bel_call H0.out.below hW)
      have h0b : (mod != 0) = true := by simpa using h0
      have h0c : ¬ mod = 0 := h0
      generalize rs.any (inRg (y.tmod mod)) = al at *
      clear CC
      go_upto_region 6 with (first
        | (at_lookup; refine wpList_lookup_own_ok_int _ rfl _ _ 57 rfl 5 3 .i64 keyed8 Tryd.underlying57 Tryd.underlying3 (zeroI _) mb 6 _ rfl hM0 _ _ rfl (key_byte HBY.out) ?_; intro cc hcc _; rw [HAS.out]; obtain rfl : y = cc := (by rw [HCA.out] at hcc; injection hcc with hcc; injection hcc); clear hcc))
      have hB0 := Below.refl v0.heap.size v0
      go_region_held3 (fun wx => Below v0.heap.size v0 wx ∧ wx.cell? ⟨w.heap.size, 2, none⟩ = some (.bool nt) ∧ wx.cell? ⟨w.heap.size, 3, none⟩ = some (.slice A n c))
        (first | exact HSX.out _ (by assumption) | exact HSX.out _ (Below.drew (by assumption)))
        (first
          | (go_at_call 47; (with_reducible refine (CY.out _ ?_).mono ?_); (first | assumption | exact Below.drew (by assumption)); rintro e wy ⟨rfl, hby⟩; (have hTy : Below v0.heap.size v0 wy := by first | exact bel_call (by assumption) hby | exact bel_call (Below.drew (by assumption)) hby)))
      go_wp2_with fail
      go_ret
      exact ⟨ret_b HE.out.symm, bel_call H0.out.below hTy⟩
end Ru
end Go.Proofs.YtkhnjlkamleldaaDoor
