/- The program's inBounds, areRanges and check: what is wrong with a rule; what lay in memory stays as it was. -/
import Derived.Test.YtkhnjlkamleldaaDoorRuMap
import Derived.Test.YtkhnjlkamleldaaDoorErrV
namespace Go.Proofs.YtkhnjlkamleldaaDoor
namespace Ru
open Go.RowKit Go.Maps D

theorem up_call {w wx wy : World} (h : Below w.heap.size w wx) (hb : Below wx.heap.size wx wy) : Below w.heap.size w wy := bel_call h hb
def inB (x : Int) : Bool := decide (0 ≤ x ∧ x ≤ 1000000)
theorem inBounds_any (x : Int) (W : World) : Calls Tryd.prog 31 #[.int .i64 x] W (GivesB W (inB x)) := by
  go_enter Tryd.func31, Tryd.ntmps31
  by_cases h0 : 0 ≤ x
  · by_cases h1 : x ≤ 1000000
    · have HE : Hid (inB x = true) := Lib.hid (decide_eq_true ⟨h0, h1⟩)
      go_wp2_with fail
      go_ret
      exact ⟨ret_b HE.out.symm, Below.refl _ _⟩
    · have HE : Hid (inB x = false) := Lib.hid (decide_eq_false fun h => h1 h.2)
      go_wp2_with fail
      go_ret
      exact ⟨ret_b HE.out.symm, Below.refl _ _⟩
  · have HE : Hid (inB x = false) := Lib.hid (decide_eq_false fun h => h0 h.1)
    go_wp2_with fail
    go_ret
    exact ⟨ret_b HE.out.symm, Below.refl _ _⟩

def rgB (r : Int × Int) : Bool := inB r.1 && inB r.2 && !decide (r.2 < r.1)
theorem rgB_eq (r : Int × Int) : rgB r = decide (rgOk r) := by
  unfold rgB inB
  rw [Bool.eq_iff_iff, Bool.and_eq_true, Bool.and_eq_true, decide_eq_true_iff, decide_eq_true_iff, Bool.not_eq_true', decide_eq_false_iff_not, decide_eq_true_iff, show rgOk r ↔ (0 ≤ r.1 ∧ r.1 ≤ r.2 ∧ r.2 ≤ 1000000) from Iff.rfl]
  constructor
  · rintro ⟨⟨⟨h1, h2⟩, h3, h4⟩, h5⟩; exact ⟨h1, by omega, h4⟩
  · rintro ⟨h1, h2, h3⟩; exact ⟨⟨⟨h1, by omega⟩, by omega, h3⟩, by omega⟩
def rgsB (rs : List (Int × Int)) : Bool := decide (rs ≠ [] ∧ ∀ r ∈ rs, rgOk r)
set_option maxHeartbeats 4000000 in
set_option maxRecDepth 100000 in
theorem areRanges_any (A : Option Addr) (n c : Nat) (rs : List (Int × Int)) (w : World) (hr : RgsAt w w.heap.size A n rs) (hl : rs.length = n) (hn : n ≤ maxLen) :
    Calls Tryd.prog 32 #[.slice A n c] w (GivesB w (rgsB rs)) := by
  have HR := Lib.hid hr
  have HL := Lib.hid hl
  have HF : Hid ((∀ r ∈ rs, ¬ rgOk r → rgsB rs = false) ∧ ((∀ r ∈ rs, rgOk r) → rgsB rs = decide (0 < n))) := Lib.hid ⟨fun r hm h => decide_eq_false fun hh => h (hh.2 r hm), fun h => by
    unfold rgsB
    rw [decide_eq_decide]
    constructor
    · intro hh; have := List.length_pos_iff.2 hh.1; omega
    · intro hh; exact ⟨List.length_pos_iff.1 (by omega), h⟩⟩
  generalize rgsB rs = res at *
  unfold maxLen at hn
  clear hr hl
  go_enter Tryd.func32, Tryd.ntmps32
  go_wp2_with fail
  go_loopw [7] (fun i wr => ∃ k : Nat, k ≤ n ∧ i = .int .i64 k ∧ Below w.heap.size w wr ∧ Hid (∀ r ∈ rs.take k, rgOk r)) (fun i _ => n - (intOf i).toNat)
  case atStart => exact ⟨0, Nat.zero_le _, rfl, Below.refl _ _, Lib.hid (by simp)⟩
  case round =>
    obtain ⟨k, hk, rfl, hb, HA⟩ := hrel
    by_cases hlt : k < n
    · have hkr : k < rs.length := by have := HL.out; omega
      obtain ⟨ad, rfl, hadb, x0, x1⟩ := rg_at ((HR.out.below hb).more hb.size) hkr
      rw [← add_of_add, add_pos _ _ (by omega)] at x1
      have HM := Lib.hid (List.getElem_mem hkr)
      have HK : Hid (rs.take (k + 1) = rs.take k ++ [rs[k]]) := Lib.hid (List.take_succ_eq_append_getElem hkr)
      generalize rs[k] = r at *
      obtain ⟨a, b⟩ := r
      dsimp only at *
      have hki : (k : Int) < (n : Int) := by omega
      have HB0 : Hid (Bs wr _ [_]) := Lib.hid (bs_one wr [.int .i64 a, .int .i64 b] 41)
      have HG : Hid (rgB (a, b) = (inB a && inB b && !decide (b < a))) := Lib.hid rfl
      have HGD : Hid (rgB (a, b) = decide (rgOk (a, b))) := Lib.hid (rgB_eq (a, b))
      have CA := Lib.hid fun W => inBounds_any a W
      have CB := Lib.hid fun W => inBounds_any b W
      have hout : Below w.heap.size w wr := hb
      cases ha : inB a with
      | false =>
        have HE : Hid (res = false) := Lib.hid (HF.out.1 _ HM.out (by rw [HG.out, ha] at HGD; exact of_decide_eq_false HGD.out.symm))
        rw [ha] at CA
        clear ha HG HGD
        go_wp2_with (go_at_call 31; (with_reducible refine (CA.out _).mono ?_); rintro e w2 ⟨rfl, hb2⟩; (have HB2 := Lib.hid (HB0.out.call hb2)))
        go_ret
        exact ⟨ret_b HE.out.symm, up_call hout HB2.out.below⟩
      | true =>
        rw [ha] at CA HG
        cases hb' : inB b with
        | false =>
          have HE : Hid (res = false) := Lib.hid (HF.out.1 _ HM.out (by rw [HG.out, hb'] at HGD; exact of_decide_eq_false HGD.out.symm))
          rw [hb'] at CB
          clear ha HG HGD hb'
          go_wp2_with (first
            | (go_at_call 31; (with_reducible refine (CA.out _).mono ?_); rintro e w2 ⟨rfl, hb2⟩; (have HB2 := Lib.hid (HB0.out.call hb2)); (obtain ⟨z0, z1, -⟩ := HB2.out.cells))
            | (go_at_call 31; (with_reducible refine (CB.out _).mono ?_); rintro e w3 ⟨rfl, hb3⟩; (have HB3 := Lib.hid (HB2.out.call hb3))))
          go_ret
          exact ⟨ret_b HE.out.symm, up_call hout HB3.out.below⟩
        | true =>
          rw [hb'] at CB HG
          by_cases hba : b < a
          · have HE : Hid (res = false) := Lib.hid (HF.out.1 _ HM.out (by rw [HG.out, decide_eq_true hba] at HGD; exact of_decide_eq_false HGD.out.symm))
            clear ha HG HGD hb'
            go_wp2_with (first
              | (go_at_call 31; (with_reducible refine (CA.out _).mono ?_); rintro e w2 ⟨rfl, hb2⟩; (have HB2 := Lib.hid (HB0.out.call hb2)); (obtain ⟨z0, z1, -⟩ := HB2.out.cells))
              | (go_at_call 31; (with_reducible refine (CB.out _).mono ?_); rintro e w3 ⟨rfl, hb3⟩; (have HB3 := Lib.hid (HB2.out.call hb3)); (obtain ⟨y0, y1, -⟩ := HB3.out.cells)))
            go_ret
            exact ⟨ret_b HE.out.symm, up_call hout HB3.out.below⟩
          · have HE : Hid (rgOk (a, b)) := Lib.hid (by rw [HG.out, decide_eq_false hba] at HGD; exact of_decide_eq_true HGD.out.symm)
            clear ha HG HGD hb'
            go_wp2_with (first
              | (go_at_call 31; (with_reducible refine (CA.out _).mono ?_); rintro e w2 ⟨rfl, hb2⟩; (have HB2 := Lib.hid (HB0.out.call hb2)); (obtain ⟨z0, z1, -⟩ := HB2.out.cells))
              | (go_at_call 31; (with_reducible refine (CB.out _).mono ?_); rintro e w3 ⟨rfl, hb3⟩; (have HB3 := Lib.hid (HB2.out.call hb3)); (obtain ⟨y0, y1, -⟩ := HB3.out.cells)))
            go_roundw
            case rel => exact ⟨k + 1, by omega, by go_num, up_call hout HB3.out.below, Lib.hid (by
              rw [HK.out]
              intro z hz
              rcases List.mem_append.1 hz with hz | hz
              · exact HA.out z hz
              · obtain rfl := List.mem_singleton.1 hz; exact HE.out)⟩
            case measure => simp [intOf]; omega
    · have hki : ¬ ((k : Int) < (n : Int)) := by omega
      have HE : Hid (res = decide (0 < n)) := Lib.hid (HF.out.2 (by have := HA.out; rwa [List.take_of_length_le (by have := HL.out; omega)] at this))
      clear hlt hk
      go_wp2_with fail
      go_ret
      exact ⟨ret_b (by rw [HE.out]), hb⟩
end Ru
end Go.Proofs.YtkhnjlkamleldaaDoor
