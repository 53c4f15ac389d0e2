/- The program's rangeText, and its join of ranges; what lay in memory stays as it was. -/
import Derived.Test.YtkhnjlkamleldaaDoorRuLib
import Derived.Test.YtkhnjlkamleldaaDoorRuAmong
import Derived.Deep.OwnRows
namespace Go.Proofs.YtkhnjlkamleldaaDoor
namespace Ru
open Go.RowKit D

theorem ba_add (a b : List UInt8) : str a ++ str b = str (a ++ b) := by
  apply ba_ext
  rw [ByteArray.data_append, Array.toList_append, str_data, str_data, str_data]
theorem dots : (⟨#[46, 46]⟩ : ByteArray) = str [46, 46] := rfl
set_option maxHeartbeats 4000000 in
set_option maxRecDepth 100000 in
theorem rangeText_any (a b : Int) (w : World) (hok : rgOk (a, b)) (hE : Env w) : Calls Tryd.prog 36 #[.agg #[.int .i64 a, .int .i64 b]] w (Gives w (.string (str (rgT (a, b))))) := by
  have H0 : Hid (Bs w _ [_]) := Lib.hid (bs_one w [.int .i64 a, .int .i64 b] 41)
  obtain ⟨d0, d1, -⟩ := H0.out.cells
  obtain ⟨h0, h1, h2⟩ : 0 ≤ a ∧ a ≤ b ∧ b ≤ 1000000 := hok
  have CI := Lib.hid fun (x : Int) (h0 : 0 ≤ x) (h1 : x ≤ 1000000) (W : World) (hW : Below w.heap.size w W) => itoa_dg x W h0 h1 (hE.later hW)
  have CA := Lib.hid (CI.out a h0 (by omega))
  have CB := Lib.hid (CI.out b (by omega) h2)
  have sa := dg_size (a := a) (by omega)
  have sb := dg_size (a := b) h2
  clear hE CI
  by_cases hab : a = b
  · subst hab
    have HE : Hid (rgT (a, a) = dg a) := Lib.hid (rgT_eq (by show ¬ a < a; omega))
    go_enter Tryd.func36, Tryd.ntmps36
    go_wp2_with (go_at_call 34; (with_reducible refine (CA.out _ H0.out.below).mono ?_); rintro e w2 ⟨rfl, hb2⟩)
    go_ret
    exact ⟨by rw [HE.out]; rfl, bel_call H0.out.below hb2⟩
  · have HE : Hid (str (rgT (a, b)) = str (dg a) ++ ⟨#[46, 46]⟩ ++ str (dg b)) := Lib.hid (by rw [rgT_lt (by show a < b; omega), dots, ba_add, ba_add, List.append_assoc])
    have habb : (a == b) = false := by simpa using hab
    go_enter Tryd.func36, Tryd.ntmps36
    clear hab h0 h1 h2
    go_upto_region 3 with fail
    obtain ⟨v0, hv0⟩ : ∃ V', w.alloc (.cells #[.int .i64 a, .int .i64 b] 41) = V' := ⟨_, rfl⟩
    rw [hv0] at H0 d0 d1 ⊢
    clear hv0
    have CA2 : Hid (∀ W', Below v0.heap.size v0 W' → Calls Tryd.prog 34 #[.int .i64 a] W' (Gives W' (.string (str (dg a))))) := Lib.hid fun W' hW => CA.out W' (bel_call H0.out.below hW)
    have CB2 : Hid (∀ W', Below v0.heap.size v0 W' → Calls Tryd.prog 34 #[.int .i64 b] W' (Gives W' (.string (str (dg b))))) := Lib.hid fun W' hW => CB.out W' (bel_call H0.out.below hW)
    have HSX : Hid (∀ wx, Below v0.heap.size v0 wx → Below v0.heap.size v0 wx ∧ wx.cell? ⟨w.heap.size, 0, none⟩ = some (.int .i64 a) ∧ wx.cell? ⟨w.heap.size, 1, none⟩ = some (.int .i64 b)) := Lib.hid fun wx hb => by
      obtain ⟨z0, z1, -⟩ := (H0.out.call hb).cells
      exact ⟨hb, z0, z1⟩
    have hB0 := Below.refl v0.heap.size v0
    have s1 : ¬ 9223372036854775807 < (str (dg a)).size + 2 := by omega
    have s2 : ¬ 9223372036854775807 < (str (dg a)).size + 2 + (str (dg b)).size := by omega
    clear sa sb CA CB
    generalize str (dg a) = ta at *
    generalize str (dg b) = tb at *
    go_region_held3 (fun wx => Below v0.heap.size v0 wx ∧ wx.cell? ⟨w.heap.size, 0, none⟩ = some (.int .i64 a) ∧ wx.cell? ⟨w.heap.size, 1, none⟩ = some (.int .i64 b))
      (first | exact HSX.out _ (by assumption) | exact HSX.out _ (Below.drew (by assumption)))
      (first
        | (go_at_call 34; (with_reducible refine (CA2.out _ ?_).mono ?_); (first | assumption | exact Below.drew (by assumption)); rintro e wy ⟨rfl, hby⟩; (have hTy : Below v0.heap.size v0 wy := by first | exact bel_call (by assumption) hby | exact bel_call (Below.drew (by assumption)) hby))
        | (go_at_call 34; (with_reducible refine (CB2.out _ ?_).mono ?_); (first | assumption | exact Below.drew (by assumption)); rintro e wy ⟨rfl, hby⟩; (have hTy : Below v0.heap.size v0 wy := by first | exact bel_call (by assumption) hby | exact bel_call (Below.drew (by assumption)) hby)))
    go_wp2_with fail
    go_ret
    exact ⟨by rw [HE.out]; rfl, bel_call H0.out.below (by assumption)⟩
end Ru
end Go.Proofs.YtkhnjlkamleldaaDoor
