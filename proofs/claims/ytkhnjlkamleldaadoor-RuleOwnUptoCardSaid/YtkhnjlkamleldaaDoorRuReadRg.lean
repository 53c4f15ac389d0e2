/- The program's readRange: a range read of a text; what lay in memory stays as it was. -/
import Derived.Test.YtkhnjlkamleldaaDoorRuLib
import Derived.Test.YtkhnjlkamleldaaDoorRuAmong
namespace Go.Proofs.YtkhnjlkamleldaaDoor
namespace Ru
open Go.RowKit D

theorem cut_le (s sep : List UInt8) : (Lib.cut s sep).1.length ≤ s.length ∧ (Lib.cut s sep).2.1.length ≤ s.length := by
  unfold Lib.cut
  split <;> simp <;> omega
def RgPost (w : World) (o : Option (Int × Int)) (e : Ending) (w' : World) : Prop := ∃ (a b : Int) (ok : Bool), e = .returned (.tuple #[.agg #[.int .i64 a, .int .i64 b], .bool ok]) ∧ ((o = some (a, b) ∧ ok = true) ∨ (o = none ∧ ok = false)) ∧ Below w.heap.size w w'
/-- Atoi of a text that is a number, and of one that is none -/
theorem atoi_some (s : List UInt8) (v : Int) (w : World) (hs : s.length < 4294967281) (h : atoiO s = some v) (hE : Env w) : Calls Tryd.prog 28 #[.string (str s)] w (Gives w (.tuple #[.int .i64 v, .nilIface])) := by
  have := atoi_any (str s) w (by rw [ba_size, str_data]; exact hs) hE
  rw [str_data, h] at this
  refine this.mono fun e w' ⟨x, ev, he, hd, hb⟩ => ⟨?_, hb⟩
  rcases hd with ⟨h1, rfl⟩ | ⟨h1, _⟩
  · injection h1 with h1; rw [he, h1]
  · cases h1
def NoNum (w : World) (e : Ending) (w' : World) : Prop := ∃ (v : Int) (p : Value), e = .returned (.tuple #[.int .i64 v, .iface 96 p]) ∧ Below w.heap.size w w'
theorem atoi_none (s : List UInt8) (w : World) (hs : s.length < 4294967281) (h : atoiO s = none) (hE : Env w) : Calls Tryd.prog 28 #[.string (str s)] w (NoNum w) := by
  have := atoi_any (str s) w (by rw [ba_size, str_data]; exact hs) hE
  rw [str_data, h] at this
  refine this.mono fun e w' ⟨x, ev, he, hd, hb⟩ => ?_
  rcases hd with ⟨h1, _⟩ | ⟨_, p, rfl⟩
  · cases h1
  · exact ⟨x, p, he, hb⟩

set_option maxHeartbeats 4000000 in
set_option maxRecDepth 100000 in
theorem readRange_any (s : ByteArray) (w : World) (hs : s.size < 4294967281) (hE : Env w) : Calls Tryd.prog 30 #[.string s] w (RgPost w (rgP s.data.toList)) := by
  have H0 : Hid (Bs w _ [_]) := Lib.hid (bs_one w [.int .i64 0, .int .i64 0] 41)
  have CC := Lib.hid fun (W : World) (hW : Below w.heap.size w W) => cut_any [46, 46] s W hs (hE.later hW)
  have hle := cut_le s.data.toList [46, 46]
  have hsl : s.data.toList.length < 4294967281 := by rw [← ba_size]; exact hs
  have HP : Hid (rgP s.data.toList = match atoiO (Lib.cut s.data.toList [46, 46]).1, atoiO (if (Lib.cut s.data.toList [46, 46]).2.2 then (Lib.cut s.data.toList [46, 46]).2.1 else (Lib.cut s.data.toList [46, 46]).1) with | some a, some b => some (a, b) | _, _ => none) := Lib.hid rfl
  generalize Lib.cut s.data.toList [46, 46] = t at *
  obtain ⟨p, q, f⟩ := t
  dsimp only at *
  generalize rgP s.data.toList = res at *
  have CS := Lib.hid fun (x : List UInt8) (v : Int) (hx : x.length < 4294967281) (h : atoiO x = some v) (W : World) (hW : Below w.heap.size w W) => atoi_some x v W hx h (hE.later hW)
  have CN := Lib.hid fun (x : List UInt8) (hx : x.length < 4294967281) (h : atoiO x = none) (W : World) (hW : Below w.heap.size w W) => atoi_none x W hx h (hE.later hW)
  have hp : p.length < 4294967281 := by omega
  have hq : q.length < 4294967281 := by omega
  clear hs hE hle hsl
  have hb0 := H0.out.below
  cases f with
  | true =>
    cases h1 : atoiO p with
    | some a =>
      have C1 := Lib.hid (CS.out p a hp h1)
      cases h2 : atoiO q with
      | some b =>
        have C2 := Lib.hid (CS.out q b hq h2)
        have HR : Hid (res = some (a, b)) := Lib.hid (by have := HP.out; rw [if_pos rfl, h1, h2] at this; exact this)
        clear h1 h2 HP CS CN hp hq
        go_enter Tryd.func30, Tryd.ntmps30
        go_upto_region 6 with (first
          | (go_at_call 27; (with_reducible refine (CC.out _ hb0).mono ?_); rintro e w2 ⟨rfl, hb2⟩; (have HB2 := Lib.hid (H0.out.call hb2)); (have hbel2 := HB2.out.below); dsimp only)
          | (go_at_call 28; (with_reducible refine (C1.out _ hbel2).mono ?_); rintro e w3 ⟨rfl, hb3⟩; (have HB3 := Lib.hid (HB2.out.call hb3)); (have hbel3 := HB3.out.below); dsimp only)
          | (go_at_call 28; (with_reducible refine (C2.out _ hbel3).mono ?_); rintro e w4 ⟨rfl, hb4⟩; (have HB4 := Lib.hid (HB3.out.call hb4)); (have hbel4 := HB4.out.below); dsimp only))
        obtain ⟨z0, z1, -⟩ := HB4.out.cells
        have f0 := HB4.out.free (j := 0) (i := 0) rfl rfl
        have f1 := HB4.out.free (j := 0) (i := 1) rfl rfl
        go_region
        go_wp2_with fail
        have HB5 := ((HB4.out.set (j := 0) (i := 0) rfl (.int .i64 a)).set (j := 0) (i := 1) rfl (.int .i64 b)).drew
        obtain ⟨y0, y1, -⟩ := HB5.cells
        exact bodyPost_ret (v := .tuple #[.agg #[.int .i64 a, .int .i64 b], .bool true]) (by simp [results, Tryd.results30, go_sem, z0, z1]) rfl ⟨a, b, true, rfl, .inl ⟨HR.out, rfl⟩, HB5.below⟩
      | none =>
        have C2 := Lib.hid (CN.out q hq h2)
        have HR : Hid (res = none) := Lib.hid (by have := HP.out; rw [if_pos rfl, h1, h2] at this; exact this)
        clear h1 h2 HP CS CN hp hq
        go_enter Tryd.func30, Tryd.ntmps30
        go_upto_region 6 with (first
          | (go_at_call 27; (with_reducible refine (CC.out _ hb0).mono ?_); rintro e w2 ⟨rfl, hb2⟩; (have HB2 := Lib.hid (H0.out.call hb2)); (have hbel2 := HB2.out.below); dsimp only)
          | (go_at_call 28; (with_reducible refine (C1.out _ hbel2).mono ?_); rintro e w3 ⟨rfl, hb3⟩; (have HB3 := Lib.hid (HB2.out.call hb3)); (have hbel3 := HB3.out.below); dsimp only)
          | (go_at_call 28; (with_reducible refine (C2.out _ hbel3).mono ?_); rintro e w4 ⟨vb, pb, rfl, hb4⟩; (have HB4 := Lib.hid (HB3.out.call hb4)); (have hbel4 := HB4.out.below); dsimp only))
        obtain ⟨z0, z1, -⟩ := HB4.out.cells
        have f0 := HB4.out.free (j := 0) (i := 0) rfl rfl
        have f1 := HB4.out.free (j := 0) (i := 1) rfl rfl
        go_region
        go_wp2_with fail
        have HB5 := ((HB4.out.set (j := 0) (i := 0) rfl (.int .i64 a)).set (j := 0) (i := 1) rfl (.int .i64 vb)).drew
        obtain ⟨y0, y1, -⟩ := HB5.cells
        exact bodyPost_ret (v := .tuple #[.agg #[.int .i64 a, .int .i64 vb], .bool false]) (by simp [results, Tryd.results30, go_sem, z0, z1]) rfl ⟨a, vb, false, rfl, .inr ⟨HR.out, rfl⟩, HB5.below⟩
    | none =>
      have C1 := Lib.hid (CN.out p hp h1)
      cases h2 : atoiO q with
      | some b =>
        have C2 := Lib.hid (CS.out q b hq h2)
        have HR : Hid (res = none) := Lib.hid (by have := HP.out; rw [if_pos rfl, h1, h2] at this; exact this)
        clear h1 h2 HP CS CN hp hq
        go_enter Tryd.func30, Tryd.ntmps30
        go_upto_region 6 with (first
          | (go_at_call 27; (with_reducible refine (CC.out _ hb0).mono ?_); rintro e w2 ⟨rfl, hb2⟩; (have HB2 := Lib.hid (H0.out.call hb2)); (have hbel2 := HB2.out.below); dsimp only)
          | (go_at_call 28; (with_reducible refine (C1.out _ hbel2).mono ?_); rintro e w3 ⟨va, pa, rfl, hb3⟩; (have HB3 := Lib.hid (HB2.out.call hb3)); (have hbel3 := HB3.out.below); dsimp only)
          | (go_at_call 28; (with_reducible refine (C2.out _ hbel3).mono ?_); rintro e w4 ⟨rfl, hb4⟩; (have HB4 := Lib.hid (HB3.out.call hb4)); (have hbel4 := HB4.out.below); dsimp only))
        obtain ⟨z0, z1, -⟩ := HB4.out.cells
        have f0 := HB4.out.free (j := 0) (i := 0) rfl rfl
        have f1 := HB4.out.free (j := 0) (i := 1) rfl rfl
        go_region
        go_wp2_with fail
        have HB5 := ((HB4.out.set (j := 0) (i := 0) rfl (.int .i64 va)).set (j := 0) (i := 1) rfl (.int .i64 b)).drew
        obtain ⟨y0, y1, -⟩ := HB5.cells
        exact bodyPost_ret (v := .tuple #[.agg #[.int .i64 va, .int .i64 b], .bool false]) (by simp [results, Tryd.results30, go_sem, z0, z1]) rfl ⟨va, b, false, rfl, .inr ⟨HR.out, rfl⟩, HB5.below⟩
      | none =>
        have C2 := Lib.hid (CN.out q hq h2)
        have HR : Hid (res = none) := Lib.hid (by have := HP.out; rw [if_pos rfl, h1, h2] at this; exact this)
        clear h1 h2 HP CS CN hp hq
        go_enter Tryd.func30, Tryd.ntmps30
        go_upto_region 6 with (first
          | (go_at_call 27; (with_reducible refine (CC.out _ hb0).mono ?_); rintro e w2 ⟨rfl, hb2⟩; (have HB2 := Lib.hid (H0.out.call hb2)); (have hbel2 := HB2.out.below); dsimp only)
          | (go_at_call 28; (with_reducible refine (C1.out _ hbel2).mono ?_); rintro e w3 ⟨va, pa, rfl, hb3⟩; (have HB3 := Lib.hid (HB2.out.call hb3)); (have hbel3 := HB3.out.below); dsimp only)
          | (go_at_call 28; (with_reducible refine (C2.out _ hbel3).mono ?_); rintro e w4 ⟨vb, pb, rfl, hb4⟩; (have HB4 := Lib.hid (HB3.out.call hb4)); (have hbel4 := HB4.out.below); dsimp only))
        obtain ⟨z0, z1, -⟩ := HB4.out.cells
        have f0 := HB4.out.free (j := 0) (i := 0) rfl rfl
        have f1 := HB4.out.free (j := 0) (i := 1) rfl rfl
        go_region
        go_wp2_with fail
        have HB5 := ((HB4.out.set (j := 0) (i := 0) rfl (.int .i64 va)).set (j := 0) (i := 1) rfl (.int .i64 vb)).drew
        obtain ⟨y0, y1, -⟩ := HB5.cells
        exact bodyPost_ret (v := .tuple #[.agg #[.int .i64 va, .int .i64 vb], .bool false]) (by simp [results, Tryd.results30, go_sem, z0, z1]) rfl ⟨va, vb, false, rfl, .inr ⟨HR.out, rfl⟩, HB5.below⟩
  | false =>
    cases h1 : atoiO p with
    | some a =>
      have C1 := Lib.hid (CS.out p a hp h1)
      have C2 := C1
      have h2 := h1
      have HR : Hid (res = some (a, a)) := Lib.hid (by have := HP.out; rw [if_neg (by decide), h1] at this; exact this)
      clear h1 h2 HP CS CN hp hq
      go_enter Tryd.func30, Tryd.ntmps30
      go_upto_region 6 with (first
        | (go_at_call 27; (with_reducible refine (CC.out _ hb0).mono ?_); rintro e w2 ⟨rfl, hb2⟩; (have HB2 := Lib.hid (H0.out.call hb2)); (have hbel2 := HB2.out.below); dsimp only)
        | (go_at_call 28; (with_reducible refine (C1.out _ hbel2).mono ?_); rintro e w3 ⟨rfl, hb3⟩; (have HB3 := Lib.hid (HB2.out.call hb3)); (have hbel3 := HB3.out.below); dsimp only)
        | (go_at_call 28; (with_reducible refine (C2.out _ hbel3).mono ?_); rintro e w4 ⟨rfl, hb4⟩; (have HB4 := Lib.hid (HB3.out.call hb4)); (have hbel4 := HB4.out.below); dsimp only))
      obtain ⟨z0, z1, -⟩ := HB4.out.cells
      have f0 := HB4.out.free (j := 0) (i := 0) rfl rfl
      have f1 := HB4.out.free (j := 0) (i := 1) rfl rfl
      go_region
      go_wp2_with fail
      have HB5 := ((HB4.out.set (j := 0) (i := 0) rfl (.int .i64 a)).set (j := 0) (i := 1) rfl (.int .i64 a)).drew
      obtain ⟨y0, y1, -⟩ := HB5.cells
      exact bodyPost_ret (v := .tuple #[.agg #[.int .i64 a, .int .i64 a], .bool true]) (by simp [results, Tryd.results30, go_sem, z0, z1]) rfl ⟨a, a, true, rfl, .inl ⟨HR.out, rfl⟩, HB5.below⟩
    | none =>
      have C1 := Lib.hid (CN.out p hp h1)
      have C2 := C1
      have h2 := h1
      have HR : Hid (res = none) := Lib.hid (by have := HP.out; rw [if_neg (by decide), h1] at this; exact this)
      clear h1 h2 HP CS CN hp hq
      go_enter Tryd.func30, Tryd.ntmps30
      go_upto_region 6 with (first
        | (go_at_call 27; (with_reducible refine (CC.out _ hb0).mono ?_); rintro e w2 ⟨rfl, hb2⟩; (have HB2 := Lib.hid (H0.out.call hb2)); (have hbel2 := HB2.out.below); dsimp only)
        | (go_at_call 28; (with_reducible refine (C1.out _ hbel2).mono ?_); rintro e w3 ⟨va, pa, rfl, hb3⟩; (have HB3 := Lib.hid (HB2.out.call hb3)); (have hbel3 := HB3.out.below); dsimp only)
        | (go_at_call 28; (with_reducible refine (C2.out _ hbel3).mono ?_); rintro e w4 ⟨vb, pb, rfl, hb4⟩; (have HB4 := Lib.hid (HB3.out.call hb4)); (have hbel4 := HB4.out.below); dsimp only))
      obtain ⟨z0, z1, -⟩ := HB4.out.cells
      have f0 := HB4.out.free (j := 0) (i := 0) rfl rfl
      have f1 := HB4.out.free (j := 0) (i := 1) rfl rfl
      go_region
      go_wp2_with fail
      have HB5 := ((HB4.out.set (j := 0) (i := 0) rfl (.int .i64 va)).set (j := 0) (i := 1) rfl (.int .i64 vb)).drew
      obtain ⟨y0, y1, -⟩ := HB5.cells
      exact bodyPost_ret (v := .tuple #[.agg #[.int .i64 va, .int .i64 vb], .bool false]) (by simp [results, Tryd.results30, go_sem, z0, z1]) rfl ⟨va, vb, false, rfl, .inr ⟨HR.out, rfl⟩, HB5.below⟩
end Ru
end Go.Proofs.YtkhnjlkamleldaaDoor
