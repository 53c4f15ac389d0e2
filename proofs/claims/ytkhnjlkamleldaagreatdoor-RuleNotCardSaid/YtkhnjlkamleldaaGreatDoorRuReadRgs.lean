/- The program's readRange: a range read of a text; what lay in memory stays as it was. And what follows from it. -/
import Derived.Test.YtkhnjlkamleldaaGreatDoorRuLib
import Derived.Test.YtkhnjlkamleldaaGreatDoorRuHoldsAll
import Derived.Test.YtkhnjlkamleldaaGreatDoorRuOwn
import Derived.Test.YtkhnjlkamleldaaGreatDoorRuPlain
namespace Go.Proofs.YtkhnjlkamleldaaGreatDoor
namespace Ru
open Go.RowKit D

theorem cut_le (s sep : List UInt8) : (Lib.cut s sep).1.length ≤ s.length ∧ (Lib.cut s sep).2.1.length ≤ s.length := by
  unfold Lib.cut
  split <;> simp <;> omega
def RgPost (w : World) (o : Option (Int × Int)) (e : Ending) (w' : World) : Prop := ∃ (a b : Int) (ok : Bool), e = .returned (.tuple #[.agg #[.int .i64 a, .int .i64 b], .bool ok]) ∧ ((o = some (a, b) ∧ ok = true) ∨ (o = none ∧ ok = false)) ∧ Below w.heap.size w w'
/-- Atoi of a text that is a number, and of one that is none -/
theorem atoi_some (s : List UInt8) (v : Int) (w : World) (hs : s.length < 4294967281) (h : atoiO s = some v) (hE : Env w) : Calls Tryz.prog 49 #[.string (str s)] w (Gives w (.tuple #[.int .i64 v, .nilIface])) := by
  have := atoi_any (str s) w (by rw [ba_size, str_data]; exact hs) hE
  rw [str_data, h] at this
  refine this.mono fun e w' ⟨x, ev, he, hd, hb⟩ => ⟨?_, hb⟩
  rcases hd with ⟨h1, rfl⟩ | ⟨h1, _⟩
  · injection h1 with h1; rw [he, h1]
  · cases h1
def NoNum (w : World) (e : Ending) (w' : World) : Prop := ∃ (v : Int) (p : Value), e = .returned (.tuple #[.int .i64 v, .iface 137 p]) ∧ Below w.heap.size w w'
theorem atoi_none (s : List UInt8) (w : World) (hs : s.length < 4294967281) (h : atoiO s = none) (hE : Env w) : Calls Tryz.prog 49 #[.string (str s)] w (NoNum w) := by
  have := atoi_any (str s) w (by rw [ba_size, str_data]; exact hs) hE
  rw [str_data, h] at this
  refine this.mono fun e w' ⟨x, ev, he, hd, hb⟩ => ?_
  rcases hd with ⟨h1, _⟩ | ⟨_, p, rfl⟩
  · cases h1
  · exact ⟨x, p, he, hb⟩

set_option maxHeartbeats 4000000 in
set_option maxRecDepth 100000 in
theorem readRange_any (s : ByteArray) (w : World) (hs : s.size < 4294967281) (hE : Env w) : Calls Tryz.prog 51 #[.string s] w (RgPost w (rgP s.data.toList)) := by
  have H0 : Hid (Bs w _ [_]) := Lib.hid (bs_one w [.int .i64 0, .int .i64 0] 46)
  have CC := Lib.hid fun (W : World) (hW : Below w.heap.size w W) => cut_any [46, 46] s W hs (hE.later hW)
  have hle := cut_le s.data.toList [46, 46]
  have hsl : s.data.toList.length < 4294967281 := by rw [← ba_size]; exact hs
  have HP : Hid (rgP s.data.toList = match atoiO (Lib.cut s.data.toList [46, 46]).1, atoiO (if (Lib.cut s.data.toList [46, 46]).2.2 then (Lib.cut s.data.toList [46, 46]).2.1 else (Lib.cut s.data.toList [46, 46]).1) with | some a, some b => some (a, b) | _, _ => none) := Lib.hid rfl
  generalize Lib.cut s.data.toList [46, 46] = t at *
  obtain ⟨p, q, f⟩ := t
  dsimp only at *
  generalize rgP s.data.toList = res at *
  have CS := Lib.hid fun (x : List UInt8) (v : Int) (hx : x.length < 4294967281) (h : atoiO x = some v) (W : World) (hW : Below w.heap.size w W) => atoi_some x v W hx h (hE.later hW)
  have CN := Lib.hid fun (x : List UInt8) (hx : x.length < 4294967281) (h : atoiO x = none) (W : World) (hW : Below w.heap.size w W) => atoi_none x W hx h (hE.later hW)
  have hp : p.length < 4294967281 := by omega
  have hq : q.length < 4294967281 := by omega
  clear hs hE hle hsl
  have hb0 := H0.out.below
  cases f with
  | true =>
    cases h1 : atoiO p with
    | some a =>
      have C1 := Lib.hid (CS.out p a hp h1)
      cases h2 : atoiO q with
      | some b =>
        have C2 := Lib.hid (CS.out q b hq h2)
        have HR : Hid (res = some (a, b)) := Lib.hid (by have := HP.out; rw [if_pos rfl, h1, h2] at this; exact this)
        clear h1 h2 HP CS CN hp hq
        go_enter Tryz.func51, Tryz.ntmps51
        go_upto_region 6 with (first
          | (go_at_call 48; (with_reducible refine (CC.out _ hb0).mono ?_); rintro e w2 ⟨rfl, hb2⟩; (have HB2 := Lib.hid (H0.out.call hb2)); (have hbel2 := HB2.out.below); dsimp only)
          | (go_at_call 49; (with_reducible refine (C1.out _ hbel2).mono ?_); rintro e w3 ⟨rfl, hb3⟩; (have HB3 := Lib.hid (HB2.out.call hb3)); (have hbel3 := HB3.out.below); dsimp only)
          | (go_at_call 49; (with_reducible refine (C2.out _ hbel3).mono ?_); rintro e w4 ⟨rfl, hb4⟩; (have HB4 := Lib.hid (HB3.out.call hb4)); (have hbel4 := HB4.out.below); dsimp only))
        obtain ⟨z0, z1, -⟩ := HB4.out.cells
        have f0 := HB4.out.free (j := 0) (i := 0) rfl rfl
        have f1 := HB4.out.free (j := 0) (i := 1) rfl rfl
        go_region
        go_wp2_with fail
        have HB5 := ((HB4.out.set (j := 0) (i := 0) rfl (.int .i64 a)).set (j := 0) (i := 1) rfl (.int .i64 b)).drew
        obtain ⟨y0, y1, -⟩ := HB5.cells
        exact bodyPost_ret (v := .tuple #[.agg #[.int .i64 a, .int .i64 b], .bool true]) (by simp [results, Tryz.results51, go_sem, z0, z1]) rfl ⟨a, b, true, rfl, .inl ⟨HR.out, rfl⟩, HB5.below⟩
      | none =>
        have C2 := Lib.hid (CN.out q hq h2)
        have HR : Hid (res = none) := Lib.hid (by have := HP.out; rw [if_pos rfl, h1, h2] at this; exact this)
        clear h1 h2 HP CS CN hp hq
        go_enter Tryz.func51, Tryz.ntmps51
        go_upto_region 6 with (first
          | (go_at_call 48; (with_reducible refine (CC.out _ hb0).mono ?_); rintro e w2 ⟨rfl, hb2⟩; (have HB2 := Lib.hid (H0.out.call hb2)); (have hbel2 := HB2.out.below); dsimp only)
          | (go_at_call 49; (with_reducible refine (C1.out _ hbel2).mono ?_); rintro e w3 ⟨rfl, hb3⟩; (have HB3 := Lib.hid (HB2.out.call hb3)); (have hbel3 := HB3.out.below); dsimp only)
          | (go_at_call 49; (with_reducible refine (C2.out _ hbel3).mono ?_); rintro e w4 ⟨vb, pb, rfl, hb4⟩; (have HB4 := Lib.hid (HB3.out.call hb4)); (have hbel4 := HB4.out.below); dsimp only))
        obtain ⟨z0, z1, -⟩ := HB4.out.cells
        have f0 := HB4.out.free (j := 0) (i := 0) rfl rfl
        have f1 := HB4.out.free (j := 0) (i := 1) rfl rfl
        go_region
        go_wp2_with fail
        have HB5 := ((HB4.out.set (j := 0) (i := 0) rfl (.int .i64 a)).set (j := 0) (i := 1) rfl (.int .i64 vb)).drew
        obtain ⟨y0, y1, -⟩ := HB5.cells
        exact bodyPost_ret (v := .tuple #[.agg #[.int .i64 a, .int .i64 vb], .bool false]) (by simp [results, Tryz.results51, go_sem, z0, z1]) rfl ⟨a, vb, false, rfl, .inr ⟨HR.out, rfl⟩, HB5.below⟩
    | none =>
      have C1 := Lib.hid (CN.out p hp h1)
      cases h2 : atoiO q with
      | some b =>
        have C2 := Lib.hid (CS.out q b hq h2)
        have HR : Hid (res = none) := Lib.hid (by have := HP.out; rw [if_pos rfl, h1, h2] at this; exact this)
        clear h1 h2 HP CS CN hp hq
        go_enter Tryz.func51, Tryz.ntmps51
        go_upto_region 6 with (first
          | (go_at_call 48; (with_reducible refine (CC.out _ hb0).mono ?_); rintro e w2 ⟨rfl, hb2⟩; (have HB2 := Lib.hid (H0.out.call hb2)); (have hbel2 := HB2.out.below); dsimp only)
          | (go_at_call 49; (with_reducible refine (C1.out _ hbel2).mono ?_); rintro e w3 ⟨va, pa, rfl, hb3⟩; (have HB3 := Lib.hid (HB2.out.call hb3)); (have hbel3 := HB3.out.below); dsimp only)
          | (go_at_call 49; (with_reducible refine (C2.out _ hbel3).mono ?_); rintro e w4 ⟨rfl, hb4⟩; (have HB4 := Lib.hid (HB3.out.call hb4)); (have hbel4 := HB4.out.below); dsimp only))
        obtain ⟨z0, z1, -⟩ := HB4.out.cells
        have f0 := HB4.out.free (j := 0) (i := 0) rfl rfl
        have f1 := HB4.out.free (j := 0) (i := 1) rfl rfl
        go_region
        go_wp2_with fail
        have HB5 := ((HB4.out.set (j := 0) (i := 0) rfl (.int .i64 va)).set (j := 0) (i := 1) rfl (.int .i64 b)).drew
        obtain ⟨y0, y1, -⟩ := HB5.cells
        exact bodyPost_ret (v := .tuple #[.agg #[.int .i64 va, .int .i64 b], .bool false]) (by simp [results, Tryz.results51, go_sem, z0, z1]) rfl ⟨va, b, false, rfl, .inr ⟨HR.out, rfl⟩, HB5.below⟩
      | none =>
        have C2 := Lib.hid (CN.out q hq h2)
        have HR : Hid (res = none) := Lib.hid (by have := HP.out; rw [if_pos rfl, h1, h2] at this; exact this)
        clear h1 h2 HP CS CN hp hq
        go_enter Tryz.func51, Tryz.ntmps51
        go_upto_region 6 with (first
          | (go_at_call 48; (with_reducible refine (CC.out _ hb0).mono ?_); rintro e w2 ⟨rfl, hb2⟩; (have HB2 := Lib.hid (H0.out.call hb2)); (have hbel2 := HB2.out.below); dsimp only)
          | (go_at_call 49; (with_reducible refine (C1.out _ hbel2).mono ?_); rintro e w3 ⟨va, pa, rfl, hb3⟩; (have HB3 := Lib.hid (HB2.out.call hb3)); (have hbel3 := HB3.out.below); dsimp only)
          | (go_at_call 49; (with_reducible refine (C2.out _ hbel3).mono ?_); rintro e w4 ⟨vb, pb, rfl, hb4⟩; (have HB4 := Lib.hid (HB3.out.call hb4)); (have hbel4 := HB4.out.below); dsimp only))
        obtain ⟨z0, z1, -⟩ := HB4.out.cells
        have f0 := HB4.out.free (j := 0) (i := 0) rfl rfl
        have f1 := HB4.out.free (j := 0) (i := 1) rfl rfl
        go_region
        go_wp2_with fail
        have HB5 := ((HB4.out.set (j := 0) (i := 0) rfl (.int .i64 va)).set (j := 0) (i := 1) rfl (.int .i64 vb)).drew
        obtain ⟨y0, y1, -⟩ := HB5.cells
        exact bodyPost_ret (v := .tuple #[.agg #[.int .i64 va, .int .i64 vb], .bool false]) (by simp [results, Tryz.results51, go_sem, z0, z1]) rfl ⟨va, vb, false, rfl, .inr ⟨HR.out, rfl⟩, HB5.below⟩
  | false =>
    cases h1 : atoiO p with
    | some a =>
      have C1 := Lib.hid (CS.out p a hp h1)
      have C2 := C1
      have h2 := h1
      have HR : Hid (res = some (a, a)) := Lib.hid (by have := HP.out; rw [if_neg (by decide), h1] at this; exact this)
      clear h1 h2 HP CS CN hp hq
      go_enter Tryz.func51, Tryz.ntmps51
      go_upto_region 6 with (first
        | (go_at_call 48; (with_reducible refine (CC.out _ hb0).mono ?_); rintro e w2 ⟨rfl, hb2⟩; (have HB2 := Lib.hid (H0.out.call hb2)); (have hbel2 := HB2.out.below); dsimp only)
        | (go_at_call 49; (with_reducible refine (C1.out _ hbel2).mono ?_); rintro e w3 ⟨rfl, hb3⟩; (have HB3 := Lib.hid (HB2.out.call hb3)); (have hbel3 := HB3.out.below); dsimp only)
        | (go_at_call 49; (with_reducible refine (C2.out _ hbel3).mono ?_); rintro e w4 ⟨rfl, hb4⟩; (have HB4 := Lib.hid (HB3.out.call hb4)); (have hbel4 := HB4.out.below); dsimp only))
      obtain ⟨z0, z1, -⟩ := HB4.out.cells
      have f0 := HB4.out.free (j := 0) (i := 0) rfl rfl
      have f1 := HB4.out.free (j := 0) (i := 1) rfl rfl
      go_region
      go_wp2_with fail
      have HB5 := ((HB4.out.set (j := 0) (i := 0) rfl (.int .i64 a)).set (j := 0) (i := 1) rfl (.int .i64 a)).drew
      obtain ⟨y0, y1, -⟩ := HB5.cells
      exact bodyPost_ret (v := .tuple #[.agg #[.int .i64 a, .int .i64 a], .bool true]) (by simp [results, Tryz.results51, go_sem, z0, z1]) rfl ⟨a, a, true, rfl, .inl ⟨HR.out, rfl⟩, HB5.below⟩
    | none =>
      have C1 := Lib.hid (CN.out p hp h1)
      have C2 := C1
      have h2 := h1
      have HR : Hid (res = none) := Lib.hid (by have := HP.out; rw [if_neg (by decide), h1] at this; exact this)
      clear h1 h2 HP CS CN hp hq
      go_enter Tryz.func51, Tryz.ntmps51
      go_upto_region 6 with (first
        | (go_at_call 48; (with_reducible refine (CC.out _ hb0).mono ?_); rintro e w2 ⟨rfl, hb2⟩; (have HB2 := Lib.hid (H0.out.call hb2)); (have hbel2 := HB2.out.below); dsimp only)
        | (go_at_call 49; (with_reducible refine (C1.out _ hbel2).mono ?_); rintro e w3 ⟨va, pa, rfl, hb3⟩; (have HB3 := Lib.hid (HB2.out.call hb3)); (have hbel3 := HB3.out.below); dsimp only)
        | (go_at_call 49; (with_reducible refine (C2.out _ hbel3).mono ?_); rintro e w4 ⟨vb, pb, rfl, hb4⟩; (have HB4 := Lib.hid (HB3.out.call hb4)); (have hbel4 := HB4.out.below); dsimp only))
      obtain ⟨z0, z1, -⟩ := HB4.out.cells
      have f0 := HB4.out.free (j := 0) (i := 0) rfl rfl
      have f1 := HB4.out.free (j := 0) (i := 1) rfl rfl
      go_region
      go_wp2_with fail
      have HB5 := ((HB4.out.set (j := 0) (i := 0) rfl (.int .i64 va)).set (j := 0) (i := 1) rfl (.int .i64 vb)).drew
      obtain ⟨y0, y1, -⟩ := HB5.cells
      exact bodyPost_ret (v := .tuple #[.agg #[.int .i64 va, .int .i64 vb], .bool false]) (by simp [results, Tryz.results51, go_sem, z0, z1]) rfl ⟨va, vb, false, rfl, .inr ⟨HR.out, rfl⟩, HB5.below⟩
end Ru
end Go.Proofs.YtkhnjlkamleldaaGreatDoor

/- What split of ranges tells; readRange of a text that is one, and of one that is none. -/
namespace Go.Proofs.YtkhnjlkamleldaaGreatDoor
namespace Ru
open Go.RowKit Go.Maps D

theorem rg_info : (Tryz.prog.info? 46).map (fun i => (i.zero, i.size, i.bytes)) = some (some (.agg #[.int .i64 0, .int .i64 0]), 2, 16) := by kernel_rfl
theorem rel_info : (Tryz.prog.info? 45).map (fun i => (i.zero, i.size, i.bytes)) = some (some (.agg #[.int .u8 0, .int .i64 0, .bool false, .slice none 0 0]), 4, 48) := by kernel_rfl
theorem part_info : (Tryz.prog.info? 47).map (fun i => (i.zero, i.size, i.bytes)) = some (some (.slice none 0 0), 1, 24) := by kernel_rfl
def SplitRgP (w : World) (o : Option (List (Int × Int))) (e : Ending) (w' : World) : Prop :=
  ((o = none ∧ e = .returned (.tuple #[.slice none 0 0, .bool false])) ∨ ∃ (rs : List (Int × Int)) (A : Option Addr) (c : Nat), o = some rs ∧ e = .returned (.tuple #[.slice A rs.length c, .bool true]) ∧ rs.length ≤ c ∧ w'.ownsRow w.heap.size 46 2 (.slice A rs.length c) rs.length (rgC rs)) ∧ Below w.heap.size w w'
def RgNone (w : World) (e : Ending) (w' : World) : Prop := ∃ a b : Int, e = .returned (.tuple #[.agg #[.int .i64 a, .int .i64 b], .bool false]) ∧ Below w.heap.size w w'
theorem rg_none {args : Array Value} {w : World} (h : Calls Tryz.prog 51 args w (RgPost w none)) : Calls Tryz.prog 51 args w (RgNone w) :=
  h.mono fun e w' ⟨a, b, ok, he, hd, hb⟩ => by
    rcases hd with ⟨h1, _⟩ | ⟨_, rfl⟩
    · cases h1
    · exact ⟨a, b, he, hb⟩
theorem rg_some {args : Array Value} {w : World} {x : Int × Int} (h : Calls Tryz.prog 51 args w (RgPost w (some x))) : Calls Tryz.prog 51 args w (Gives w (.tuple #[.agg #[.int .i64 x.1, .int .i64 x.2], .bool true])) :=
  h.mono fun e w' ⟨a, b, ok, he, hd, hb⟩ => by
    rcases hd with ⟨h1, rfl⟩ | ⟨h1, _⟩
    · injection h1 with h1; subst h1; exact ⟨he, hb⟩
    · cases h1
end Ru
end Go.Proofs.YtkhnjlkamleldaaGreatDoor

/- The program's split of ranges; what lay in memory stays as it was. -/
namespace Go.Proofs.YtkhnjlkamleldaaGreatDoor
namespace Ru
open Go.RowKit Go.Maps D

set_option maxHeartbeats 4000000 in
set_option maxRecDepth 100000 in
theorem splitRg_any (s : ByteArray) (w : World) (hs : s.size < 4294967280) (hE : Env w) :
    Calls Tryz.prog 50 #[.string s, .string ⟨#[44]⟩, .func (.func 51) #[] #[]] w (SplitRgP w (rgsP s.data.toList)) := by
  obtain ⟨i0, hi0, hz0, hz1, hz2⟩ := info_parts rg_info
  have CS := Lib.hid (split_any [44] s w (by omega) (by simp) hE)
  have hss : s.data.toList.length < 4294967280 := by rw [← ba_size]; exact hs
  have CR := Lib.hid fun (p : List UInt8) (hp : p ∈ splitL [44] s.data.toList) (W : World) (hW : Below w.heap.size w W) => readRange_any (str p) W (by rw [ba_size, str_data]; have := split_le _ _ _ hp; omega) (hE.later hW)
  have hmany := split_many [44] s.data.toList
  have HW : Hid (rgsP s.data.toList = (splitL [44] s.data.toList).mapM rgP) := Lib.hid rfl
  generalize rgsP s.data.toList = res at *
  generalize splitL [44] s.data.toList = pcs at *
  have hN : pcs.length ≤ 4294967282 := by omega
  clear hs hss hE hmany
  generalize hg0 : pcs.length = N at *
  have HN := Lib.hid hg0
  clear hg0
  go_enter Tryz.func50, Tryz.ntmps50
  go_wp2_with (go_at_call 47; (with_reducible refine (CS.out).mono ?_); rintro e w1 ⟨rfl, hrd1, hb1⟩)
  rw [HN.out] at hrd1 ⊢
  have HRD := Lib.hid hrd1
  clear hrd1 CS
  generalize hgad : (⟨w.heap.size, 0, none⟩ : Addr) = gad at *
  clear hgad
  go_loopw [8, 17] (fun v i wr => ∃ (k : Nat) (done : List (Int × Int)), k ≤ N ∧ done.length = k ∧ i = .int .i64 k ∧ Below w1.heap.size w1 wr ∧ wr.ownsRow w1.heap.size 46 2 v done.length (rgC done) ∧ Hid ((pcs.take k).mapM rgP = some done)) (fun _ i _ => N - (intOf i).toNat)
  case atStart => exact ⟨0, [], Nat.zero_le _, rfl, rfl, Below.refl _ _, World.ownsRow_nil _ _ _ _, Lib.hid (by simp)⟩
  case round =>
    obtain ⟨k, done, hk, hdl, rfl, hb, hown, HA⟩ := hrel
    by_cases hlt : k < N
    · have hkr : k < pcs.length := by have := HN.out; omega
      have hki : (k : Int) < (N : Int) := by omega
      have hki0 : (0 : Int) ≤ (k : Int) := by omega
      obtain ⟨ad, u, ead, hadb, hu, x0⟩ := ((HRD.out.below hb).more hb.size).at_ (k := k) hlt
      obtain rfl : gad = ad := by injection ead
      have hu2 : u = .string (str pcs[k]) := by
        rw [strC_get, List.getElem?_eq_getElem hkr] at hu
        injection hu with hu
        exact hu.symm
      rw [hu2] at x0
      have hmem : pcs[k] ∈ pcs := List.getElem_mem hkr
      have hbw : Below w.heap.size w wr := bel_call hb1 hb
      have CC := CR.out _ hmem wr hbw
      have HTK : Hid (pcs.take (k + 1) = pcs.take k ++ [pcs[k]]) := Lib.hid (List.take_succ_eq_append_getElem hkr)
      have HM := Lib.hid hmem
      clear hu hu2 hmem ead
      generalize pcs[k] = pc at *
      cases hx : rgP pc with
      | none =>
        have CN := Lib.hid (rg_none (hx ▸ CC))
        have HE : Hid (res = none) := Lib.hid (by rw [HW.out]; exact mapM_stop HM.out hx)
        clear hx CC CR HTK HA hown HW
        go_wp2_with (go_at_call 51; (with_reducible refine (CN.out).mono ?_); rintro e w2 ⟨va, vb, rfl, hb2⟩; dsimp only)
        exact bodyPost_ret (v := .tuple #[.slice none 0 0, .bool false]) (by simp [results, Tryz.results50, go_sem]) rfl ⟨.inl ⟨HE.out, rfl⟩, bel_alloc (bel_call hbw hb2) _⟩
      | some x =>
        have CG := Lib.hid (rg_some (hx ▸ CC))
        have HA2 : ∀ y : Int × Int, y = x → Hid ((pcs.take (k + 1)).mapM rgP = some (done ++ [y])) := fun y hy => Lib.hid (by
          rw [HTK.out]
          exact mapM_snoc HA.out (by rw [hy]; exact hx))
        obtain ⟨A1, c1, rfl, hc1, hm1, -, -⟩ := own_shape hown
        clear hx CC CR HTK HA HW
        go_wp2_with (first
          | (go_at_call 51; (with_reducible refine (CG.out).mono ?_); rintro e w2 ⟨rfl, hb2⟩; (have hbx := bel_call hb hb2); (have hb4 := bel_alloc hbx (.cells #[.int .i64 x.1, .int .i64 x.2] 46)); (have hb5 := bel_alloc hb4 (.cells #[.int .i64 x.1, .int .i64 x.2] 46)); (have hown5 := own_later hown (bel_alloc (bel_alloc hb2 (.cells #[.int .i64 x.1, .int .i64 x.2] 46)) (.cells #[.int .i64 x.1, .int .i64 x.2] 46))); (have hrd5 := Reads.of_own (own_lit (w2.alloc (.cells #[.int .i64 x.1, .int .i64 x.2] 46)) (rgCell x) 46 (base := 0) (k := 2) (Nat.zero_le _) rfl)); (rw [show (w2.alloc (.cells #[.int .i64 x.1, .int .i64 x.2] 46)).heap.size = w2.heap.size + 1 from by simp] at hrd5); dsimp only)
          | (at_builtin; refine wpList_append_any _ rfl (.tmp 29) (.tmp 31) _ rfl w1.heap.size 46 i0 _ 2 16 Tryz.underlying43 hi0 hz0 hz1 hz2 rfl (by omega) (.slice A1 done.length c1) done.length _ rfl hown5 _ _ 1 1 (rgCell x) rfl hrd5 (by intro u hu; simp [rgCell] at hu; rcases hu with rfl | rfl <;> rfl) (by unfold maxLen; omega) (by omega) hb5.size ?_; intro v6 w6 hown6 hg6 hat6))
        have hB6 : Below w1.heap.size w1 w6 := hb5.grown hg6 hb5.size (fun j hj => (hown5.lt j hj).1)
        go_roundw
        case rel => exact ⟨k + 1, done ++ [x], by omega, by simp; omega, by go_num, hB6, by rw [rgC_snoc]; simpa using hown6, HA2 _ rfl⟩
        case measure => simp [intOf]; omega
    · have hki : ¬ ((k : Int) < (N : Int)) := by omega
      have HE : Hid (res = some done) := Lib.hid (by rw [HW.out, ← HA.out, List.take_of_length_le (by have := HN.out; omega)])
      obtain ⟨A1, c1, rfl, hc1, hm1, -, -⟩ := own_shape hown
      clear hlt hk HA
      go_wp2_with fail
      exact bodyPost_ret (v := .tuple #[.slice A1 done.length c1, .bool true]) (by simp [results, Tryz.results50, go_sem, hdl]) rfl ⟨.inr ⟨done, A1, c1, HE.out, rfl, hc1, own_base hown hb1.size⟩, bel_call hb1 hb⟩
end Ru
end Go.Proofs.YtkhnjlkamleldaaGreatDoor
