/- The program's readRange: a range read of a text; what lay in memory stays as it was. And what follows from it. And what follows from it. -/
import Derived.Test.YteedhnpdffnfjaaDoorRuLib
import Derived.Test.YteedhnpdffnfjaaDoorRuCheck
import Derived.Test.YteedhnpdffnfjaaDoorRuGround
import Derived.Test.YteedhnpdffnfjaaDoorRuPlain
namespace Go.Proofs.YteedhnpdffnfjaaDoor
namespace Ru
open Go.RowKit D

theorem cut_le (s sep : List UInt8) : (Lib.cut s sep).1.length ≤ s.length ∧ (Lib.cut s sep).2.1.length ≤ s.length := by
  unfold Lib.cut
  split <;> simp <;> omega
def RgPost (w : World) (o : Option (Int × Int)) (e : Ending) (w' : World) : Prop := ∃ (a b : Int) (ok : Bool), e = .returned (.tuple #[.agg #[.int .i64 a, .int .i64 b], .bool ok]) ∧ ((o = some (a, b) ∧ ok = true) ∨ (o = none ∧ ok = false)) ∧ Below w.heap.size w w'
/-- Atoi of a text that is a number, and of one that is none -/
theorem atoi_some (s : List UInt8) (v : Int) (w : World) (hs : s.length < 4294967281) (h : atoiO s = some v) (hE : Env w) : Calls Tryd.prog 45 #[.string (str s)] w (Gives w (.tuple #[.int .i64 v, .nilIface])) := by
  have := atoi_any (str s) w (by rw [ba_size, str_data]; exact hs) hE
  rw [str_data, h] at this
  refine this.mono fun e w' ⟨x, ev, he, hd, hb⟩ => ⟨?_, hb⟩
  rcases hd with ⟨h1, rfl⟩ | ⟨h1, _⟩
  · injection h1 with h1; rw [he, h1]
  · cases h1
def NoNum (w : World) (e : Ending) (w' : World) : Prop := ∃ (v : Int) (p : Value), e = .returned (.tuple #[.int .i64 v, .iface 144 p]) ∧ Below w.heap.size w w'
theorem atoi_none (s : List UInt8) (w : World) (hs : s.length < 4294967281) (h : atoiO s = none) (hE : Env w) : Calls Tryd.prog 45 #[.string (str s)] w (NoNum w) := by
  have := atoi_any (str s) w (by rw [ba_size, str_data]; exact hs) hE
  rw [str_data, h] at this
  refine this.mono fun e w' ⟨x, ev, he, hd, hb⟩ => ?_
  rcases hd with ⟨h1, _⟩ | ⟨_, p, rfl⟩
  · cases h1
  · exact ⟨x, p, he, hb⟩

set_option maxHeartbeats 4000000 in
set_option maxRecDepth 100000 in
theorem readRange_any (s : ByteArray) (w : World) (hs : s.size < 4294967281) (hE : Env w) : Calls Tryd.prog 47 #[.string s] w (RgPost w (rgP s.data.toList)) := by
  have H0 : Hid (Bs w _ [_]) := Lib.hid (bs_one w [.int .i64 0, .int .i64 0] 120)
  have CC := Lib.hid fun (W : World) (hW : Below w.heap.size w W) => cut_any [46, 46] s W hs (hE.later hW)
  have hle := cut_le s.data.toList [46, 46]
  have hsl : s.data.toList.length < 4294967281 := by rw [← ba_size]; exact hs
  have HP : Hid (rgP s.data.toList = match atoiO (Lib.cut s.data.toList [46, 46]).1, atoiO (if (Lib.cut s.data.toList [46, 46]).2.2 then (Lib.cut s.data.toList [46, 46]).2.1 else (Lib.cut s.data.toList [46, 46]).1) with | some a, some b => some (a, b) | _, _ => none) := Lib.hid rfl
  generalize Lib.cut s.data.toList [46, 46] = t at *
  obtain ⟨p, q, f⟩ := t
  dsimp only at *
  generalize rgP s.data.toList = res at *
  have CS := Lib.hid fun (x : List UInt8) (v : Int) (hx : x.length < 4294967281) (h : atoiO x = some v) (W : World) (hW : Below w.heap.size w W) => atoi_some x v W hx h (hE.later hW)
  have CN := Lib.hid fun (x : List UInt8) (hx : x.length < 4294967281) (h : atoiO x = none) (W : World) (hW : Below w.heap.size w W) => atoi_none x W hx h (hE.later hW)
  have hp : p.length < 4294967281 := by omega
  have hq : q.length < 4294967281 := by omega
  clear hs hE hle hsl
  have hb0 := H0.out.below
  cases f with
  | true =>
    cases h1 : atoiO p with
    | some a =>
      have C1 := Lib.hid (CS.out p a hp h1)
      cases h2 : atoiO q with
      | some b =>
        have C2 := Lib.hid (CS.out q b hq h2)
        have HR : Hid (res = some (a, b)) := Lib.hid (by have := HP.out; rw [if_pos rfl, h1, h2] at this; exact this)
        clear h1 h2 HP CS CN hp hq
        go_enter Tryd.func47, Tryd.ntmps47
        go_upto_region 6 with (first
          | (go_at_call 44; (with_reducible refine (CC.out _ hb0).mono ?_); rintro e w2 ⟨rfl, hb2⟩; (have HB2 := Lib.hid (H0.out.call hb2)); (have hbel2 := HB2.out.below); dsimp only)
          | (go_at_call 45; (with_reducible refine (C1.out _ hbel2).mono ?_); rintro e w3 ⟨rfl, hb3⟩; (have HB3 := Lib.hid (HB2.out.call hb3)); (have hbel3 := HB3.out.below); dsimp only)
          | (go_at_call 45; (with_reducible refine (C2.out _ hbel3).mono ?_); rintro e w4 ⟨rfl, hb4⟩; (have HB4 := Lib.hid (HB3.out.call hb4)); (have hbel4 := HB4.out.below); dsimp only))
        obtain ⟨z0, z1, -⟩ := HB4.out.cells
        have f0 := HB4.out.free (j := 0) (i := 0) rfl rfl
        have f1 := HB4.out.free (j := 0) (i := 1) rfl rfl
        go_region
        go_wp2_with fail
        have HB5 := ((HB4.out.set (j := 0) (i := 0) rfl (.int .i64 a)).set (j := 0) (i := 1) rfl (.int .i64 b)).drew
        obtain ⟨y0, y1, -⟩ := HB5.cells
        exact bodyPost_ret (v := .tuple #[.agg #[.int .i64 a, .int .i64 b], .bool true]) (by simp [results, Tryd.results47, go_sem, z0, z1]) rfl ⟨a, b, true, rfl, .inl ⟨HR.out, rfl⟩, HB5.below⟩
      | none =>
        have C2 := Lib.hid (CN.out q hq h2)
        have HR : Hid (res = none) := Lib.hid (by have := HP.out; rw [if_pos rfl, h1, h2] at this; exact this)
        clear h1 h2 HP CS CN hp hq
        go_enter Tryd.func47, Tryd.ntmps47
        go_upto_region 6 with (first
          | (go_at_call 44; (with_reducible refine (CC.out _ hb0).mono ?_); rintro e w2 ⟨rfl, hb2⟩; (have HB2 := Lib.hid (H0.out.call hb2)); (have hbel2 := HB2.out.below); dsimp only)
          | (go_at_call 45; (with_reducible refine (C1.out _ hbel2).mono ?_); rintro e w3 ⟨rfl, hb3⟩; (have HB3 := Lib.hid (HB2.out.call hb3)); (have hbel3 := HB3.out.below); dsimp only)
          | (go_at_call 45; (with_reducible refine (C2.out _ hbel3).mono ?_); rintro e w4 ⟨vb, pb, rfl, hb4⟩; (have HB4 := Lib.hid (HB3.out.call hb4)); (have hbel4 := HB4.out.below); dsimp only))
        obtain ⟨z0, z1, -⟩ := HB4.out.cells
        have f0 := HB4.out.free (j := 0) (i := 0) rfl rfl
        have f1 := HB4.out.free (j := 0) (i := 1) rfl rfl
        go_region
        go_wp2_with fail
        have HB5 := ((HB4.out.set (j := 0) (i := 0) rfl (.int .i64 a)).set (j := 0) (i := 1) rfl (.int .i64 vb)).drew
        obtain ⟨y0, y1, -⟩ := HB5.cells
        exact bodyPost_ret (v := .tuple #[.agg #[.int .i64 a, .int .i64 vb], .bool false]) (by simp [results, Tryd.results47, go_sem, z0, z1]) rfl ⟨a, vb, false, rfl, .inr ⟨HR.out, rfl⟩, HB5.below⟩
    | none =>
      have C1 := Lib.hid (CN.out p hp h1)
      cases h2 : atoiO q with
      | some b =>
        have C2 := Lib.hid (CS.out q b hq h2)
        have HR : Hid (res = none) := Lib.hid (by have := HP.out; rw [if_pos rfl, h1, h2] at this; exact this)
        clear h1 h2 HP CS CN hp hq
        go_enter Tryd.func47, Tryd.ntmps47
        go_upto_region 6 with (first
          | (go_at_call 44; (with_reducible refine (CC.out _ hb0).mono ?_); rintro e w2 ⟨rfl, hb2⟩; (have HB2 := Lib.hid (H0.out.call hb2)); (have hbel2 := HB2.out.below); dsimp only)
          | (go_at_call 45; (with_reducible refine (C1.out _ hbel2).mono ?_); rintro e w3 ⟨va, pa, rfl, hb3⟩; (have HB3 := Lib.hid (HB2.out.call hb3)); (have hbel3 := HB3.out.below); dsimp only)
          | (go_at_call 45; (with_reducible refine (C2.out _ hbel3).mono ?_); rintro e w4 ⟨rfl, hb4⟩; (have HB4 := Lib.hid (HB3.out.call hb4)); (have hbel4 := HB4.out.below); dsimp only))
        obtain ⟨z0, z1, -⟩ := HB4.out.cells
        have f0 := HB4.out.free (j := 0) (i := 0) rfl rfl
        have f1 := HB4.out.free (j := 0) (i := 1) rfl rfl
        go_region
        go_wp2_with fail
        have HB5 := ((HB4.out.set (j := 0) (i := 0) rfl (.int .i64 va)).set (j := 0) (i := 1) rfl (.int .i64 b)).drew
        obtain ⟨y0, y1, -⟩ := HB5.cells
        exact bodyPost_ret (v := .tuple #[.agg #[.int .i64 va, .int .i64 b], .bool false]) (by simp [results, Tryd.results47, go_sem, z0, z1]) rfl ⟨va, b, false, rfl, .inr ⟨HR.out, rfl⟩, HB5.below⟩
      | none =>
        have C2 := Lib.hid (CN.out q hq h2)
        have HR : Hid (res = none) := Lib.hid (by have := HP.out; rw [if_pos rfl, h1, h2] at this; exact this)
        clear h1 h2 HP CS CN hp hq
        go_enter Tryd.func47, Tryd.ntmps47
        go_upto_region 6 with (first
          | (go_at_call 44; (with_reducible refine (CC.out _ hb0).mono ?_); rintro e w2 ⟨rfl, hb2⟩; (have HB2 := Lib.hid (H0.out.call hb2)); (have hbel2 := HB2.out.below); dsimp only)
          | (go_at_call 45; (with_reducible refine (C1.out _ hbel2).mono ?_); rintro e w3 ⟨va, pa, rfl, hb3⟩; (have HB3 := Lib.hid (HB2.out.call hb3)); (have hbel3 := HB3.out.below); dsimp only)
          | (go_at_call 45; (with_reducible refine (C2.out _ hbel3).mono ?_); rintro e w4 ⟨vb, pb, rfl, hb4⟩; (have HB4 := Lib.hid (HB3.out.call hb4)); (have hbel4 := HB4.out.below); dsimp only))
        obtain ⟨z0, z1, -⟩ := HB4.out.cells
        have f0 := HB4.out.free (j := 0) (i := 0) rfl rfl
        have f1 := HB4.out.free (j := 0) (i := 1) rfl rfl
        go_region
        go_wp2_with fail
        have HB5 := ((HB4.out.set (j := 0) (i := 0) rfl (.int .i64 va)).set (j := 0) (i := 1) rfl (.int .i64 vb)).drew
        obtain ⟨y0, y1, -⟩ := HB5.cells
        exact bodyPost_ret (v := .tuple #[.agg #[.int .i64 va, .int .i64 vb], .bool false]) (by simp [results, Tryd.results47, go_sem, z0, z1]) rfl ⟨va, vb, false, rfl, .inr ⟨HR.out, rfl⟩, HB5.below⟩
  | false =>
    cases h1 : atoiO p with
    | some a =>
      have C1 := Lib.hid (CS.out p a hp h1)
      have C2 := C1
      have h2 := h1
      have HR : Hid (res = some (a, a)) := Lib.hid (by have := HP.out; rw [if_neg (by decide), h1] at this; exact this)
      clear h1 h2 HP CS CN hp hq
      go_enter Tryd.func47, Tryd.ntmps47
      go_upto_region 6 with (first
        | (go_at_call 44; (with_reducible refine (CC.out _ hb0).mono ?_); rintro e w2 ⟨rfl, hb2⟩; (have HB2 := Lib.hid (H0.out.call hb2)); (have hbel2 := HB2.out.below); dsimp only)
        | (go_at_call 45; (with_reducible refine (C1.out _ hbel2).mono ?_); rintro e w3 ⟨rfl, hb3⟩; (have HB3 := Lib.hid (HB2.out.call hb3)); (have hbel3 := HB3.out.below); dsimp only)
        | (go_at_call 45; (with_reducible refine (C2.out _ hbel3).mono ?_); rintro e w4 ⟨rfl, hb4⟩; (have HB4 := Lib.hid (HB3.out.call hb4)); (have hbel4 := HB4.out.below); dsimp only))
      obtain ⟨z0, z1, -⟩ := HB4.out.cells
      have f0 := HB4.out.free (j := 0) (i := 0) rfl rfl
      have f1 := HB4.out.free (j := 0) (i := 1) rfl rfl
      go_region
      go_wp2_with fail
      have HB5 := ((HB4.out.set (j := 0) (i := 0) rfl (.int .i64 a)).set (j := 0) (i := 1) rfl (.int .i64 a)).drew
      obtain ⟨y0, y1, -⟩ := HB5.cells
      exact bodyPost_ret (v := .tuple #[.agg #[.int .i64 a, .int .i64 a], .bool true]) (by simp [results, Tryd.results47, go_sem, z0, z1]) rfl ⟨a, a, true, rfl, .inl ⟨HR.out, rfl⟩, HB5.below⟩
    | none =>
      have C1 := Lib.hid (CN.out p hp h1)
      have C2 := C1
      have h2 := h1
      have HR : Hid (res = none) := Lib.hid (by have := HP.out; rw [if_neg (by decide), h1] at this; exact this)
      clear h1 h2 HP CS CN hp hq
      go_enter Tryd.func47, Tryd.ntmps47
      go_upto_region 6 with (first
        | (go_at_call 44; (with_reducible refine (CC.out _ hb0).mono ?_); rintro e w2 ⟨rfl, hb2⟩; (have HB2 := Lib.hid (H0.out.call hb2)); (have hbel2 := HB2.out.below); dsimp only)
        | (go_at_call 45; (with_reducible refine (C1.out _ hbel2).mono ?_); rintro e w3 ⟨va, pa, rfl, hb3⟩; (have HB3 := Lib.hid (HB2.out.call hb3)); (have hbel3 := HB3.out.below); dsimp only)
        | (go_at_call 45; (with_reducible refine (C2.out _ hbel3).mono ?_); rintro e w4 ⟨vb, pb, rfl, hb4⟩; (have HB4 := Lib.hid (HB3.out.call hb4)); (have hbel4 := HB4.out.below); dsimp only))
      obtain ⟨z0, z1, -⟩ := HB4.out.cells
      have f0 := HB4.out.free (j := 0) (i := 0) rfl rfl
      have f1 := HB4.out.free (j := 0) (i := 1) rfl rfl
      go_region
      go_wp2_with fail
      have HB5 := ((HB4.out.set (j := 0) (i := 0) rfl (.int .i64 va)).set (j := 0) (i := 1) rfl (.int .i64 vb)).drew
      obtain ⟨y0, y1, -⟩ := HB5.cells
      exact bodyPost_ret (v := .tuple #[.agg #[.int .i64 va, .int .i64 vb], .bool false]) (by simp [results, Tryd.results47, go_sem, z0, z1]) rfl ⟨va, vb, false, rfl, .inr ⟨HR.out, rfl⟩, HB5.below⟩
end Ru
end Go.Proofs.YteedhnpdffnfjaaDoor

/- What split of ranges tells; readRange of a text that is one, and of one that is none. -/
namespace Go.Proofs.YteedhnpdffnfjaaDoor
namespace Ru
open Go.RowKit Go.Maps D

theorem rg_info : (Tryd.prog.info? 120).map (fun i => (i.zero, i.size, i.bytes)) = some (some (.agg #[.int .i64 0, .int .i64 0]), 2, 16) := by kernel_rfl
theorem rel_info : (Tryd.prog.info? 88).map (fun i => (i.zero, i.size, i.bytes)) = some (some (.agg #[.int .u8 0, .int .i64 0, .bool false, .slice none 0 0]), 4, 48) := by kernel_rfl
theorem part_info : (Tryd.prog.info? 83).map (fun i => (i.zero, i.size, i.bytes)) = some (some (.slice none 0 0), 1, 24) := by kernel_rfl
def SplitRgP (w : World) (o : Option (List (Int × Int))) (e : Ending) (w' : World) : Prop :=
  ((o = none ∧ e = .returned (.tuple #[.slice none 0 0, .bool false])) ∨ ∃ (rs : List (Int × Int)) (A : Option Addr) (c : Nat), o = some rs ∧ e = .returned (.tuple #[.slice A rs.length c, .bool true]) ∧ rs.length ≤ c ∧ w'.ownsRow w.heap.size 120 2 (.slice A rs.length c) rs.length (rgC rs)) ∧ Below w.heap.size w w'
def RgNone (w : World) (e : Ending) (w' : World) : Prop := ∃ a b : Int, e = .returned (.tuple #[.agg #[.int .i64 a, .int .i64 b], .bool false]) ∧ Below w.heap.size w w'
theorem rg_none {args : Array Value} {w : World} (h : Calls Tryd.prog 47 args w (RgPost w none)) : Calls Tryd.prog 47 args w (RgNone w) :=
  h.mono fun e w' ⟨a, b, ok, he, hd, hb⟩ => by
    rcases hd with ⟨h1, _⟩ | ⟨_, rfl⟩
    · cases h1
    · exact ⟨a, b, he, hb⟩
theorem rg_some {args : Array Value} {w : World} {x : Int × Int} (h : Calls Tryd.prog 47 args w (RgPost w (some x))) : Calls Tryd.prog 47 args w (Gives w (.tuple #[.agg #[.int .i64 x.1, .int .i64 x.2], .bool true])) :=
  h.mono fun e w' ⟨a, b, ok, he, hd, hb⟩ => by
    rcases hd with ⟨h1, rfl⟩ | ⟨h1, _⟩
    · injection h1 with h1; subst h1; exact ⟨he, hb⟩
    · cases h1
end Ru
end Go.Proofs.YteedhnpdffnfjaaDoor

/- The program's split of ranges; what lay in memory stays as it was. -/
namespace Go.Proofs.YteedhnpdffnfjaaDoor
namespace Ru
open Go.RowKit Go.Maps D

set_option maxHeartbeats 4000000 in
set_option maxRecDepth 100000 in
theorem splitRg_any (s : ByteArray) (w : World) (hs : s.size < 4294967280) (hE : Env w) :
    Calls Tryd.prog 46 #[.string s, .string ⟨#[44]⟩, .func (.func 47) #[] #[]] w (SplitRgP w (rgsP s.data.toList)) := by
  obtain ⟨i0, hi0, hz0, hz1, hz2⟩ := info_parts rg_info
  have CS := Lib.hid (split_any [44] s w (by omega) (by simp) hE)
  have hss : s.data.toList.length < 4294967280 := by rw [← ba_size]; exact hs
  have CR := Lib.hid fun (p : List UInt8) (hp : p ∈ splitL [44] s.data.toList) (W : World) (hW : Below w.heap.size w W) => readRange_any (str p) W (by rw [ba_size, str_data]; have := split_le _ _ _ hp; omega) (hE.later hW)
  have hmany := split_many [44] s.data.toList
  have HW : Hid (rgsP s.data.toList = (splitL [44] s.data.toList).mapM rgP) := Lib.hid rfl
  generalize rgsP s.data.toList = res at *
  generalize splitL [44] s.data.toList = pcs at *
  have hN : pcs.length ≤ 4294967282 := by omega
  clear hs hss hE hmany
  generalize hg0 : pcs.length = N at *
  have HN := Lib.hid hg0
  clear hg0
  go_enter Tryd.func46, Tryd.ntmps46
  go_wp2_with (go_at_call 43; (with_reducible refine (CS.out).mono ?_); rintro e w1 ⟨rfl, hrd1, hb1⟩)
  rw [HN.out] at hrd1 ⊢
  have HRD := Lib.hid hrd1
  clear hrd1 CS
  generalize hgad : (⟨w.heap.size, 0, none⟩ : Addr) = gad at *
  clear hgad
  go_loopw [8, 17] (fun v i wr => ∃ (k : Nat) (done : List (Int × Int)), k ≤ N ∧ done.length = k ∧ i = .int .i64 k ∧ Below w1.heap.size w1 wr ∧ wr.ownsRow w1.heap.size 120 2 v done.length (rgC done) ∧ Hid ((pcs.take k).mapM rgP = some done)) (fun _ i _ => N - (intOf i).toNat)
  case atStart => exact ⟨0, [], Nat.zero_le _, rfl, rfl, Below.refl _ _, World.ownsRow_nil _ _ _ _, Lib.hid (by simp)⟩
  case round =>
    obtain ⟨k, done, hk, hdl, rfl, hb, hown, HA⟩ := hrel
    by_cases hlt : k < N
    · have hkr : k < pcs.length := by have := HN.out; omega
      have hki : (k : Int) < (N : Int) := by omega
      have hki0 : (0 : Int) ≤ (k : Int) := by omega
      obtain ⟨ad, u, ead, hadb, hu, x0⟩ := ((HRD.out.below hb).more hb.size).at_ (k := k) hlt
      obtain rfl : gad = ad := by injection ead
      have hu2 : u = .string (str pcs[k]) := by
        rw [strC_get, List.getElem?_eq_getElem hkr] at hu
        injection hu with hu
        exact hu.symm
      rw [hu2] at x0
      have hmem : pcs[k] ∈ pcs := List.getElem_mem hkr
      have hbw : Below w.heap.size w wr := bel_call hb1 hb
      have CC := CR.out _ hmem wr hbw
      have HTK : Hid (pcs.take (k + 1) = pcs.take k ++ [pcs[k]]) := Lib.hid (List.take_succ_eq_append_getElem hkr)
      have HM := Lib.hid hmem
      clear hu hu2 hmem ead
      generalize pcs[k] = pc at *
      cases hx : rgP pc with
      | none =>
        have CN := Lib.hid (rg_none (hx ▸ CC))
        have HE : Hid (res = none) := Lib.hid (by rw [HW.out]; exact mapM_stop HM.out hx)
        clear hx CC CR HTK HA hown HW
        go_wp2_with (go_at_call 47; (with_reducible refine (CN.out).mono ?_); rintro e w2 ⟨va, vb, rfl, hb2⟩; dsimp only)
        exact bodyPost_ret (v := .tuple #[.slice none 0 0, .bool false]) (by simp [results, Tryd.results46, go_sem]) rfl ⟨.inl ⟨HE.out, rfl⟩, bel_alloc (bel_call hbw hb2) _⟩
      | some x =>
        have CG := Lib.hid (rg_some (hx ▸ CC))
        have HA2 : ∀ y : Int × Int, y = x → Hid ((pcs.take (k + 1)).mapM rgP = some (done ++ [y])) := fun y hy => Lib.hid (by
          rw [HTK.out]
          exact mapM_snoc HA.out (by rw [hy]; exact hx))
        obtain ⟨A1, c1, rfl, hc1, hm1, -, -⟩ := own_shape hown
        clear hx CC CR HTK HA HW
        go_wp2_with (first
          | (go_at_call 47; (with_reducible refine (CG.out).mono ?_); rintro e w2 ⟨rfl, hb2⟩; (have hbx := bel_call hb hb2); (have hb4 := bel_alloc hbx (.cells #[.int .i64 x.1, .int .i64 x.2] 120)); (have hb5 := bel_alloc hb4 (.cells #[.int .i64 x.1, .int .i64 x.2] 120)); (have hown5 := own_later hown (bel_alloc (bel_alloc hb2 (.cells #[.int .i64 x.1, .int .i64 x.2] 120)) (.cells #[.int .i64 x.1, .int .i64 x.2] 120))); (have hrd5 := Reads.of_own (own_lit (w2.alloc (.cells #[.int .i64 x.1, .int .i64 x.2] 120)) (rgCell x) 120 (base := 0) (k := 2) (Nat.zero_le _) rfl)); (rw [show (w2.alloc (.cells #[.int .i64 x.1, .int .i64 x.2] 120)).heap.size = w2.heap.size + 1 from by simp] at hrd5); dsimp only)
          | (at_builtin; refine wpList_append_any _ rfl (.tmp 29) (.tmp 31) _ rfl w1.heap.size 120 i0 _ 2 16 Tryd.underlying86 hi0 hz0 hz1 hz2 rfl (by omega) (.slice A1 done.length c1) done.length _ rfl hown5 _ _ 1 1 (rgCell x) rfl hrd5 (by intro u hu; simp [rgCell] at hu; rcases hu with rfl | rfl <;> rfl) (by unfold maxLen; omega) (by omega) hb5.size ?_; intro v6 w6 hown6 hg6 hat6))
        have hB6 : Below w1.heap.size w1 w6 := hb5.grown hg6 hb5.size (fun j hj => (hown5.lt j hj).1)
        go_roundw
        case rel => exact ⟨k + 1, done ++ [x], by omega, by simp; omega, by go_num, hB6, by rw [rgC_snoc]; simpa using hown6, HA2 _ rfl⟩
        case measure => simp [intOf]; omega
    · have hki : ¬ ((k : Int) < (N : Int)) := by omega
      have HE : Hid (res = some done) := Lib.hid (by rw [HW.out, ← HA.out, List.take_of_length_le (by have := HN.out; omega)])
      obtain ⟨A1, c1, rfl, hc1, hm1, -, -⟩ := own_shape hown
      clear hlt hk HA
      go_wp2_with fail
      exact bodyPost_ret (v := .tuple #[.slice A1 done.length c1, .bool true]) (by simp [results, Tryd.results46, go_sem, hdl]) rfl ⟨.inr ⟨done, A1, c1, HE.out, rfl, hc1, own_base hown hb1.size⟩, bel_call hb1 hb⟩
end Ru
end Go.Proofs.YteedhnpdffnfjaaDoor

/- The program's readRel: a relation read of a text; what lay in memory stays as it was. And what follows from it. -/
namespace Go.Proofs.YteedhnpdffnfjaaDoor
namespace Ru
open Go.RowKit Go.Maps D

theorem cut_same {s sep : List UInt8} (h : (Lib.cut s sep).2.2 = false) : (Lib.cut s sep).1 = s := by
  unfold Lib.cut at h ⊢
  split at h
  · cases h
  · rw [if_neg ‹_›]
theorem grown_set (w : World) (g i : Nat) (u : Value) : w.grownBy (w.setCell ⟨g, i, none⟩ u) (some g) := ⟨rfl, rfl, rfl, by simp, fun k _ hne => Below.heap_setCell w ⟨g, i, none⟩ u k (fun e => hne (by rw [e]))⟩
theorem own_set {w : World} {base : Nat} {e : TypeId} {size n : Nat} {v : Value} {xs : List Value} (h : w.ownsRow base e size v n xs) {g : Nat} (hg : g < base) (i : Nat) (u : Value) : (w.setCell ⟨g, i, none⟩ u).ownsRow base e size v n xs := by
  refine h.kept (grown_set w g i u) ?_
  cases hv : v.ownBlock with
  | none => exact .inl rfl
  | some k =>
    right
    intro he
    injection he with he
    have := (h.lt k hv).1
    omega
def ReadRelP (w : World) (o : Option RelV) (e : Ending) (w' : World) : Prop :=
  ((o = none ∧ ∃ (a m : Int) (b : Bool) (A : Option Addr) (n c : Nat), e = .returned (.tuple #[.agg #[.int .u8 a, .int .i64 m, .bool b, .slice A n c], .bool false])) ∨
    ∃ (x : RelV) (A : Option Addr) (c : Nat), o = some x ∧ e = .returned (.tuple #[.agg #[.int .u8 x.op, .int .i64 x.mod, .bool x.nt, .slice A x.rs.length c], .bool true]) ∧ x.rs.length ≤ c ∧ w'.ownsRow w.heap.size 120 2 (.slice A x.rs.length c) x.rs.length (rgC x.rs)) ∧ Below w.heap.size w w'
def SplitRgN (w : World) (e : Ending) (w' : World) : Prop := e = .returned (.tuple #[.slice none 0 0, .bool false]) ∧ Below w.heap.size w w'
def SplitRgS (w : World) (rs : List (Int × Int)) (e : Ending) (w' : World) : Prop := ∃ (A : Option Addr) (c : Nat), e = .returned (.tuple #[.slice A rs.length c, .bool true]) ∧ rs.length ≤ c ∧ w'.ownsRow w.heap.size 120 2 (.slice A rs.length c) rs.length (rgC rs) ∧ Below w.heap.size w w'
theorem splitRg_none {args : Array Value} {w : World} (h : Calls Tryd.prog 46 args w (SplitRgP w none)) : Calls Tryd.prog 46 args w (SplitRgN w) :=
  h.mono fun e w' ⟨hd, hb⟩ => by
    rcases hd with ⟨_, he⟩ | ⟨rs, A, c, h1, _⟩
    · exact ⟨he, hb⟩
    · cases h1
theorem splitRg_some {args : Array Value} {w : World} {rs : List (Int × Int)} (h : Calls Tryd.prog 46 args w (SplitRgP w (some rs))) : Calls Tryd.prog 46 args w (SplitRgS w rs) :=
  h.mono fun e w' ⟨hd, hb⟩ => by
    rcases hd with ⟨h1, _⟩ | ⟨rs', A, c, h1, he, hc, ho⟩
    · cases h1
    · injection h1 with h1; subst h1; exact ⟨A, c, he, hc, ho, hb⟩
theorem ops_none {s l : List UInt8} (h : (signP s).1 = l) (hno : ∀ c, (Lib.cut l [32, 37, 32]).1 ≠ [c]) : relP s = none := by
  unfold relP
  rw [h]
  split
  · rename_i c hc; exact absurd hc (hno c)
  · rfl
theorem ops_one {s l r : List UInt8} {nt : Bool} {c : UInt8} (h : signP s = (l, r, nt)) (hc : (Lib.cut l [32, 37, 32]).1 = [c]) : relP s = match modP l, rgsP r with | some m, some rs => some ⟨c.toNat, m, nt, rs⟩ | _, _ => none := by
  unfold relP
  rw [h]
  dsimp only
  rw [hc]
  rfl
theorem sign_yes {s : List UInt8} (h : (Lib.cut s [32, 33, 61, 32]).2.2 = true) : signP s = ((Lib.cut s [32, 33, 61, 32]).1, (Lib.cut s [32, 33, 61, 32]).2.1, true) := by
  unfold signP; rw [if_pos h]
theorem sign_no {s : List UInt8} (h : (Lib.cut s [32, 33, 61, 32]).2.2 = false) : signP s = ((Lib.cut s [32, 61, 32]).1, (Lib.cut s [32, 61, 32]).2.1, false) := by
  unfold signP; rw [if_neg (by rw [h]; decide), cut_same h]
theorem one_or (l : List UInt8) : (∃ c, l = [c]) ∨ (∀ c, l ≠ [c]) ∧ l.length ≠ 1 := by
  match l with
  | [] => exact .inr ⟨fun c h => (by cases h), by simp⟩
  | [c] => exact .inl ⟨c, rfl⟩
  | a :: b :: r => exact .inr ⟨fun c h => (by cases h), by simp⟩
set_option maxHeartbeats 8000000 in
set_option maxRecDepth 100000 in
theorem readRel_yes (s : ByteArray) (w : World) (hs : s.size < 4294967280) (hE : Env w) (hf : (Lib.cut s.data.toList [32, 33, 61, 32]).2.2 = true) : Calls Tryd.prog 33 #[.string s] w (ReadRelP w (relP s.data.toList)) := by
  have H0 : Hid (Bs w _ [_]) := Lib.hid (bs_one w [.int .u8 0, .int .i64 0, .bool false, .slice none 0 0] 88)
  have CC := Lib.hid fun (W : World) (hW : Below w.heap.size w W) => cut_any [32, 33, 61, 32] s W (by omega) (hE.later hW)
  have hsl : s.data.toList.length < 4294967280 := by rw [← ba_size]; exact hs
  have HSG := Lib.hid (sign_yes hf)
  have hle1 := cut_le s.data.toList [32, 33, 61, 32]
  have CB := Lib.hid fun (l : List UInt8) (hl : l.length < 4294967281) (W : World) (hW : Below w.heap.size w W) => cut_any [32, 37, 32] (str l) W (by rw [ba_size, str_data]; exact hl) (hE.later hW)
  have CS := Lib.hid fun (x : List UInt8) (v : Int) (hx : x.length < 4294967281) (h : atoiO x = some v) (W : World) (hW : Below w.heap.size w W) => atoi_some x v W hx h (hE.later hW)
  have CN := Lib.hid fun (x : List UInt8) (hx : x.length < 4294967281) (h : atoiO x = none) (W : World) (hW : Below w.heap.size w W) => atoi_none x W hx h (hE.later hW)
  have CR := Lib.hid fun (x : List UInt8) (hx : x.length < 4294967280) (W : World) (hW : Below w.heap.size w W) => splitRg_any (str x) W (by rw [ba_size, str_data]; exact hx) (hE.later hW)
  have HNO := Lib.hid fun l h hno => ops_none (s := s.data.toList) (l := l) h hno
  have HONE := Lib.hid fun l r nt c h hc => ops_one (s := s.data.toList) (l := l) (r := r) (nt := nt) (c := c) h hc
  rw [hf] at CC
  generalize (Lib.cut s.data.toList [32, 33, 61, 32]).1 = l1 at *
  generalize (Lib.cut s.data.toList [32, 33, 61, 32]).2.1 = r1 at *
  dsimp only at *
  generalize relP s.data.toList = res at *
  have hl1 : l1.length < 4294967280 := by omega
  have hr1 : r1.length < 4294967280 := by omega
  have CB1 := Lib.hid (CB.out l1 (by omega))
  have hle2 := cut_le l1 [32, 37, 32]
  have HON := Lib.hid fun (c : UInt8) (hc : (Lib.cut l1 [32, 37, 32]).1 = [c]) => HONE.out l1 r1 true c HSG.out hc
  have HNN := Lib.hid (HNO.out l1 (by rw [HSG.out]))
  have HMP : Hid (modP l1 = if (Lib.cut l1 [32, 37, 32]).2.2 then atoiO (Lib.cut l1 [32, 37, 32]).2.1 else some 0) := Lib.hid rfl
  clear hE hs hsl hf CB HNO HONE HSG hle1
  generalize Lib.cut l1 [32, 37, 32] = t2 at *
  obtain ⟨op, md, dv⟩ := t2
  dsimp only at *
  have hmd : md.length < 4294967281 := by omega
  have CR1 := Lib.hid (CR.out r1 hr1)
  have hb0 := H0.out.below
  clear CR hle2 hl1 hr1
  rcases one_or op with ⟨c, rfl⟩ | ⟨hno, hlen⟩
  · have HR1 := Lib.hid (HON.out c rfl)
    clear HON HNN
    cases dv with
    | true =>
      rw [if_pos rfl] at HMP
      cases ha : atoiO md with
      | none =>
        have CA := Lib.hid (CN.out md hmd ha)
        have HE : Hid (res = none) := Lib.hid (by rw [HR1.out, HMP.out, ha])
        clear ha HR1 HMP CS CN hmd CR1
        go_enter Tryd.func33, Tryd.ntmps33
        go_upto_region 7 with (first
          | (go_at_call 44; (with_reducible refine (CC.out _ hb0).mono ?_); rintro e w1 ⟨rfl, hb1⟩; (have HB1 := Lib.hid (H0.out.call hb1)); (have hbel1 := HB1.out.below); dsimp only)
          | (go_at_call 44; (with_reducible refine (CB1.out _ hbel1).mono ?_); rintro e w3 ⟨rfl, hb3⟩; (have HB3 := Lib.hid (HB1.out.call hb3)); (have hbel3 := HB3.out.below); dsimp only))
        go_upto_region 8 with fail
        rw [show ∀ h, (str [c])[0]'h = c from fun _ => rfl]
        have HB4 : Hid (Bs w _ _) := Lib.hid (HB3.out.alloc [.int .u8 (c.toNat : Int), .int .i64 0, .bool true, .slice none 0 0] 88)
        have hlt3 : w3.heap.size < (w3.alloc (.cells #[.int .u8 (c.toNat : Int), .int .i64 0, .bool true, .slice none 0 0] 88)).heap.size := by simp
        obtain ⟨w4, hw4⟩ : ∃ V, w3.alloc (.cells #[.int .u8 (c.toNat : Int), .int .i64 0, .bool true, .slice none 0 0] 88) = V := ⟨_, rfl⟩
        rw [hw4] at HB4 hlt3 ⊢
        clear hw4
        have hbel4 := HB4.out.below
        go_upto_region 11 with (first
          | (go_at_call 45; (with_reducible refine (CA.out _ hbel4).mono ?_); rintro e w5 ⟨va, pa, rfl, hb5⟩; (have HB5 := Lib.hid (HB4.out.call hb5)); dsimp only))
        obtain ⟨z0, z1, z2, z3, -⟩ := (HB5.out.call (Below.refl _ _)).cells
        have y0 := HB5.out.cell (j := 1) (i := 0) rfl rfl
        have y1 := HB5.out.cell (j := 1) (i := 1) rfl rfl
        have y2 := HB5.out.cell (j := 1) (i := 2) rfl rfl
        have y3 := HB5.out.cell (j := 1) (i := 3) rfl rfl
        have f0 := HB5.out.free (j := 1) (i := 0) rfl rfl
        have f1 := HB5.out.free (j := 1) (i := 1) rfl rfl
        have f2 := HB5.out.free (j := 1) (i := 2) rfl rfl
        have f3 := HB5.out.free (j := 1) (i := 3) rfl rfl
        go_wp2_with fail
        have HB9 := (((HB5.out.set (j := 1) (i := 0) rfl (.int .u8 0)).set (j := 1) (i := 1) rfl (.int .i64 0)).set (j := 1) (i := 2) rfl (.bool false)).set (j := 1) (i := 3) rfl (.slice none 0 0)
        have x0 := HB9.cell (j := 1) (i := 0) rfl rfl
        have x1 := HB9.cell (j := 1) (i := 1) rfl rfl
        have x2 := HB9.cell (j := 1) (i := 2) rfl rfl
        have x3 := HB9.cell (j := 1) (i := 3) rfl rfl
        exact bodyPost_ret (v := .tuple #[.agg #[.int .u8 0, .int .i64 0, .bool false, .slice none 0 0], .bool false]) (by simp [results, Tryd.results33, go_sem, y0, y1, y2, y3]) rfl ⟨.inl ⟨HE.out, _, _, _, _, _, _, rfl⟩, HB9.below⟩

      | some m =>
        have CA := Lib.hid (CS.out md m hmd ha)
        rw [HMP.out, ha] at HR1
        clear ha HMP CS CN hmd
        cases hrs : rgsP r1 with
        | none =>
          have HE : Hid (res = none) := Lib.hid (by rw [HR1.out, hrs])
          have CQ := Lib.hid fun (W : World) (hW : Below w.heap.size w W) => splitRg_none (hrs ▸ CR1.out W hW)
          clear hrs HR1 CR1
          go_enter Tryd.func33, Tryd.ntmps33
          go_upto_region 7 with (first
            | (go_at_call 44; (with_reducible refine (CC.out _ hb0).mono ?_); rintro e w1 ⟨rfl, hb1⟩; (have HB1 := Lib.hid (H0.out.call hb1)); (have hbel1 := HB1.out.below); dsimp only)
            | (go_at_call 44; (with_reducible refine (CB1.out _ hbel1).mono ?_); rintro e w3 ⟨rfl, hb3⟩; (have HB3 := Lib.hid (HB1.out.call hb3)); (have hbel3 := HB3.out.below); dsimp only))
          go_upto_region 8 with fail
          rw [show ∀ h, (str [c])[0]'h = c from fun _ => rfl]
          have HB4 : Hid (Bs w _ _) := Lib.hid (HB3.out.alloc [.int .u8 (c.toNat : Int), .int .i64 0, .bool true, .slice none 0 0] 88)
          have hlt3 : w3.heap.size < (w3.alloc (.cells #[.int .u8 (c.toNat : Int), .int .i64 0, .bool true, .slice none 0 0] 88)).heap.size := by simp
          obtain ⟨w4, hw4⟩ : ∃ V, w3.alloc (.cells #[.int .u8 (c.toNat : Int), .int .i64 0, .bool true, .slice none 0 0] 88) = V := ⟨_, rfl⟩
          rw [hw4] at HB4 hlt3 ⊢
          clear hw4
          have hbel4 := HB4.out.below
          go_upto_region 12 with (first
            | (go_at_call 45; (with_reducible refine (CA.out _ hbel4).mono ?_); rintro e w5 ⟨rfl, hb5⟩; (have HB5 := Lib.hid (HB4.out.call hb5)); dsimp only))
          have q1 := HB5.out.cell (j := 0) (i := 1) rfl rfl
          have g1 := HB5.out.free (j := 0) (i := 1) rfl rfl
          go_upto_region 13 with fail
          have HB6 : Hid (Bs w _ _) := Lib.hid (HB5.out.set (j := 0) (i := 1) rfl (.int .i64 m))
          have hlt6 : w3.heap.size < (w5.setCell ⟨w3.heap.size, 1, none⟩ (.int .i64 m)).heap.size := by have := hb5.size; simp; omega
          obtain ⟨w6, hw6⟩ : ∃ V, w5.setCell ⟨w3.heap.size, 1, none⟩ (.int .i64 m) = V := ⟨_, rfl⟩
          rw [hw6] at HB6 hlt6 ⊢
          clear hw6
          have hbel6 := HB6.out.below
          go_upto_region 14 with (first
            | (go_at_call 46; (with_reducible refine (CQ.out _ hbel6).mono ?_); rintro e w7 ⟨rfl, hb7⟩; (have HB7 := Lib.hid (HB6.out.call hb7)); dsimp only))
          have q3 := HB7.out.cell (j := 0) (i := 3) rfl rfl
          have g3 := HB7.out.free (j := 0) (i := 3) rfl rfl
          go_upto_region 15 with fail
          have HB8 : Hid (Bs w _ _) := Lib.hid (HB7.out.set (j := 0) (i := 3) rfl (.slice none 0 0))
          obtain ⟨w8, hw8⟩ : ∃ V, w7.setCell ⟨w3.heap.size, 3, none⟩ (.slice none 0 0) = V := ⟨_, rfl⟩
          rw [hw8] at HB8 ⊢
          clear hw8
          have z0 := HB8.out.cell (j := 0) (i := 0) rfl rfl
          have z1 := HB8.out.cell (j := 0) (i := 1) rfl rfl
          have z2 := HB8.out.cell (j := 0) (i := 2) rfl rfl
          have z3 := HB8.out.cell (j := 0) (i := 3) rfl rfl
          have y0 := HB8.out.cell (j := 1) (i := 0) rfl rfl
          have y1 := HB8.out.cell (j := 1) (i := 1) rfl rfl
          have y2 := HB8.out.cell (j := 1) (i := 2) rfl rfl
          have y3 := HB8.out.cell (j := 1) (i := 3) rfl rfl
          have f0 := HB8.out.free (j := 1) (i := 0) rfl rfl
          have f1 := HB8.out.free (j := 1) (i := 1) rfl rfl
          have f2 := HB8.out.free (j := 1) (i := 2) rfl rfl
          have f3 := HB8.out.free (j := 1) (i := 3) rfl rfl
          go_wp2_with fail
          have HB9 := ((((HB8.out.set (j := 1) (i := 0) rfl (.int .u8 (c.toNat : Int))).set (j := 1) (i := 1) rfl (.int .i64 m)).set (j := 1) (i := 2) rfl (.bool true)).set (j := 1) (i := 3) rfl (.slice none 0 0))
          have x0 := HB9.cell (j := 1) (i := 0) rfl rfl
          have x1 := HB9.cell (j := 1) (i := 1) rfl rfl
          have x2 := HB9.cell (j := 1) (i := 2) rfl rfl
          have x3 := HB9.cell (j := 1) (i := 3) rfl rfl
          exact bodyPost_ret (v := .tuple #[.agg #[.int .u8 (c.toNat : Int), .int .i64 m, .bool true, .slice none 0 0], .bool false]) (by simp [results, Tryd.results33, go_sem, y0, y1, y2, y3]) rfl ⟨.inl ⟨HE.out, _, _, _, _, _, _, rfl⟩, HB9.below⟩

        | some rs =>
          have HE : Hid (res = some ⟨c.toNat, m, true, rs⟩) := Lib.hid (by rw [HR1.out, hrs])
          have CQ := Lib.hid fun (W : World) (hW : Below w.heap.size w W) => splitRg_some (hrs ▸ CR1.out W hW)
          clear hrs HR1 CR1
          go_enter Tryd.func33, Tryd.ntmps33
          go_upto_region 7 with (first
            | (go_at_call 44; (with_reducible refine (CC.out _ hb0).mono ?_); rintro e w1 ⟨rfl, hb1⟩; (have HB1 := Lib.hid (H0.out.call hb1)); (have hbel1 := HB1.out.below); dsimp only)
            | (go_at_call 44; (with_reducible refine (CB1.out _ hbel1).mono ?_); rintro e w3 ⟨rfl, hb3⟩; (have HB3 := Lib.hid (HB1.out.call hb3)); (have hbel3 := HB3.out.below); dsimp only))
          go_upto_region 8 with fail
          rw [show ∀ h, (str [c])[0]'h = c from fun _ => rfl]
          have HB4 : Hid (Bs w _ _) := Lib.hid (HB3.out.alloc [.int .u8 (c.toNat : Int), .int .i64 0, .bool true, .slice none 0 0] 88)
          have hlt3 : w3.heap.size < (w3.alloc (.cells #[.int .u8 (c.toNat : Int), .int .i64 0, .bool true, .slice none 0 0] 88)).heap.size := by simp
          obtain ⟨w4, hw4⟩ : ∃ V, w3.alloc (.cells #[.int .u8 (c.toNat : Int), .int .i64 0, .bool true, .slice none 0 0] 88) = V := ⟨_, rfl⟩
          rw [hw4] at HB4 hlt3 ⊢
          clear hw4
          have hbel4 := HB4.out.below
          go_upto_region 12 with (first
            | (go_at_call 45; (with_reducible refine (CA.out _ hbel4).mono ?_); rintro e w5 ⟨rfl, hb5⟩; (have HB5 := Lib.hid (HB4.out.call hb5)); dsimp only))
          have q1 := HB5.out.cell (j := 0) (i := 1) rfl rfl
          have g1 := HB5.out.free (j := 0) (i := 1) rfl rfl
          go_upto_region 13 with fail
          have HB6 : Hid (Bs w _ _) := Lib.hid (HB5.out.set (j := 0) (i := 1) rfl (.int .i64 m))
          have hlt6 : w3.heap.size < (w5.setCell ⟨w3.heap.size, 1, none⟩ (.int .i64 m)).heap.size := by have := hb5.size; simp; omega
          obtain ⟨w6, hw6⟩ : ∃ V, w5.setCell ⟨w3.heap.size, 1, none⟩ (.int .i64 m) = V := ⟨_, rfl⟩
          rw [hw6] at HB6 hlt6 ⊢
          clear hw6
          have hbel6 := HB6.out.below
          go_upto_region 14 with (first
            | (go_at_call 46; (with_reducible refine (CQ.out _ hbel6).mono ?_); rintro e w7 ⟨A7, c7, rfl, hc7, hown7, hb7⟩; (have HB7 := Lib.hid (HB6.out.call hb7)); dsimp only))
          have q3 := HB7.out.cell (j := 0) (i := 3) rfl rfl
          have g3 := HB7.out.free (j := 0) (i := 3) rfl rfl
          go_upto_region 15 with fail
          have HB8 : Hid (Bs w _ _) := Lib.hid (HB7.out.set (j := 0) (i := 3) rfl (.slice A7 rs.length c7))
          have hown8 := own_set hown7 hlt6 3 (.slice A7 rs.length c7)
          obtain ⟨w8, hw8⟩ : ∃ V, w7.setCell ⟨w3.heap.size, 3, none⟩ (.slice A7 rs.length c7) = V := ⟨_, rfl⟩
          rw [hw8] at HB8 hown8 ⊢
          clear hw8
          have z0 := HB8.out.cell (j := 0) (i := 0) rfl rfl
          have z1 := HB8.out.cell (j := 0) (i := 1) rfl rfl
          have z2 := HB8.out.cell (j := 0) (i := 2) rfl rfl
          have z3 := HB8.out.cell (j := 0) (i := 3) rfl rfl
          have y0 := HB8.out.cell (j := 1) (i := 0) rfl rfl
          have y1 := HB8.out.cell (j := 1) (i := 1) rfl rfl
          have y2 := HB8.out.cell (j := 1) (i := 2) rfl rfl
          have y3 := HB8.out.cell (j := 1) (i := 3) rfl rfl
          have f0 := HB8.out.free (j := 1) (i := 0) rfl rfl
          have f1 := HB8.out.free (j := 1) (i := 1) rfl rfl
          have f2 := HB8.out.free (j := 1) (i := 2) rfl rfl
          have f3 := HB8.out.free (j := 1) (i := 3) rfl rfl
          go_wp2_with fail
          have HB9 := ((((HB8.out.set (j := 1) (i := 0) rfl (.int .u8 (c.toNat : Int))).set (j := 1) (i := 1) rfl (.int .i64 m)).set (j := 1) (i := 2) rfl (.bool true)).set (j := 1) (i := 3) rfl (.slice A7 rs.length c7))
          have x0 := HB9.cell (j := 1) (i := 0) rfl rfl
          have x1 := HB9.cell (j := 1) (i := 1) rfl rfl
          have x2 := HB9.cell (j := 1) (i := 2) rfl rfl
          have x3 := HB9.cell (j := 1) (i := 3) rfl rfl
          have hw0 : w.heap.size < w6.heap.size := by have := (HB6.out.mem.lt (j := 1) rfl).1; exact this
          exact bodyPost_ret (v := .tuple #[.agg #[.int .u8 (c.toNat : Int), .int .i64 m, .bool true, .slice A7 rs.length c7], .bool true]) (by simp [results, Tryd.results33, go_sem, y0, y1, y2, y3]) rfl ⟨.inr ⟨_, A7, c7, HE.out, rfl, hc7, own_base (own_set (own_set (own_set (own_set (hown8) hw0 0 (.int .u8 (c.toNat : Int))) hw0 1 (.int .i64 m)) hw0 2 (.bool true)) hw0 3 (.slice A7 rs.length c7)) hbel6.size⟩, HB9.below⟩

    | false =>
      rw [if_neg (by decide)] at HMP
      rw [HMP.out] at HR1
      clear HMP CS CN hmd
      cases hrs : rgsP r1 with
      | none =>
        have HE : Hid (res = none) := Lib.hid (by rw [HR1.out, hrs])
        have CQ := Lib.hid fun (W : World) (hW : Below w.heap.size w W) => splitRg_none (hrs ▸ CR1.out W hW)
        clear hrs HR1 CR1
        go_enter Tryd.func33, Tryd.ntmps33
        go_upto_region 7 with (first
          | (go_at_call 44; (with_reducible refine (CC.out _ hb0).mono ?_); rintro e w1 ⟨rfl, hb1⟩; (have HB1 := Lib.hid (H0.out.call hb1)); (have hbel1 := HB1.out.below); dsimp only)
          | (go_at_call 44; (with_reducible refine (CB1.out _ hbel1).mono ?_); rintro e w3 ⟨rfl, hb3⟩; (have HB3 := Lib.hid (HB1.out.call hb3)); (have hbel3 := HB3.out.below); dsimp only))
        go_upto_region 8 with fail
        rw [show ∀ h, (str [c])[0]'h = c from fun _ => rfl]
        have HB4 : Hid (Bs w _ _) := Lib.hid (HB3.out.alloc [.int .u8 (c.toNat : Int), .int .i64 0, .bool true, .slice none 0 0] 88)
        have hlt3 : w3.heap.size < (w3.alloc (.cells #[.int .u8 (c.toNat : Int), .int .i64 0, .bool true, .slice none 0 0] 88)).heap.size := by simp
        obtain ⟨w4, hw4⟩ : ∃ V, w3.alloc (.cells #[.int .u8 (c.toNat : Int), .int .i64 0, .bool true, .slice none 0 0] 88) = V := ⟨_, rfl⟩
        rw [hw4] at HB4 hlt3 ⊢
        clear hw4
        have hbel4 := HB4.out.below
        go_upto_region 13 with fail
        have HB6 := HB4
        have hlt6 := hlt3
        obtain ⟨w6, hw6⟩ : ∃ V, V = w4 := ⟨_, rfl⟩
        subst hw6
        have hbel6 := HB6.out.below
        go_upto_region 14 with (first
          | (go_at_call 46; (with_reducible refine (CQ.out _ hbel6).mono ?_); rintro e w7 ⟨rfl, hb7⟩; (have HB7 := Lib.hid (HB6.out.call hb7)); dsimp only))
        have q3 := HB7.out.cell (j := 0) (i := 3) rfl rfl
        have g3 := HB7.out.free (j := 0) (i := 3) rfl rfl
        go_upto_region 15 with fail
        have HB8 : Hid (Bs w _ _) := Lib.hid (HB7.out.set (j := 0) (i := 3) rfl (.slice none 0 0))
        obtain ⟨w8, hw8⟩ : ∃ V, w7.setCell ⟨w3.heap.size, 3, none⟩ (.slice none 0 0) = V := ⟨_, rfl⟩
        rw [hw8] at HB8 ⊢
        clear hw8
        have z0 := HB8.out.cell (j := 0) (i := 0) rfl rfl
        have z1 := HB8.out.cell (j := 0) (i := 1) rfl rfl
        have z2 := HB8.out.cell (j := 0) (i := 2) rfl rfl
        have z3 := HB8.out.cell (j := 0) (i := 3) rfl rfl
        have y0 := HB8.out.cell (j := 1) (i := 0) rfl rfl
        have y1 := HB8.out.cell (j := 1) (i := 1) rfl rfl
        have y2 := HB8.out.cell (j := 1) (i := 2) rfl rfl
        have y3 := HB8.out.cell (j := 1) (i := 3) rfl rfl
        have f0 := HB8.out.free (j := 1) (i := 0) rfl rfl
        have f1 := HB8.out.free (j := 1) (i := 1) rfl rfl
        have f2 := HB8.out.free (j := 1) (i := 2) rfl rfl
        have f3 := HB8.out.free (j := 1) (i := 3) rfl rfl
        go_wp2_with fail
        have HB9 := ((((HB8.out.set (j := 1) (i := 0) rfl (.int .u8 (c.toNat : Int))).set (j := 1) (i := 1) rfl (.int .i64 0)).set (j := 1) (i := 2) rfl (.bool true)).set (j := 1) (i := 3) rfl (.slice none 0 0))
        have x0 := HB9.cell (j := 1) (i := 0) rfl rfl
        have x1 := HB9.cell (j := 1) (i := 1) rfl rfl
        have x2 := HB9.cell (j := 1) (i := 2) rfl rfl
        have x3 := HB9.cell (j := 1) (i := 3) rfl rfl
        exact bodyPost_ret (v := .tuple #[.agg #[.int .u8 (c.toNat : Int), .int .i64 0, .bool true, .slice none 0 0], .bool false]) (by simp [results, Tryd.results33, go_sem, y0, y1, y2, y3]) rfl ⟨.inl ⟨HE.out, _, _, _, _, _, _, rfl⟩, HB9.below⟩

      | some rs =>
        have HE : Hid (res = some ⟨c.toNat, 0, true, rs⟩) := Lib.hid (by rw [HR1.out, hrs])
        have CQ := Lib.hid fun (W : World) (hW : Below w.heap.size w W) => splitRg_some (hrs ▸ CR1.out W hW)
        clear hrs HR1 CR1
        go_enter Tryd.func33, Tryd.ntmps33
        go_upto_region 7 with (first
          | (go_at_call 44; (with_reducible refine (CC.out _ hb0).mono ?_); rintro e w1 ⟨rfl, hb1⟩; (have HB1 := Lib.hid (H0.out.call hb1)); (have hbel1 := HB1.out.below); dsimp only)
          | (go_at_call 44; (with_reducible refine (CB1.out _ hbel1).mono ?_); rintro e w3 ⟨rfl, hb3⟩; (have HB3 := Lib.hid (HB1.out.call hb3)); (have hbel3 := HB3.out.below); dsimp only))
        go_upto_region 8 with fail
        rw [show ∀ h, (str [c])[0]'h = c from fun _ => rfl]
        have HB4 : Hid (Bs w _ _) := Lib.hid (HB3.out.alloc [.int .u8 (c.toNat : Int), .int .i64 0, .bool true, .slice none 0 0] 88)
        have hlt3 : w3.heap.size < (w3.alloc (.cells #[.int .u8 (c.toNat : Int), .int .i64 0, .bool true, .slice none 0 0] 88)).heap.size := by simp
        obtain ⟨w4, hw4⟩ : ∃ V, w3.alloc (.cells #[.int .u8 (c.toNat : Int), .int .i64 0, .bool true, .slice none 0 0] 88) = V := ⟨_, rfl⟩
        rw [hw4] at HB4 hlt3 ⊢
        clear hw4
        have hbel4 := HB4.out.below
        go_upto_region 13 with fail
        have HB6 := HB4
        have hlt6 := hlt3
        obtain ⟨w6, hw6⟩ : ∃ V, V = w4 := ⟨_, rfl⟩
        subst hw6
        have hbel6 := HB6.out.below
        go_upto_region 14 with (first
          | (go_at_call 46; (with_reducible refine (CQ.out _ hbel6).mono ?_); rintro e w7 ⟨A7, c7, rfl, hc7, hown7, hb7⟩; (have HB7 := Lib.hid (HB6.out.call hb7)); dsimp only))
        have q3 := HB7.out.cell (j := 0) (i := 3) rfl rfl
        have g3 := HB7.out.free (j := 0) (i := 3) rfl rfl
        go_upto_region 15 with fail
        have HB8 : Hid (Bs w _ _) := Lib.hid (HB7.out.set (j := 0) (i := 3) rfl (.slice A7 rs.length c7))
        have hown8 := own_set hown7 hlt6 3 (.slice A7 rs.length c7)
        obtain ⟨w8, hw8⟩ : ∃ V, w7.setCell ⟨w3.heap.size, 3, none⟩ (.slice A7 rs.length c7) = V := ⟨_, rfl⟩
        rw [hw8] at HB8 hown8 ⊢
        clear hw8
        have z0 := HB8.out.cell (j := 0) (i := 0) rfl rfl
        have z1 := HB8.out.cell (j := 0) (i := 1) rfl rfl
        have z2 := HB8.out.cell (j := 0) (i := 2) rfl rfl
        have z3 := HB8.out.cell (j := 0) (i := 3) rfl rfl
        have y0 := HB8.out.cell (j := 1) (i := 0) rfl rfl
        have y1 := HB8.out.cell (j := 1) (i := 1) rfl rfl
        have y2 := HB8.out.cell (j := 1) (i := 2) rfl rfl
        have y3 := HB8.out.cell (j := 1) (i := 3) rfl rfl
        have f0 := HB8.out.free (j := 1) (i := 0) rfl rfl
        have f1 := HB8.out.free (j := 1) (i := 1) rfl rfl
        have f2 := HB8.out.free (j := 1) (i := 2) rfl rfl
        have f3 := HB8.out.free (j := 1) (i := 3) rfl rfl
        go_wp2_with fail
        have HB9 := ((((HB8.out.set (j := 1) (i := 0) rfl (.int .u8 (c.toNat : Int))).set (j := 1) (i := 1) rfl (.int .i64 0)).set (j := 1) (i := 2) rfl (.bool true)).set (j := 1) (i := 3) rfl (.slice A7 rs.length c7))
        have x0 := HB9.cell (j := 1) (i := 0) rfl rfl
        have x1 := HB9.cell (j := 1) (i := 1) rfl rfl
        have x2 := HB9.cell (j := 1) (i := 2) rfl rfl
        have x3 := HB9.cell (j := 1) (i := 3) rfl rfl
        have hw0 : w.heap.size < w6.heap.size := by have := (HB6.out.mem.lt (j := 1) rfl).1; exact this
        exact bodyPost_ret (v := .tuple #[.agg #[.int .u8 (c.toNat : Int), .int .i64 0, .bool true, .slice A7 rs.length c7], .bool true]) (by simp [results, Tryd.results33, go_sem, y0, y1, y2, y3]) rfl ⟨.inr ⟨_, A7, c7, HE.out, rfl, hc7, own_base (own_set (own_set (own_set (own_set (hown8) hw0 0 (.int .u8 (c.toNat : Int))) hw0 1 (.int .i64 0)) hw0 2 (.bool true)) hw0 3 (.slice A7 rs.length c7)) hbel6.size⟩, HB9.below⟩

  · have HE : Hid (res = none) := Lib.hid (HNN.out hno)
    have hlen1 : (str op).size ≠ 1 := by rw [ba_size, str_data]; exact hlen
    have hlen2 : (((str op).size : Int) != 1) = true := by rw [bne_iff_ne]; omega
    clear HON HNN HMP CS CN hmd hno hlen CR1
    generalize str op = sop at *
    go_enter Tryd.func33, Tryd.ntmps33
    go_upto_region 6 with (first
      | (go_at_call 44; (with_reducible refine (CC.out _ hb0).mono ?_); rintro e w1 ⟨rfl, hb1⟩; (have HB1 := Lib.hid (H0.out.call hb1)); (have hbel1 := HB1.out.below); dsimp only)
      | (go_at_call 44; (with_reducible refine (CB1.out _ hbel1).mono ?_); rintro e w3 ⟨rfl, hb3⟩; (have HB3 := Lib.hid (HB1.out.call hb3)); (have hbel3 := HB3.out.below); dsimp only))
    have y0 := HB3.out.cell (j := 0) (i := 0) rfl rfl
    have y1 := HB3.out.cell (j := 0) (i := 1) rfl rfl
    have y2 := HB3.out.cell (j := 0) (i := 2) rfl rfl
    have y3 := HB3.out.cell (j := 0) (i := 3) rfl rfl
    have f0 := HB3.out.free (j := 0) (i := 0) rfl rfl
    have f1 := HB3.out.free (j := 0) (i := 1) rfl rfl
    have f2 := HB3.out.free (j := 0) (i := 2) rfl rfl
    have f3 := HB3.out.free (j := 0) (i := 3) rfl rfl
    go_wp2_with fail
    have HB9 := (((HB3.out.set (j := 0) (i := 0) rfl (.int .u8 0)).set (j := 0) (i := 1) rfl (.int .i64 0)).set (j := 0) (i := 2) rfl (.bool false)).set (j := 0) (i := 3) rfl (.slice none 0 0)
    have x0 := HB9.cell (j := 0) (i := 0) rfl rfl
    have x1 := HB9.cell (j := 0) (i := 1) rfl rfl
    have x2 := HB9.cell (j := 0) (i := 2) rfl rfl
    have x3 := HB9.cell (j := 0) (i := 3) rfl rfl
    exact bodyPost_ret (v := .tuple #[.agg #[.int .u8 0, .int .i64 0, .bool false, .slice none 0 0], .bool false]) (by simp [results, Tryd.results33, go_sem, y0, y1, y2, y3]) rfl ⟨.inl ⟨HE.out, _, _, _, _, _, _, rfl⟩, HB9.below⟩

set_option maxHeartbeats 8000000 in
set_option maxRecDepth 100000 in
theorem readRel_no (s : ByteArray) (w : World) (hs : s.size < 4294967280) (hE : Env w) (hf : (Lib.cut s.data.toList [32, 33, 61, 32]).2.2 = false) : Calls Tryd.prog 33 #[.string s] w (ReadRelP w (relP s.data.toList)) := by
  have H0 : Hid (Bs w _ [_]) := Lib.hid (bs_one w [.int .u8 0, .int .i64 0, .bool false, .slice none 0 0] 88)
  have CC := Lib.hid fun (W : World) (hW : Below w.heap.size w W) => cut_any [32, 33, 61, 32] s W (by omega) (hE.later hW)
  have CC2 := Lib.hid fun (W : World) (hW : Below w.heap.size w W) => cut_any [32, 61, 32] s W (by omega) (hE.later hW)
  have hsl : s.data.toList.length < 4294967280 := by rw [← ba_size]; exact hs
  have HSG := Lib.hid (sign_no hf)
  have hle1 := cut_le s.data.toList [32, 61, 32]
  have CB := Lib.hid fun (l : List UInt8) (hl : l.length < 4294967281) (W : World) (hW : Below w.heap.size w W) => cut_any [32, 37, 32] (str l) W (by rw [ba_size, str_data]; exact hl) (hE.later hW)
  have CS := Lib.hid fun (x : List UInt8) (v : Int) (hx : x.length < 4294967281) (h : atoiO x = some v) (W : World) (hW : Below w.heap.size w W) => atoi_some x v W hx h (hE.later hW)
  have CN := Lib.hid fun (x : List UInt8) (hx : x.length < 4294967281) (h : atoiO x = none) (W : World) (hW : Below w.heap.size w W) => atoi_none x W hx h (hE.later hW)
  have CR := Lib.hid fun (x : List UInt8) (hx : x.length < 4294967280) (W : World) (hW : Below w.heap.size w W) => splitRg_any (str x) W (by rw [ba_size, str_data]; exact hx) (hE.later hW)
  have HNO := Lib.hid fun l h hno => ops_none (s := s.data.toList) (l := l) h hno
  have HONE := Lib.hid fun l r nt c h hc => ops_one (s := s.data.toList) (l := l) (r := r) (nt := nt) (c := c) h hc
  rw [hf] at CC
  generalize (Lib.cut s.data.toList [32, 61, 32]).1 = l1 at *
  generalize (Lib.cut s.data.toList [32, 61, 32]).2.1 = r1 at *
  generalize (Lib.cut s.data.toList [32, 61, 32]).2.2 = ff at *
  generalize str (Lib.cut s.data.toList [32, 33, 61, 32]).1 = l0 at *
  generalize str (Lib.cut s.data.toList [32, 33, 61, 32]).2.1 = r0 at *
  dsimp only at *
  generalize relP s.data.toList = res at *
  have hl1 : l1.length < 4294967280 := by omega
  have hr1 : r1.length < 4294967280 := by omega
  have CB1 := Lib.hid (CB.out l1 (by omega))
  have hle2 := cut_le l1 [32, 37, 32]
  have HON := Lib.hid fun (c : UInt8) (hc : (Lib.cut l1 [32, 37, 32]).1 = [c]) => HONE.out l1 r1 false c HSG.out hc
  have HNN := Lib.hid (HNO.out l1 (by rw [HSG.out]))
  have HMP : Hid (modP l1 = if (Lib.cut l1 [32, 37, 32]).2.2 then atoiO (Lib.cut l1 [32, 37, 32]).2.1 else some 0) := Lib.hid rfl
  clear hE hs hsl hf CB HNO HONE HSG hle1
  generalize Lib.cut l1 [32, 37, 32] = t2 at *
  obtain ⟨op, md, dv⟩ := t2
  dsimp only at *
  have hmd : md.length < 4294967281 := by omega
  have CR1 := Lib.hid (CR.out r1 hr1)
  have hb0 := H0.out.below
  clear CR hle2 hl1 hr1
  rcases one_or op with ⟨c, rfl⟩ | ⟨hno, hlen⟩
  · have HR1 := Lib.hid (HON.out c rfl)
    clear HON HNN
    cases dv with
    | true =>
      rw [if_pos rfl] at HMP
      cases ha : atoiO md with
      | none =>
        have CA := Lib.hid (CN.out md hmd ha)
        have HE : Hid (res = none) := Lib.hid (by rw [HR1.out, HMP.out, ha])
        clear ha HR1 HMP CS CN hmd CR1
        go_enter Tryd.func33, Tryd.ntmps33
        go_upto_region 7 with (first
          | (go_at_call 44; (with_reducible refine (CC.out _ hb0).mono ?_); rintro e w1 ⟨rfl, hb1⟩; (have HB1 := Lib.hid (H0.out.call hb1)); (have hbel1 := HB1.out.below); dsimp only)
          | (go_at_call 44; (with_reducible refine (CC2.out _ hbel1).mono ?_); rintro e w2 ⟨rfl, hb2⟩; (have HB2 := Lib.hid (HB1.out.call hb2)); (have hbel2 := HB2.out.below); dsimp only)
          | (go_at_call 44; (with_reducible refine (CB1.out _ hbel2).mono ?_); rintro e w3 ⟨rfl, hb3⟩; (have HB3 := Lib.hid (HB2.out.call hb3)); (have hbel3 := HB3.out.below); dsimp only))
        go_upto_region 8 with fail
        rw [show ∀ h, (str [c])[0]'h = c from fun _ => rfl]
        have HB4 : Hid (Bs w _ _) := Lib.hid (HB3.out.alloc [.int .u8 (c.toNat : Int), .int .i64 0, .bool false, .slice none 0 0] 88)
        have hlt3 : w3.heap.size < (w3.alloc (.cells #[.int .u8 (c.toNat : Int), .int .i64 0, .bool false, .slice none 0 0] 88)).heap.size := by simp
        obtain ⟨w4, hw4⟩ : ∃ V, w3.alloc (.cells #[.int .u8 (c.toNat : Int), .int .i64 0, .bool false, .slice none 0 0] 88) = V := ⟨_, rfl⟩
        rw [hw4] at HB4 hlt3 ⊢
        clear hw4
        have hbel4 := HB4.out.below
        go_upto_region 11 with (first
          | (go_at_call 45; (with_reducible refine (CA.out _ hbel4).mono ?_); rintro e w5 ⟨va, pa, rfl, hb5⟩; (have HB5 := Lib.hid (HB4.out.call hb5)); dsimp only))
        obtain ⟨z0, z1, z2, z3, -⟩ := (HB5.out.call (Below.refl _ _)).cells
        have y0 := HB5.out.cell (j := 1) (i := 0) rfl rfl
        have y1 := HB5.out.cell (j := 1) (i := 1) rfl rfl
        have y2 := HB5.out.cell (j := 1) (i := 2) rfl rfl
        have y3 := HB5.out.cell (j := 1) (i := 3) rfl rfl
        have f0 := HB5.out.free (j := 1) (i := 0) rfl rfl
        have f1 := HB5.out.free (j := 1) (i := 1) rfl rfl
        have f2 := HB5.out.free (j := 1) (i := 2) rfl rfl
        have f3 := HB5.out.free (j := 1) (i := 3) rfl rfl
        go_wp2_with fail
        have HB9 := (((HB5.out.set (j := 1) (i := 0) rfl (.int .u8 0)).set (j := 1) (i := 1) rfl (.int .i64 0)).set (j := 1) (i := 2) rfl (.bool false)).set (j := 1) (i := 3) rfl (.slice none 0 0)
        have x0 := HB9.cell (j := 1) (i := 0) rfl rfl
        have x1 := HB9.cell (j := 1) (i := 1) rfl rfl
        have x2 := HB9.cell (j := 1) (i := 2) rfl rfl
        have x3 := HB9.cell (j := 1) (i := 3) rfl rfl
        exact bodyPost_ret (v := .tuple #[.agg #[.int .u8 0, .int .i64 0, .bool false, .slice none 0 0], .bool false]) (by simp [results, Tryd.results33, go_sem, y0, y1, y2, y3]) rfl ⟨.inl ⟨HE.out, _, _, _, _, _, _, rfl⟩, HB9.below⟩

      | some m =>
        have CA := Lib.hid (CS.out md m hmd ha)
        rw [HMP.out, ha] at HR1
        clear ha HMP CS CN hmd
        cases hrs : rgsP r1 with
        | none =>
          have HE : Hid (res = none) := Lib.hid (by rw [HR1.out, hrs])
          have CQ := Lib.hid fun (W : World) (hW : Below w.heap.size w W) => splitRg_none (hrs ▸ CR1.out W hW)
          clear hrs HR1 CR1
          go_enter Tryd.func33, Tryd.ntmps33
          go_upto_region 7 with (first
            | (go_at_call 44; (with_reducible refine (CC.out _ hb0).mono ?_); rintro e w1 ⟨rfl, hb1⟩; (have HB1 := Lib.hid (H0.out.call hb1)); (have hbel1 := HB1.out.below); dsimp only)
            | (go_at_call 44; (with_reducible refine (CC2.out _ hbel1).mono ?_); rintro e w2 ⟨rfl, hb2⟩; (have HB2 := Lib.hid (HB1.out.call hb2)); (have hbel2 := HB2.out.below); dsimp only)
            | (go_at_call 44; (with_reducible refine (CB1.out _ hbel2).mono ?_); rintro e w3 ⟨rfl, hb3⟩; (have HB3 := Lib.hid (HB2.out.call hb3)); (have hbel3 := HB3.out.below); dsimp only))
          go_upto_region 8 with fail
          rw [show ∀ h, (str [c])[0]'h = c from fun _ => rfl]
          have HB4 : Hid (Bs w _ _) := Lib.hid (HB3.out.alloc [.int .u8 (c.toNat : Int), .int .i64 0, .bool false, .slice none 0 0] 88)
          have hlt3 : w3.heap.size < (w3.alloc (.cells #[.int .u8 (c.toNat : Int), .int .i64 0, .bool false, .slice none 0 0] 88)).heap.size := by simp
          obtain ⟨w4, hw4⟩ : ∃ V, w3.alloc (.cells #[.int .u8 (c.toNat : Int), .int .i64 0, .bool false, .slice none 0 0] 88) = V := ⟨_, rfl⟩
          rw [hw4] at HB4 hlt3 ⊢
          clear hw4
          have hbel4 := HB4.out.below
          go_upto_region 12 with (first
            | (go_at_call 45; (with_reducible refine (CA.out _ hbel4).mono ?_); rintro e w5 ⟨rfl, hb5⟩; (have HB5 := Lib.hid (HB4.out.call hb5)); dsimp only))
          have q1 := HB5.out.cell (j := 0) (i := 1) rfl rfl
          have g1 := HB5.out.free (j := 0) (i := 1) rfl rfl
          go_upto_region 13 with fail
          have HB6 : Hid (Bs w _ _) := Lib.hid (HB5.out.set (j := 0) (i := 1) rfl (.int .i64 m))
          have hlt6 : w3.heap.size < (w5.setCell ⟨w3.heap.size, 1, none⟩ (.int .i64 m)).heap.size := by have := hb5.size; simp; omega
          obtain ⟨w6, hw6⟩ : ∃ V, w5.setCell ⟨w3.heap.size, 1, none⟩ (.int .i64 m) = V := ⟨_, rfl⟩
          rw [hw6] at HB6 hlt6 ⊢
          clear hw6
          have hbel6 := HB6.out.below
          go_upto_region 14 with (first
            | (go_at_call 46; (with_reducible refine (CQ.out _ hbel6).mono ?_); rintro e w7 ⟨rfl, hb7⟩; (have HB7 := Lib.hid (HB6.out.call hb7)); dsimp only))
          have q3 := HB7.out.cell (j := 0) (i := 3) rfl rfl
          have g3 := HB7.out.free (j := 0) (i := 3) rfl rfl
          go_upto_region 15 with fail
          have HB8 : Hid (Bs w _ _) := Lib.hid (HB7.out.set (j := 0) (i := 3) rfl (.slice none 0 0))
          obtain ⟨w8, hw8⟩ : ∃ V, w7.setCell ⟨w3.heap.size, 3, none⟩ (.slice none 0 0) = V := ⟨_, rfl⟩
          rw [hw8] at HB8 ⊢
          clear hw8
          have z0 := HB8.out.cell (j := 0) (i := 0) rfl rfl
          have z1 := HB8.out.cell (j := 0) (i := 1) rfl rfl
          have z2 := HB8.out.cell (j := 0) (i := 2) rfl rfl
          have z3 := HB8.out.cell (j := 0) (i := 3) rfl rfl
          have y0 := HB8.out.cell (j := 1) (i := 0) rfl rfl
          have y1 := HB8.out.cell (j := 1) (i := 1) rfl rfl
          have y2 := HB8.out.cell (j := 1) (i := 2) rfl rfl
          have y3 := HB8.out.cell (j := 1) (i := 3) rfl rfl
          have f0 := HB8.out.free (j := 1) (i := 0) rfl rfl
          have f1 := HB8.out.free (j := 1) (i := 1) rfl rfl
          have f2 := HB8.out.free (j := 1) (i := 2) rfl rfl
          have f3 := HB8.out.free (j := 1) (i := 3) rfl rfl
          go_wp2_with fail
          have HB9 := ((((HB8.out.set (j := 1) (i := 0) rfl (.int .u8 (c.toNat : Int))).set (j := 1) (i := 1) rfl (.int .i64 m)).set (j := 1) (i := 2) rfl (.bool false)).set (j := 1) (i := 3) rfl (.slice none 0 0))
          have x0 := HB9.cell (j := 1) (i := 0) rfl rfl
          have x1 := HB9.cell (j := 1) (i := 1) rfl rfl
          have x2 := HB9.cell (j := 1) (i := 2) rfl rfl
          have x3 := HB9.cell (j := 1) (i := 3) rfl rfl
          exact bodyPost_ret (v := .tuple #[.agg #[.int .u8 (c.toNat : Int), .int .i64 m, .bool false, .slice none 0 0], .bool false]) (by simp [results, Tryd.results33, go_sem, y0, y1, y2, y3]) rfl ⟨.inl ⟨HE.out, _, _, _, _, _, _, rfl⟩, HB9.below⟩

        | some rs =>
          have HE : Hid (res = some ⟨c.toNat, m, false, rs⟩) := Lib.hid (by rw [HR1.out, hrs])
          have CQ := Lib.hid fun (W : World) (hW : Below w.heap.size w W) => splitRg_some (hrs ▸ CR1.out W hW)
          clear hrs HR1 CR1
          go_enter Tryd.func33, Tryd.ntmps33
          go_upto_region 7 with (first
            | (go_at_call 44; (with_reducible refine (CC.out _ hb0).mono ?_); rintro e w1 ⟨rfl, hb1⟩; (have HB1 := Lib.hid (H0.out.call hb1)); (have hbel1 := HB1.out.below); dsimp only)
            | (go_at_call 44; (with_reducible refine (CC2.out _ hbel1).mono ?_); rintro e w2 ⟨rfl, hb2⟩; (have HB2 := Lib.hid (HB1.out.call hb2)); (have hbel2 := HB2.out.below); dsimp only)
            | (go_at_call 44; (with_reducible refine (CB1.out _ hbel2).mono ?_); rintro e w3 ⟨rfl, hb3⟩; (have HB3 := Lib.hid (HB2.out.call hb3)); (have hbel3 := HB3.out.below); dsimp only))
          go_upto_region 8 with fail
          rw [show ∀ h, (str [c])[0]'h = c from fun _ => rfl]
          have HB4 : Hid (Bs w _ _) := Lib.hid (HB3.out.alloc [.int .u8 (c.toNat : Int), .int .i64 0, .bool false, .slice none 0 0] 88)
          have hlt3 : w3.heap.size < (w3.alloc (.cells #[.int .u8 (c.toNat : Int), .int .i64 0, .bool false, .slice none 0 0] 88)).heap.size := by simp
          obtain ⟨w4, hw4⟩ : ∃ V, w3.alloc (.cells #[.int .u8 (c.toNat : Int), .int .i64 0, .bool false, .slice none 0 0] 88) = V := ⟨_, rfl⟩
          rw [hw4] at HB4 hlt3 ⊢
          clear hw4
          have hbel4 := HB4.out.below
          go_upto_region 12 with (first
            | (go_at_call 45; (with_reducible refine (CA.out _ hbel4).mono ?_); rintro e w5 ⟨rfl, hb5⟩; (have HB5 := Lib.hid (HB4.out.call hb5)); dsimp only))
          have q1 := HB5.out.cell (j := 0) (i := 1) rfl rfl
          have g1 := HB5.out.free (j := 0) (i := 1) rfl rfl
          go_upto_region 13 with fail
          have HB6 : Hid (Bs w _ _) := Lib.hid (HB5.out.set (j := 0) (i := 1) rfl (.int .i64 m))
          have hlt6 : w3.heap.size < (w5.setCell ⟨w3.heap.size, 1, none⟩ (.int .i64 m)).heap.size := by have := hb5.size; simp; omega
          obtain ⟨w6, hw6⟩ : ∃ V, w5.setCell ⟨w3.heap.size, 1, none⟩ (.int .i64 m) = V := ⟨_, rfl⟩
          rw [hw6] at HB6 hlt6 ⊢
          clear hw6
          have hbel6 := HB6.out.below
          go_upto_region 14 with (first
            | (go_at_call 46; (with_reducible refine (CQ.out _ hbel6).mono ?_); rintro e w7 ⟨A7, c7, rfl, hc7, hown7, hb7⟩; (have HB7 := Lib.hid (HB6.out.call hb7)); dsimp only))
          have q3 := HB7.out.cell (j := 0) (i := 3) rfl rfl
          have g3 := HB7.out.free (j := 0) (i := 3) rfl rfl
          go_upto_region 15 with fail
          have HB8 : Hid (Bs w _ _) := Lib.hid (HB7.out.set (j := 0) (i := 3) rfl (.slice A7 rs.length c7))
          have hown8 := own_set hown7 hlt6 3 (.slice A7 rs.length c7)
          obtain ⟨w8, hw8⟩ : ∃ V, w7.setCell ⟨w3.heap.size, 3, none⟩ (.slice A7 rs.length c7) = V := ⟨_, rfl⟩
          rw [hw8] at HB8 hown8 ⊢
          clear hw8
          have z0 := HB8.out.cell (j := 0) (i := 0) rfl rfl
          have z1 := HB8.out.cell (j := 0) (i := 1) rfl rfl
          have z2 := HB8.out.cell (j := 0) (i := 2) rfl rfl
          have z3 := HB8.out.cell (j := 0) (i := 3) rfl rfl
          have y0 := HB8.out.cell (j := 1) (i := 0) rfl rfl
          have y1 := HB8.out.cell (j := 1) (i := 1) rfl rfl
          have y2 := HB8.out.cell (j := 1) (i := 2) rfl rfl
          have y3 := HB8.out.cell (j := 1) (i := 3) rfl rfl
          have f0 := HB8.out.free (j := 1) (i := 0) rfl rfl
          have f1 := HB8.out.free (j := 1) (i := 1) rfl rfl
          have f2 := HB8.out.free (j := 1) (i := 2) rfl rfl
          have f3 := HB8.out.free (j := 1) (i := 3) rfl rfl
          go_wp2_with fail
          have HB9 := ((((HB8.out.set (j := 1) (i := 0) rfl (.int .u8 (c.toNat : Int))).set (j := 1) (i := 1) rfl (.int .i64 m)).set (j := 1) (i := 2) rfl (.bool false)).set (j := 1) (i := 3) rfl (.slice A7 rs.length c7))
          have x0 := HB9.cell (j := 1) (i := 0) rfl rfl
          have x1 := HB9.cell (j := 1) (i := 1) rfl rfl
          have x2 := HB9.cell (j := 1) (i := 2) rfl rfl
          have x3 := HB9.cell (j := 1) (i := 3) rfl rfl
          have hw0 : w.heap.size < w6.heap.size := by have := (HB6.out.mem.lt (j := 1) rfl).1; exact this
          exact bodyPost_ret (v := .tuple #[.agg #[.int .u8 (c.toNat : Int), .int .i64 m, .bool false, .slice A7 rs.length c7], .bool true]) (by simp [results, Tryd.results33, go_sem, y0, y1, y2, y3]) rfl ⟨.inr ⟨_, A7, c7, HE.out, rfl, hc7, own_base (own_set (own_set (own_set (own_set (hown8) hw0 0 (.int .u8 (c.toNat : Int))) hw0 1 (.int .i64 m)) hw0 2 (.bool false)) hw0 3 (.slice A7 rs.length c7)) hbel6.size⟩, HB9.below⟩

    | false =>
      rw [if_neg (by decide)] at HMP
      rw [HMP.out] at HR1
      clear HMP CS CN hmd
      cases hrs : rgsP r1 with
      | none =>
        have HE : Hid (res = none) := Lib.hid (by rw [HR1.out, hrs])
        have CQ := Lib.hid fun (W : World) (hW : Below w.heap.size w W) => splitRg_none (hrs ▸ CR1.out W hW)
        clear hrs HR1 CR1
        go_enter Tryd.func33, Tryd.ntmps33
        go_upto_region 7 with (first
          | (go_at_call 44; (with_reducible refine (CC.out _ hb0).mono ?_); rintro e w1 ⟨rfl, hb1⟩; (have HB1 := Lib.hid (H0.out.call hb1)); (have hbel1 := HB1.out.below); dsimp only)
          | (go_at_call 44; (with_reducible refine (CC2.out _ hbel1).mono ?_); rintro e w2 ⟨rfl, hb2⟩; (have HB2 := Lib.hid (HB1.out.call hb2)); (have hbel2 := HB2.out.below); dsimp only)
          | (go_at_call 44; (with_reducible refine (CB1.out _ hbel2).mono ?_); rintro e w3 ⟨rfl, hb3⟩; (have HB3 := Lib.hid (HB2.out.call hb3)); (have hbel3 := HB3.out.below); dsimp only))
        go_upto_region 8 with fail
        rw [show ∀ h, (str [c])[0]'h = c from fun _ => rfl]
        have HB4 : Hid (Bs w _ _) := Lib.hid (HB3.out.alloc [.int .u8 (c.toNat : Int), .int .i64 0, .bool false, .slice none 0 0] 88)
        have hlt3 : w3.heap.size < (w3.alloc (.cells #[.int .u8 (c.toNat : Int), .int .i64 0, .bool false, .slice none 0 0] 88)).heap.size := by simp
        obtain ⟨w4, hw4⟩ : ∃ V, w3.alloc (.cells #[.int .u8 (c.toNat : Int), .int .i64 0, .bool false, .slice none 0 0] 88) = V := ⟨_, rfl⟩
        rw [hw4] at HB4 hlt3 ⊢
        clear hw4
        have hbel4 := HB4.out.below
        go_upto_region 13 with fail
        have HB6 := HB4
        have hlt6 := hlt3
        obtain ⟨w6, hw6⟩ : ∃ V, V = w4 := ⟨_, rfl⟩
        subst hw6
        have hbel6 := HB6.out.below
        go_upto_region 14 with (first
          | (go_at_call 46; (with_reducible refine (CQ.out _ hbel6).mono ?_); rintro e w7 ⟨rfl, hb7⟩; (have HB7 := Lib.hid (HB6.out.call hb7)); dsimp only))
        have q3 := HB7.out.cell (j := 0) (i := 3) rfl rfl
        have g3 := HB7.out.free (j := 0) (i := 3) rfl rfl
        go_upto_region 15 with fail
        have HB8 : Hid (Bs w _ _) := Lib.hid (HB7.out.set (j := 0) (i := 3) rfl (.slice none 0 0))
        obtain ⟨w8, hw8⟩ : ∃ V, w7.setCell ⟨w3.heap.size, 3, none⟩ (.slice none 0 0) = V := ⟨_, rfl⟩
        rw [hw8] at HB8 ⊢
        clear hw8
        have z0 := HB8.out.cell (j := 0) (i := 0) rfl rfl
        have z1 := HB8.out.cell (j := 0) (i := 1) rfl rfl
        have z2 := HB8.out.cell (j := 0) (i := 2) rfl rfl
        have z3 := HB8.out.cell (j := 0) (i := 3) rfl rfl
        have y0 := HB8.out.cell (j := 1) (i := 0) rfl rfl
        have y1 := HB8.out.cell (j := 1) (i := 1) rfl rfl
        have y2 := HB8.out.cell (j := 1) (i := 2) rfl rfl
        have y3 := HB8.out.cell (j := 1) (i := 3) rfl rfl
        have f0 := HB8.out.free (j := 1) (i := 0) rfl rfl
        have f1 := HB8.out.free (j := 1) (i := 1) rfl rfl
        have f2 := HB8.out.free (j := 1) (i := 2) rfl rfl
        have f3 := HB8.out.free (j := 1) (i := 3) rfl rfl
        go_wp2_with fail
        have HB9 := ((((HB8.out.set (j := 1) (i := 0) rfl (.int .u8 (c.toNat : Int))).set (j := 1) (i := 1) rfl (.int .i64 0)).set (j := 1) (i := 2) rfl (.bool false)).set (j := 1) (i := 3) rfl (.slice none 0 0))
        have x0 := HB9.cell (j := 1) (i := 0) rfl rfl
        have x1 := HB9.cell (j := 1) (i := 1) rfl rfl
        have x2 := HB9.cell (j := 1) (i := 2) rfl rfl
        have x3 := HB9.cell (j := 1) (i := 3) rfl rfl
        exact bodyPost_ret (v := .tuple #[.agg #[.int .u8 (c.toNat : Int), .int .i64 0, .bool false, .slice none 0 0], .bool false]) (by simp [results, Tryd.results33, go_sem, y0, y1, y2, y3]) rfl ⟨.inl ⟨HE.out, _, _, _, _, _, _, rfl⟩, HB9.below⟩

      | some rs =>
        have HE : Hid (res = some ⟨c.toNat, 0, false, rs⟩) := Lib.hid (by rw [HR1.out, hrs])
        have CQ := Lib.hid fun (W : World) (hW : Below w.heap.size w W) => splitRg_some (hrs ▸ CR1.out W hW)
        clear hrs HR1 CR1
        go_enter Tryd.func33, Tryd.ntmps33
        go_upto_region 7 with (first
          | (go_at_call 44; (with_reducible refine (CC.out _ hb0).mono ?_); rintro e w1 ⟨rfl, hb1⟩; (have HB1 := Lib.hid (H0.out.call hb1)); (have hbel1 := HB1.out.below); dsimp only)
          | (go_at_call 44; (with_reducible refine (CC2.out _ hbel1).mono ?_); rintro e w2 ⟨rfl, hb2⟩; (have HB2 := Lib.hid (HB1.out.call hb2)); (have hbel2 := HB2.out.below); dsimp only)
          | (go_at_call 44; (with_reducible refine (CB1.out _ hbel2).mono ?_); rintro e w3 ⟨rfl, hb3⟩; (have HB3 := Lib.hid (HB2.out.call hb3)); (have hbel3 := HB3.out.below); dsimp only))
        go_upto_region 8 with fail
        rw [show ∀ h, (str [c])[0]'h = c from fun _ => rfl]
        have HB4 : Hid (Bs w _ _) := Lib.hid (HB3.out.alloc [.int .u8 (c.toNat : Int), .int .i64 0, .bool false, .slice none 0 0] 88)
        have hlt3 : w3.heap.size < (w3.alloc (.cells #[.int .u8 (c.toNat : Int), .int .i64 0, .bool false, .slice none 0 0] 88)).heap.size := by simp
        obtain ⟨w4, hw4⟩ : ∃ V, w3.alloc (.cells #[.int .u8 (c.toNat : Int), .int .i64 0, .bool false, .slice none 0 0] 88) = V := ⟨_, rfl⟩
        rw [hw4] at HB4 hlt3 ⊢
        clear hw4
        have hbel4 := HB4.out.below
        go_upto_region 13 with fail
        have HB6 := HB4
        have hlt6 := hlt3
        obtain ⟨w6, hw6⟩ : ∃ V, V = w4 := ⟨_, rfl⟩
        subst hw6
        have hbel6 := HB6.out.below
        go_upto_region 14 with (first
          | (go_at_call 46; (with_reducible refine (CQ.out _ hbel6).mono ?_); rintro e w7 ⟨A7, c7, rfl, hc7, hown7, hb7⟩; (have HB7 := Lib.hid (HB6.out.call hb7)); dsimp only))
        have q3 := HB7.out.cell (j := 0) (i := 3) rfl rfl
        have g3 := HB7.out.free (j := 0) (i := 3) rfl rfl
        go_upto_region 15 with fail
        have HB8 : Hid (Bs w _ _) := Lib.hid (HB7.out.set (j := 0) (i := 3) rfl (.slice A7 rs.length c7))
        have hown8 := own_set hown7 hlt6 3 (.slice A7 rs.length c7)
        obtain ⟨w8, hw8⟩ : ∃ V, w7.setCell ⟨w3.heap.size, 3, none⟩ (.slice A7 rs.length c7) = V := ⟨_, rfl⟩
        rw [hw8] at HB8 hown8 ⊢
        clear hw8
        have z0 := HB8.out.cell (j := 0) (i := 0) rfl rfl
        have z1 := HB8.out.cell (j := 0) (i := 1) rfl rfl
        have z2 := HB8.out.cell (j := 0) (i := 2) rfl rfl
        have z3 := HB8.out.cell (j := 0) (i := 3) rfl rfl
        have y0 := HB8.out.cell (j := 1) (i := 0) rfl rfl
        have y1 := HB8.out.cell (j := 1) (i := 1) rfl rfl
        have y2 := HB8.out.cell (j := 1) (i := 2) rfl rfl
        have y3 := HB8.out.cell (j := 1) (i := 3) rfl rfl
        have f0 := HB8.out.free (j := 1) (i := 0) rfl rfl
        have f1 := HB8.out.free (j := 1) (i := 1) rfl rfl
        have f2 := HB8.out.free (j := 1) (i := 2) rfl rfl
        have f3 := HB8.out.free (j := 1) (i := 3) rfl rfl
        go_wp2_with fail
        have HB9 := ((((HB8.out.set (j := 1) (i := 0) rfl (.int .u8 (c.toNat : Int))).set (j := 1) (i := 1) rfl (.int .i64 0)).set (j := 1) (i := 2) rfl (.bool false)).set (j := 1) (i := 3) rfl (.slice A7 rs.length c7))
        have x0 := HB9.cell (j := 1) (i := 0) rfl rfl
        have x1 := HB9.cell (j := 1) (i := 1) rfl rfl
        have x2 := HB9.cell (j := 1) (i := 2) rfl rfl
        have x3 := HB9.cell (j := 1) (i := 3) rfl rfl
        have hw0 : w.heap.size < w6.heap.size := by have := (HB6.out.mem.lt (j := 1) rfl).1; exact this
        exact bodyPost_ret (v := .tuple #[.agg #[.int .u8 (c.toNat : Int), .int .i64 0, .bool false, .slice A7 rs.length c7], .bool true]) (by simp [results, Tryd.results33, go_sem, y0, y1, y2, y3]) rfl ⟨.inr ⟨_, A7, c7, HE.out, rfl, hc7, own_base (own_set (own_set (own_set (own_set (hown8) hw0 0 (.int .u8 (c.toNat : Int))) hw0 1 (.int .i64 0)) hw0 2 (.bool false)) hw0 3 (.slice A7 rs.length c7)) hbel6.size⟩, HB9.below⟩

  · have HE : Hid (res = none) := Lib.hid (HNN.out hno)
    have hlen1 : (str op).size ≠ 1 := by rw [ba_size, str_data]; exact hlen
    have hlen2 : (((str op).size : Int) != 1) = true := by rw [bne_iff_ne]; omega
    clear HON HNN HMP CS CN hmd hno hlen CR1
    generalize str op = sop at *
    go_enter Tryd.func33, Tryd.ntmps33
    go_upto_region 6 with (first
      | (go_at_call 44; (with_reducible refine (CC.out _ hb0).mono ?_); rintro e w1 ⟨rfl, hb1⟩; (have HB1 := Lib.hid (H0.out.call hb1)); (have hbel1 := HB1.out.below); dsimp only)
      | (go_at_call 44; (with_reducible refine (CC2.out _ hbel1).mono ?_); rintro e w2 ⟨rfl, hb2⟩; (have HB2 := Lib.hid (HB1.out.call hb2)); (have hbel2 := HB2.out.below); dsimp only)
      | (go_at_call 44; (with_reducible refine (CB1.out _ hbel2).mono ?_); rintro e w3 ⟨rfl, hb3⟩; (have HB3 := Lib.hid (HB2.out.call hb3)); (have hbel3 := HB3.out.below); dsimp only))
    have y0 := HB3.out.cell (j := 0) (i := 0) rfl rfl
    have y1 := HB3.out.cell (j := 0) (i := 1) rfl rfl
    have y2 := HB3.out.cell (j := 0) (i := 2) rfl rfl
    have y3 := HB3.out.cell (j := 0) (i := 3) rfl rfl
    have f0 := HB3.out.free (j := 0) (i := 0) rfl rfl
    have f1 := HB3.out.free (j := 0) (i := 1) rfl rfl
    have f2 := HB3.out.free (j := 0) (i := 2) rfl rfl
    have f3 := HB3.out.free (j := 0) (i := 3) rfl rfl
    go_wp2_with fail
    have HB9 := (((HB3.out.set (j := 0) (i := 0) rfl (.int .u8 0)).set (j := 0) (i := 1) rfl (.int .i64 0)).set (j := 0) (i := 2) rfl (.bool false)).set (j := 0) (i := 3) rfl (.slice none 0 0)
    have x0 := HB9.cell (j := 0) (i := 0) rfl rfl
    have x1 := HB9.cell (j := 0) (i := 1) rfl rfl
    have x2 := HB9.cell (j := 0) (i := 2) rfl rfl
    have x3 := HB9.cell (j := 0) (i := 3) rfl rfl
    exact bodyPost_ret (v := .tuple #[.agg #[.int .u8 0, .int .i64 0, .bool false, .slice none 0 0], .bool false]) (by simp [results, Tryd.results33, go_sem, y0, y1, y2, y3]) rfl ⟨.inl ⟨HE.out, _, _, _, _, _, _, rfl⟩, HB9.below⟩

theorem readRel_any (s : ByteArray) (w : World) (hs : s.size < 4294967280) (hE : Env w) : Calls Tryd.prog 33 #[.string s] w (ReadRelP w (relP s.data.toList)) := by
  cases hf : (Lib.cut s.data.toList [32, 33, 61, 32]).2.2 with
  | true => exact readRel_yes s w hs hE hf
  | false => exact readRel_no s w hs hE hf
end Ru
end Go.Proofs.YteedhnpdffnfjaaDoor

/- What split of relations tells; readRel of a text that is one, and of one that is none. -/
namespace Go.Proofs.YteedhnpdffnfjaaDoor
namespace Ru
open Go.RowKit Go.Maps D

theorem OwnRels.nil (w : World) (base : Nat) : OwnRels w base (.slice none 0 0) [] := ⟨World.ownsRow_nil _ _ _ _, fun x hx => (by cases hx)⟩
theorem OwnRule.nil (w : World) (base : Nat) : OwnRule w base (.slice none 0 0) [] := ⟨World.ownsRow_nil _ _ _ _, fun x hx => (by cases hx), List.Pairwise.nil⟩
def SplitRelP (w : World) (o : Option (List RelV)) (e : Ending) (w' : World) : Prop :=
  ((o = none ∧ e = .returned (.tuple #[.slice none 0 0, .bool false])) ∨ ∃ (xs : List RelX) (A : Option Addr) (c : Nat), o = some (relsV xs) ∧ e = .returned (.tuple #[.slice A xs.length c, .bool true]) ∧ xs.length ≤ c ∧ OwnRels w' w.heap.size (.slice A xs.length c) xs) ∧ Below w.heap.size w w'
def SplitPartP (w : World) (o : Option (List (List RelV))) (e : Ending) (w' : World) : Prop :=
  ((o = none ∧ e = .returned (.tuple #[.slice none 0 0, .bool false])) ∨ ∃ (ps : List PartX) (A : Option Addr) (c : Nat), o = some (ruleV ps) ∧ e = .returned (.tuple #[.slice A ps.length c, .bool true]) ∧ ps.length ≤ c ∧ OwnRule w' w.heap.size (.slice A ps.length c) ps) ∧ Below w.heap.size w w'
def RelNone (w : World) (e : Ending) (w' : World) : Prop := ∃ (a m : Int) (b : Bool) (A : Option Addr) (n c : Nat), e = .returned (.tuple #[.agg #[.int .u8 a, .int .i64 m, .bool b, .slice A n c], .bool false]) ∧ Below w.heap.size w w'
def RelSome (w : World) (x : RelV) (e : Ending) (w' : World) : Prop := ∃ (A : Option Addr) (c : Nat), e = .returned (.tuple #[.agg #[.int .u8 x.op, .int .i64 x.mod, .bool x.nt, .slice A x.rs.length c], .bool true]) ∧ x.rs.length ≤ c ∧ w'.ownsRow w.heap.size 120 2 (.slice A x.rs.length c) x.rs.length (rgC x.rs) ∧ Below w.heap.size w w'
theorem rel_none {args : Array Value} {w : World} (h : Calls Tryd.prog 33 args w (ReadRelP w none)) : Calls Tryd.prog 33 args w (RelNone w) :=
  h.mono fun e w' ⟨hd, hb⟩ => by
    rcases hd with ⟨_, a, m, b, A, n, c, he⟩ | ⟨x, A, c, h1, _⟩
    · exact ⟨a, m, b, A, n, c, he, hb⟩
    · cases h1
theorem rel_some {args : Array Value} {w : World} {x : RelV} (h : Calls Tryd.prog 33 args w (ReadRelP w (some x))) : Calls Tryd.prog 33 args w (RelSome w x) :=
  h.mono fun e w' ⟨hd, hb⟩ => by
    rcases hd with ⟨h1, _⟩ | ⟨y, A, c, h1, he, hc, ho⟩
    · cases h1
    · injection h1 with h1; subst h1; exact ⟨A, c, he, hc, ho, hb⟩
end Ru
end Go.Proofs.YteedhnpdffnfjaaDoor

/- The program's split of relations; what lay in memory stays as it was. -/
namespace Go.Proofs.YteedhnpdffnfjaaDoor
namespace Ru
open Go.RowKit Go.Maps D

set_option maxHeartbeats 4000000 in
set_option maxRecDepth 100000 in
theorem splitRel_any (s : ByteArray) (w : World) (hs : s.size < 4294967280) (hE : Env w) :
    Calls Tryd.prog 32 #[.string s, .string ⟨#[32, 97, 110, 100, 32]⟩, .func (.func 33) #[] #[]] w (SplitRelP w (partP s.data.toList)) := by
  obtain ⟨i0, hi0, hz0, hz1, hz2⟩ := info_parts rel_info
  have CS := Lib.hid (split_any [32, 97, 110, 100, 32] s w (by omega) (by simp) hE)
  have hss : s.data.toList.length < 4294967280 := by rw [← ba_size]; exact hs
  have CR := Lib.hid fun (p : List UInt8) (hp : p ∈ splitL [32, 97, 110, 100, 32] s.data.toList) (W : World) (hW : Below w.heap.size w W) => readRel_any (str p) W (by rw [ba_size, str_data]; have := split_le _ _ _ hp; omega) (hE.later hW)
  have hmany := split_many [32, 97, 110, 100, 32] s.data.toList
  have HW : Hid (partP s.data.toList = (splitL [32, 97, 110, 100, 32] s.data.toList).mapM relP) := Lib.hid rfl
  generalize partP s.data.toList = res at *
  generalize splitL [32, 97, 110, 100, 32] s.data.toList = pcs at *
  have hN : pcs.length ≤ 4294967282 := by omega
  clear hs hss hE hmany
  generalize hg0 : pcs.length = N at *
  have HN := Lib.hid hg0
  clear hg0
  go_enter Tryd.func32, Tryd.ntmps32
  go_wp2_with (go_at_call 43; (with_reducible refine (CS.out).mono ?_); rintro e w1 ⟨rfl, hrd1, hb1⟩)
  rw [HN.out] at hrd1 ⊢
  have HRD := Lib.hid hrd1
  clear hrd1 CS
  generalize hgad : (⟨w.heap.size, 0, none⟩ : Addr) = gad at *
  clear hgad
  go_loopw [8, 17] (fun v i wr => ∃ (k : Nat) (done : List RelX), k ≤ N ∧ done.length = k ∧ i = .int .i64 k ∧ Below w1.heap.size w1 wr ∧ OwnRels wr w1.heap.size v done ∧ Hid ((pcs.take k).mapM relP = some (relsV done))) (fun _ i _ => N - (intOf i).toNat)
  case atStart => exact ⟨0, [], Nat.zero_le _, rfl, rfl, Below.refl _ _, OwnRels.nil _ _, Lib.hid (by simp [relsV])⟩
  case round =>
    obtain ⟨k, done, hk, hdl, rfl, hb, hown, HA⟩ := hrel
    by_cases hlt : k < N
    · have hkr : k < pcs.length := by have := HN.out; omega
      have hki : (k : Int) < (N : Int) := by omega
      have hki0 : (0 : Int) ≤ (k : Int) := by omega
      obtain ⟨ad, u, ead, hadb, hu, x0⟩ := ((HRD.out.below hb).more hb.size).at_ (k := k) hlt
      obtain rfl : gad = ad := by injection ead
      have hu2 : u = .string (str pcs[k]) := by
        rw [strC_get, List.getElem?_eq_getElem hkr] at hu
        injection hu with hu
        exact hu.symm
      rw [hu2] at x0
      have hmem : pcs[k] ∈ pcs := List.getElem_mem hkr
      have hbw : Below w.heap.size w wr := bel_call hb1 hb
      have CC := CR.out _ hmem wr hbw
      have HTK : Hid (pcs.take (k + 1) = pcs.take k ++ [pcs[k]]) := Lib.hid (List.take_succ_eq_append_getElem hkr)
      have HM := Lib.hid hmem
      clear hu hu2 hmem ead
      generalize pcs[k] = pc at *
      cases hx : relP pc with
      | none =>
        have CN := Lib.hid (rel_none (hx ▸ CC))
        have HE : Hid (res = none) := Lib.hid (by rw [HW.out]; exact mapM_stop HM.out hx)
        clear hx CC CR HTK HA hown HW
        go_wp2_with (go_at_call 33; (with_reducible refine (CN.out).mono ?_); rintro e w2 ⟨va, vm, vb, vA, vn, vc, rfl, hb2⟩; dsimp only)
        exact bodyPost_ret (v := .tuple #[.slice none 0 0, .bool false]) (by simp [results, Tryd.results32, go_sem]) rfl ⟨.inl ⟨HE.out, rfl⟩, bel_alloc (bel_call hbw hb2) _⟩
      | some x =>
        have CG := Lib.hid (rel_some (hx ▸ CC))
        have HA2 : ∀ y : RelX, y.v = x → Hid ((pcs.take (k + 1)).mapM relP = some (relsV (done ++ [y]))) := fun y hy => Lib.hid (by
          rw [HTK.out, show relsV (done ++ [y]) = relsV done ++ [y.v] from by simp [relsV]]
          exact mapM_snoc HA.out (by rw [hy]; exact hx))
        obtain ⟨A1, c1, rfl, hc1, hm1, -, -⟩ := own_shape hown.row
        clear hx CC CR HTK HA HW
        go_wp2_with (first
          | (go_at_call 33; (with_reducible refine (CG.out).mono ?_); rintro e w2 ⟨Ax, cx, rfl, hcx, hox, hb2⟩; (have hbx := bel_call hb hb2); (have hb4 := bel_alloc hbx (.cells #[.int .u8 x.op, .int .i64 x.mod, .bool x.nt, .slice Ax x.rs.length cx] 88)); (have hb5 := bel_alloc hb4 (.cells #[.int .u8 x.op, .int .i64 x.mod, .bool x.nt, .slice Ax x.rs.length cx] 88)); (have hO5 := hown.later (bel_alloc (bel_alloc hb2 (.cells #[.int .u8 x.op, .int .i64 x.mod, .bool x.nt, .slice Ax x.rs.length cx] 88)) (.cells #[.int .u8 x.op, .int .i64 x.mod, .bool x.nt, .slice Ax x.rs.length cx] 88))); (have hown5 := hO5.row); (have hox5 := own_base (own_later hox (bel_alloc (bel_alloc (Below.refl w2.heap.size w2) (.cells #[.int .u8 x.op, .int .i64 x.mod, .bool x.nt, .slice Ax x.rs.length cx] 88)) (.cells #[.int .u8 x.op, .int .i64 x.mod, .bool x.nt, .slice Ax x.rs.length cx] 88))) hb.size); (have hrd5 := Reads.of_own (own_lit (w2.alloc (.cells #[.int .u8 x.op, .int .i64 x.mod, .bool x.nt, .slice Ax x.rs.length cx] 88)) [.int .u8 x.op, .int .i64 x.mod, .bool x.nt, .slice Ax x.rs.length cx] 88 (base := 0) (k := 4) (Nat.zero_le _) rfl)); (rw [show (w2.alloc (.cells #[.int .u8 x.op, .int .i64 x.mod, .bool x.nt, .slice Ax x.rs.length cx] 88)).heap.size = w2.heap.size + 1 from by simp] at hrd5); dsimp only)
          | (at_builtin; refine wpList_append_any _ rfl (.tmp 29) (.tmp 31) _ rfl w1.heap.size 88 i0 _ 4 48 Tryd.underlying83 hi0 hz0 hz1 hz2 rfl (by omega) (.slice A1 done.length c1) done.length _ rfl hown5 _ _ 1 1 [.int .u8 x.op, .int .i64 x.mod, .bool x.nt, .slice Ax x.rs.length cx] rfl hrd5 (by intro u hu; simp at hu; rcases hu with rfl | rfl | rfl | rfl <;> rfl) (by unfold maxLen; omega) (by omega) hb5.size ?_; intro v6 w6 hown6 hg6 hat6))
        have hB6 : Below w1.heap.size w1 w6 := hb5.grown hg6 hb5.size (fun j hj => (hown5.lt j hj).1)
        go_roundw
        case rel => exact ⟨k + 1, done ++ [(⟨x, Ax, cx⟩ : RelX)], by omega, by simp; omega, by go_num, hB6, OwnRels.snoc (x := ⟨x, Ax, cx⟩) hO5 hcx hox5 (by simpa using hown6) hg6, HA2 _ rfl⟩
        case measure => simp [intOf]; omega
    · have hki : ¬ ((k : Int) < (N : Int)) := by omega
      have HE : Hid (res = some (relsV done)) := Lib.hid (by rw [HW.out, ← HA.out, List.take_of_length_le (by have := HN.out; omega)])
      obtain ⟨A1, c1, rfl, hc1, hm1, -, -⟩ := own_shape hown.row
      clear hlt hk HA
      go_wp2_with fail
      exact bodyPost_ret (v := .tuple #[.slice A1 done.length c1, .bool true]) (by simp [results, Tryd.results32, go_sem, hdl]) rfl ⟨.inr ⟨done, A1, c1, HE.out, rfl, hc1, hown.base_ hb1.size⟩, bel_call hb1 hb⟩
end Ru
end Go.Proofs.YteedhnpdffnfjaaDoor

/- The program's reading of a part; what lay in memory stays as it was. -/
namespace Go.Proofs.YteedhnpdffnfjaaDoor
namespace Ru
open Go.RowKit Go.Maps D

def PartNone (w : World) (e : Ending) (w' : World) : Prop := e = .returned (.tuple #[.slice none 0 0, .bool false]) ∧ Below w.heap.size w w'
def PartSome (w : World) (x : List RelV) (e : Ending) (w' : World) : Prop := ∃ (xs : List RelX) (A : Option Addr) (c : Nat), relsV xs = x ∧ e = .returned (.tuple #[.slice A xs.length c, .bool true]) ∧ xs.length ≤ c ∧ OwnRels w' w.heap.size (.slice A xs.length c) xs ∧ Below w.heap.size w w'
theorem rels_none {f : FuncId} {args : Array Value} {w : World} (h : Calls Tryd.prog f args w (SplitRelP w none)) : Calls Tryd.prog f args w (PartNone w) :=
  h.mono fun e w' ⟨hd, hb⟩ => by
    rcases hd with ⟨_, he⟩ | ⟨xs, A, c, h1, _⟩
    · exact ⟨he, hb⟩
    · cases h1
theorem rels_some {f : FuncId} {args : Array Value} {w : World} {x : List RelV} (h : Calls Tryd.prog f args w (SplitRelP w (some x))) : Calls Tryd.prog f args w (PartSome w x) :=
  h.mono fun e w' ⟨hd, hb⟩ => by
    rcases hd with ⟨h1, _⟩ | ⟨xs, A, c, h1, he, hc, ho⟩
    · cases h1
    · injection h1 with h1; exact ⟨xs, A, c, h1.symm, he, hc, ho, hb⟩
set_option maxHeartbeats 2000000 in
theorem parse1_any (s : ByteArray) (w : World) (hs : s.size < 4294967280) (hE : Env w) : Calls Tryd.prog 31 #[.string s] w (SplitRelP w (partP s.data.toList)) := by
  have HC := splitRel_any s w hs hE
  clear hs hE
  cases ho : partP s.data.toList with
  | none =>
    rw [ho] at HC
    have HN := Lib.hid (rels_none HC)
    clear HC ho
    go_enter Tryd.func31, Tryd.ntmps31
    go_wp2_with (go_at_call 32; (with_reducible refine (HN.out).mono ?_); rintro e w2 ⟨rfl, hb2⟩; dsimp only)
    exact bodyPost_ret (v := .tuple #[.slice none 0 0, .bool false]) (by simp [results, Tryd.results31, go_sem]) rfl ⟨.inl ⟨rfl, rfl⟩, hb2⟩
  | some x =>
    rw [ho] at HC
    have HN := Lib.hid (rels_some HC)
    clear HC ho
    go_enter Tryd.func31, Tryd.ntmps31
    go_wp2_with (go_at_call 32; (with_reducible refine (HN.out).mono ?_); rintro e w2 ⟨xs, A, c, hx, rfl, hc, ho, hb2⟩; dsimp only)
    exact bodyPost_ret (v := .tuple #[.slice A xs.length c, .bool true]) (by simp [results, Tryd.results31, go_sem]) rfl ⟨.inr ⟨xs, A, c, by rw [hx], rfl, hc, ho⟩, hb2⟩
theorem part_none {args : Array Value} {w : World} (h : Calls Tryd.prog 31 args w (SplitRelP w none)) : Calls Tryd.prog 31 args w (PartNone w) := rels_none h
theorem part_some {args : Array Value} {w : World} {x : List RelV} (h : Calls Tryd.prog 31 args w (SplitRelP w (some x))) : Calls Tryd.prog 31 args w (PartSome w x) := rels_some h
end Ru
end Go.Proofs.YteedhnpdffnfjaaDoor

/- The program's split of parts; what lay in memory stays as it was. -/
namespace Go.Proofs.YteedhnpdffnfjaaDoor
namespace Ru
open Go.RowKit Go.Maps D

set_option maxHeartbeats 4000000 in
set_option maxRecDepth 100000 in
theorem splitPart_any (s : ByteArray) (w : World) (hs : s.size < 4294967280) (hE : Env w) :
    Calls Tryd.prog 30 #[.string s, .string ⟨#[32, 111, 114, 32]⟩, .func (.func 31) #[] #[]] w (SplitPartP w (ruleP s.data.toList)) := by
  obtain ⟨i0, hi0, hz0, hz1, hz2⟩ := info_parts part_info
  have CS := Lib.hid (split_any [32, 111, 114, 32] s w (by omega) (by simp) hE)
  have hss : s.data.toList.length < 4294967280 := by rw [← ba_size]; exact hs
  have CR := Lib.hid fun (p : List UInt8) (hp : p ∈ splitL [32, 111, 114, 32] s.data.toList) (W : World) (hW : Below w.heap.size w W) => parse1_any (str p) W (by rw [ba_size, str_data]; have := split_le _ _ _ hp; omega) (hE.later hW)
  have hmany := split_many [32, 111, 114, 32] s.data.toList
  have HW : Hid (ruleP s.data.toList = (splitL [32, 111, 114, 32] s.data.toList).mapM partP) := Lib.hid rfl
  generalize ruleP s.data.toList = res at *
  generalize splitL [32, 111, 114, 32] s.data.toList = pcs at *
  have hN : pcs.length ≤ 4294967282 := by omega
  clear hs hss hE hmany
  generalize hg0 : pcs.length = N at *
  have HN := Lib.hid hg0
  clear hg0
  go_enter Tryd.func30, Tryd.ntmps30
  go_wp2_with (go_at_call 43; (with_reducible refine (CS.out).mono ?_); rintro e w1 ⟨rfl, hrd1, hb1⟩)
  rw [HN.out] at hrd1 ⊢
  have HRD := Lib.hid hrd1
  clear hrd1 CS
  generalize hgad : (⟨w.heap.size, 0, none⟩ : Addr) = gad at *
  clear hgad
  go_loopw [8, 17] (fun v i wr => ∃ (k : Nat) (done : List PartX), k ≤ N ∧ done.length = k ∧ i = .int .i64 k ∧ Below w1.heap.size w1 wr ∧ OwnRule wr w1.heap.size v done ∧ Hid ((pcs.take k).mapM partP = some (ruleV done))) (fun _ i _ => N - (intOf i).toNat)
  case atStart => exact ⟨0, [], Nat.zero_le _, rfl, rfl, Below.refl _ _, OwnRule.nil _ _, Lib.hid (by simp [ruleV])⟩
  case round =>
    obtain ⟨k, done, hk, hdl, rfl, hb, hown, HA⟩ := hrel
    by_cases hlt : k < N
    · have hkr : k < pcs.length := by have := HN.out; omega
      have hki : (k : Int) < (N : Int) := by omega
      have hki0 : (0 : Int) ≤ (k : Int) := by omega
      obtain ⟨ad, u, ead, hadb, hu, x0⟩ := ((HRD.out.below hb).more hb.size).at_ (k := k) hlt
      obtain rfl : gad = ad := by injection ead
      have hu2 : u = .string (str pcs[k]) := by
        rw [strC_get, List.getElem?_eq_getElem hkr] at hu
        injection hu with hu
        exact hu.symm
      rw [hu2] at x0
      have hmem : pcs[k] ∈ pcs := List.getElem_mem hkr
      have hbw : Below w.heap.size w wr := bel_call hb1 hb
      have CC := CR.out _ hmem wr hbw
      have HTK : Hid (pcs.take (k + 1) = pcs.take k ++ [pcs[k]]) := Lib.hid (List.take_succ_eq_append_getElem hkr)
      have HM := Lib.hid hmem
      clear hu hu2 hmem ead
      generalize pcs[k] = pc at *
      cases hx : partP pc with
      | none =>
        have CN := Lib.hid (part_none (hx ▸ CC))
        have HE : Hid (res = none) := Lib.hid (by rw [HW.out]; exact mapM_stop HM.out hx)
        clear hx CC CR HTK HA hown HW
        go_wp2_with (go_at_call 31; (with_reducible refine (CN.out).mono ?_); rintro e w2 ⟨rfl, hb2⟩; dsimp only)
        exact bodyPost_ret (v := .tuple #[.slice none 0 0, .bool false]) (by simp [results, Tryd.results30, go_sem]) rfl ⟨.inl ⟨HE.out, rfl⟩, bel_call hbw hb2⟩
      | some x =>
        have CG := Lib.hid (part_some (hx ▸ CC))
        have HA2 : ∀ y : PartX, relsV y.xs = x → Hid ((pcs.take (k + 1)).mapM partP = some (ruleV (done ++ [y]))) := fun y hy => Lib.hid (by
          rw [HTK.out, show ruleV (done ++ [y]) = ruleV done ++ [relsV y.xs] from by simp [ruleV]]
          exact mapM_snoc HA.out (by rw [hy]; exact hx))
        obtain ⟨A1, c1, rfl, hc1, hm1, -, -⟩ := own_shape hown.row
        clear hx CC CR HTK HA HW
        go_wp2_with (first
          | (go_at_call 31; (with_reducible refine (CG.out).mono ?_); rintro e w2 ⟨ys, Ax, cx, hyx, rfl, hcx, hox, hb2⟩; (have hbx := bel_call hb hb2); (have hb5 := bel_alloc hbx (.cells #[.slice Ax ys.length cx] 83)); (have hO5 := hown.later (bel_alloc hb2 (.cells #[.slice Ax ys.length cx] 83))); (have hown5 := hO5.row); (have hox5 := (hox.later ((Below.refl w2.heap.size w2).alloc (Nat.le_refl _) (.cells #[.slice Ax ys.length cx] 83))).base_ hb.size); (have hap := hown.apart_new (p := ⟨Ax, cx, ys⟩) hox.row); (have hrd5 := Reads.of_own (own_lit w2 [.slice Ax ys.length cx] 83 (base := 0) (k := 1) (Nat.zero_le _) rfl)); dsimp only)
          | (at_builtin; refine wpList_append_any _ rfl (.tmp 29) (.tmp 31) _ rfl w1.heap.size 83 i0 _ 1 24 Tryd.underlying48 hi0 hz0 hz1 hz2 rfl (by omega) (.slice A1 done.length c1) done.length _ rfl hown5 _ _ 1 1 [.slice Ax ys.length cx] rfl hrd5 (by intro u hu; simp at hu; subst hu; rfl) (by unfold maxLen; omega) (by omega) hb5.size ?_; intro v6 w6 hown6 hg6 hat6))
        have hB6 : Below w1.heap.size w1 w6 := hb5.grown hg6 hb5.size (fun j hj => (hown5.lt j hj).1)
        go_roundw
        case rel => exact ⟨k + 1, done ++ [(⟨Ax, cx, ys⟩ : PartX)], by omega, by simp; omega, by go_num, hB6, OwnRule.snoc (p := ⟨Ax, cx, ys⟩) hO5 hcx hox5 hap (by simpa using hown6) hg6, HA2 _ hyx⟩
        case measure => simp [intOf]; omega
    · have hki : ¬ ((k : Int) < (N : Int)) := by omega
      have HE : Hid (res = some (ruleV done)) := Lib.hid (by rw [HW.out, ← HA.out, List.take_of_length_le (by have := HN.out; omega)])
      obtain ⟨A1, c1, rfl, hc1, hm1, -, -⟩ := own_shape hown.row
      clear hlt hk HA
      go_wp2_with fail
      exact bodyPost_ret (v := .tuple #[.slice A1 done.length c1, .bool true]) (by simp [results, Tryd.results30, go_sem, hdl]) rfl ⟨.inr ⟨done, A1, c1, HE.out, rfl, hc1, hown.base_ hb1.size⟩, bel_call hb1 hb⟩
end Ru
end Go.Proofs.YteedhnpdffnfjaaDoor
