/- The program's rangeText, and its join of ranges; what lay in memory stays as it was. And what follows from it. And what follows from it. -/
import Derived.Test.YteedhnpdffnfjaaDoorRuLib
import Derived.Test.YteedhnpdffnfjaaDoorRuCheck
import Derived.Deep.OwnRows
namespace Go.Proofs.YteedhnpdffnfjaaDoor
namespace Ru
open Go.RowKit D

theorem ba_add (a b : List UInt8) : str a ++ str b = str (a ++ b) := by
  apply ba_ext
  rw [ByteArray.data_append, Array.toList_append, str_data, str_data, str_data]
theorem dots : (⟨#[46, 46]⟩ : ByteArray) = str [46, 46] := rfl
set_option maxHeartbeats 4000000 in
set_option maxRecDepth 100000 in
theorem rangeText_any (a b : Int) (w : World) (hok : rgOk (a, b)) (hE : Env w) : Calls Tryd.prog 63 #[.agg #[.int .i64 a, .int .i64 b]] w (Gives w (.string (str (rgT (a, b))))) := by
  have H0 : Hid (Bs w _ [_]) := Lib.hid (bs_one w [.int .i64 a, .int .i64 b] 120)
  obtain ⟨d0, d1, -⟩ := H0.out.cells
  obtain ⟨h0, h1, h2⟩ : 0 ≤ a ∧ a ≤ b ∧ b ≤ 1000000 := hok
  have CI := Lib.hid fun (x : Int) (h0 : 0 ≤ x) (h1 : x ≤ 1000000) (W : World) (hW : Below w.heap.size w W) => itoa_dg x W h0 h1 (hE.later hW)
  have CA := Lib.hid (CI.out a h0 (by omega))
  have CB := Lib.hid (CI.out b (by omega) h2)
  have sa := dg_size (a := a) (by omega)
  have sb := dg_size (a := b) h2
  clear hE CI
  by_cases hab : a = b
  · subst hab
    have HE : Hid (rgT (a, a) = dg a) := Lib.hid (rgT_eq (by show ¬ a < a; omega))
    go_enter Tryd.func63, Tryd.ntmps63
    go_wp2_with (go_at_call 61; (with_reducible refine (CA.out _ H0.out.below).mono ?_); rintro e w2 ⟨rfl, hb2⟩)
    go_ret
    exact ⟨by rw [HE.out]; rfl, bel_call H0.out.below hb2⟩
  · have HE : Hid (str (rgT (a, b)) = str (dg a) ++ ⟨#[46, 46]⟩ ++ str (dg b)) := Lib.hid (by rw [rgT_lt (by show a < b; omega), dots, ba_add, ba_add, List.append_assoc])
    have habb : (a == b) = false := by simpa using hab
    go_enter Tryd.func63, Tryd.ntmps63
    clear hab h0 h1 h2
    go_upto_region 3 with fail
    obtain ⟨v0, hv0⟩ : ∃ V', w.alloc (.cells #[.int .i64 a, .int .i64 b] 120) = V' := ⟨_, rfl⟩
    rw [hv0] at H0 d0 d1 ⊢
    clear hv0
    have CA2 : Hid (∀ W', Below v0.heap.size v0 W' → Calls Tryd.prog 61 #[.int .i64 a] W' (Gives W' (.string (str (dg a))))) := Lib.hid fun W' hW => CA.out W' (bel_call H0.out.below hW)
    have CB2 : Hid (∀ W', Below v0.heap.size v0 W' → Calls Tryd.prog 61 #[.int .i64 b] W' (Gives W' (.string (str (dg b))))) := Lib.hid fun W' hW => CB.out W' (bel_call H0.out.below hW)
    have HSX : Hid (∀ wx, Below v0.heap.size v0 wx → Below v0.heap.size v0 wx ∧ wx.cell? ⟨w.heap.size, 0, none⟩ = some (.int .i64 a) ∧ wx.cell? ⟨w.heap.size, 1, none⟩ = some (.int .i64 b)) := Lib.hid fun wx hb => by
      obtain ⟨z0, z1, -⟩ := (H0.out.call hb).cells
      exact ⟨hb, z0, z1⟩
    have hB0 := Below.refl v0.heap.size v0
    have s1 : ¬ 9223372036854775807 < (str (dg a)).size + 2 := by omega
    have s2 : ¬ 9223372036854775807 < (str (dg a)).size + 2 + (str (dg b)).size := by omega
    clear sa sb CA CB
    generalize str (dg a) = ta at *
    generalize str (dg b) = tb at *
    go_region_held3 (fun wx => Below v0.heap.size v0 wx ∧ wx.cell? ⟨w.heap.size, 0, none⟩ = some (.int .i64 a) ∧ wx.cell? ⟨w.heap.size, 1, none⟩ = some (.int .i64 b))
      (first | exact HSX.out _ (by assumption) | exact HSX.out _ (Below.drew (by assumption)))
      (first
        | (go_at_call 61; (with_reducible refine (CA2.out _ ?_).mono ?_); (first | assumption | exact Below.drew (by assumption)); rintro e wy ⟨rfl, hby⟩; (have hTy : Below v0.heap.size v0 wy := by first | exact bel_call (by assumption) hby | exact bel_call (Below.drew (by assumption)) hby))
        | (go_at_call 61; (with_reducible refine (CB2.out _ ?_).mono ?_); (first | assumption | exact Below.drew (by assumption)); rintro e wy ⟨rfl, hby⟩; (have hTy : Below v0.heap.size v0 wy := by first | exact bel_call (by assumption) hby | exact bel_call (Below.drew (by assumption)) hby)))
    go_wp2_with fail
    go_ret
    exact ⟨by rw [HE.out]; rfl, bel_call H0.out.below (by assumption)⟩
end Ru
end Go.Proofs.YteedhnpdffnfjaaDoor

/- The program's join of ranges; what lay in memory stays as it was. -/
namespace Go.Proofs.YteedhnpdffnfjaaDoor
namespace Ru
open Go.RowKit D

theorem strInfo : (Tryd.prog.info? 9).map (fun i => (i.zero, i.size, i.bytes)) = some (some (.string ByteArray.empty), 1, 16) := by kernel_rfl
set_option maxHeartbeats 4000000 in
set_option maxRecDepth 100000 in
theorem joinRg_any (A : Option Addr) (n c : Nat) (rs : List (Int × Int)) (w : World) (hr : RgsAt w w.heap.size A n rs) (hn : n ≤ 1073741826) (hl : rs.length = n) (hok : ∀ r ∈ rs, rgOk r) (hE : Env w) (hj : (joinL [44] (rs.map rgT)).length ≤ 140737488355328) :
    Calls Tryd.prog 62 #[.slice A n c, .string ⟨#[44]⟩, .func (.func 63) #[] #[]] w (Gives w (.string (str (joinL [44] (rs.map rgT))))) := by
  have HR := Lib.hid hr
  have HL : Hid (rs.length = n) := Lib.hid hl
  have HO := Lib.hid hok
  have HEN := Lib.hid hE
  have HJ := Lib.hid hj
  have hmk := run_make_row' (P := Tryd.prog) 44 9 (.string ByteArray.empty) 16 Tryd.underlying44 strInfo rfl .i64 .i64 n (by omega) (by omega)
  clear hr hE hj hl hok
  go_enter Tryd.func62, Tryd.ntmps62
  go_wp2_with fail
  have hb0 : Below w.heap.size w (w.alloc (.cells (madeCells #[.string ByteArray.empty] n) 9)) := (Below.refl _ _).alloc (Nat.le_refl _) _
  have hk0 : Blk (w.alloc (.cells (madeCells #[.string ByteArray.empty] n) 9)) w.heap.size 9 (Lib.cellsOf [] n) := by rw [Lib.cellsOf_nil]; exact Blk.new w _ _
  generalize w.alloc (.cells (madeCells #[.string ByteArray.empty] n) 9) = w1 at *
  clear hmk
  go_loopw [15] (fun i wr => ∃ k : Nat, k ≤ n ∧ i = .int .i64 k ∧ Below w.heap.size w wr ∧ Blk wr w.heap.size 9 (Lib.cellsOf ((rs.take k).map fun x => str (rgT x)) n)) (fun i _ => n - (intOf i).toNat)
  case atStart => exact ⟨0, Nat.zero_le _, rfl, hb0, by simpa using hk0⟩
  case round =>
    obtain ⟨k, hk, rfl, hb, hblk⟩ := hrel
    clear hb0 hk0
    by_cases hlt : k < n
    · have hkr : k < rs.length := by have := HL.out; omega
      have hki : (k : Int) < (n : Int) := by omega
      have hki2 : (k : Int) < ((n : Nat) : Int) := hki
      obtain ⟨ad, rfl, hadb, x0, x1⟩ := rg_at ((HR.out.below hb).more hb.size) hkr
      rw [← add_of_add, add_pos _ _ (by omega)] at x1
      have HB0 : Hid (Bs wr _ [_]) := Lib.hid (bs_one wr [.int .i64 rs[k].1, .int .i64 rs[k].2] 120)
      obtain ⟨z0, z1, -⟩ := HB0.out.cells
      have HDL : Hid (((rs.take k).map fun x => str (rgT x)).length = k) := Lib.hid (by simp; have := HL.out; omega)
      have HK : Hid ((rs.take (k + 1)).map (fun x => str (rgT x)) = (rs.take k).map (fun x => str (rgT x)) ++ [str (rgT rs[k])]) := Lib.hid (by rw [List.take_succ_eq_append_getElem hkr, List.map_append]; rfl)
      have hnext : (Lib.cellsOf ((rs.take k).map fun x => str (rgT x)) n)[k]? = some (.string ByteArray.empty) := by
        have := Lib.cellsOf_next (done := (rs.take k).map fun x => str (rgT x)) (N := n) (by rw [HDL.out]; exact hlt)
        rwa [HDL.out] at this
      have HSET : Hid ((Lib.cellsOf ((rs.take k).map fun x => str (rgT x)) n).setIfInBounds k (.string (str (rgT rs[k]))) = Lib.cellsOf ((rs.take (k + 1)).map (fun x => str (rgT x))) n) := Lib.hid (by
        have := Lib.cellsOf_set (done := (rs.take k).map fun x => str (rgT x)) (N := n) (by rw [HDL.out]; exact hlt) (str (rgT rs[k]))
        rw [HDL.out] at this
        rw [HK.out, this])
      have CC := Lib.hid (rangeText_any rs[k].1 rs[k].2 _ (HO.out _ (List.getElem_mem hkr)) (HEN.out.later (bel_call hb HB0.out.below)))
      have HBL := Lib.hid (hblk.alloc (.cells #[.int .i64 rs[k].1, .int .i64 rs[k].2] 120))
      generalize Lib.cellsOf ((rs.take k).map fun x => str (rgT x)) n = cs at *
      generalize str (rgT rs[k]) = tx at *
      go_wp2_with (go_at_call 63; (with_reducible refine (CC.out).mono ?_); rintro e w2 ⟨rfl, hb2⟩; (have hblk2 := HBL.out.below hb2 HBL.out.lt); (have hold : w2.cell? ⟨w.heap.size, k, none⟩ = some (.string ByteArray.empty) := (hblk2.cell k).trans hnext); (have hfr : w2.frozen? ⟨w.heap.size, k, none⟩ = false := hblk2.frozen k))
      go_roundw
      case rel => exact ⟨k + 1, by omega, by go_num, (bel_call hb (bel_call HB0.out.below hb2)).setCell (Nat.le_refl _) _, by rw [← HSET.out]; exact hblk2.set_ k _⟩
      case measure => simp [intOf]; omega
    · have hki : ¬ ((k : Int) < (n : Int)) := by omega
      obtain rfl : k = n := by omega
      have HALL : Hid (rs.take k = rs) := Lib.hid (List.take_of_length_le (by have := HL.out; omega))
      rw [HALL.out] at hblk
      have CJ := Lib.hid (join_any [44] (rs.map rgT) w.heap.size k _ (by rw [List.length_map]; exact HL.out.symm) (fun j p hp => by
        rw [hblk.cell j]
        have e : k = (rs.map fun x => str (rgT x)).length := by rw [List.length_map]; exact HL.out.symm
        conv => lhs; rw [e]
        rw [Lib.cellsOf_full]
        simp only [List.getElem?_map, List.map_map, List.getElem?_toArray] at hp ⊢
        cases hx : rs[j]? with
        | none => rw [hx] at hp; cases hp
        | some x => rw [hx] at hp; injection hp with hp; subst hp; rfl) hblk.lt (by omega) HJ.out)
      clear hlt hk
      go_wp2_with (go_at_call 60; (with_reducible refine (CJ.out).mono ?_); rintro e w2 ⟨rfl, hb2⟩)
      go_ret
      exact ⟨rfl, bel_call hb hb2⟩
end Ru
end Go.Proofs.YteedhnpdffnfjaaDoor

/- The program's relText: the text of a right relation; what lay in memory stays as it was. -/
namespace Go.Proofs.YteedhnpdffnfjaaDoor
namespace Ru
open Go.RowKit D

theorem conv_op {op : Int} (h : opOk op) (w : World) : (convert 5 9 (.int .u8 op)).run Tryd.prog w = .ok (.string (str [opT op])) w := by
  rcases h with rfl | rfl | rfl | rfl | rfl | rfl <;> kernel_rfl
theorem rgs_size {rs : List (Int × Int)} (h : ∀ r ∈ rs, rgOk r) : (joinL [44] (rs.map rgT)).length ≤ rs.length * 35 := by
  have := join_bound [44] 34 (rs.map rgT) fun p hp => by
    obtain ⟨r, hr, rfl⟩ := List.mem_map.1 hp
    exact rg_size (h r hr)
  rwa [List.length_map] at this
theorem left_one (x : RelV) (h : ¬ 0 < x.mod) : str (relT x) = str [opT x.op] ++ (str (signT x.nt)) ++ str (joinL [44] (x.rs.map rgT)) := by
  rw [relT_eq, ba_add, ba_add]
  unfold leftT
  rw [if_neg h, List.append_assoc]
  rfl
theorem left_mod (x : RelV) (h : 0 < x.mod) : str (relT x) = str [opT x.op] ++ (⟨#[32, 37, 32]⟩ ++ str (dg x.mod)) ++ (str (signT x.nt)) ++ str (joinL [44] (x.rs.map rgT)) := by
  have e : (⟨#[32, 37, 32]⟩ : ByteArray) = str [32, 37, 32] := rfl
  rw [relT_eq, e, ba_add [32, 37, 32], ba_add [opT x.op], ba_add _ (signT x.nt), ba_add _ (joinL _ _)]
  unfold leftT
  rw [if_pos h]
  exact congrArg str (by simp [rgsT])
set_option maxHeartbeats 4000000 in
set_option maxRecDepth 100000 in
theorem relText_any (op mod : Int) (nt : Bool) (A : Option Addr) (n c : Nat) (rs : List (Int × Int)) (w : World) (hr : RgsAt w w.heap.size A n rs) (hl : rs.length = n) (hn : n ≤ 1073741826) (hok : relOk ⟨op, mod, nt, rs⟩) (hE : Env w) :
    Calls Tryd.prog 51 #[.agg #[.int .u8 op, .int .i64 mod, .bool nt, .slice A n c]] w (Gives w (.string (str (relT ⟨op, mod, nt, rs⟩)))) := by
  have H0 : Hid (Bs w _ [_]) := Lib.hid (bs_one w [.int .u8 op, .int .i64 mod, .bool nt, .slice A n c] 88)
  obtain ⟨d0, d1, d2, d3, -⟩ := H0.out.cells
  have hop : opOk op := hok.1
  have hm : 0 ≤ mod ∧ mod ≤ 1000000 := hok.2.1
  have hrs : ∀ r ∈ rs, rgOk r := hok.2.2.2
  have hsz := rgs_size hrs
  have hcv := conv_op hop
  have CJ := Lib.hid fun (W : World) (hW : Below w.heap.size w W) => joinRg_any A n c rs W ((hr.below hW).more hW.size) hn hl hrs (hE.later hW) (by omega)
  have CI := Lib.hid fun (h0 : 0 ≤ mod) (h1 : mod ≤ 1000000) (W : World) (hW : Below w.heap.size w W) => itoa_dg mod W h0 h1 (hE.later hW)
  have H1 := Lib.hid fun h => left_one ⟨op, mod, nt, rs⟩ h
  have H2 := Lib.hid fun h => left_mod ⟨op, mod, nt, rs⟩ h
  have sj : (str (joinL [44] (rs.map rgT))).size ≤ 37580963910 := by rw [ba_size, str_data]; omega
  have so : (str [opT op]).size = 1 := rfl
  have sm : mod ≤ 1000000 → (str (dg mod)).size ≤ 16 := fun h => dg_size h
  clear hr hl hok hE hrs hsz hop
  dsimp only at H1 H2
  generalize str (joinL [44] (rs.map rgT)) = tj at *
  generalize str [opT op] = tp at *
  generalize str (relT ⟨op, mod, nt, rs⟩) = res at *
  by_cases h0 : mod = 0
  · have H1 := Lib.hid (H1.out (by omega))
    have h0b : (mod != 0) = false := by simp [h0]
    clear CI H2 sm h0 hm
    cases nt with
    | false =>
      have HE : Hid (res = tp ++ ⟨#[32, 61, 32]⟩ ++ tj) := H1
      have s1 : ¬ 9223372036854775807 < tp.size + 3 := by omega
      have s2 : ¬ 9223372036854775807 < tp.size + 3 + tj.size := by omega
      clear H1 sj so
      go_enter Tryd.func51, Tryd.ntmps51
      go_wp2_with (go_at_call 62; (with_reducible refine (CJ.out _ H0.out.below).mono ?_); rintro e w2 ⟨rfl, hb2⟩)
      go_ret
      exact ⟨by rw [HE.out]; rfl, bel_call H0.out.below hb2⟩
    | true =>
      have HE : Hid (res = tp ++ ⟨#[32, 33, 61, 32]⟩ ++ tj) := H1
      have s1 : ¬ 9223372036854775807 < tp.size + 4 := by omega
      have s2 : ¬ 9223372036854775807 < tp.size + 4 + tj.size := by omega
      clear H1 sj so
      go_enter Tryd.func51, Tryd.ntmps51
      go_wp2_with (go_at_call 62; (with_reducible refine (CJ.out _ H0.out.below).mono ?_); rintro e w2 ⟨rfl, hb2⟩)
      go_ret
      exact ⟨by rw [HE.out]; rfl, bel_call H0.out.below hb2⟩
  · have hmp : 0 < mod := by omega
    have H2 := Lib.hid (H2.out hmp)
    have CI := Lib.hid (CI.out hm.1 hm.2)
    have sm := sm hm.2
    have h0b : (mod != 0) = true := by simpa using h0
    clear H1 h0 hm hmp
    generalize str (dg mod) = tm at *
    cases nt with
    | false =>
      have HE : Hid (res = tp ++ (⟨#[32, 37, 32]⟩ ++ tm) ++ ⟨#[32, 61, 32]⟩ ++ tj) := H2
      have s0 : ¬ 9223372036854775807 < 3 + tm.size := by omega
      have s1 : ¬ 9223372036854775807 < tp.size + (3 + tm.size) := by omega
      have s2 : ¬ 9223372036854775807 < tp.size + (3 + tm.size) + 3 := by omega
      have s3 : ¬ 9223372036854775807 < tp.size + (3 + tm.size) + 3 + tj.size := by omega
      clear H2 sj so sm
      go_enter Tryd.func51, Tryd.ntmps51
      go_wp2_with (first
        | (go_at_call 61; (with_reducible refine (CI.out _ H0.out.below).mono ?_); rintro e w2 ⟨rfl, hb2⟩; (have HB2 := Lib.hid (H0.out.call hb2)); obtain ⟨z0, z1, z2, z3, -⟩ := HB2.out.cells; (have hbel := HB2.out.below))
        | (go_at_call 62; (with_reducible refine (CJ.out _ hbel).mono ?_); rintro e w3 ⟨rfl, hb3⟩))
      go_ret
      exact ⟨by rw [HE.out]; rfl, bel_call hbel hb3⟩
    | true =>
      have HE : Hid (res = tp ++ (⟨#[32, 37, 32]⟩ ++ tm) ++ ⟨#[32, 33, 61, 32]⟩ ++ tj) := H2
      have s0 : ¬ 9223372036854775807 < 3 + tm.size := by omega
      have s1 : ¬ 9223372036854775807 < tp.size + (3 + tm.size) := by omega
      have s2 : ¬ 9223372036854775807 < tp.size + (3 + tm.size) + 4 := by omega
      have s3 : ¬ 9223372036854775807 < tp.size + (3 + tm.size) + 4 + tj.size := by omega
      clear H2 sj so sm
      go_enter Tryd.func51, Tryd.ntmps51
      go_wp2_with (first
        | (go_at_call 61; (with_reducible refine (CI.out _ H0.out.below).mono ?_); rintro e w2 ⟨rfl, hb2⟩; (have HB2 := Lib.hid (H0.out.call hb2)); obtain ⟨z0, z1, z2, z3, -⟩ := HB2.out.cells; (have hbel := HB2.out.below))
        | (go_at_call 62; (with_reducible refine (CJ.out _ hbel).mono ?_); rintro e w3 ⟨rfl, hb3⟩))
      go_ret
      exact ⟨by rw [HE.out]; rfl, bel_call hbel hb3⟩
end Ru
end Go.Proofs.YteedhnpdffnfjaaDoor

/- The program's join of relations; what lay in memory stays as it was. -/
namespace Go.Proofs.YteedhnpdffnfjaaDoor
namespace Ru
open Go.RowKit D

set_option maxHeartbeats 4000000 in
set_option maxRecDepth 100000 in
theorem joinRel_any (A : Option Addr) (n c : Nat) (xs : List RelX) (w : World) (hr : RelsAt w w.heap.size A n xs) (hn : n ≤ 1073741826) (hz : ∀ x ∈ xs, x.v.rs.length ≤ 1073741826) (hok : ∀ x ∈ xs, relOk x.v) (hE : Env w) (hj : (joinL [32, 97, 110, 100, 32] (xs.map (fun x => relT x.v))).length ≤ 140737488355328) :
    Calls Tryd.prog 50 #[.slice A n c, .string ⟨#[32, 97, 110, 100, 32]⟩, .func (.func 51) #[] #[]] w (Gives w (.string (str (joinL [32, 97, 110, 100, 32] (xs.map (fun x => relT x.v)))))) := by
  have HR := Lib.hid hr
  have HL : Hid (xs.length = n) := Lib.hid hr.len
  have HO := Lib.hid hok
  have HZ := Lib.hid hz
  have HEN := Lib.hid hE
  have HJ := Lib.hid hj
  have hmk := run_make_row' (P := Tryd.prog) 44 9 (.string ByteArray.empty) 16 Tryd.underlying44 strInfo rfl .i64 .i64 n (by omega) (by omega)
  clear hr hE hj hz hok
  go_enter Tryd.func50, Tryd.ntmps50
  go_wp2_with fail
  have hb0 : Below w.heap.size w (w.alloc (.cells (madeCells #[.string ByteArray.empty] n) 9)) := (Below.refl _ _).alloc (Nat.le_refl _) _
  have hk0 : Blk (w.alloc (.cells (madeCells #[.string ByteArray.empty] n) 9)) w.heap.size 9 (Lib.cellsOf [] n) := by rw [Lib.cellsOf_nil]; exact Blk.new w _ _
  generalize w.alloc (.cells (madeCells #[.string ByteArray.empty] n) 9) = w1 at *
  clear hmk
  go_loopw [15] (fun i wr => ∃ k : Nat, k ≤ n ∧ i = .int .i64 k ∧ Below w.heap.size w wr ∧ Blk wr w.heap.size 9 (Lib.cellsOf ((xs.take k).map fun x => str ((fun x => relT x.v) x)) n)) (fun i _ => n - (intOf i).toNat)
  case atStart => exact ⟨0, Nat.zero_le _, rfl, hb0, by simpa using hk0⟩
  case round =>
    obtain ⟨k, hk, rfl, hb, hblk⟩ := hrel
    clear hb0 hk0
    by_cases hlt : k < n
    · have hkr : k < xs.length := by have := HL.out; omega
      have hki : (k : Int) < (n : Int) := by omega
      have hki2 : (k : Int) < ((n : Nat) : Int) := hki
      obtain ⟨ad, rfl, hadb, y0, y1, y2, y3, hrc, hrg⟩ := ((HR.out.below hb).more hb.size).at_ (List.getElem?_eq_getElem hkr)
      rw [← add_of_add, add_pos _ _ (by omega)] at y1 y2 y3
      have HB0 : Hid (Bs wr _ [_]) := Lib.hid (bs_one wr [.int .u8 xs[k].v.op, .int .i64 xs[k].v.mod, .bool xs[k].v.nt, .slice xs[k].A xs[k].v.rs.length xs[k].c] 88)
      obtain ⟨z0, z1, z2, z3, -⟩ := HB0.out.cells
      have HDL : Hid (((xs.take k).map fun x => str ((fun x => relT x.v) x)).length = k) := Lib.hid (by simp; have := HL.out; omega)
      have HK : Hid ((xs.take (k + 1)).map (fun x => str ((fun x => relT x.v) x)) = (xs.take k).map (fun x => str ((fun x => relT x.v) x)) ++ [str ((fun x => relT x.v) xs[k])]) := Lib.hid (by rw [List.take_succ_eq_append_getElem hkr, List.map_append]; rfl)
      have hnext : (Lib.cellsOf ((xs.take k).map fun x => str ((fun x => relT x.v) x)) n)[k]? = some (.string ByteArray.empty) := by
        have := Lib.cellsOf_next (done := (xs.take k).map fun x => str ((fun x => relT x.v) x)) (N := n) (by rw [HDL.out]; exact hlt)
        rwa [HDL.out] at this
      have HSET : Hid ((Lib.cellsOf ((xs.take k).map fun x => str ((fun x => relT x.v) x)) n).setIfInBounds k (.string (str ((fun x => relT x.v) xs[k]))) = Lib.cellsOf ((xs.take (k + 1)).map (fun x => str ((fun x => relT x.v) x))) n) := Lib.hid (by
        have := Lib.cellsOf_set (done := (xs.take k).map fun x => str ((fun x => relT x.v) x)) (N := n) (by rw [HDL.out]; exact hlt) (str ((fun x => relT x.v) xs[k]))
        rw [HDL.out] at this
        rw [HK.out, this])
      have CC := Lib.hid (relText_any xs[k].v.op xs[k].v.mod xs[k].v.nt xs[k].A xs[k].v.rs.length xs[k].c xs[k].v.rs _ ((hrg.below HB0.out.below).more HB0.out.below.size) rfl (HZ.out _ (List.getElem_mem hkr)) (HO.out _ (List.getElem_mem hkr)) (HEN.out.later (bel_call hb HB0.out.below)))
      have HBL := Lib.hid (hblk.alloc (.cells #[.int .u8 xs[k].v.op, .int .i64 xs[k].v.mod, .bool xs[k].v.nt, .slice xs[k].A xs[k].v.rs.length xs[k].c] 88))
      clear hrc hrg
      generalize Lib.cellsOf ((xs.take k).map fun x => str ((fun x => relT x.v) x)) n = cs at *
      generalize str ((fun x => relT x.v) xs[k]) = tx at *
      go_wp2_with (go_at_call 51; (with_reducible refine (CC.out).mono ?_); rintro e w2 ⟨rfl, hb2⟩; (have hblk2 := HBL.out.below hb2 HBL.out.lt); (have hold : w2.cell? ⟨w.heap.size, k, none⟩ = some (.string ByteArray.empty) := (hblk2.cell k).trans hnext); (have hfr : w2.frozen? ⟨w.heap.size, k, none⟩ = false := hblk2.frozen k))
      go_roundw
      case rel => exact ⟨k + 1, by omega, by go_num, (bel_call hb (bel_call HB0.out.below hb2)).setCell (Nat.le_refl _) _, by rw [← HSET.out]; exact hblk2.set_ k _⟩
      case measure => simp [intOf]; omega
    · have hki : ¬ ((k : Int) < (n : Int)) := by omega
      obtain rfl : k = n := by omega
      have HALL : Hid (xs.take k = xs) := Lib.hid (List.take_of_length_le (by have := HL.out; omega))
      rw [HALL.out] at hblk
      have CJ := Lib.hid (join_any [32, 97, 110, 100, 32] (xs.map (fun x => relT x.v)) w.heap.size k _ (by rw [List.length_map]; exact HL.out.symm) (fun j p hp => by
        rw [hblk.cell j]
        have e : k = (xs.map fun x => str ((fun x => relT x.v) x)).length := by rw [List.length_map]; exact HL.out.symm
        conv => lhs; rw [e]
        rw [Lib.cellsOf_full]
        simp only [List.getElem?_map, List.map_map, List.getElem?_toArray] at hp ⊢
        cases hx : xs[j]? with
        | none => rw [hx] at hp; cases hp
        | some x => rw [hx] at hp; injection hp with hp; subst hp; rfl) hblk.lt (by omega) HJ.out)
      clear hlt hk
      go_wp2_with (go_at_call 60; (with_reducible refine (CJ.out).mono ?_); rintro e w2 ⟨rfl, hb2⟩)
      go_ret
      exact ⟨rfl, bel_call hb hb2⟩
end Ru
end Go.Proofs.YteedhnpdffnfjaaDoor

/- The text of a part, as the program has it; what lay in memory stays as it was. -/
namespace Go.Proofs.YteedhnpdffnfjaaDoor
namespace Ru
open Go.RowKit D

theorem rels_size {xs : List RelX} (h : ∀ x ∈ xs, relOk x.v) (hz : ∀ x ∈ xs, x.v.rs.length ≤ 1073741826) (hl : xs.length ≤ 20) : (joinL [32, 97, 110, 100, 32] (xs.map fun x => relT x.v)).length ≤ 20 * 43000000000 :=
  join_bound' [32, 97, 110, 100, 32] 42949673100 _ (by show 42949673100 + 5 ≤ _; omega) _ (fun p hp => by
    obtain ⟨x, hx, rfl⟩ := List.mem_map.1 hp
    have h1 := rel_size (h x hx)
    have h2 := hz x hx
    omega) (by rwa [List.length_map])
theorem part_text (xs : List RelX) : joinL [32, 97, 110, 100, 32] (xs.map fun x => relT x.v) = partT (relsV xs) := by
  unfold partT relsV
  rw [List.map_map]
  rfl
set_option maxHeartbeats 1000000 in
theorem partText_any (A : Option Addr) (n c : Nat) (xs : List RelX) (w : World) (hr : RelsAt w w.heap.size A n xs) (hn : n ≤ 20) (hz : ∀ x ∈ xs, x.v.rs.length ≤ 1073741826) (hok : partOk (relsV xs)) (hE : Env w) :
    Calls Tryd.prog 49 #[.slice A n c] w (Gives w (.string (str (partT (relsV xs))))) := by
  have hro : ∀ x ∈ xs, relOk x.v := fun x hx => hok.2 _ (List.mem_map.2 ⟨x, hx, rfl⟩)
  have CJ := Lib.hid (joinRel_any A n c xs w hr (by omega) hz hro hE (Nat.le_trans (rels_size hro hz (by have := hr.len; omega)) (by omega)))
  rw [part_text] at CJ
  clear hr hz hok hE hro
  go_enter Tryd.func49, Tryd.ntmps49
  go_wp2_with (go_at_call 50; (with_reducible refine (CJ.out).mono ?_); rintro e w2 ⟨rfl, hb2⟩)
  go_ret
  exact ⟨rfl, hb2⟩
end Ru
end Go.Proofs.YteedhnpdffnfjaaDoor

/- The program's join of parts; what lay in memory stays as it was. -/
namespace Go.Proofs.YteedhnpdffnfjaaDoor
namespace Ru
open Go.RowKit D

set_option maxHeartbeats 4000000 in
set_option maxRecDepth 100000 in
theorem joinPart_any (A : Option Addr) (n c : Nat) (ps : List PartX) (w : World) (hr : RuleAt w w.heap.size A n ps) (hn : n ≤ 1073741826) (hz : ∀ p ∈ ps, p.xs.length ≤ 20 ∧ ∀ x ∈ p.xs, x.v.rs.length ≤ 1073741826) (hok : ∀ p ∈ ps, partOk (relsV p.xs)) (hE : Env w) (hj : (joinL [32, 111, 114, 32] (ps.map (fun p => partT (relsV p.xs)))).length ≤ 140737488355328) :
    Calls Tryd.prog 48 #[.slice A n c, .string ⟨#[32, 111, 114, 32]⟩, .func (.func 49) #[] #[]] w (Gives w (.string (str (joinL [32, 111, 114, 32] (ps.map (fun p => partT (relsV p.xs))))))) := by
  have HR := Lib.hid hr
  have HL : Hid (ps.length = n) := Lib.hid hr.len
  have HO := Lib.hid hok
  have HZ := Lib.hid hz
  have HEN := Lib.hid hE
  have HJ := Lib.hid hj
  have hmk := run_make_row' (P := Tryd.prog) 44 9 (.string ByteArray.empty) 16 Tryd.underlying44 strInfo rfl .i64 .i64 n (by omega) (by omega)
  clear hr hE hj hz hok
  go_enter Tryd.func48, Tryd.ntmps48
  go_wp2_with fail
  have hb0 : Below w.heap.size w (w.alloc (.cells (madeCells #[.string ByteArray.empty] n) 9)) := (Below.refl _ _).alloc (Nat.le_refl _) _
  have hk0 : Blk (w.alloc (.cells (madeCells #[.string ByteArray.empty] n) 9)) w.heap.size 9 (Lib.cellsOf [] n) := by rw [Lib.cellsOf_nil]; exact Blk.new w _ _
  generalize w.alloc (.cells (madeCells #[.string ByteArray.empty] n) 9) = w1 at *
  clear hmk
  go_loopw [15] (fun i wr => ∃ k : Nat, k ≤ n ∧ i = .int .i64 k ∧ Below w.heap.size w wr ∧ Blk wr w.heap.size 9 (Lib.cellsOf ((ps.take k).map fun x => str ((fun p => partT (relsV p.xs)) x)) n)) (fun i _ => n - (intOf i).toNat)
  case atStart => exact ⟨0, Nat.zero_le _, rfl, hb0, by simpa using hk0⟩
  case round =>
    obtain ⟨k, hk, rfl, hb, hblk⟩ := hrel
    clear hb0 hk0
    by_cases hlt : k < n
    · have hkr : k < ps.length := by have := HL.out; omega
      have hki : (k : Int) < (n : Int) := by omega
      have hki2 : (k : Int) < ((n : Nat) : Int) := hki
      obtain ⟨ad, rfl, hadb, y0, hpc, hpr⟩ := ((HR.out.below hb).more hb.size).at_ (List.getElem?_eq_getElem hkr)
      have HDL : Hid (((ps.take k).map fun x => str ((fun p => partT (relsV p.xs)) x)).length = k) := Lib.hid (by simp; have := HL.out; omega)
      have HK : Hid ((ps.take (k + 1)).map (fun x => str ((fun p => partT (relsV p.xs)) x)) = (ps.take k).map (fun x => str ((fun p => partT (relsV p.xs)) x)) ++ [str ((fun p => partT (relsV p.xs)) ps[k])]) := Lib.hid (by rw [List.take_succ_eq_append_getElem hkr, List.map_append]; rfl)
      have hnext : (Lib.cellsOf ((ps.take k).map fun x => str ((fun p => partT (relsV p.xs)) x)) n)[k]? = some (.string ByteArray.empty) := by
        have := Lib.cellsOf_next (done := (ps.take k).map fun x => str ((fun p => partT (relsV p.xs)) x)) (N := n) (by rw [HDL.out]; exact hlt)
        rwa [HDL.out] at this
      have HSET : Hid ((Lib.cellsOf ((ps.take k).map fun x => str ((fun p => partT (relsV p.xs)) x)) n).setIfInBounds k (.string (str ((fun p => partT (relsV p.xs)) ps[k]))) = Lib.cellsOf ((ps.take (k + 1)).map (fun x => str ((fun p => partT (relsV p.xs)) x))) n) := Lib.hid (by
        have := Lib.cellsOf_set (done := (ps.take k).map fun x => str ((fun p => partT (relsV p.xs)) x)) (N := n) (by rw [HDL.out]; exact hlt) (str ((fun p => partT (relsV p.xs)) ps[k]))
        rw [HDL.out] at this
        rw [HK.out, this])
      have CC := Lib.hid (partText_any ps[k].A ps[k].xs.length ps[k].c ps[k].xs _ hpr (HZ.out _ (List.getElem_mem hkr)).1 (HZ.out _ (List.getElem_mem hkr)).2 (HO.out _ (List.getElem_mem hkr)) (HEN.out.later hb))
      clear hpc hpr
      generalize Lib.cellsOf ((ps.take k).map fun x => str ((fun p => partT (relsV p.xs)) x)) n = cs at *
      generalize str ((fun p => partT (relsV p.xs)) ps[k]) = tx at *
      go_wp2_with (go_at_call 49; (with_reducible refine (CC.out).mono ?_); rintro e w2 ⟨rfl, hb2⟩; (have hblk2 := hblk.below hb2 hblk.lt); (have hold : w2.cell? ⟨w.heap.size, k, none⟩ = some (.string ByteArray.empty) := (hblk2.cell k).trans hnext); (have hfr : w2.frozen? ⟨w.heap.size, k, none⟩ = false := hblk2.frozen k))
      go_roundw
      case rel => exact ⟨k + 1, by omega, by go_num, (bel_call hb (hb2)).setCell (Nat.le_refl _) _, by rw [← HSET.out]; exact hblk2.set_ k _⟩
      case measure => simp [intOf]; omega
    · have hki : ¬ ((k : Int) < (n : Int)) := by omega
      obtain rfl : k = n := by omega
      have HALL : Hid (ps.take k = ps) := Lib.hid (List.take_of_length_le (by have := HL.out; omega))
      rw [HALL.out] at hblk
      have CJ := Lib.hid (join_any [32, 111, 114, 32] (ps.map (fun p => partT (relsV p.xs))) w.heap.size k _ (by rw [List.length_map]; exact HL.out.symm) (fun j p hp => by
        rw [hblk.cell j]
        have e : k = (ps.map fun x => str ((fun p => partT (relsV p.xs)) x)).length := by rw [List.length_map]; exact HL.out.symm
        conv => lhs; rw [e]
        rw [Lib.cellsOf_full]
        simp only [List.getElem?_map, List.map_map, List.getElem?_toArray] at hp ⊢
        cases hx : ps[j]? with
        | none => rw [hx] at hp; cases hp
        | some x => rw [hx] at hp; injection hp with hp; subst hp; rfl) hblk.lt (by omega) HJ.out)
      clear hlt hk
      go_wp2_with (go_at_call 60; (with_reducible refine (CJ.out).mono ?_); rintro e w2 ⟨rfl, hb2⟩)
      go_ret
      exact ⟨rfl, bel_call hb hb2⟩
end Ru
end Go.Proofs.YteedhnpdffnfjaaDoor

/- The program's Text: the text of a rule, or what is wrong with it; what lay in memory stays as it was. -/
namespace Go.Proofs.YteedhnpdffnfjaaDoor
namespace Ru
open Go.RowKit D

/-- rows of a size that a text bears -/
def FewS (ps : List PartX) : Prop := ∀ p ∈ ps, p.xs.length ≤ 1073741826 ∧ ∀ x ∈ p.xs, x.v.rs.length ≤ 1073741826
theorem FewS.few {ps : List PartX} (h : FewS ps) : Few ps := fun p hp => ⟨by have := (h p hp).1; unfold maxLen; omega, fun x hx => by have := (h p hp).2 x hx; unfold maxLen; omega⟩
theorem parts_size {ps : List PartX} (h : ∀ p ∈ ps, partOk (relsV p.xs)) (hz : ∀ p ∈ ps, p.xs.length ≤ 20 ∧ ∀ x ∈ p.xs, x.v.rs.length ≤ 1073741826) (hl : ps.length ≤ 20) : (joinL [32, 111, 114, 32] (ps.map fun p => partT (relsV p.xs))).length ≤ 20 * 860000000004 :=
  join_bound' [32, 111, 114, 32] 860000000000 _ (by show 860000000000 + 4 ≤ _; omega) _ (fun p hp => by
    obtain ⟨x, hx, rfl⟩ := List.mem_map.1 hp
    have := rels_size (fun y hy => (h x hx).2 _ (List.mem_map.2 ⟨y, hy, rfl⟩)) (hz x hx).2 (hz x hx).1
    rw [part_text] at this
    omega) (by rwa [List.length_map])
theorem rule_text (ps : List PartX) : joinL [32, 111, 114, 32] (ps.map fun p => partT (relsV p.xs)) = ruleT (ruleV ps) := by
  unfold ruleT ruleV
  rw [List.map_map]
  rfl
theorem join_sum (sep : List UInt8) : ∀ ps : List (List UInt8), (joinL sep ps).length ≤ (ps.map List.length).sum + ps.length * sep.length
  | [] => by simp [joinL]
  | [p] => by simp [joinL]
  | p :: q :: l => by
    have := join_sum sep (q :: l)
    simp only [joinL, List.length_append, List.map_cons, List.sum_cons, List.length_cons] at *
    rw [Nat.add_mul (l.length + 1) 1]
    omega
theorem sum_le {α : Type} (f : α → Nat) (M : Nat) : ∀ l : List α, (∀ x ∈ l, f x ≤ M) → (l.map f).sum ≤ l.length * M
  | [], _ => by simp
  | x :: l, h => by
    have h1 := h x (by simp)
    have h2 := sum_le f M l fun y hy => h y (by simp [hy])
    simp only [List.map_cons, List.sum_cons, List.length_cons, Nat.add_mul]
    omega
/-- how long a right rule's text is -/
theorem rule_size {r : List (List RelV)} (h : ruleOk r) (N : Nat) (hz : ∀ p ∈ r, ∀ x ∈ p, x.rs.length ≤ N) : (ruleT r).length ≤ total r * (60 + 40 * N + 9) := by
  have hp : ∀ p ∈ r, (partT p).length ≤ p.length * (60 + 40 * N + 5) := fun p hp => by
    have h1 := join_sum [32, 97, 110, 100, 32] (p.map relT)
    have h2 := sum_le (fun x => (relT x).length) (60 + 40 * N) p fun x hx => by
      have := rel_size ((h.2 p hp).2 x hx)
      have := hz p hp x hx
      omega
    unfold partT
    rw [List.map_map, List.length_map] at h1
    show _ ≤ p.length * (60 + 40 * N + 5)
    rw [Nat.mul_add p.length _ 5]
    refine Nat.le_trans h1 (Nat.add_le_add h2 (Nat.le_refl _))
  have h1 := join_sum [32, 111, 114, 32] (r.map partT)
  rw [List.map_map, List.length_map] at h1
  have h3 : ∀ (l : List (List RelV)), (∀ p ∈ l, p ∈ r) → (l.map (List.length ∘ partT)).sum + l.length * 4 ≤ total l * (60 + 40 * N + 9) := by
    intro l
    induction l with
    | nil => intro _; simp
    | cons p l ih =>
      intro hl
      have h4 := hp p (hl p (by simp))
      have h5 := ih fun q hq => hl q (by simp [hq])
      have h6 : 1 ≤ p.length := List.length_pos_iff.2 (h.2 p (hl p (by simp))).1
      have h7 : total (p :: l) = p.length + total l := by simp [total]
      rw [h7, Nat.add_mul]
      simp only [List.map_cons, List.sum_cons, List.length_cons]
      show (partT p).length + (l.map (List.length ∘ partT)).sum + (l.length + 1) * 4 ≤ _
      have h8 : p.length * (60 + 40 * N + 5) + p.length * 4 = p.length * (60 + 40 * N + 9) := by rw [← Nat.mul_add]
      omega
  exact Nat.le_trans h1 (h3 r fun p hp => hp)
/-- what Text tells -/
def textS (r : List (List RelV)) : ByteArray := if ruleF r = 0 then str (ruleT r) else ⟨#[]⟩
def GivesT (w : World) (r : List (List RelV)) (e : Ending) (w' : World) : Prop := e = .returned (.tuple #[.string (textS r), errV (ruleF r)]) ∧ Below w.heap.size w w'
theorem total_few {ps : List PartX} (hz : FewS ps) : total (ruleV ps) ≤ ps.length * 1073741826 := by
  unfold total ruleV
  rw [List.map_map]
  induction ps with
  | nil => simp
  | cons p l ih =>
    have h1 := (hz p (by simp)).1
    have h2 := ih fun q hq => hz q (by simp [hq])
    simp only [List.map_cons, List.sum_cons, Function.comp, relsV, List.length_map, List.length_cons] at *
    rw [Nat.add_mul]
    omega
set_option maxHeartbeats 2000000 in
set_option maxRecDepth 100000 in
theorem text_any (A : Option Addr) (n c : Nat) (ps : List PartX) (w : World) (h : RuleAt w w.heap.size A n ps) (hn : n ≤ 1073741826) (hz : FewS ps) (hy : Byt ps) (hE : Env w) :
    Calls Tryd.prog 34 #[.slice A n c] w (GivesT w (ruleV ps)) := by
  have ht := total_few hz
  have hlen := h.len
  have CK := Lib.hid (check_any A n c ps w h (by unfold maxLen; omega) hz.few hy (by omega))
  by_cases h0 : ruleF (ruleV ps) = 0
  · obtain ⟨hok, h20⟩ := ruleF_zero.1 h0
    have hne : ∀ p ∈ ruleV ps, p ≠ [] := fun p hp => (hok.2 p hp).1
    have hl20 : ps.length ≤ 20 := by have := total_len hne; simp only [ruleV, List.length_map] at this; unfold ruleV at h20; omega
    have hpz : ∀ p ∈ ps, p.xs.length ≤ 20 ∧ ∀ x ∈ p.xs, x.v.rs.length ≤ 1073741826 := fun p hp => ⟨by
      have := total_ge (l := ruleV ps) (p := relsV p.xs) (List.mem_map.2 ⟨p, hp, rfl⟩)
      simp only [relsV, List.length_map] at this
      omega, (hz p hp).2⟩
    have hpo : ∀ p ∈ ps, partOk (relsV p.xs) := fun p hp => hok.2 _ (List.mem_map.2 ⟨p, hp, rfl⟩)
    have CJ := Lib.hid fun (W : World) (hW : Below w.heap.size w W) => joinPart_any A n c ps W ((h.below hW).more hW.size) (by omega) hpz hpo (hE.later hW) (Nat.le_trans (parts_size hpo hpz hl20) (by omega))
    rw [rule_text] at CJ
    have HT : Hid (textS (ruleV ps) = str (ruleT (ruleV ps))) := Lib.hid (if_pos h0)
    unfold GivesT
    rw [HT.out, h0]
    rw [h0] at CK
    clear h hz hy hE ht hok h20 hne hpz hpo h0 HT
    go_enter Tryd.func34, Tryd.ntmps34
    go_wp2_with (first
      | (go_at_call 35; (with_reducible refine CK.out.mono ?_); rintro e w2 ⟨rfl, hb2⟩; rw [errV_zero])
      | (go_at_call 48; (with_reducible refine (CJ.out _ hb2).mono ?_); rintro e w3 ⟨rfl, hb3⟩))
    exact bodyPost_ret (v := .tuple #[.string (str (ruleT (ruleV ps))), .nilIface]) (by simp [results, Tryd.results34, go_sem]) rfl ⟨rfl, bel_call hb2 hb3⟩
  · obtain ⟨z, hz'⟩ := errV_ne h0
    have HT : Hid (textS (ruleV ps) = ⟨#[]⟩) := Lib.hid (if_neg h0)
    unfold GivesT
    rw [HT.out, hz']
    clear h hz hy hE ht h0 HT
    go_enter Tryd.func34, Tryd.ntmps34
    go_wp2_with (first
      | (go_at_call 35; (with_reducible refine CK.out.mono ?_); rintro e w2 ⟨rfl, hb2⟩; rw [hz']))
    exact bodyPost_ret (v := .tuple #[.string ⟨#[]⟩, .iface 30 (.int .i64 z)]) (by simp [results, Tryd.results34, go_sem]) rfl ⟨rfl, hb2⟩
end Ru
end Go.Proofs.YteedhnpdffnfjaaDoor
