/- The program's relText: the text of a right relation; what lay in memory stays as it was. -/
import Derived.Test.YtkhnjlkamleldaaDoorRuJoinRg
namespace Go.Proofs.YtkhnjlkamleldaaDoor
namespace Ru
open Go.RowKit D

theorem conv_op {op : Int} (h : opOk op) (w : World) : (convert 5 9 (.int .u8 op)).run Tryd.prog w = .ok (.string (str [opT op])) w := by
  rcases h with rfl | rfl | rfl | rfl | rfl | rfl <;> kernel_rfl
theorem rgs_size {rs : List (Int × Int)} (h : ∀ r ∈ rs, rgOk r) : (joinL [44] (rs.map rgT)).length ≤ rs.length * 35 := by
  have := join_bound [44] 34 (rs.map rgT) fun p hp => by
    obtain ⟨r, hr, rfl⟩ := List.mem_map.1 hp
    exact rg_size (h r hr)
  rwa [List.length_map] at this
theorem left_one (x : RelV) (h : ¬ 0 < x.mod) : str (relT x) = str [opT x.op] ++ (str (signT x.nt)) ++ str (joinL [44] (x.rs.map rgT)) := by
  rw [relT_eq, ba_add, ba_add]
  unfold leftT
  rw [if_neg h, List.append_assoc]
  rfl
theorem left_mod (x : RelV) (h : 0 < x.mod) : str (relT x) = str [opT x.op] ++ (⟨#[32, 37, 32]⟩ ++ str (dg x.mod)) ++ (str (signT x.nt)) ++ str (joinL [44] (x.rs.map rgT)) := by
  have e : (⟨#[32, 37, 32]⟩ : ByteArray) = str [32, 37, 32] := rfl
  rw [relT_eq, e, ba_add [32, 37, 32], ba_add [opT x.op], ba_add _ (signT x.nt), ba_add _ (joinL _ _)]
  unfold leftT
  rw [if_pos h]
  exact congrArg str (by simp [rgsT])
set_option maxHeartbeats 4000000 in
set_option maxRecDepth 100000 in
theorem relText_any (op mod : Int) (nt : Bool) (A : Option Addr) (n c : Nat) (rs : List (Int × Int)) (w : World) (hr : RgsAt w w.heap.size A n rs) (hl : rs.length = n) (hn : n ≤ 1073741826) (hok : relOk ⟨op, mod, nt, rs⟩) (hE : Env w) :
    Calls Tryd.prog 20 #[.agg #[.int .u8 op, .int .i64 mod, .bool nt, .slice A n c]] w (Gives w (.string (str (relT ⟨op, mod, nt, rs⟩)))) := by
  have H0 : Hid (Bs w _ [_]) := Lib.hid (bs_one w [.int .u8 op, .int .i64 mod, .bool nt, .slice A n c] 40)
  obtain ⟨d0, d1, d2, d3, -⟩ := H0.out.cells
  have hop : opOk op := hok.1
  have hm : 0 ≤ mod ∧ mod ≤ 1000000 := hok.2.1
  have hrs : ∀ r ∈ rs, rgOk r := hok.2.2.2
  have hsz := rgs_size hrs
  have hcv := conv_op hop
  have CJ := Lib.hid fun (W : World) (hW : Below w.heap.size w W) => joinRg_any A n c rs W ((hr.below hW).more hW.size) hn hl hrs (hE.later hW) (by omega)
  have CI := Lib.hid fun (h0 : 0 ≤ mod) (h1 : mod ≤ 1000000) (W : World) (hW : Below w.heap.size w W) => itoa_dg mod W h0 h1 (hE.later hW)
  have H1 := Lib.hid fun h => left_one ⟨op, mod, nt, rs⟩ h
  have H2 := Lib.hid fun h => left_mod ⟨op, mod, nt, rs⟩ h
  have sj : (str (joinL [44] (rs.map rgT))).size ≤ 37580963910 := by rw [ba_size, str_data]; omega
  have so : (str [opT op]).size = 1 := rfl
  have sm : mod ≤ 1000000 → (str (dg mod)).size ≤ 16 := fun h => dg_size h
  clear hr hl hok hE hrs hsz hop
  dsimp only at H1 H2
  generalize str (joinL [44] (rs.map rgT)) = tj at *
  generalize str [opT op] = tp at *
  generalize str (relT ⟨op, mod, nt, rs⟩) = res at *
  by_cases h0 : mod = 0
  · have H1 := Lib.hid (H1.out (by omega))
    have h0b : (mod != 0) = false := by simp [h0]
    clear CI H2 sm h0 hm
    cases nt with
    | false =>
      have HE : Hid (res = tp ++ ⟨#[32, 61, 32]⟩ ++ tj) := H1
      have s1 : ¬ 9223372036854775807 < tp.size + 3 := by omega
      have s2 : ¬ 9223372036854775807 < tp.size + 3 + tj.size := by omega
      clear H1 sj so
      go_enter Tryd.func20, Tryd.ntmps20
      go_wp2_with (go_at_call 35; (with_reducible refine (CJ.out _ H0.out.below).mono ?_); rintro e w2 ⟨rfl, hb2⟩)
      go_ret
      exact ⟨by rw [HE.out]; rfl, bel_call H0.out.below hb2⟩
    | true =>
      have HE : Hid (res = tp ++ ⟨#[32, 33, 61, 32]⟩ ++ tj) := H1
      have s1 : ¬ 9223372036854775807 < tp.size + 4 := by omega
      have s2 : ¬ 9223372036854775807 < tp.size + 4 + tj.size := by omega
      clear H1 sj so
      go_enter Tryd.func20, Tryd.ntmps20
      go_wp2_with (go_at_call 35; (with_reducible refine (CJ.out _ H0.out.below).mono ?_); rintro e w2 ⟨rfl, hb2⟩)
      go_ret
      exact ⟨by rw [HE.out]; rfl, bel_call H0.out.below hb2⟩
  · have hmp : 0 < mod := by omega
    have H2 := Lib.hid (H2.out hmp)
    have CI := Lib.hid (CI.out hm.1 hm.2)
    have sm := sm hm.2
    have h0b : (mod != 0) = true := by simpa using h0
    clear H1 h0 hm hmp
    generalize str (dg mod) = tm at *
    cases nt with
    | false =>
      have HE : Hid (res = tp ++ (⟨#[32, 37, 32]⟩ ++ tm) ++ ⟨#[32, 61, 32]⟩ ++ tj) := H2
      have s0 : ¬ 9223372036854775807 < 3 + tm.size := by omega
      have s1 : ¬ 9223372036854775807 < tp.size + (3 + tm.size) := by omega
      have s2 : ¬ 9223372036854775807 < tp.size + (3 + tm.size) + 3 := by omega
      have s3 : ¬ 9223372036854775807 < tp.size + (3 + tm.size) + 3 + tj.size := by omega
      clear H2 sj so sm
      go_enter Tryd.func20, Tryd.ntmps20
      go_wp2_with (first
        | (go_at_call 34; (with_reducible refine (CI.out _ H0.out.below).mono ?_); rintro e w2 ⟨rfl, hb2⟩; (have HB2 := Lib.hid (H0.out.call hb2)); obtain ⟨z0, z1, z2, z3, -⟩ := HB2.out.cells; (have hbel := HB2.out.below))
        | (go_at_call 35; (with_reducible refine (CJ.out _ hbel).mono ?_); rintro e w3 ⟨rfl, hb3⟩))
      go_ret
      exact ⟨by rw [HE.out]; rfl, bel_call hbel hb3⟩
    | true =>
      have HE : Hid (res = tp ++ (⟨#[32, 37, 32]⟩ ++ tm) ++ ⟨#[32, 33, 61, 32]⟩ ++ tj) := H2
      have s0 : ¬ 9223372036854775807 < 3 + tm.size := by omega
      have s1 : ¬ 9223372036854775807 < tp.size + (3 + tm.size) := by omega
      have s2 : ¬ 9223372036854775807 < tp.size + (3 + tm.size) + 4 := by omega
      have s3 : ¬ 9223372036854775807 < tp.size + (3 + tm.size) + 4 + tj.size := by omega
      clear H2 sj so sm
      go_enter Tryd.func20, Tryd.ntmps20
      go_wp2_with (first
        | (go_at_call 34; (with_reducible refine (CI.out _ H0.out.below).mono ?_); rintro e w2 ⟨rfl, hb2⟩; (have HB2 := Lib.hid (H0.out.call hb2)); obtain ⟨z0, z1, z2, z3, -⟩ := HB2.out.cells; (have hbel := HB2.out.below))
        | (go_at_call 35; (with_reducible refine (CJ.out _ hbel).mono ?_); rintro e w3 ⟨rfl, hb3⟩))
      go_ret
      exact ⟨by rw [HE.out]; rfl, bel_call hbel hb3⟩
end Ru
end Go.Proofs.YtkhnjlkamleldaaDoor
