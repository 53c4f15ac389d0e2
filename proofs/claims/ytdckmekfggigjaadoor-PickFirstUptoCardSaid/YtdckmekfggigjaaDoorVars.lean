/- The program's check of a tag's variants: it returns the first fault that the plain check finds, and what lay in memory stays as it was. -/
import Derived.Test.YtdckmekfggigjaaDoorParts
import Derived.Test.YtdckmekfggigjaaDoorSeen
import Derived.Test.YtdckmekfggigjaaDoorWords
namespace Go.Proofs.YtdckmekfggigjaaDoor
open Go.RowKit Go.Maps

/-- an error by its number -/
def errV (k : Nat) : Value := if k = 0 then .nilIface else .iface 24 (.int .i64 k)
/-- texts as cells, as bytes -/
def sv (vs : List ByteArray) : List Value := vs.map Value.string
def bs (vs : List ByteArray) : List P.Bs := vs.map fun v => v.data.toList

theorem keyed : Keyed Tryd.prog 9 := string_keyed Tryd.underlying9
theorem zeroBool (w : World) : (zeroValue 4).run Tryd.prog w = .ok (.bool false) w := by kernel_rfl

theorem vfault_bad (seen : List P.Bs) (v : P.Bs) (r : List P.Bs) (h : P.variantB v = false) : P.vfault seen (v :: r) = some 3 := by
  rw [P.vfault, if_pos h]
theorem vfault_twice (seen : List P.Bs) (v : P.Bs) (r : List P.Bs) (h : P.variantB v = true) (h2 : seen.contains v = true) : P.vfault seen (v :: r) = some 5 := by
  rw [P.vfault, if_neg (by simp [h]), if_pos h2]
theorem vfault_next (seen : List P.Bs) (v : P.Bs) (r : List P.Bs) (h : P.variantB v = true) (h2 : seen.contains v = false) : P.vfault seen (v :: r) = P.vfault (seen ++ [v]) r := by
  rw [P.vfault, if_neg (by simp [h]), if_neg (by rw [h2]; exact Bool.false_ne_true)]

theorem vars_some (l : List P.Bs) (e : Nat) (h : P.vfault [] l = some e) : P.vars l = e := by unfold P.vars; rw [h]
theorem vars_few (l : List P.Bs) (h : P.vfault [] l = none) (h3 : l.length ≤ 3) : P.vars l = 0 := by unfold P.vars; rw [h]; exact if_neg (by omega)
theorem vars_many (l : List P.Bs) (h : P.vfault [] l = none) (h3 : 3 < l.length) : P.vars l = 4 := by unfold P.vars; rw [h]; exact if_pos h3
theorem bs_drop (vs : List ByteArray) (k : Nat) (h : k < vs.length) : bs (vs.drop k) = vs[k].data.toList :: bs (vs.drop (k + 1)) := by
  rw [List.drop_eq_getElem_cons h]; rfl
theorem bs_take (vs : List ByteArray) (k : Nat) (h : k < vs.length) : bs (vs.take (k + 1)) = bs (vs.take k) ++ [vs[k].data.toList] := by
  unfold bs
  rw [List.take_succ_eq_append_getElem h, List.map_append]; rfl
theorem vfault_end (vs : List ByteArray) (k : Nat) (h : vs.length ≤ k) : P.vfault (bs (vs.take k)) (bs (vs.drop k)) = none := by
  rw [List.drop_eq_nil_of_le h]; rfl
theorem bs_length (vs : List ByteArray) : (bs vs).length = vs.length := by simp [bs]
theorem ret_err {a b : Nat} (h : a = b) : Ending.returned (errV a) = .returned (errV b) := by rw [h]

set_option maxHeartbeats 1000000 in
set_option maxRecDepth 100000 in
theorem checkVariants_any (A : Option Addr) (n c : Nat) (vs : List ByteArray) (w : World) (h : Reads w w.heap.size 1 A n (sv vs)) (hsz : ∀ v ∈ vs, v.size ≤ maxLen) (hn : n < maxLen) :
    Calls Tryd.prog 47 #[.slice A n c] w fun e w' => e = .returned (errV (P.vars (bs vs))) ∧ Below w.heap.size w w' := by
  have hmm := @run_makeMap Tryd.prog
  have hlen : vs.length = n := by have := h.1; simpa [sv] using this
  have HL := Lib.hid hlen; clear hlen
  have hn' := hn
  unfold maxLen at hn
  go_enter Tryd.func47, Tryd.ntmps47
  go_wp2_with fail
  go_loopw [9] (fun i wr => ∃ k : Nat, k ≤ n ∧ i = .int .i64 k ∧ wr.ownsMap Tryd.prog 9 (plainElem Tryd.prog 4) w.heap.size k (seenD (bs (vs.take k))) ∧ Below w.heap.size w wr ∧
      Hid (P.vfault [] (bs vs) = P.vfault (bs (vs.take k)) (bs (vs.drop k)))) (fun i _ => n - (intOf i).toNat)
  case atStart => exact ⟨0, Nat.zero_le _, rfl, World.ownsMap_made _ _ _ _, (Below.refl _ _).alloc (Nat.le_refl _) _, Lib.hid rfl⟩
  case round =>
    obtain ⟨k, hk, rfl, hown, hbel, hv⟩ := hrel
    by_cases hlt : k < n
    · obtain ⟨ad, u, rfl, hadb, hu, hcell⟩ := h.at_ hlt
      have hkl : k < vs.length := by have := HL.out; omega
      have hu' : u = .string vs[k] := by
        have : (sv vs)[k]? = some (.string vs[k]) := by simp [sv, hkl]
        rw [this] at hu; injection hu with hu; exact hu.symm
      subst hu'
      have hcell' := (hbel.cell (p := ad.add k) (by rw [block_of_add]; exact hadb)).trans hcell
      clear hu hcell h
      have hsk := hsz _ (List.getElem_mem hkl)
      have e1 := bs_drop vs k hkl
      have e2 := bs_take vs k hkl
      generalize vs[k] = x at *
      have hat := seenD_at (bs (vs.take k)) x.data.toList
      have E1 := Lib.hid e1; clear e1
      have E2 := Lib.hid e2; clear e2
      cases hvb : P.variantB x.data.toList
      · have HV := Lib.hid hvb; clear hvb
        clear hat
        go_wp2_with (go_at_call 65; refine (isVariant_any x _ hsk).mono ?_; rintro e w' ⟨rfl, rfl⟩; rw [HV.out])
        go_ret
        exact ⟨ret_err (a := 3) (vars_some _ _ (by rw [hv.out, E1.out]; exact vfault_bad _ _ _ HV.out)).symm, hbel⟩
      · have HV := Lib.hid hvb; clear hvb
        have hkey : keyOf Tryd.prog 9 (.string x) = some (.string x.data.toList) := WideMaps.keyOf_string_mk Tryd.underlying9 hsk
        have HK := Lib.hid hkey; clear hkey
        cases hcn : (bs (vs.take k)).contains x.data.toList
        · rw [hcn] at hat
          have HC := Lib.hid hcn; clear hcn
          have HA := Lib.hid hat; clear hat
          go_wp2_with (first
            | (go_at_call 65; refine (isVariant_any x _ hsk).mono ?_; rintro e w' ⟨rfl, rfl⟩; rw [HV.out])
            | (at_lookup; refine wpList_lookup_own_boolAt _ rfl _ _ 103 rfl 9 4 keyed Tryd.underlying103 Tryd.underlying4 (zeroBool _) w.heap.size k _ rfl hown _ _ rfl HK.out false HA.out ?_)
            | (at_mapUpdate; refine wpList_mapUpdate_own _ rfl _ _ _ 103 rfl 9 4 keyed Tryd.underlying103 (plainElem (H := Unit) Tryd.prog 4) w.heap.size k _ rfl hown (by unfold maxLen; omega) _ _ _ rfl rfl HK.out _ [] (plainElem_bool Tryd.underlying4 true) ?_; intro w1 hown1 hgrow1))
          go_roundw
          case rel =>
            refine ⟨k + 1, by omega, by go_num, ?_, hbel.grown hgrow1 hbel.size (fun j hj => by cases hj; exact Nat.le_refl _), Lib.hid ?_⟩
            · rw [E2.out, seenD_snoc]; exact hown1
            · rw [hv.out, E1.out, vfault_next _ _ _ HV.out HC.out, E2.out]
          case measure => simp [intOf]; omega
        · rw [hcn] at hat
          have HC := Lib.hid hcn; clear hcn
          have HA := Lib.hid hat; clear hat
          go_wp2_with (first
            | (go_at_call 65; refine (isVariant_any x _ hsk).mono ?_; rintro e w' ⟨rfl, rfl⟩; rw [HV.out])
            | (at_lookup; refine wpList_lookup_own_boolAt _ rfl _ _ 103 rfl 9 4 keyed Tryd.underlying103 Tryd.underlying4 (zeroBool _) w.heap.size k _ rfl hown _ _ rfl HK.out true HA.out ?_))
          go_ret
          exact ⟨ret_err (a := 5) (vars_some _ _ (by rw [hv.out, E1.out]; exact vfault_twice _ _ _ HV.out HC.out)).symm, hbel⟩
    · have hkn : k = n := by omega
      have hnone : P.vfault [] (bs vs) = none := by rw [hv.out, vfault_end _ _ (by have := HL.out; omega)]
      have HN := Lib.hid hnone; clear hnone hkn h
      have hbl := bs_length vs
      have HB := Lib.hid hbl; clear hbl
      by_cases h3 : n ≤ 3
      · go_wp2_with fail
        go_ret
        exact ⟨ret_err (a := 0) (vars_few _ HN.out (by rw [HB.out, HL.out]; exact h3)).symm, hbel⟩
      · go_wp2_with fail
        go_ret
        exact ⟨ret_err (a := 4) (vars_many _ HN.out (by rw [HB.out, HL.out]; omega)).symm, hbel⟩
end Go.Proofs.YtdckmekfggigjaaDoor
