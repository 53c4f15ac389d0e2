/- The reference's Cut of a text at another one, walked: it returns a list of its own that holds the pieces; what lay in memory stays as it was. -/
import Derived.Test.YtehocgemgdbikaaGreatDoorKit
namespace Go.Proofs.YtehocgemgdbikaaGreatDoor
namespace Ru
open Go.RowKit Go.Maps D

/-- texts as values, as bytes -/
def sv (l : List ByteArray) : List Value := l.map Value.string
def bs (l : List ByteArray) : List (List UInt8) := l.map fun b => b.data.toList
theorem sv_snoc (l : List ByteArray) (x : ByteArray) : sv (l ++ [x]) = sv l ++ [.string x] := by simp [sv]
theorem bs_snoc (l : List ByteArray) (x : ByteArray) : bs (l ++ [x]) = bs l ++ [x.data.toList] := by simp [bs]
theorem sv_one (l : List ByteArray) : ∀ u ∈ sv l, u.oneCell' = true := by
  intro u hu
  obtain ⟨v, _, rfl⟩ := List.mem_map.1 hu
  rfl
theorem cell_new (w : World) (t : TypeId) (x : Value) : ∀ j u, [x][j]? = some u → (w.alloc (.cells #[x] t)).cell? ((⟨w.heap.size, 0, none⟩ : Addr).add j) = some u := by
  intro j u h
  cases j with
  | zero => simp [Addr.add] at *; exact h
  | succ j => simp at h
theorem str_info : (Tryz.prog.info? 9).map (fun i => (i.zero, i.size, i.bytes)) = some (some (.string ⟨#[]⟩), 1, 16) := by kernel_rfl
theorem ba_size (b : ByteArray) : b.size = b.data.toList.length := by rw [Array.length_toList]; rfl
theorem extract_td (s : ByteArray) (a b : Nat) : (s.extract a b).data.toList = (s.data.toList.take b).drop a := by
  rw [List.drop_take, ByteArray.data_extract, Array.toList_extract, List.extract_eq_take_drop]
theorem prefix_take : ∀ (sep r : List UInt8), sep.isPrefixOf r = (r.take sep.length == sep)
  | [], r => by simp
  | a :: sep, [] => by simp
  | a :: sep, c :: r => by
    rw [List.isPrefixOf_cons_cons, prefix_take sep r, List.length_cons, List.take_succ_cons]
    show _ = ((c == a) && (r.take sep.length == sep))
    rw [Bool.beq_comm]
/-- what the loop holds: what is done, from where on, up to where -/
structure CutSt (s sep : List UInt8) (dn : List ByteArray) (f i : Nat) : Prop where
  fi : f ≤ i
  isz : i ≤ s.length
  len : dn.length ≤ f
  small : ∀ p ∈ dn, p.size ≤ s.length
  left : ∃ n, s.length - i < n ∧ cutL sep s = bs dn ++ cutF sep n ((s.take i).drop f) (s.drop i)
theorem CutSt.start (s sep : List UInt8) : CutSt s sep [] 0 0 := ⟨Nat.le_refl _, Nat.zero_le _, Nat.zero_le _, by simp, s.length + 1, by omega, by simp [cutL, bs]⟩
theorem CutSt.next {s sep : List UInt8} {dn : List ByteArray} {f i : Nat} (h : CutSt s sep dn f i) (hi : i < s.length) (hd : ((s.drop i).take sep.length == sep) = false) : CutSt s sep dn f (i + 1) := by
  obtain ⟨n, hn, hl⟩ := h.left
  obtain ⟨m, rfl⟩ : ∃ m, n = m + 1 := ⟨n - 1, by omega⟩
  refine ⟨by have := h.fi; omega, hi, h.len, h.small, m, by omega, ?_⟩
  rw [hl]
  congr 1
  conv => lhs; unfold cutF
  rw [prefix_take, hd, List.drop_eq_getElem_cons hi]
  simp only [Bool.false_eq_true, if_false]
  congr 1
  rw [List.take_succ_eq_append_getElem hi, List.drop_append_of_le_length (by rw [List.length_take]; have := h.fi; omega)]
theorem CutSt.cut {s sep : List UInt8} {dn : List ByteArray} {f i : Nat} (S : ByteArray) (hS : S.data.toList = s) (h : CutSt s sep dn f i) (h0 : 0 < sep.length) (hi : i + sep.length ≤ s.length) (hd : ((s.drop i).take sep.length == sep) = true) : CutSt s sep (dn ++ [S.extract f i]) (i + sep.length) (i + sep.length) := by
  obtain ⟨n, hn, hl⟩ := h.left
  obtain ⟨m, rfl⟩ : ∃ m, n = m + 1 := ⟨n - 1, by omega⟩
  refine ⟨Nat.le_refl _, hi, by rw [List.length_append]; have := h.len; have := h.fi; simp; omega, fun p hp => ?_, m, by omega, ?_⟩
  · rcases List.mem_append.1 hp with hp | hp
    · exact h.small p hp
    · simp only [List.mem_singleton] at hp; subst hp; rw [ByteArray.size_extract, ← hS, ← ba_size]; omega
  · rw [hl, bs_snoc, List.append_assoc]
    congr 1
    conv => lhs; unfold cutF
    rw [prefix_take, hd]
    simp only [if_true]
    rw [extract_td, hS, List.drop_drop, show (s.take (i + sep.length)).drop (i + sep.length) = [] from List.drop_eq_nil_of_le (by rw [List.length_take]; omega)]
    rfl
theorem CutSt.done_ {s sep : List UInt8} {dn : List ByteArray} {f i : Nat} (S : ByteArray) (hS : S.data.toList = s) (h : CutSt s sep dn f i) (hi : s.length < i + sep.length) : bs (dn ++ [S.extract f S.size]) = cutL sep s := by
  obtain ⟨n, hn, hl⟩ := h.left
  have h1 := h.isz
  rw [hl, bs_snoc, cutF_none sep n _ _ (by rw [List.length_drop]; omega) (by rw [List.length_drop]; omega)]
  congr 2
  rw [extract_td, hS, show S.size = s.length by rw [ba_size, hS], List.take_of_length_le (Nat.le_refl _)]
  have := List.take_append_drop i s
  conv => lhs; rw [← this]
  rw [List.drop_append_of_le_length (by rw [List.length_take]; have := h.fi; omega)]
def CutPost (w : World) (s sep : ByteArray) (e : Ending) (w' : World) : Prop :=
  ∃ (l : List ByteArray) (v : Value), e = .returned v ∧ w'.ownsRow w.heap.size 9 1 v l.length (sv l) ∧ Below w.heap.size w w' ∧ bs l = cutL sep.data.toList s.data.toList ∧ (∀ p ∈ l, p.size ≤ s.size) ∧ l.length ≤ s.size + 1

set_option maxHeartbeats 4000000 in
set_option maxRecDepth 100000 in
theorem refCut_wide (s sep : ByteArray) (w : World) (hs : s.size ≤ 4000000000) (h0 : 0 < sep.size) (h9 : sep.size ≤ 4000000000) :
    Calls Tryz.prog 23 #[.string s, .string sep] w (CutPost w s sep) := by
  obtain ⟨i0, hi0, hz0, hz1, hz2⟩ := info_parts str_info
  have HSL := Lib.hid (ba_size s)
  have HPL := Lib.hid (ba_size sep)
  go_enter Tryz.func23, Tryz.ntmps23
  go_wp2_with fail
  go_loopw [5, 6, 7] (fun v f i wr => ∃ (dn : List ByteArray) (f' i' : Nat), f = .int .i64 f' ∧ i = .int .i64 i' ∧ wr.ownsRow w.heap.size 9 1 v dn.length (sv dn) ∧ Below w.heap.size w wr ∧ Hid (CutSt s.data.toList sep.data.toList dn f' i')) (fun _ _ i _ => s.size - (intOf i).toNat)
  case atStart => exact ⟨[], 0, 0, rfl, rfl, World.ownsRow_nil _ _ _ _, Below.refl _ _, Lib.hid (CutSt.start _ _)⟩
  case round =>
    obtain ⟨dn, f, i, rfl, rfl, hown, hbw, hc⟩ := hrel
    have h1 := hc.out.isz
    have h2 := hc.out.fi
    have h3 := hc.out.len
    rw [← HSL.out] at h1
    by_cases hlt : i + sep.size ≤ s.size
    · have hi1 : ((i : Int) + (sep.size : Int) ≤ (s.size : Int)) := by omega
      have hx : ((s.extract i (i + sep.size)).toList == sep.toList) = ((s.data.toList.drop i).take sep.data.toList.length == sep.data.toList) := by
        rw [ByteArray.toList_eq, ByteArray.toList_eq, extract_td, List.drop_take, show i + sep.size - i = sep.data.toList.length by rw [← HPL.out]; omega]
      have hfi : (f : Int) ≤ (i : Int) := by omega
      have hisz : (i : Int) ≤ (s.size : Int) := by omega
      by_cases hd : ((s.data.toList.drop i).take sep.data.toList.length == sep.data.toList) = true
      · have hb : ((s.extract i (i + sep.size)).toList == sep.toList) = true := by rw [hx, hd]
        have HN := Lib.hid (hc.out.cut s rfl (by rw [← HPL.out]; exact h0) (by rw [← HPL.out, ← HSL.out]; exact hlt) hd)
        rw [← HPL.out] at HN
        clear hx hd
        go_wp2_with (at_builtin; refine wpList_append_own _ rfl (.tmp 24) (.tmp 29) _ rfl w.heap.size 9 i0 _ 1 16 Tryz.underlying55 hi0 hz0 hz1 hz2 rfl (by decide) _ _ _ rfl (hown.alloc _) ⟨wr.heap.size, 0, none⟩ 1 1 [.string (s.extract f i)] rfl rfl (cell_new _ _ _) (sv_one [s.extract f i]) (by unfold maxLen; omega) (by omega) (by have := hbw.size; simp; omega) ?_; intro v2 w2 hown2 hg2 hnil2)
        have hbw2 : Below w.heap.size w w2 := (hbw.alloc hbw.size _).grown hg2 (by have := hbw.size; simp; omega) (fun j hj => (hown.lt j hj).1)
        go_roundw
        case rel => exact ⟨dn ++ [s.extract f i], i + sep.size, i + sep.size, by go_num, by go_num, by rw [sv_snoc]; simpa using hown2, hbw2, HN⟩
        case measure => simp [intOf]; omega
      · have hd' := Bool.eq_false_iff.2 hd
        have hb : ((s.extract i (i + sep.size)).toList == sep.toList) = false := by rw [hx, hd']
        have HN := Lib.hid (hc.out.next (by rw [← HSL.out]; omega) hd')
        clear hx hd hd'
        go_wp2_with fail
        go_roundw
        case rel => exact ⟨dn, f, i + 1, rfl, by go_num, hown, hbw, HN⟩
        case measure => simp [intOf]; omega
    · have hi1 : ¬ ((i : Int) + (sep.size : Int) ≤ (s.size : Int)) := by omega
      have hfs : (f : Int) ≤ (s.size : Int) := by omega
      have HN := Lib.hid (hc.out.done_ s rfl (by rw [← HPL.out, ← HSL.out]; omega))
      have HSM := Lib.hid hc.out.small
      clear hlt
      go_wp2_with (at_builtin; refine wpList_append_own _ rfl (.tmp 38) (.tmp 42) _ rfl w.heap.size 9 i0 _ 1 16 Tryz.underlying55 hi0 hz0 hz1 hz2 rfl (by decide) _ _ _ rfl (hown.alloc _) ⟨wr.heap.size, 0, none⟩ 1 1 [.string (s.extract f s.size)] rfl rfl (cell_new _ _ _) (sv_one [s.extract f s.size]) (by unfold maxLen; omega) (by omega) (by have := hbw.size; simp; omega) ?_; intro v2 w2 hown2 hg2 hnil2)
      have hbw2 : Below w.heap.size w w2 := (hbw.alloc hbw.size _).grown hg2 (by have := hbw.size; simp; omega) (fun j hj => (hown.lt j hj).1)
      go_ret
      refine ⟨dn ++ [s.extract f s.size], v2, rfl, by rw [sv_snoc]; simpa using hown2, hbw2, HN.out, fun p hp => ?_, by rw [List.length_append]; simp; omega⟩
      rcases List.mem_append.1 hp with hp | hp
      · have := HSM.out p hp
        rw [HSL.out]; exact this
      · simp only [List.mem_singleton] at hp; subst hp; rw [ByteArray.size_extract]; omega
theorem refCut_any (s sep : ByteArray) (w : World) (hs : s.size ≤ 4000000000) (h0 : 0 < sep.size) (h9 : sep.size ≤ 100) :
    Calls Tryz.prog 23 #[.string s, .string sep] w (CutPost w s sep) := refCut_wide s sep w hs h0 (by omega)
end Ru
end Go.Proofs.YtehocgemgdbikaaGreatDoor
