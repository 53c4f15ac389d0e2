/- The reference's Cut of a text at its points, walked: it returns a list of its own that holds the pieces; what lay in memory stays as it was. -/
import Derived.Test.YteekhfiphbhbjaaGreatDoorWords
import Derived.Test.YteekhfiphbhbjaaGreatDoorDecRefNum
import Derived.Deep.DeepCutAuto
namespace Go.Proofs.YteekhfiphbhbjaaGreatDoor
namespace D
open Go.RowKit Go.Maps

/-- texts as values, as bytes -/
def sv (l : List ByteArray) : List Value := l.map Value.string
def bs (l : List ByteArray) : List (List UInt8) := l.map fun b => b.data.toList
theorem sv_snoc (l : List ByteArray) (x : ByteArray) : sv (l ++ [x]) = sv l ++ [.string x] := by simp [sv]
theorem sv_one (l : List ByteArray) : ∀ u ∈ sv l, u.oneCell' = true := by
  intro u hu
  obtain ⟨v, _, rfl⟩ := List.mem_map.1 hu
  rfl
theorem cell_new (w : World) (t : TypeId) (x : Value) : ∀ j u, [x][j]? = some u → (w.alloc (.cells #[x] t)).cell? ((⟨w.heap.size, 0, none⟩ : Addr).add j) = some u := by
  intro j u h
  cases j with
  | zero => simp [Addr.add] at *; exact h
  | succ j => simp at h
theorem str_info : (Tryz.prog.info? 9).map (fun i => (i.zero, i.size, i.bytes)) = some (some (.string ⟨#[]⟩), 1, 16) := by kernel_rfl
theorem extract_td (s : ByteArray) (a b : Nat) : (s.extract a b).data.toList = (s.data.toList.take b).drop a := by
  rw [List.drop_take, ByteArray.data_extract, Array.toList_extract, List.extract_eq_take_drop]
/-- what the loop holds: what is done, from where on, up to where no point stands -/
structure CutAt (s : ByteArray) (dn : List ByteArray) (f i : Nat) : Prop where
  fi : f ≤ i
  isz : i ≤ s.size
  len : dn.length ≤ f
  flat : s.data.toList.take f = flatP (bs dn)
  clean : ∀ p ∈ bs dn, Pointless p
  open_ : Pointless ((s.data.toList.take i).drop f)
  small : ∀ p ∈ dn, p.size ≤ s.size
theorem CutAt.start (s : ByteArray) : CutAt s [] 0 0 := ⟨Nat.le_refl _, Nat.zero_le _, Nat.zero_le _, by simp [flatP, bs], by simp [bs], by simp [Pointless], by simp⟩
theorem CutAt.next {s : ByteArray} {dn : List ByteArray} {f i : Nat} (h : CutAt s dn f i) (hi : i < s.size) (hd : s[i] ≠ 46) : CutAt s dn f (i + 1) :=
  ⟨by have := h.fi; omega, hi, h.len, h.flat, h.clean, by
    rw [take_snoc s i hi, List.drop_append_of_le_length (by rw [List.length_take, ← ba_size]; have := h.fi; omega)]
    intro c hc
    rcases List.mem_append.1 hc with hc | hc
    · exact h.open_ c hc
    · simp at hc; subst hc; exact hd, h.small⟩
theorem CutAt.cut {s : ByteArray} {dn : List ByteArray} {f i : Nat} (h : CutAt s dn f i) (hi : i < s.size) (hd : s[i] = 46) : CutAt s (dn ++ [s.extract f i]) (i + 1) (i + 1) :=
  ⟨Nat.le_refl _, hi, by rw [List.length_append]; have := h.len; have := h.fi; simp; omega, by
    have e1 : bs (dn ++ [s.extract f i]) = bs dn ++ [(s.extract f i).data.toList] := by simp [bs]
    rw [e1, flatP_snoc, ← h.flat, extract_td, take_snoc s i hi, hd]
    congr 1
    have := List.take_append_drop f (s.data.toList.take i)
    rw [List.take_take, Nat.min_eq_left h.fi] at this
    exact this.symm, by
    intro p hp
    have e1 : bs (dn ++ [s.extract f i]) = bs dn ++ [(s.extract f i).data.toList] := by simp [bs]
    rw [e1] at hp
    rcases List.mem_append.1 hp with hp | hp
    · exact h.clean p hp
    · simp only [List.mem_singleton] at hp; subst hp; rw [extract_td]; exact h.open_, by simp [Pointless], by
    intro p hp
    rcases List.mem_append.1 hp with hp | hp
    · exact h.small p hp
    · simp only [List.mem_singleton] at hp; subst hp; rw [ByteArray.size_extract]; omega⟩
theorem CutAt.done_ {s : ByteArray} {dn : List ByteArray} {f : Nat} (h : CutAt s dn f s.size) : Pieces s.data.toList (bs (dn ++ [s.extract f s.size])) := by
  have e1 : bs (dn ++ [s.extract f s.size]) = bs dn ++ [(s.extract f s.size).data.toList] := by simp [bs]
  have e2 : (s.data.toList.take s.size) = s.data.toList := List.take_of_length_le (by rw [← ba_size]; exact Nat.le_refl _)
  refine ⟨by rw [e1]; simp, fun p hp => ?_, ?_⟩
  · rw [e1] at hp
    rcases List.mem_append.1 hp with hp | hp
    · exact h.clean p hp
    · simp only [List.mem_singleton] at hp; subst hp; rw [extract_td]; exact h.open_
  · rw [e1, glueP_snoc, ← h.flat, extract_td, e2, List.take_append_drop]
def CutPost (w : World) (s : ByteArray) (e : Ending) (w' : World) : Prop :=
  ∃ (l : List ByteArray) (v : Value), e = .returned v ∧ w'.ownsRow w.heap.size 9 1 v l.length (sv l) ∧ Below w.heap.size w w' ∧ Pieces s.data.toList (bs l) ∧ (∀ p ∈ l, p.size ≤ s.size) ∧ l.length ≤ s.size + 1

set_option maxHeartbeats 4000000 in
set_option maxRecDepth 100000 in
theorem refCut_any (s : ByteArray) (w : World) (hs : s.size ≤ 4000000000) :
    Calls Tryz.prog 23 #[.string s, .string ⟨#[46]⟩] w (CutPost w s) := by
  obtain ⟨i0, hi0, hz0, hz1, hz2⟩ := info_parts str_info
  go_enter Tryz.func23, Tryz.ntmps23
  go_wp2_with fail
  go_loopw [5, 6, 7] (fun v f i wr => ∃ (dn : List ByteArray) (f' i' : Nat), f = .int .i64 f' ∧ i = .int .i64 i' ∧ wr.ownsRow w.heap.size 9 1 v dn.length (sv dn) ∧ Below w.heap.size w wr ∧ Hid (CutAt s dn f' i')) (fun _ _ i _ => s.size - (intOf i).toNat)
  case atStart => exact ⟨[], 0, 0, rfl, rfl, World.ownsRow_nil _ _ _ _, Below.refl _ _, Lib.hid (CutAt.start s)⟩
  case round =>
    obtain ⟨dn, f, i, rfl, rfl, hown, hbw, hc⟩ := hrel
    have h1 := hc.out.isz
    have h2 := hc.out.fi
    have h3 := hc.out.len
    by_cases hlt : i < s.size
    · have hi1 : ((i : Int) + 1 ≤ (s.size : Int)) := by omega
      have hx : (s.extract i (i + 1)).toList = [s[i]] := by
        rw [ByteArray.toList_eq, extract_td, take_snoc s i hlt, List.drop_append_of_le_length (by rw [List.length_take, ← ba_size]; omega), List.drop_eq_nil_of_le (by rw [List.length_take, ← ba_size]; omega)]
        rfl
      have hfi : (f : Int) ≤ (i : Int) := by omega
      have hisz : (i : Int) ≤ (s.size : Int) := by omega
      by_cases hd : s[i] = 46
      · have hb : ((s.extract i (i + 1)).toList == [46]) = true := by rw [hx, hd]; rfl
        have HN := Lib.hid (hc.out.cut hlt hd)
        clear hx hd
        go_wp2_with (at_builtin; refine wpList_append_own _ rfl (.tmp 24) (.tmp 29) _ rfl w.heap.size 9 i0 _ 1 16 Tryz.underlying46 hi0 hz0 hz1 hz2 rfl (by decide) _ _ _ rfl (hown.alloc _) ⟨wr.heap.size, 0, none⟩ 1 1 [.string (s.extract f i)] rfl rfl (cell_new _ _ _) (sv_one [s.extract f i]) (by unfold maxLen; omega) (by omega) (by have := hbw.size; simp; omega) ?_; intro v2 w2 hown2 hg2 hnil2)
        have hbw2 : Below w.heap.size w w2 := (hbw.alloc hbw.size _).grown hg2 (by have := hbw.size; simp; omega) (fun j hj => (hown.lt j hj).1)
        go_roundw
        case rel => exact ⟨dn ++ [s.extract f i], i + 1, i + 1, by go_num, by go_num, by rw [sv_snoc]; simpa using hown2, hbw2, HN⟩
        case measure => simp [intOf]; omega
      · have hb : ((s.extract i (i + 1)).toList == [46]) = false := by rw [hx]; simpa using hd
        have HN := Lib.hid (hc.out.next hlt hd)
        clear hx hd
        go_wp2_with fail
        go_roundw
        case rel => exact ⟨dn, f, i + 1, rfl, by go_num, hown, hbw, HN⟩
        case measure => simp [intOf]; omega
    · have hii : i = s.size := by omega
      subst hii
      have hi1 : ¬ ((s.size : Int) + 1 ≤ (s.size : Int)) := by omega
      have hfi : (f : Int) ≤ (s.size : Int) := by omega
      have HN := Lib.hid hc.out.done_
      have HSM := Lib.hid hc.out.small
      clear hlt
      go_wp2_with (at_builtin; refine wpList_append_own _ rfl (.tmp 38) (.tmp 42) _ rfl w.heap.size 9 i0 _ 1 16 Tryz.underlying46 hi0 hz0 hz1 hz2 rfl (by decide) _ _ _ rfl (hown.alloc _) ⟨wr.heap.size, 0, none⟩ 1 1 [.string (s.extract f s.size)] rfl rfl (cell_new _ _ _) (sv_one [s.extract f s.size]) (by unfold maxLen; omega) (by omega) (by have := hbw.size; simp; omega) ?_; intro v2 w2 hown2 hg2 hnil2)
      have hbw2 : Below w.heap.size w w2 := (hbw.alloc hbw.size _).grown hg2 (by have := hbw.size; simp; omega) (fun j hj => (hown.lt j hj).1)
      go_ret
      refine ⟨dn ++ [s.extract f s.size], v2, rfl, by rw [sv_snoc]; simpa using hown2, hbw2, HN.out, fun p hp => ?_, by rw [List.length_append]; simp; omega⟩
      rcases List.mem_append.1 hp with hp | hp
      · exact HSM.out p hp
      · simp only [List.mem_singleton] at hp; subst hp; rw [ByteArray.size_extract]; omega
end D
end Go.Proofs.YteekhfiphbhbjaaGreatDoor
