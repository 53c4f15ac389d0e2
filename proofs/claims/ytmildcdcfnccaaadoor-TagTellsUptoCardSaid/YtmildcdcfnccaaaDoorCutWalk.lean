/- The reference's Cut at "-", walked: it returns a list of its own that holds the pieces; what lay in memory stays as it was. -/
import Derived.Test.YtmildcdcfnccaaaDoorCut
namespace Go.Proofs.YtmildcdcfnccaaaDoor
open Go.RowKit Go.Maps

def CutPost (w : World) (s : ByteArray) (e : Ending) (w' : World) : Prop :=
  ∃ (l : List ByteArray) (v : Value), e = .returned v ∧ w'.ownsRow w.heap.size 9 1 v l.length (sv l) ∧ Below w.heap.size w w' ∧ bs l = P.pieces s.data.toList ∧ (∀ p ∈ l, p.size ≤ s.size) ∧ l.length ≤ s.size + 1

set_option maxHeartbeats 4000000 in
set_option maxRecDepth 100000 in
theorem cut_any (s : ByteArray) (w : World) (hs : s.size ≤ 4000000000) :
    Calls Tryd.prog 25 #[.string s, .string dash] w (CutPost w s) := by
  obtain ⟨i0, hi0, hz0, hz1, hz2⟩ := info_parts str_info
  unfold dash
  go_enter Tryd.func25, Tryd.ntmps25
  go_wp2_with fail
  go_loopw [5, 6, 7] (fun v f i wr => ∃ (dn : List ByteArray) (f' i' : Nat), f = .int .i64 f' ∧ i = .int .i64 i' ∧ wr.ownsRow w.heap.size 9 1 v dn.length (sv dn) ∧ Below w.heap.size w wr ∧ Hid (CutAt s dn f' i')) (fun _ _ i _ => s.size - (intOf i).toNat)
  case atStart => exact ⟨[], 0, 0, rfl, rfl, World.ownsRow_nil _ _ _ _, Below.refl _ _, Lib.hid (CutAt.start s)⟩
  case round =>
    obtain ⟨dn, f, i, rfl, rfl, hown, hbw, hc⟩ := hrel
    have h1 := hc.out.isz
    have h2 := hc.out.fi
    have h3 := hc.out.len
    by_cases hlt : i < s.size
    · have hi1 : ((i : Int) + 1 ≤ (s.size : Int)) := by omega
      have hx : (s.extract i (i + 1)).toList = [s[i]] := by
        rw [toList_data, extract_td, take_snoc s i hlt, List.drop_append_of_le_length (by rw [List.length_take, size_list]; omega), List.drop_eq_nil_of_le (by rw [List.length_take, size_list]; omega)]
        rfl
      have hfi : (f : Int) ≤ (i : Int) := by omega
      have hisz : (i : Int) ≤ (s.size : Int) := by omega
      by_cases hd : s[i] = 45
      · have hb : ((s.extract i (i + 1)).toList == [45]) = true := by rw [hx, hd]; rfl
        have HN := Lib.hid (hc.out.cut hlt hd)
        clear hx hd
        go_wp2_with (at_builtin; refine wpList_append_own _ rfl (.tmp 24) (.tmp 29) _ rfl w.heap.size 9 i0 _ 1 16 Tryd.underlying22 hi0 hz0 hz1 hz2 rfl (by decide) _ _ _ rfl (hown.alloc _) ⟨wr.heap.size, 0, none⟩ 1 1 [.string (s.extract f i)] rfl rfl (cell_one_new _ _ _) (sv_one [s.extract f i]) (by unfold maxLen; omega) (by omega) (by have := hbw.size; simp; omega) ?_; intro v2 w2 hown2 hg2 hnil2)
        have hbw2 : Below w.heap.size w w2 := (hbw.alloc hbw.size _).grown hg2 (by have := hbw.size; simp; omega) (fun j hj => (hown.lt j hj).1)
        go_roundw
        case rel => exact ⟨dn ++ [s.extract f i], i + 1, i + 1, by go_num, by go_num, by rw [sv_snoc]; simpa using hown2, hbw2, HN⟩
        case measure => simp [intOf]; omega
      · have hb : ((s.extract i (i + 1)).toList == [45]) = false := by rw [hx]; simpa using hd
        have HN := Lib.hid (hc.out.next hlt hd)
        clear hx hd
        go_wp2_with fail
        go_roundw
        case rel => exact ⟨dn, f, i + 1, rfl, by go_num, hown, hbw, HN⟩
        case measure => simp [intOf]; omega
    · have hii : i = s.size := by omega
      subst hii
      have hi1 : ¬ ((s.size : Int) + 1 ≤ (s.size : Int)) := by omega
      have hfi : (f : Int) ≤ (s.size : Int) := by omega
      have HN := Lib.hid hc.out.done_
      have HSM := Lib.hid hc.out.small
      clear hlt
      go_wp2_with (at_builtin; refine wpList_append_own _ rfl (.tmp 38) (.tmp 42) _ rfl w.heap.size 9 i0 _ 1 16 Tryd.underlying22 hi0 hz0 hz1 hz2 rfl (by decide) _ _ _ rfl (hown.alloc _) ⟨wr.heap.size, 0, none⟩ 1 1 [.string (s.extract f s.size)] rfl rfl (cell_one_new _ _ _) (sv_one [s.extract f s.size]) (by unfold maxLen; omega) (by omega) (by have := hbw.size; simp; omega) ?_; intro v2 w2 hown2 hg2 hnil2)
      have hbw2 : Below w.heap.size w w2 := (hbw.alloc hbw.size _).grown hg2 (by have := hbw.size; simp; omega) (fun j hj => (hown.lt j hj).1)
      go_ret
      refine ⟨dn ++ [s.extract f s.size], v2, rfl, by rw [sv_snoc]; simpa using hown2, hbw2, HN.out, fun p hp => ?_, by rw [List.length_append]; simp; omega⟩
      rcases List.mem_append.1 hp with hp | hp
      · exact HSM.out p hp
      · simp only [List.mem_singleton] at hp; subst hp; rw [ByteArray.size_extract]; omega
end Go.Proofs.YtmildcdcfnccaaaDoor
