/- The reference's Cut and NumberOf of texts as lists of bytes; what lay in memory stays as it was. -/
import Derived.Test.YtabglcpllfcmbaaGreatDoorRuRefRule
import Derived.Test.YtabglcpllfcmbaaGreatDoorRuLib
import Derived.Test.YtabglcpllfcmbaaGreatDoorRuGround
import Derived.Test.YtabglcpllfcmbaaGreatDoorDecRefNum
namespace Go.Proofs.YtabglcpllfcmbaaGreatDoor
namespace Ru
open Go.RowKit Go.Maps D

def CutP (w : World) (ps : List (List UInt8)) (e : Ending) (w' : World) : Prop := ∃ (A : Option Addr) (c : Nat), e = .returned (.slice A ps.length c) ∧ ps.length ≤ c ∧ c ≤ maxLen ∧ w'.ownsRow w.heap.size 9 1 (.slice A ps.length c) ps.length (strC ps) ∧ Below w.heap.size w w'
theorem refCutL (s sep : List UInt8) (w : World) (hs : s.length ≤ 4000000000) (h0 : sep ≠ []) (h9 : sep.length ≤ 100) : Calls Tryz.prog 29 #[.string (str s), .string (str sep)] w (CutP w (cutL sep s)) := by
  have hl : 0 < sep.length := List.length_pos_iff.2 h0
  refine (refCut_any (str s) (str sep) w (by rw [D.ba_size, str_data]; exact hs) (by rw [D.ba_size, str_data]; exact hl) (by rw [D.ba_size, str_data]; exact h9)).mono fun e w' ⟨l, v, he, ho, hb, hbs, _, _⟩ => ?_
  rw [str_data, str_data] at hbs
  have hlen : l.length = (cutL sep s).length := by rw [← hbs]; simp [bs]
  have hsv : sv l = strC (cutL sep s) := by
    rw [← hbs]
    simp only [sv, strC, bs, List.map_map]
    exact List.map_congr_left fun b _ => by
      show Value.string b = Value.string (str b.data.toList)
      rw [← (str_eq rfl : b = str b.data.toList)]
  rw [hlen, hsv] at ho
  obtain ⟨A, c, rfl, hc, hm, _, _⟩ := own_shape ho
  exact ⟨A, c, he, hc, hm, ho, hb⟩
end Ru
end Go.Proofs.YtabglcpllfcmbaaGreatDoor
