/- The text of a part, as the program has it; what lay in memory stays as it was. -/
import Derived.Test.YtkhnjlkamleldaaDoorRuJoinRel
namespace Go.Proofs.YtkhnjlkamleldaaDoor
namespace Ru
open Go.RowKit D

theorem rels_size {xs : List RelX} (h : ∀ x ∈ xs, relOk x.v) (hz : ∀ x ∈ xs, x.v.rs.length ≤ 1073741826) (hl : xs.length ≤ 20) : (joinL [32, 97, 110, 100, 32] (xs.map fun x => relT x.v)).length ≤ 20 * 43000000000 :=
  join_bound' [32, 97, 110, 100, 32] 42949673100 _ (by show 42949673100 + 5 ≤ _; omega) _ (fun p hp => by
    obtain ⟨x, hx, rfl⟩ := List.mem_map.1 hp
    have h1 := rel_size (h x hx)
    have h2 := hz x hx
    omega) (by rwa [List.length_map])
theorem part_text (xs : List RelX) : joinL [32, 97, 110, 100, 32] (xs.map fun x => relT x.v) = partT (relsV xs) := by
  unfold partT relsV
  rw [List.map_map]
  rfl
set_option maxHeartbeats 1000000 in
theorem partText_any (A : Option Addr) (n c : Nat) (xs : List RelX) (w : World) (hr : RelsAt w w.heap.size A n xs) (hn : n ≤ 20) (hz : ∀ x ∈ xs, x.v.rs.length ≤ 1073741826) (hok : partOk (relsV xs)) (hE : Env w) :
    Calls Tryd.prog 18 #[.slice A n c] w (Gives w (.string (str (partT (relsV xs))))) := by
  have hro : ∀ x ∈ xs, relOk x.v := fun x hx => hok.2 _ (List.mem_map.2 ⟨x, hx, rfl⟩)
  have CJ := Lib.hid (joinRel_any A n c xs w hr (by omega) hz hro hE (Nat.le_trans (rels_size hro hz (by have := hr.len; omega)) (by omega)))
  rw [part_text] at CJ
  clear hr hz hok hE hro
  go_enter Tryd.func18, Tryd.ntmps18
  go_wp2_with (go_at_call 19; (with_reducible refine (CJ.out).mono ?_); rintro e w2 ⟨rfl, hb2⟩)
  go_ret
  exact ⟨rfl, hb2⟩
end Ru
end Go.Proofs.YtkhnjlkamleldaaDoor
