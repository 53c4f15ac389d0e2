/- The laws' ruled: a rule of a constant text is read as it should be. -/
import Derived.Test.YtabglcpllfcmbaaGreatDoorRuFacts
namespace Go.Proofs.YtabglcpllfcmbaaGreatDoor
namespace Ru
open Go.RowKit Go.Maps D

set_option maxHeartbeats 2000000 in
theorem ruled_any (w : World) (hE : Env w) : Calls Tryz.prog 5 #[] w (GivesB w true) := by
  have HP := Lib.hid (parse_yes ⟨#[105, 32, 61, 32, 49, 32, 97, 110, 100, 32, 118, 32, 61, 32, 48]⟩ _ w (by decide) hE is_ruled)
  clear hE
  go_enter Tryz.func5, Tryz.ntmps5
  go_wp2_with (go_at_call 11; (with_reducible refine (HP.out).mono ?_); rintro e w2 ⟨ps, A, c, hv, rfl, hc, ho, hb2⟩; obtain ⟨hl, ad, B, d, rfl, hcell⟩ := first_part hv ho; rw [hl]; rw [hl] at hc; dsimp only [List.length] at hcell ⊢)
  go_ret
  exact ⟨rfl, hb2⟩
end Ru
end Go.Proofs.YtabglcpllfcmbaaGreatDoor
