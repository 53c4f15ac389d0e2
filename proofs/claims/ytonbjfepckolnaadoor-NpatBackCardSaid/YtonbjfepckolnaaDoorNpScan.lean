/- strings.IndexAny and strings.LastIndexAny at the two places of a pattern, of any text. -/
import Derived.Test.YtonbjfepckolnaaDoorHigh
import Derived.Test.YtonbjfepckolnaaDoorNpEnds
import Derived.Test.YtonbjfepckolnaaDoorNpVal
import Derived.Test.YtonbjfepckolnaaDoorShelf
import Derived.Lib.OthersKept
import Derived.Deep.LoopGhost
import Derived.Laws.Runes
import Derived.Deep.WholeRow
import Derived.WalkMore
namespace Go.Proofs.YtonbjfepckolnaaDoor
namespace Np
open Go.RowKit Go.Maps D Ru

theorem next_zero (w : World) (ty : TypeId) : (Instr.next (.pointer (some ⟨w.heap.size, 0, none⟩)) true ty).run Tryd.prog (w.iter ⟨#[48, 35]⟩ 0) = .ok (.tuple #[.bool true, .int .i64 0, .int .i32 48]) (w.iter ⟨#[48, 35]⟩ 1) :=
  run_next_ascii w ⟨#[48, 35]⟩ 0 ty (by decide) (by decide)
theorem next_one (w : World) (ty : TypeId) : (Instr.next (.pointer (some ⟨w.heap.size, 0, none⟩)) true ty).run Tryd.prog (w.iter ⟨#[48, 35]⟩ 1) = .ok (.tuple #[.bool true, .int .i64 1, .int .i32 35]) (w.iter ⟨#[48, 35]⟩ 2) :=
  run_next_ascii w ⟨#[48, 35]⟩ 1 ty (by decide) (by decide)
theorem next_two (w : World) (ty : TypeId) : (Instr.next (.pointer (some ⟨w.heap.size, 0, none⟩)) true ty).run Tryd.prog (w.iter ⟨#[48, 35]⟩ 2) = .ok (.tuple #[.bool false]) (w.iter ⟨#[48, 35]⟩ 2) :=
  run_next_end w ⟨#[48, 35]⟩ 2 ty (by decide)
theorem below_iter (w : World) (s : ByteArray) (i : Nat) : Below w.heap.size w (w.iter s i) := (Below.refl _ _).alloc (Nat.le_refl _) _
set_option maxHeartbeats 2000000 in
set_option maxRecDepth 100000 in
theorem rune_wrong (w : World) : Calls Tryd.prog 28 #[.string ⟨#[48, 35]⟩, .int .i32 65533] w (Gives w (.int .i64 (-1))) := by
  go_enter Tryd.func28, Tryd.ntmps28
  go_wp2
  go_loopg [5, 6] 2 (fun g _ _ wx => ∃ i : Nat, i + g = 2 ∧ wx = w.iter ⟨#[48, 35]⟩ i)
  case atStart => exact ⟨0, rfl, rfl⟩
  case round =>
    obtain ⟨i, hig, rfl⟩ := hrel
    rcases gk with _ | _ | g
    · obtain rfl : i = 2 := by omega
      have hnx := next_two w
      go_wp2
      go_ret
      exact ⟨rfl, below_iter _ _ _⟩
    · obtain rfl : i = 1 := by omega
      have hnx := next_one w
      go_wp2
      go_roundg 0
      case measure => omega
      case rel => exact ⟨2, rfl, rfl⟩
    · obtain ⟨rfl, rfl⟩ : i = 0 ∧ g = 0 := by omega
      have hnx := next_zero w
      go_wp2
      go_roundg 1
      case measure => omega
      case rel => exact ⟨1, rfl, rfl⟩
set_option maxHeartbeats 2000000 in
set_option maxRecDepth 100000 in
theorem rune_invalid (r : Int) (w : World) (h1 : 128 ≤ r) (h2 : r ≠ 65533) (hv : Lib.validRune r = false) : Calls Tryd.prog 28 #[.string ⟨#[48, 35]⟩, .int .i32 r] w (Gives w (.int .i64 (-1))) := by
  have CV := Lib.hid (Tryd.utf8_ValidRune r)
  rw [hv] at CV
  have h0 : (0 : Int) ≤ r := by omega
  have h3 : ¬ r < 128 := by omega
  clear hv h1
  go_enter Tryd.func28, Tryd.ntmps28
  go_wp2_with (go_at_call 49; (with_reducible refine (CV.out _).mono ?_); rintro e w' ⟨rfl, rfl⟩)
  go_ret
  exact ⟨rfl, Below.refl _ _⟩
set_option maxHeartbeats 2000000 in
set_option maxRecDepth 100000 in
theorem rune_valid (r : Int) (w : World) (h1 : 128 ≤ r) (h2 : r ≠ 65533) (hv : Lib.validRune r = true) : Calls Tryd.prog 28 #[.string ⟨#[48, 35]⟩, .int .i32 r] w (Gives w (.int .i64 (-1))) := by
  have CV := Lib.hid (Tryd.utf8_ValidRune r)
  rw [hv] at CV
  have h0 : (0 : Int) ≤ r := by omega
  have h3 : ¬ r < 128 := by omega
  have hvv : Utf8.valid r = true := (validRune_eq r).trans hv
  obtain ⟨e2, e4, el⟩ := encode_facts r hvv h1
  clear hv h1 hvv
  have hb0 := Below.refl w.heap.size w
  obtain ⟨E, hE⟩ : ∃ E, E = Utf8.encode r := ⟨_, rfl⟩
  rw [← hE] at e2 e4 el
  have hconv : ∀ W : World, (convert 21 9 (.int .i32 r)).run Tryd.prog W = .ok (.string E) W := fun W => by
    rw [run_convert_int_string W _ _ _ _ (by kernel_rfl) Tryd.underlying9, hE]
  clear hE
  have hn1 : IntKind.i64.wrap ((E.size : Int) - 1) = ((E.size - 1 : Nat) : Int) := by rw [IntKind.wrap_i64]; omega
  by_cases hs : E.size = 2
  · have hl := el (by omega)
    have h01 : 1 < E.size := by omega
    have CI : Hid (∀ W : World, Calls Tryd.prog 48 #[.string ByteArray.empty, .int .u8 (E[1].toNat : Int)] W fun e w' => e = .returned (.int .i64 (-1)) ∧ W = w') := Lib.hid fun W => (Tryd.strings_IndexByte ByteArray.empty (E[1].toNat) W).mono fun e w' ⟨h1, h2⟩ => ⟨h1, h2.symm⟩
    have hne : ¬ (35 : Int) = (E[1].toNat : Int) := by
      have : 128 ≤ (E[1]).toNat := by simpa only [hs] using hl
      omega
    have hne2 : ¬ (((⟨#[48, 35]⟩ : ByteArray)[1]'(by decide)).toNat : Int) = (E[1].toNat : Int) := hne
    clear hne
    have hw2 : IntKind.i64.wrap 2 = 2 := by decide
    clear hl el
    go_enter Tryd.func28, Tryd.ntmps28
    go_wp2_with (go_at_call 49; (with_reducible refine (CV.out _).mono ?_); rintro e w' ⟨rfl, rfl⟩)
    go_step3
    go_wp2
    go_loopg [9, 10, 11, 12] 1 (fun g i _ _ _ wx => g = 1 ∧ i = .int .i64 1 ∧ wx = w')
    case atStart => exact ⟨rfl, rfl, rfl⟩
    case round =>
      obtain ⟨rfl, rfl, rfl⟩ := hrel
      go_wp2
      go_step3
      go_wp2
      go_region
      go_wp2
      have hbd : Below wr.heap.size wr wr.drew := up_drewN hb0 1
      generalize wr.drew = W0 at *
      go_quiet ((go_at_call 48; with_reducible exact quiet_same CI.out _ _))
      go_wp2
      try rw [Exit.noGoto_ret]
      go_ret
      exact ⟨rfl, up_drewN hbd _⟩
  · have hk : ¬ ((E.size - 1 : Nat) : Int) < 2 := by omega
    clear el
    go_enter Tryd.func28, Tryd.ntmps28
    go_wp2_with (go_at_call 49; (with_reducible refine (CV.out _).mono ?_); rintro e w' ⟨rfl, rfl⟩)
    go_step3
    go_wp2
    go_loopg [9, 10, 11, 12] 1 (fun g i _ _ _ wx => g = 1 ∧ i = .int .i64 (E.size - 1 : Nat) ∧ wx = w')
    case atStart => exact ⟨rfl, rfl, rfl⟩
    case round =>
      obtain ⟨rfl, rfl, rfl⟩ := hrel
      go_wp2
      try rw [Exit.noGoto_ret]
      go_ret
      exact ⟨rfl, hb0⟩
end Np
end Go.Proofs.YtonbjfepckolnaaDoor
