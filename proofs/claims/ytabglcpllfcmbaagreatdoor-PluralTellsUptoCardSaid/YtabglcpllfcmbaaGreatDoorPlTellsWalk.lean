/- The law PluralTells returns true. -/
import Derived.Test.YtabglcpllfcmbaaGreatDoorPlLaw
import Derived.Test.YtabglcpllfcmbaaGreatDoorPlRef
import Derived.Test.YtabglcpllfcmbaaGreatDoorDecRefFault
import Derived.Test.YtabglcpllfcmbaaGreatDoorErrorSame
namespace Go.Proofs.YtabglcpllfcmbaaGreatDoor
namespace Ru
open Go.RowKit Go.Maps D

set_option maxHeartbeats 8000000 in
set_option maxRecDepth 100000 in
theorem plTells_any (z o t f m : List UInt8) (c s : Int) (w : World) (hs : ∀ x ∈ [z, o, t, f, m], x.length ≤ 1073741824) (hE : Env w) (hN : Names w) (hg : ErrType w) :
    Calls Tryz.prog 4 #[.agg #[.string (str z), .string (str o), .string (str t), .string (str f), .string (str m)], .agg #[.int .i64 c, .int .i64 s]] w (TrueB w) := by
  have HB0 := Lib.hid (bs_two w [.string (str z), .string (str o), .string (str t), .string (str f), .string (str m)] [.int .i64 c, .int .i64 s] 44 46)
  have CF := Lib.hid fun (W : World) (hW : Below w.heap.size w W) => fact_ruled W (hE.later hW) (hN.later hW)
  have hb0 := HB0.out.below
  have CE0 := Lib.hid fun (W : World) (hW : Below w.heap.size w W) => (show Calls Tryz.prog 9 #[.nilIface, .int .i64 0] W (TrueB W) from errorSame_any 0 W (errType_later hg hW))
  have CE1 := Lib.hid fun (W : World) (hW : Below w.heap.size w W) => (show Calls Tryz.prog 9 #[.iface 26 (.int .i64 1), .int .i64 1] W (TrueB W) from errorSame_any 1 W (errType_later hg hW))
  have CE3 := Lib.hid fun (W : World) (hW : Below w.heap.size w W) => (show Calls Tryz.prog 9 #[.iface 26 (.int .i64 3), .int .i64 3] W (TrueB W) from errorSame_any 3 W (errType_later hg hW))
  by_cases hr : RightS z o t f m
  · have CS := Lib.hid fun (W : World) => (show Calls Tryz.prog 16 #[.agg #[.string (str z), .string (str o), .string (str t), .string (str f), .string (str m)]] W (Gives W (.int .i64 0)) from (refSetFault_any z o t f m W hs).mono fun _ _ h => h.elim (fun h => h.2) (fun h => absurd hr h.1))
    have CC := Lib.hid fun (W : World) (hW : Below w.heap.size w W) => (setCheck_any z o t f m W hs (hE.later hW)).1 hr
    by_cases hd : Right c s
    · have CD := Lib.hid fun (W : World) => (show Calls Tryz.prog 18 #[.agg #[.int .i64 c, .int .i64 s]] W (Gives W (.bool false)) from (refFault_any c s W).mono fun _ _ h => ⟨by rw [h.1]; simp [hd], h.2⟩)
      have CO := Lib.hid fun (W : World) => refKindOf_any z o t f m c s W hs hr hd
      have CK := Lib.hid fun (W : World) (hW : Below w.heap.size w W) => kind_good z o t f m c s W hs (hE.later hW) (hN.later hW) hr hd
      clear hs hE hN hg hd hr
      generalize kindS [z, o, t, f, m] (opsI c s) s (opsW c s) (opsF c s) (opsT c s) = KS at *
      have hB0 := hb0
      obtain ⟨d0, d1, x0, x1, x2, x3, x4, -⟩ := HB0.out.cells
      go_enter Tryz.func4, Tryz.ntmps4
      go_wp2_with (first
        | (go_at_call 15; (with_reducible refine (CF.out _ hB0).mono ?_); rintro e w1 ⟨rfl, hb1⟩; (have hB1 := bel_call hB0 hb1); (have HB1 := Lib.hid (HB0.out.call hb1)); (obtain ⟨d0, d1, x0, x1, x2, x3, x4, -⟩ := HB1.out.cells); dsimp only)
        | (go_at_call 16; (with_reducible refine (CS.out _).mono ?_); rintro e w2 ⟨rfl, hb2⟩; (have hB2 := bel_call hB1 hb2); (have HB2 := Lib.hid (HB1.out.call hb2)); (obtain ⟨d0, d1, x0, x1, x2, x3, x4, -⟩ := HB2.out.cells))
        | (go_at_call 17; (with_reducible refine (CC.out _ hB2).mono ?_); rintro e w3 ⟨rfl, hb3⟩; (have hB3 := bel_call hB2 hb3); (have HB3 := Lib.hid (HB2.out.call hb3)); (obtain ⟨d0, d1, x0, x1, x2, x3, x4, -⟩ := HB3.out.cells))
        | (go_at_call 9; (with_reducible refine (CE0.out _ hB3).mono ?_); rintro e w4 ⟨rfl, hb4⟩; (have hB4 := bel_call hB3 hb4); (have HB4 := Lib.hid (HB3.out.call hb4)); (obtain ⟨d0, d1, x0, x1, x2, x3, x4, -⟩ := HB4.out.cells))
        | (go_at_call 18; (with_reducible refine (CD.out _).mono ?_); rintro e w5 ⟨rfl, hb5⟩; (have hB5 := bel_call hB4 hb5); (have HB5 := Lib.hid (HB4.out.call hb5)); (obtain ⟨d0, d1, x0, x1, x2, x3, x4, -⟩ := HB5.out.cells))
        | (go_at_call 19; (with_reducible refine (CO.out _).mono ?_); rintro e w6 ⟨rfl, hb6⟩; (have hB6 := bel_call hB5 hb6); (have HB6 := Lib.hid (HB5.out.call hb6)); (obtain ⟨d0, d1, x0, x1, x2, x3, x4, -⟩ := HB6.out.cells))
        | (go_at_call 15; (with_reducible refine (CK.out _ hB6).mono ?_); rintro e w7 ⟨rfl, hb7⟩; (have hB7 := bel_call hB6 hb7); (have HB7 := Lib.hid (HB6.out.call hb7)); (obtain ⟨d0, d1, x0, x1, x2, x3, x4, -⟩ := HB7.out.cells); dsimp only)
        | (go_at_call 9; (with_reducible refine (CE0.out _ hB7).mono ?_); rintro e w8 ⟨rfl, hb8⟩; (have hB8 := bel_call hB7 hb8)))
      go_ret
      exact ⟨rfl, hB8⟩
    · have CD := Lib.hid fun (W : World) => (show Calls Tryz.prog 18 #[.agg #[.int .i64 c, .int .i64 s]] W (Gives W (.bool true)) from (refFault_any c s W).mono fun _ _ h => ⟨by rw [h.1]; simp [hd], h.2⟩)
      have CK := Lib.hid fun (W : World) (hW : Below w.heap.size w W) => (kind_bad z o t f m c s W hs (hE.later hW)).2 hr hd
      clear hs hE hN hg hd hr
      have hB0 := hb0
      obtain ⟨d0, d1, x0, x1, x2, x3, x4, -⟩ := HB0.out.cells
      go_enter Tryz.func4, Tryz.ntmps4
      go_wp2_with (first
        | (go_at_call 15; (with_reducible refine (CF.out _ hB0).mono ?_); rintro e w1 ⟨rfl, hb1⟩; (have hB1 := bel_call hB0 hb1); (have HB1 := Lib.hid (HB0.out.call hb1)); (obtain ⟨d0, d1, x0, x1, x2, x3, x4, -⟩ := HB1.out.cells); dsimp only)
        | (go_at_call 16; (with_reducible refine (CS.out _).mono ?_); rintro e w2 ⟨rfl, hb2⟩; (have hB2 := bel_call hB1 hb2); (have HB2 := Lib.hid (HB1.out.call hb2)); (obtain ⟨d0, d1, x0, x1, x2, x3, x4, -⟩ := HB2.out.cells))
        | (go_at_call 17; (with_reducible refine (CC.out _ hB2).mono ?_); rintro e w3 ⟨rfl, hb3⟩; (have hB3 := bel_call hB2 hb3); (have HB3 := Lib.hid (HB2.out.call hb3)); (obtain ⟨d0, d1, x0, x1, x2, x3, x4, -⟩ := HB3.out.cells))
        | (go_at_call 9; (with_reducible refine (CE0.out _ hB3).mono ?_); rintro e w4 ⟨rfl, hb4⟩; (have hB4 := bel_call hB3 hb4); (have HB4 := Lib.hid (HB3.out.call hb4)); (obtain ⟨d0, d1, x0, x1, x2, x3, x4, -⟩ := HB4.out.cells))
        | (go_at_call 18; (with_reducible refine (CD.out _).mono ?_); rintro e w5 ⟨rfl, hb5⟩; (have hB5 := bel_call hB4 hb5); (have HB5 := Lib.hid (HB4.out.call hb5)); (obtain ⟨d0, d1, x0, x1, x2, x3, x4, -⟩ := HB5.out.cells))
        | (go_at_call 15; (with_reducible refine (CK.out _ hB5).mono ?_); rintro e w6 ⟨rfl, hb6⟩; (have hB6 := bel_call hB5 hb6); (have HB6 := Lib.hid (HB5.out.call hb6)); (obtain ⟨d0, d1, x0, x1, x2, x3, x4, -⟩ := HB6.out.cells); dsimp only)
        | (go_at_call 9; (with_reducible refine (CE1.out _ hB6).mono ?_); rintro e w7 ⟨rfl, hb7⟩; (have hB7 := bel_call hB6 hb7)))
      go_ret
      exact ⟨rfl, hB7⟩
  · have CS := Lib.hid fun (W : World) => (show Calls Tryz.prog 16 #[.agg #[.string (str z), .string (str o), .string (str t), .string (str f), .string (str m)]] W (Gives W (.int .i64 3)) from (refSetFault_any z o t f m W hs).mono fun _ _ h => h.elim (fun h => absurd h.1 hr) (fun h => h.2))
    have CC := Lib.hid fun (W : World) (hW : Below w.heap.size w W) => (setCheck_any z o t f m W hs (hE.later hW)).2 hr
    have CK := Lib.hid fun (W : World) (hW : Below w.heap.size w W) => (kind_bad z o t f m c s W hs (hE.later hW)).1 hr
    clear hs hE hN hg hr
    have hB0 := hb0
    obtain ⟨d0, d1, x0, x1, x2, x3, x4, -⟩ := HB0.out.cells
    go_enter Tryz.func4, Tryz.ntmps4
    go_wp2_with (first
      | (go_at_call 15; (with_reducible refine (CF.out _ hB0).mono ?_); rintro e w1 ⟨rfl, hb1⟩; (have hB1 := bel_call hB0 hb1); (have HB1 := Lib.hid (HB0.out.call hb1)); (obtain ⟨d0, d1, x0, x1, x2, x3, x4, -⟩ := HB1.out.cells); dsimp only)
      | (go_at_call 16; (with_reducible refine (CS.out _).mono ?_); rintro e w2 ⟨rfl, hb2⟩; (have hB2 := bel_call hB1 hb2); (have HB2 := Lib.hid (HB1.out.call hb2)); (obtain ⟨d0, d1, x0, x1, x2, x3, x4, -⟩ := HB2.out.cells))
      | (go_at_call 17; (with_reducible refine (CC.out _ hB2).mono ?_); rintro e w3 ⟨rfl, hb3⟩; (have hB3 := bel_call hB2 hb3); (have HB3 := Lib.hid (HB2.out.call hb3)); (obtain ⟨d0, d1, x0, x1, x2, x3, x4, -⟩ := HB3.out.cells))
      | (go_at_call 9; (with_reducible refine (CE3.out _ hB3).mono ?_); rintro e w4 ⟨rfl, hb4⟩; (have hB4 := bel_call hB3 hb4); (have HB4 := Lib.hid (HB3.out.call hb4)); (obtain ⟨d0, d1, x0, x1, x2, x3, x4, -⟩ := HB4.out.cells))
      | (go_at_call 15; (with_reducible refine (CK.out _ hB4).mono ?_); rintro e w5 ⟨rfl, hb5⟩; (have hB5 := bel_call hB4 hb5); (have HB5 := Lib.hid (HB4.out.call hb5)); (obtain ⟨d0, d1, x0, x1, x2, x3, x4, -⟩ := HB5.out.cells); dsimp only)
      | (go_at_call 9; (with_reducible refine (CE3.out _ hB5).mono ?_); rintro e w6 ⟨rfl, hb6⟩; (have hB6 := bel_call hB5 hb6)))
    go_ret
    exact ⟨rfl, hB6⟩
end Ru
end Go.Proofs.YtabglcpllfcmbaaGreatDoor
