/- The law GroupBack returns true. -/
import Derived.Test.YtbacfehkalkmbaaDoorGrFact
import Derived.Test.YtbacfehkalkmbaaDoorGrTake
namespace Go.Proofs.YtbacfehkalkmbaaDoor
namespace Gr
open Go.RowKit D Ru

theorem put_len (l : List UInt8) (g g2 : Int) (c : UInt8) : (putT l g g2 c).length ≤ 2 * l.length := by
  unfold putT; split
  · exact grouped_le _ _ _ _
  · simp
theorem take_len (l : List UInt8) (g g2 : Int) (c : UInt8) : (takeT l g g2 c).length ≤ l.length := by
  unfold takeT; split
  · exact bare_le _ _
  · simp
set_option maxHeartbeats 4000000 in
set_option maxRecDepth 100000 in
theorem back_any (N : Nat) (l s : List UInt8) (g g2 : Int) (c : UInt8) (w : World) (hG : PutOk (2 * N) w) (hK : TakeOk (2 * N) w) (h5 : 5 ≤ N) (hl : l.length ≤ N) (hs : s.length ≤ N) :
    Calls Tryd.prog 4 #[.string (str l), .string (str s), .int .i64 g, .int .i64 g2, .int .u8 c.toNat] w (TrueB w) := by
  have hB0 := Below.refl w.heap.size w
  have CF := Lib.hid (fact_any hG (by omega))
  have hpl := put_len l g g2 c
  have htl := take_len s g g2 c
  -- behind the first half
  have HS : (∃ T : ByteArray, Hid (∀ W, Below w.heap.size w W → Calls Tryd.prog 10 #[.string (str s), .int .i64 g, .int .i64 g2, .int .u8 c.toNat] W (TextY W T)) ∧ Hid (∀ W, Below w.heap.size w W → Calls Tryd.prog 8 #[.string T, .int .i64 g, .int .i64 g2, .int .u8 c.toNat] W (TextY W (str s)))) ∨
      ∃ k : Nat, Hid (∀ W, Below w.heap.size w W → Calls Tryd.prog 10 #[.string (str s), .int .i64 g, .int .i64 g2, .int .u8 c.toNat] W (TextN W k)) := by
    by_cases ht : takeF s g g2 c = 0
    · obtain ⟨h1, h2⟩ := put_take ht
      refine .inl ⟨_, Lib.hid (hK.takeY (by omega) ht), Lib.hid ?_⟩
      have := hG.putY (l := takeT s g g2 c) (by omega) h1
      rwa [h2] at this
    · exact .inr ⟨_, Lib.hid (hK.takeN (by omega) ht)⟩
  by_cases hp : putF l g g2 c = 0
  · obtain ⟨h1, h2⟩ := take_put hp
    have CP := Lib.hid (hG.putY (by omega) hp)
    have CT := Lib.hid (hK.takeY (l := putT l g g2 c) (by omega) h1)
    rw [h2] at CT
    clear hG hK h1 h2 hp hpl htl hl hs h5
    generalize str (putT l g g2 c) = P at *
    generalize str l = L at *
    generalize str s = S at *
    generalize (c.toNat : Int) = ci at *
    rcases HS with ⟨T, C1, C2⟩ | ⟨k, C1⟩
    all_goals
      go_enter Tryd.func4, Tryd.ntmps4
      go_upto_region 2 with (go_at_call 5; (with_reducible refine (CF.out _ hB0).mono ?_); rintro e w1 ⟨rfl, hb1⟩; dsimp only)
      go_upto_region 6 with (go_at_call 8; (with_reducible refine (CP.out _ hb1).mono ?_); rintro e w2 ⟨rfl, hb2⟩; (have hB2 := bel_call hb1 hb2); dsimp only)
      go_upto_region 9 with (go_at_call 10; (with_reducible refine (CT.out _ hB2).mono ?_); rintro e w3 ⟨rfl, hb3⟩; (have hB3 := bel_call hB2 hb3); dsimp only)
      go_upto_region 10 with (go_at_call 10; (with_reducible refine (C1.out _ hB3).mono ?_); rintro e w4 ⟨rfl, hb4⟩; (have hB4 := bel_call hB3 hb4); dsimp only)
    · go_wp2_with (go_at_call 8; (with_reducible refine (C2.out _ hB4).mono ?_); rintro e w5 ⟨rfl, hb5⟩; (have hB5 := bel_call hB4 hb5); dsimp only)
      go_ret
      exact ⟨rfl, hB5⟩
    · go_wp2_with fail
      go_ret
      exact ⟨rfl, hB4⟩
  · have CP := Lib.hid (hG.putN (by omega) hp)
    clear hG hK hp hpl htl hl hs h5
    generalize putF l g g2 c = z at *
    generalize str l = L at *
    generalize str s = S at *
    generalize (c.toNat : Int) = ci at *
    rcases HS with ⟨T, C1, C2⟩ | ⟨k, C1⟩
    all_goals
      go_enter Tryd.func4, Tryd.ntmps4
      go_upto_region 2 with (go_at_call 5; (with_reducible refine (CF.out _ hB0).mono ?_); rintro e w1 ⟨rfl, hb1⟩; dsimp only)
      go_upto_region 9 with (go_at_call 8; (with_reducible refine (CP.out _ hb1).mono ?_); rintro e w2 ⟨rfl, hb2⟩; (have hB2 := bel_call hb1 hb2); dsimp only)
      go_upto_region 10 with (go_at_call 10; (with_reducible refine (C1.out _ hB2).mono ?_); rintro e w4 ⟨rfl, hb4⟩; (have hB4 := bel_call hB2 hb4); dsimp only)
    · go_wp2_with (go_at_call 8; (with_reducible refine (C2.out _ hB4).mono ?_); rintro e w5 ⟨rfl, hb5⟩; (have hB5 := bel_call hB4 hb5); dsimp only)
      go_ret
      exact ⟨rfl, hB5⟩
    · go_wp2_with fail
      go_ret
      exact ⟨rfl, hB4⟩
end Gr
end Go.Proofs.YtbacfehkalkmbaaDoor
