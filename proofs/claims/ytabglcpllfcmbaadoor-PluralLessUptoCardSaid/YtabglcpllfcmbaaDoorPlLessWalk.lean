/- The law PluralLess returns true. -/
import Derived.Test.YtabglcpllfcmbaaDoorPlLaw
namespace Go.Proofs.YtabglcpllfcmbaaDoor
namespace Ru
open Go.RowKit Go.Maps D

/-- the kinds that are told: with all rules, without many's, without few's and many's -/
theorem three_kinds (z o t f m : List UInt8) (I V W F T : Int) :
    (∃ K : List UInt8, (K = [122, 101, 114, 111] ∨ K = [111, 110, 101] ∨ K = [116, 119, 111] ∨ K = [111, 116, 104, 101, 114]) ∧ kindS [z, o, t, f, m] I V W F T = K ∧ kindS [z, o, t, f, []] I V W F T = K ∧ kindS [z, o, t, [], []] I V W F T = K) ∨
    (kindS [z, o, t, f, m] I V W F T = [102, 101, 119] ∧ kindS [z, o, t, f, []] I V W F T = [102, 101, 119] ∧ kindS [z, o, t, [], []] I V W F T = [111, 116, 104, 101, 114]) ∨
    (kindS [z, o, t, f, m] I V W F T = [109, 97, 110, 121] ∧ kindS [z, o, t, f, []] I V W F T = [111, 116, 104, 101, 114] ∧ kindS [z, o, t, [], []] I V W F T = [111, 116, 104, 101, 114]) := by
  unfold kindS
  simp only [List.map, hit_nil]
  generalize hitB I V W F T z = b0
  generalize hitB I V W F T o = b1
  generalize hitB I V W F T t = b2
  generalize hitB I V W F T f = b3
  generalize hitB I V W F T m = b4
  cases b0
  · cases b1
    · cases b2
      · cases b3
        · cases b4
          · exact .inl ⟨_, .inr (.inr (.inr rfl)), rfl, rfl, rfl⟩
          · exact .inr (.inr ⟨rfl, rfl, rfl⟩)
        · exact .inr (.inl ⟨rfl, rfl, rfl⟩)
      · exact .inl ⟨_, .inr (.inr (.inl rfl)), rfl, rfl, rfl⟩
    · exact .inl ⟨_, .inr (.inl rfl), rfl, rfl, rfl⟩
  · exact .inl ⟨_, .inl rfl, rfl, rfl, rfl⟩
theorem right_less {z o t f m : List UInt8} (h : RightS z o t f m) : RightS z o t f [] ∧ RightS z o t [] [] := by
  have h0 := h z (by simp)
  have h1 := h o (by simp)
  have h2 := h t (by simp)
  have h3 := h f (by simp)
  constructor
  · intro x hx
    simp only [List.mem_cons, List.not_mem_nil, or_false] at hx
    rcases hx with rfl | rfl | rfl | rfl | rfl
    · exact h0
    · exact h1
    · exact h2
    · exact h3
    · exact .inl rfl
  · intro x hx
    simp only [List.mem_cons, List.not_mem_nil, or_false] at hx
    rcases hx with rfl | rfl | rfl | rfl | rfl
    · exact h0
    · exact h1
    · exact h2
    · exact .inl rfl
    · exact .inl rfl
theorem len_less {z o t f m : List UInt8} {n : Nat} (h : ∀ x ∈ [z, o, t, f, m], x.length ≤ n) : (∀ x ∈ [z, o, t, f, []], x.length ≤ n) ∧ (∀ x ∈ [z, o, t, [], []], x.length ≤ n) := by
  have h0 := h z (by simp)
  have h1 := h o (by simp)
  have h2 := h t (by simp)
  have h3 := h f (by simp)
  constructor
  · intro x hx
    simp only [List.mem_cons, List.not_mem_nil, or_false] at hx
    rcases hx with rfl | rfl | rfl | rfl | rfl
    · exact h0
    · exact h1
    · exact h2
    · exact h3
    · exact Nat.zero_le _
  · intro x hx
    simp only [List.mem_cons, List.not_mem_nil, or_false] at hx
    rcases hx with rfl | rfl | rfl | rfl | rfl
    · exact h0
    · exact h1
    · exact h2
    · exact Nat.zero_le _
    · exact Nat.zero_le _
set_option maxHeartbeats 8000000 in
set_option maxRecDepth 100000 in
theorem less_any (z o t f m : List UInt8) (c s : Int) (w : World) (hs : ∀ x ∈ [z, o, t, f, m], x.length ≤ 1073741824) (hE : Env w) (hN : Names w) :
    Calls Tryd.prog 4 #[.agg #[.string (str z), .string (str o), .string (str t), .string (str f), .string (str m)], .agg #[.int .i64 c, .int .i64 s]] w (TrueB w) := by
  have HB0 := Lib.hid (bs_two w [.string (str z), .string (str o), .string (str t), .string (str f), .string (str m)] [.int .i64 c, .int .i64 s] 23 25)
  have CF := Lib.hid fun (W : World) (hW : Below w.heap.size w W) => fact_one W (hE.later hW) (hN.later hW)
  have hb0 := HB0.out.below
  by_cases hg : RightS z o t f m ∧ Right c s
  · obtain ⟨hr, hd⟩ := hg
    have CK := Lib.hid fun (W : World) (hW : Below w.heap.size w W) => kind_good z o t f m c s W hs (hE.later hW) (hN.later hW) hr hd
    have CA := Lib.hid fun (W : World) (hW : Below w.heap.size w W) => (show Calls Tryd.prog 5 #[.agg #[.string (str z), .string (str o), .string (str t), .string (str f), .string ⟨#[]⟩], .agg #[.int .i64 c, .int .i64 s]] W (KindYes W (str (kindS [z, o, t, f, []] (opsI c s) s (opsW c s) (opsF c s) (opsT c s)))) from kind_good z o t f [] c s W (len_less hs).1 (hE.later hW) (hN.later hW) (right_less hr).1 hd)
    have CB := Lib.hid fun (W : World) (hW : Below w.heap.size w W) => (show Calls Tryd.prog 5 #[.agg #[.string (str z), .string (str o), .string (str t), .string ⟨#[]⟩, .string ⟨#[]⟩], .agg #[.int .i64 c, .int .i64 s]] W (KindYes W (str (kindS [z, o, t, [], []] (opsI c s) s (opsW c s) (opsF c s) (opsT c s)))) from kind_good z o t [] [] c s W (len_less hs).2 (hE.later hW) (hN.later hW) (right_less hr).2 hd)
    have H3 := Lib.hid (three_kinds z o t f m (opsI c s) s (opsW c s) (opsF c s) (opsT c s))
    clear hs hE hN hr hd
    generalize kindS [z, o, t, f, m] (opsI c s) s (opsW c s) (opsF c s) (opsT c s) = KS at *
    generalize kindS [z, o, t, f, []] (opsI c s) s (opsW c s) (opsF c s) (opsT c s) = KA at *
    generalize kindS [z, o, t, [], []] (opsI c s) s (opsW c s) (opsF c s) (opsT c s) = KB at *
    obtain ⟨d0, d1, x0, x1, x2, x3, x4, -⟩ := HB0.out.cells
    go_enter Tryd.func4, Tryd.ntmps4
    go_upto_region 2 with (go_at_call 5; (with_reducible refine (CF.out _ hb0).mono ?_); rintro e w1 ⟨rfl, hb1⟩; (have hB1 := bel_call hb0 hb1); (have HB1 := Lib.hid (HB0.out.call hb1)); dsimp only)
    clear d0 d1 x0 x1 x2 x3 x4
    obtain ⟨d0, d1, x0, x1, x2, x3, x4, -⟩ := HB1.out.cells
    go_upto_region 7 with (go_at_call 5; (with_reducible refine (CK.out _ hB1).mono ?_); rintro e w2 ⟨rfl, hb2⟩; (have hB2 := bel_call hB1 hb2); (have HB2 := Lib.hid (HB1.out.call hb2)); dsimp only)
    clear d0 d1 x0 x1 x2 x3 x4
    obtain ⟨d0, d1, x0, x1, x2, x3, x4, -⟩ := HB2.out.cells
    go_upto_region 8 with fail
    have HB3 := Lib.hid (HB2.out.alloc [.string (str z), .string (str o), .string (str t), .string (str f), .string (str m)] 23)
    clear d0 d1 x0 x1 x2 x3 x4
    have f4 := HB3.out.free (j := 0) (i := 4) rfl rfl
    have c4 := HB3.out.cell (j := 0) (i := 4) rfl rfl
    go_upto_region 9 with fail
    have HB4 := Lib.hid (HB2.out.alloc [.string (str z), .string (str o), .string (str t), .string (str f), .string ⟨#[]⟩] 23)
    have hB4 := HB4.out.below
    clear f4 c4 HB3
    obtain ⟨y0, y1, y2, y3, y4, d0, d1, -⟩ := HB4.out.cells
    go_upto_region 10 with (go_at_call 5; (with_reducible refine (CA.out _ hB4).mono ?_); rintro e w5 ⟨rfl, hb5⟩; (have hB5 := bel_call hB4 hb5); (have HB5 := Lib.hid (HB4.out.call hb5)); dsimp only)
    clear y0 y1 y2 y3 y4 d0 d1
    have f3 := HB5.out.free (j := 0) (i := 3) rfl rfl
    have c3 := HB5.out.cell (j := 0) (i := 3) rfl rfl
    go_upto_region 11 with fail
    have HB6 : Hid (Bs w _ _) := Lib.hid (HB5.out.set (j := 0) (i := 3) rfl (.string ⟨#[]⟩))
    have hB6 := HB6.out.below
    clear f3 c3
    obtain ⟨y0, y1, y2, y3, y4, d0, d1, -⟩ := HB6.out.cells
    go_upto_region 12 with (go_at_call 5; (with_reducible refine (CB.out _ hB6).mono ?_); rintro e w7 ⟨rfl, hb7⟩; (have hB7 := bel_call hB6 hb7); dsimp only)
    clear y0 y1 y2 y3 y4 d0 d1 CF CK CA CB
    rcases H3.out with ⟨K, hK, rfl, rfl, rfl⟩ | ⟨rfl, rfl, rfl⟩ | ⟨rfl, rfl, rfl⟩
    · rcases hK with rfl | rfl | rfl | rfl
      · go_wp2_with fail
        go_ret
        exact ⟨rfl, hB7⟩
      · go_wp2_with fail
        go_ret
        exact ⟨rfl, hB7⟩
      · go_wp2_with fail
        go_ret
        exact ⟨rfl, hB7⟩
      · go_wp2_with fail
        go_ret
        exact ⟨rfl, hB7⟩
    · go_wp2_with fail
      go_ret
      exact ⟨rfl, hB7⟩
    · go_wp2_with fail
      go_ret
      exact ⟨rfl, hB7⟩
  · obtain ⟨kk, CK⟩ : ∃ kk : Nat, Hid (∀ W, Below w.heap.size w W → Calls Tryd.prog 5 #[.agg #[.string (str z), .string (str o), .string (str t), .string (str f), .string (str m)], .agg #[.int .i64 c, .int .i64 s]] W (KindNo W kk)) := by
      by_cases hr : RightS z o t f m
      · exact ⟨1, Lib.hid fun W hW => (kind_bad z o t f m c s W hs (hE.later hW)).2 hr (fun hd => hg ⟨hr, hd⟩)⟩
      · exact ⟨3, Lib.hid fun W hW => (kind_bad z o t f m c s W hs (hE.later hW)).1 hr⟩
    clear hs hE hN hg
    obtain ⟨d0, d1, x0, x1, x2, x3, x4, -⟩ := HB0.out.cells
    go_enter Tryd.func4, Tryd.ntmps4
    go_upto_region 2 with (go_at_call 5; (with_reducible refine (CF.out _ hb0).mono ?_); rintro e w1 ⟨rfl, hb1⟩; (have hB1 := bel_call hb0 hb1); (have HB1 := Lib.hid (HB0.out.call hb1)); dsimp only)
    clear d0 d1 x0 x1 x2 x3 x4
    obtain ⟨d0, d1, x0, x1, x2, x3, x4, -⟩ := HB1.out.cells
    go_wp2_with (go_at_call 5; (with_reducible refine (CK.out _ hB1).mono ?_); rintro e w2 ⟨rfl, hb2⟩; (have hB2 := bel_call hB1 hb2); dsimp only)
    go_ret
    exact ⟨rfl, hB2⟩
end Ru
end Go.Proofs.YtabglcpllfcmbaaDoor
