/- The law LangSame returns true. -/
import Derived.Test.YteedhnpdffnfjaaDoorLaSays
import Derived.Test.YteedhnpdffnfjaaDoorDecRef
namespace Go.Proofs.YteedhnpdffnfjaaDoor
namespace Ru
open Go.RowKit Go.Maps D

/-- neither few nor two -/
def Bare (K : List UInt8) : Prop := K ≠ [102, 101, 119] ∧ K ≠ [116, 119, 111]
theorem bare_one : Bare [111, 110, 101] := by unfold Bare; decide
theorem bare_other : Bare [111, 116, 104, 101, 114] := by unfold Bare; decide
theorem bare_zero : Bare [122, 101, 114, 111] := by unfold Bare; decide
theorem bare_en (I V W F T : Int) : Bare (kindS [[], enOneB, [], [], []] I V W F T) := by
  rw [en_kind]; split
  · exact bare_one
  · exact bare_other
theorem bare_fr (I V W F T : Int) : Bare (kindS [[], frOneB, [], [], []] I V W F T) := by
  rw [fr_kind]; split
  · exact bare_one
  · exact bare_other
theorem bare_ja (I V W F T : Int) : Bare (kindS [[], [], [], [], []] I V W F T) := bare_other
theorem bare_lv (I V W F T : Int) : Bare (kindS [lvZeroB, lvOneB, [], [], []] I V W F T) := by
  rcases lv_kind I V W F T with h | h | h <;> rw [h]
  · exact bare_zero
  · exact bare_one
  · exact bare_other
theorem bare_ar {c s : Int} (h : Right c s) (hw : c.tmod (ten s) ≠ 0) : Bare (kindS [arZeroB, arOneB, arTwoB, arFewB, arManyB] (opsI c s) s (opsW c s) (opsF c s) (opsT c s)) := by
  rw [ar_kind (ops_bounds h).1.1, if_neg fun hT => hw (whole_of h hT)]
  exact bare_other
set_option maxRecDepth 100000 in
theorem neq_en (w : World) : (binOp .neq 23 (.agg #[.string (str []), .string (str enOneB), .string (str []), .string (str []), .string (str [])]) (.agg #[.string (str []), .string (str enOneB), .string (str []), .string (str []), .string (str [])])).run Tryd.prog w = .ok (.bool false) w := by kernel_rfl
set_option maxHeartbeats 8000000 in
set_option maxRecDepth 100000 in
theorem same_one (x z o t f m : List UInt8) (c s : Int) (w : World) (hR : RulesOk w) (hE : Env w) (hN : Names w) (hr : RightS z o t f m) (hl : ∀ x ∈ [z, o, t, f, m], x.length ≤ 1073741824)
    (h2 : ∀ W, Below w.heap.size w W → Calls Tryd.prog 8 #[.string (str x)] W (Says W z o t f m))
    (hb : Right c s → s ≠ 0 → c.tmod (ten s) ≠ 0 → Bare (kindS [z, o, t, f, m] (opsI c s) s (opsW c s) (opsF c s) (opsT c s))) :
    Calls Tryd.prog 7 #[.string (str x), .agg #[.int .i64 c, .int .i64 s]] w (TrueB w) := by
  have HB0 : Hid (Bs w _ [_]) := Lib.hid (bs_one w [.int .i64 c, .int .i64 s] 36)
  have hb0 := HB0.out.below
  have CN := Lib.hid (show ∀ W, Below w.heap.size w W → Calls Tryd.prog 8 #[.string ⟨#[101, 110]⟩] W (Says W [] enOneB [] [] []) from hR.en)
  have CD := Lib.hid (show ∀ W, Below w.heap.size w W → Calls Tryd.prog 8 #[.string ⟨#[100, 101]⟩] W (Says W [] enOneB [] [] []) from hR.de)
  have C2 := Lib.hid h2
  have hne := neq_en
  have hen : (enOneB == []) = false := rfl
  have CKY := Lib.hid fun (hd : Right c s) (W : World) (hW : Below w.heap.size w W) => kind_good z o t f m c s W hl (hE.later hW) (hN.later hW) hr hd
  have CKN := Lib.hid fun (hd : ¬ Right c s) (W : World) (hW : Below w.heap.size w W) => (kind_bad z o t f m c s W hl (hE.later hW)).2 hr hd
  have CT := Lib.hid fun (hd : Right c s) (W : World) => refTen_any s W hd.1 hd.2.1
  have HBA := Lib.hid hb
  clear h2 hR hE hN hr hl hb
  obtain ⟨d0, d1, -⟩ := HB0.out.cells
  go_enter Tryd.func7, Tryd.ntmps7
  go_upto_region 2 with (go_at_call 8; (with_reducible refine (CN.out _ hb0).mono ?_); rintro e w1 ⟨rfl, hb1⟩; dsimp only)
  have HB1 := Lib.hid ((HB0.out.call hb1).alloc [.string (str []), .string (str enOneB), .string (str []), .string (str []), .string (str [])] 23)
  have hB1 := HB1.out.below
  go_upto_region 3 with (go_at_call 8; (with_reducible refine (CD.out _ hB1).mono ?_); rintro e w2 ⟨rfl, hb2⟩; dsimp only)
  have HB2 := Lib.hid ((HB1.out.call hb2).alloc [.string (str []), .string (str enOneB), .string (str []), .string (str []), .string (str [])] 23)
  have hB2 := HB2.out.below
  go_upto_region 4 with (go_at_call 8; (with_reducible refine (C2.out _ hB2).mono ?_); rintro e w3 ⟨rfl, hb3⟩; dsimp only)
  have HB3 := Lib.hid ((HB2.out.call hb3).alloc [.string (str z), .string (str o), .string (str t), .string (str f), .string (str m)] 23)
  have hB3 := HB3.out.below
  clear CN CD C2 d0 d1
  obtain ⟨z0, z1, z2, z3, z4, y0, y1, y2, y3, y4, x0, x1, x2, x3, x4, d0, d1, -⟩ := HB3.out.cells
  go_upto_region 6 with fail
  clear y0 y1 y2 y3 y4 x0 x1 x2 x3 x4 hne hen
  by_cases hd : Right c s
  · have CK := Lib.hid (CKY.out hd)
    have CT2 := Lib.hid (CT.out hd)
    have hW := HBA.out hd
    have ht0 := ten_pos s
    have ht9 := ten_le_nine hd.1 hd.2.1
    have hcb := hd.2.2
    clear CKY CKN CT HBA hd
    generalize kindS [z, o, t, f, m] (opsI c s) s (opsW c s) (opsF c s) (opsT c s) = K at *
    generalize ten s = tt at *
    go_upto_region 9 with (go_at_call 11; (with_reducible refine (CK.out _ hB3).mono ?_); rintro e w4 ⟨rfl, hb4⟩; (have HB4 := Lib.hid (HB3.out.call hb4)); (have hB4 := HB4.out.below); dsimp only)
    clear z0 z1 z2 z3 z4 d0 d1 CK
    obtain ⟨-, -, -, -, -, -, -, -, -, -, -, -, -, -, -, d0, d1, -⟩ := HB4.out.cells
    by_cases hs : s = 0
    · subst hs
      clear CT2 hW ht0 ht9 hcb
      go_quiet (fail)
      all_goals
        (try go_wp2_with fail)
        go_ret
        exact ⟨rfl, (by repeat (first | exact hB4 | exact below_drewN hB4 _ | refine Below.drew ?_))⟩
    · have hs' : (s == 0) = false := by simpa using hs
      have htz : ¬ tt = 0 := by omega
      obtain ⟨r, hr⟩ : ∃ r : Int, c.tmod tt = r := ⟨_, rfl⟩
      have hr1 : r < tt := by rw [← hr]; exact Int.tmod_lt_of_pos c ht0
      have hr2 : -r < tt := by rw [← hr, ← Int.neg_tmod]; exact Int.tmod_lt_of_pos (-c) ht0
      have hwr : IntKind.i64.wrap r = r := by rw [IntKind.wrap_i64]; omega
      rw [hr] at hW
      by_cases h0 : r = 0
      · subst h0
        clear hW hcb hr1 hr2
        go_quiet ((go_at_call 15; with_reducible exact quiet_same CT2.out _ _))
        all_goals
          (try go_wp2_with fail)
          go_ret
          exact ⟨rfl, (by repeat (first | exact hB4 | exact below_drewN hB4 _ | refine Below.drew ?_))⟩
      · obtain ⟨k1, k2⟩ := hW hs h0
        have h0' : (r == 0) = false := by simpa using h0
        have e1 : (K == [102, 101, 119]) = false := by simpa using k1
        have e2 : (K == [116, 119, 111]) = false := by simpa using k2
        have e3 : (K != [102, 101, 119]) = true := by simpa using k1
        have e4 : (K != [116, 119, 111]) = true := by simpa using k2
        clear hW hcb hr1 hr2 k1 k2
        go_quiet ((go_at_call 15; with_reducible exact quiet_same CT2.out _ _))
        all_goals
          (try go_wp2_with fail)
          go_ret
          exact ⟨rfl, (by repeat (first | exact hB4 | exact below_drewN hB4 _ | refine Below.drew ?_))⟩
  · have CK := Lib.hid (CKN.out hd)
    clear CKY CKN CT HBA hd
    go_wp2_with (go_at_call 11; (with_reducible refine (CK.out _ hB3).mono ?_); rintro e w4 ⟨rfl, hb4⟩; (have hB4 := bel_call hB3 hb4); dsimp only)
    go_ret
    exact ⟨rfl, hB4⟩
set_option maxHeartbeats 8000000 in
set_option maxRecDepth 100000 in
/-- of a text that is no language's -/
theorem same_no (x : List UInt8) (c s : Int) (w : World) (hR : RulesOk w) (hE : Env w) (hN : Names w) (hx : x ∉ codes) :
    Calls Tryd.prog 7 #[.string (str x), .agg #[.int .i64 c, .int .i64 s]] w (TrueB w) := by
  have HB0 : Hid (Bs w _ [_]) := Lib.hid (bs_one w [.int .i64 c, .int .i64 s] 36)
  have hb0 := HB0.out.below
  have CN := Lib.hid (show ∀ W, Below w.heap.size w W → Calls Tryd.prog 8 #[.string ⟨#[101, 110]⟩] W (Says W [] enOneB [] [] []) from hR.en)
  have CD := Lib.hid (show ∀ W, Below w.heap.size w W → Calls Tryd.prog 8 #[.string ⟨#[100, 101]⟩] W (Says W [] enOneB [] [] []) from hR.de)
  have C2 := Lib.hid fun (W : World) (hW : Below w.heap.size w W) => hR.no x W hx hW
  have hne := neq_en
  have hen : (enOneB == []) = false := rfl
  obtain ⟨kt, kv, CK⟩ : ∃ (kt : ByteArray) (kv : Value), Hid (∀ W, Below w.heap.size w W → Calls Tryd.prog 11 #[.agg #[.string (str []), .string (str []), .string (str []), .string (str []), .string (str [])], .agg #[.int .i64 c, .int .i64 s]] W (Gives W (.tuple #[.string kt, kv]))) := by
    by_cases hd : Right c s
    · exact ⟨_, _, Lib.hid fun W hW => ja_tells hd W (hE.later hW) (hN.later hW)⟩
    · exact ⟨_, _, Lib.hid fun W hW => (kind_bad [] [] [] [] [] c s W jaLen (hE.later hW)).2 jaRight hd⟩
  clear hR hE hN hx
  obtain ⟨d0, d1, -⟩ := HB0.out.cells
  go_enter Tryd.func7, Tryd.ntmps7
  go_upto_region 2 with (go_at_call 8; (with_reducible refine (CN.out _ hb0).mono ?_); rintro e w1 ⟨rfl, hb1⟩; dsimp only)
  have HB1 := Lib.hid ((HB0.out.call hb1).alloc [.string (str []), .string (str enOneB), .string (str []), .string (str []), .string (str [])] 23)
  have hB1 := HB1.out.below
  go_upto_region 3 with (go_at_call 8; (with_reducible refine (CD.out _ hB1).mono ?_); rintro e w2 ⟨rfl, hb2⟩; dsimp only)
  have HB2 := Lib.hid ((HB1.out.call hb2).alloc [.string (str []), .string (str enOneB), .string (str []), .string (str []), .string (str [])] 23)
  have hB2 := HB2.out.below
  go_upto_region 4 with (go_at_call 8; (with_reducible refine (C2.out _ hB2).mono ?_); rintro e w3 ⟨rfl, hb3⟩; dsimp only)
  have HB3 := Lib.hid ((HB2.out.call hb3).alloc [.string (str []), .string (str []), .string (str []), .string (str []), .string (str [])] 23)
  have hB3 := HB3.out.below
  clear CN CD C2 d0 d1
  obtain ⟨z0, z1, z2, z3, z4, y0, y1, y2, y3, y4, x0, x1, x2, x3, x4, d0, d1, -⟩ := HB3.out.cells
  go_upto_region 6 with fail
  clear y0 y1 y2 y3 y4 x0 x1 x2 x3 x4 hne hen
  go_wp2_with (go_at_call 11; (with_reducible refine (CK.out _ hB3).mono ?_); rintro e w4 ⟨rfl, hb4⟩; (have hB4 := bel_call hB3 hb4); dsimp only)
  go_ret
  exact ⟨rfl, hB4⟩
theorem lang_same_any (x : List UInt8) (c s : Int) (w : World) (hR : RulesOk w) (hE : Env w) (hN : Names w) :
    Calls Tryd.prog 7 #[.string (str x), .agg #[.int .i64 c, .int .i64 s]] w (TrueB w) := by
  by_cases hx : x ∈ codes
  · unfold codes at hx
    simp only [List.mem_cons, List.not_mem_nil, or_false] at hx
    rcases hx with rfl | rfl | rfl | rfl | rfl | rfl | rfl | rfl
    · exact same_one [101, 110] [] enOneB [] [] [] c s w hR hE hN enRight enLen (fun W hW => hR.en W hW) (fun _ _ _ => bare_en _ _ _ _ _)
    · exact same_one [100, 101] [] enOneB [] [] [] c s w hR hE hN enRight enLen (fun W hW => hR.de W hW) (fun _ _ _ => bare_en _ _ _ _ _)
    · exact same_one [102, 114] [] frOneB [] [] [] c s w hR hE hN frRight frLen (fun W hW => hR.fr W hW) (fun _ _ _ => bare_fr _ _ _ _ _)
    · exact same_one [106, 97] [] [] [] [] [] c s w hR hE hN jaRight jaLen (fun W hW => hR.ja W hW) (fun _ _ _ => bare_ja _ _ _ _ _)
    · exact same_one [112, 108] [] enOneB [] plFewB plManyB c s w hR hE hN plRight plLen (fun W hW => hR.pl W hW) (fun hd hs _ => by rw [pl_whole (ops_bounds hd).1.1 hs]; exact bare_other)
    · exact same_one [114, 117] [] ruOneB [] plFewB ruManyB c s w hR hE hN ruRight ruLen (fun W hW => hR.ru W hW) (fun hd hs _ => by rw [ru_whole (ops_bounds hd).1.1 hs]; exact bare_other)
    · exact same_one [97, 114] arZeroB arOneB arTwoB arFewB arManyB c s w hR hE hN arRight arLen (fun W hW => hR.ar W hW) (fun hd _ hw => bare_ar hd hw)
    · exact same_one [108, 118] lvZeroB lvOneB [] [] [] c s w hR hE hN lvRight lvLen (fun W hW => hR.lv W hW) (fun _ _ _ => bare_lv _ _ _ _ _)
  · exact same_no x c s w hR hE hN hx
end Ru
end Go.Proofs.YteedhnpdffnfjaaDoor
