/- The program's Parse of a pattern; its three functions' contracts. -/
import Derived.Test.YtonbjfepckolnaaDoorNpSizes
import Derived.Test.YtonbjfepckolnaaDoorNpText
import Derived.Test.YtonbjfepckolnaaDoorNpSays
import Derived.Test.YtonbjfepckolnaaDoorCutOne
import Derived.Test.YtonbjfepckolnaaDoorPut7
namespace Go.Proofs.YtonbjfepckolnaaDoor
namespace Np
open Go.RowKit Go.Maps D Ru

/-- what Parse returns -/
def ParsE (s : List UInt8) (w : World) (e : Ending) (w' : World) : Prop := e = .returned (.tuple #[patV ((patO s).getD zeroP), errV (patE s)]) ∧ Below w.heap.size w w'
theorem ParsE.none {s : List UInt8} {w w' : World} (h : patO s = none) (hb : Below w.heap.size w w') : ParsE s w (.returned (.tuple #[.agg #[.string ⟨#[]⟩, .string ⟨#[]⟩, .int .i64 0, .int .i64 0, .int .i64 0, .int .i64 0, .int .i64 0], .iface 25 (.int .i64 3)])) w' :=
  ⟨by rw [show patE s = 3 by unfold patE; rw [h]; rfl, h]; rfl, hb⟩
theorem ParsE.some {s : List UInt8} {p : PatV} {w w' : World} (h : patO s = some p) (hb : Below w.heap.size w w') : ParsE s w (.returned (.tuple #[patV p, .nilIface])) w' :=
  ⟨by rw [show patE s = 0 by unfold patE; rw [h]; rfl, h]; rfl, hb⟩
set_option maxHeartbeats 4000000 in
set_option maxRecDepth 100000 in
theorem parse_none (s : List UInt8) (w : World) (hs : s.length ≤ 140737488355328) (hT : Tabs w) (h1 : firstI s = -1) (h2 : ∀ c ∈ s, mark c = false) : Calls Tryd.prog 12 #[.string (str s)] w (ParsE s w) := by
  have HB0 : Hid (Bs w _ [_]) := Lib.hid (bs_one w zeroC 23)
  have CF := Lib.hid (fun W => first_any (str s) W (by rw [str_len]; exact hs))
  have CL := Lib.hid (fun W hW => last_any (str s) W (by rw [str_len]; exact hs) (hT.later (W := W) hW))
  rw [str_data, h1] at CF
  rw [str_data] at CL
  have HN := Lib.hid (none_of h2)
  clear h1 h2 hs
  have hbel := HB0.out.below
  generalize hS : str s = S at *
  clear hS
  generalize lastI s = li at *
  obtain ⟨d0, d1, d2, d3, d4, d5, d6, -⟩ := HB0.out.cells
  go_enter Tryd.func12, Tryd.ntmps12
  go_upto_region 3 with (first
    | (go_at_call 19; (with_reducible refine (CF.out _).mono ?_); rintro e w1 ⟨rfl, hb1⟩; (have HB1 := Lib.hid (HB0.out.call hb1)); (have hbel1 := HB1.out.below))
    | (go_at_call 20; (with_reducible refine (CL.out _ hbel1).mono ?_); rintro e w2 ⟨rfl, hb2⟩; (have HB2 := Lib.hid (HB1.out.call hb2))))
  clear d0 d1 d2 d3 d4 d5 d6
  obtain ⟨d0, d1, d2, d3, d4, d5, d6, -⟩ := HB2.out.cells
  have f0 := HB2.out.free (j := 0) (i := 0) rfl rfl
  have f1 := HB2.out.free (j := 0) (i := 1) rfl rfl
  have f2 := HB2.out.free (j := 0) (i := 2) rfl rfl
  have f3 := HB2.out.free (j := 0) (i := 3) rfl rfl
  have f4 := HB2.out.free (j := 0) (i := 4) rfl rfl
  have f5 := HB2.out.free (j := 0) (i := 5) rfl rfl
  have f6 := HB2.out.free (j := 0) (i := 6) rfl rfl
  have H3 := HB2.out.put7 (.string ⟨#[]⟩) (.string ⟨#[]⟩) (.int .i64 0) (.int .i64 0) (.int .i64 0) (.int .i64 0) (.int .i64 0)
  go_wp2_with fail
  obtain ⟨z0, z1, z2, z3, z4, z5, z6, -⟩ := H3.cells
  refine bodyPost_ret (v := .tuple #[.agg #[.string ⟨#[]⟩, .string ⟨#[]⟩, .int .i64 0, .int .i64 0, .int .i64 0, .int .i64 0, .int .i64 0], .iface 25 (.int .i64 3)]) ?_ rfl (.none HN.out H3.below)
  simp [results, Tryd.results12, go_sem, z0, z1, z2, z3, z4, z5, z6]
theorem ext_mid (s : List UInt8) (i t : Nat) : (str s).extract i t = str ((s.drop i).take (t - i)) := by
  apply ba_ext
  rw [ByteArray.data_extract, Array.toList_extract, str_data, str_data, List.extract_eq_take_drop]
theorem ext_suf (s : List UInt8) (t : Nat) : (str s).extract t (str s).size = str (s.drop t) := by
  rw [ext_mid, str_len, List.take_of_length_le (by rw [List.length_drop]; omega)]
set_option maxHeartbeats 8000000 in
set_option maxRecDepth 100000 in
theorem parse_ends (s : List UInt8) (w : World) (hs : s.length ≤ 140737488355328) (hT : Tabs w) (i t : Nat) (h1 : firstI s = i) (h2 : lastI s = (t : Int) - 1) (hit : i < t) (hE : Ends s i t) : Calls Tryd.prog 12 #[.string (str s)] w (ParsE s w) := by
  have HB0 : Hid (Bs w _ [_]) := Lib.hid (bs_one w zeroC 23)
  have CF := Lib.hid (fun W => first_any (str s) W (by rw [str_len]; exact hs))
  have CL := Lib.hid (fun W hW => last_any (str s) W (by rw [str_len]; exact hs) (hT.later (W := W) hW))
  rw [str_data, h1] at CF
  rw [str_data, h2] at CL
  have hts := hE.tl
  have hdec := hE.cand
  obtain ⟨D, hD⟩ : ∃ D, D = decP s := ⟨_, rfl⟩
  rw [← hD] at hdec
  have e1 := ext_pre (s.take i) (s.drop i)
  rw [List.take_append_drop, List.length_take, Nat.min_eq_left (by omega)] at e1
  have e2 := ext_suf s t
  have e3 := ext_mid s i t
  have hsz := str_len s
  have hMl : ((s.drop i).take (t - i)).length ≤ 140737488355328 := by rw [List.length_take, List.length_drop]; omega
  have hp1 : D.pre.length ≤ 140737488355328 := by rw [hdec]; show (s.take i).length ≤ _; rw [List.length_take]; omega
  have hp2 : D.suf.length ≤ 140737488355328 := by rw [hdec]; show (s.drop t).length ≤ _; rw [List.length_drop]; omega
  have CT := Lib.hid (fun W => text_any D W hp1 hp2)
  rw [show patV D = .agg #[.string (str (s.take i)), .string (str (s.drop t)), .int .i64 (List.count 48 (wholeP ((s.drop i).take (t - i))) : Nat), .int .i64 (List.count 48 (partP ((s.drop i).take (t - i))) : Nat), .int .i64 ((partP ((s.drop i).take (t - i))).length : Nat), .int .i64 ((decI (wholeP ((s.drop i).take (t - i)))).2.1 : Nat), .int .i64 ((decI (wholeP ((s.drop i).take (t - i)))).2.2 : Nat)] by rw [hdec]] at CT
  have HV : Hid (patV D = .agg #[.string (str (s.take i)), .string (str (s.drop t)), .int .i64 (List.count 48 (wholeP ((s.drop i).take (t - i))) : Nat), .int .i64 (List.count 48 (partP ((s.drop i).take (t - i))) : Nat), .int .i64 ((partP ((s.drop i).take (t - i))).length : Nat), .int .i64 ((decI (wholeP ((s.drop i).take (t - i)))).2.1 : Nat), .int .i64 ((decI (wholeP ((s.drop i).take (t - i)))).2.2 : Nat)]) := Lib.hid (by rw [hdec])
  have HO : Hid ((patF D = 0 ∧ patT D = s → patO s = some D) ∧ (¬ (patF D = 0 ∧ patT D = s) → patO s = none)) := Lib.hid (by
    unfold patO
    rw [← hD]
    exact ⟨fun h => if_pos h, fun h => if_neg h⟩)
  clear hdec hD hp1 hp2 hE h1 h2
  generalize (s.drop i).take (t - i) = M at *
  have hcs := cut_sep_size 46 (str M)
  rw [str_data] at hcs
  have CC := Lib.hid (fun W => cut_sep 46 (str M) W (by rw [str_len]; exact hMl))
  rw [str_data] at CC
  have hW : (str (wholeP M)).size ≤ 140737488355328 := by rw [str_len M] at hcs; unfold wholeP; omega
  have hFl : (str (partP M)).size = (partP M).length := str_len _
  rw [show (Lib.cut M [46]).1 = wholeP M from rfl, show (Lib.cut M [46]).2.1 = partP M from rfl] at CC
  have C1 := Lib.hid (fun W => Tryd.strings_Count_one (str (wholeP M)) 48 W)
  have C2 := Lib.hid (fun W => Tryd.strings_Count_one (str (partP M)) 48 W)
  rw [str_data, show Lib.countByte (wholeP M) 48 = List.count 48 (wholeP M) from rfl] at C1
  rw [str_data, show Lib.countByte (partP M) 48 = List.count 48 (partP M) from rfl] at C2
  have CZ := Lib.hid (fun W => sizes_any (wholeP M) W (by rw [str_len] at hW; exact hW))
  generalize (Lib.cut M [46]).2.2 = bb at *
  have HST : Hid (∀ l, str l = str s → l = s) := Lib.hid fun l h => by have := congrArg (fun x : ByteArray => x.data.toList) h; simpa using this
  clear hcs hMl hW
  generalize (partP M).length = n3 at *
  generalize str (wholeP M) = WS at *
  generalize str (partP M) = FS at *
  generalize str M = MS at *
  generalize List.count 48 (wholeP M) = n1 at *
  generalize List.count 48 (partP M) = n2 at *
  generalize (decI (wholeP M)).2.1 = g1 at *
  generalize (decI (wholeP M)).2.2 = g2 at *
  generalize str (s.take i) = P at *
  generalize str (s.drop t) = U at *
  have k1 : ¬ ((i : Nat) : Int) < 0 := by omega
  have k2 : (0 : Int) ≤ (i : Int) := by omega
  have k3 : (i : Int) ≤ (t : Int) := by omega
  have k4 : (t : Int) ≤ ((str s).size : Int) := by omega
  have k5 : (i : Int) ≤ ((str s).size : Int) := by omega
  have k6 : (0 : Int) ≤ (t : Int) := by omega
  have k7 : IntKind.i64.wrap ((t : Int) - 1 + 1) = (t : Int) := by rw [IntKind.wrap_i64]; omega
  have k8 : IntKind.i64.wrap (t : Int) = (t : Int) := by rw [IntKind.wrap_i64]; omega
  clear hsz hts hit hs
  have hbel := HB0.out.below
  generalize hS : str s = S at *
  obtain ⟨d0, d1, d2, d3, d4, d5, d6, -⟩ := HB0.out.cells
  go_enter Tryd.func12, Tryd.ntmps12
  go_upto_region 5 with (first
    | (go_at_call 19; (with_reducible refine (CF.out _).mono ?_); rintro e w1 ⟨rfl, hb1⟩; (have HB1 := Lib.hid (HB0.out.call hb1)); (have hbel1 := HB1.out.below))
    | (go_at_call 20; (with_reducible refine (CL.out _ hbel1).mono ?_); rintro e w2 ⟨rfl, hb2⟩; (have HB2 := Lib.hid (HB1.out.call hb2)))
    | (go_at_call 21; (with_reducible refine (CC.out _).mono ?_); rintro e w3 ⟨rfl, nd, rfl⟩; dsimp only))
  have HB3 := Lib.hid (HB2.out.drewN nd)
  clear d0 d1 d2 d3 d4 d5 d6
  generalize w2.drewN nd = W2 at *
  have hB0 := Below.refl W2.heap.size W2
  go_region_held3 (fun wx => Below W2.heap.size W2 wx)
    (first | assumption | exact Below.drew (by assumption) | exact up_alloc (by assumption) _ | exact Below.drew (up_alloc (by assumption) _))
    (first
      | (go_at_call 22; (with_reducible refine (C1.out _).mono ?_); rintro e wy ⟨rfl, rfl⟩)
      | (go_at_call 22; (with_reducible refine (C2.out _).mono ?_); rintro e wy ⟨rfl, rfl⟩))
  all_goals
    have HB5 := Lib.hid ((HB3.out.alloc [.string P, .string U, .int .i64 (n1 : Int), .int .i64 (n2 : Int), .int .i64 (n3 : Int), .int .i64 0, .int .i64 0] 23).drew)
    generalize hW5 : (W2.alloc (.cells #[.string P, .string U, .int .i64 (n1 : Int), .int .i64 (n2 : Int), .int .i64 (n3 : Int), .int .i64 0, .int .i64 0] 23)).drew = W5 at *
    clear hW5
    have q5 := HB5.out.free (j := 0) (i := 5) rfl rfl
    have q6 := HB5.out.free (j := 0) (i := 6) rfl rfl
    obtain ⟨c0, c1, c2, c3, c4, c5, c6, -⟩ := HB5.out.cells
    go_upto_region 7 with (go_at_call 23; (with_reducible refine (CZ.out _).mono ?_); rintro e wy ⟨rfl, rfl⟩; dsimp only)
    have HB6 : Hid (Bs w ((wy.setCell ⟨W2.heap.size, 5, none⟩ (.int .i64 (g1 : Int))).setCell ⟨W2.heap.size, 6, none⟩ (.int .i64 (g2 : Int))) [(W2.heap.size, [.string P, .string U, .int .i64 (n1 : Int), .int .i64 (n2 : Int), .int .i64 (n3 : Int), .int .i64 (g1 : Int), .int .i64 (g2 : Int)]), (w.heap.size, zeroC)]) := Lib.hid ((HB5.out.set (j := 0) (i := 5) rfl (.int .i64 (g1 : Int))).set (j := 0) (i := 6) rfl (.int .i64 (g2 : Int)))
    clear c0 c1 c2 c3 c4 c5 c6 q5 q6
    generalize (wy.setCell ⟨W2.heap.size, 5, none⟩ (.int .i64 (g1 : Int))).setCell ⟨W2.heap.size, 6, none⟩ (.int .i64 (g2 : Int)) = W6 at *
    obtain ⟨c0, c1, c2, c3, c4, c5, c6, -⟩ := HB6.out.cells
    by_cases hp : patF D = 0
    · have CY := fun W => textE_yes (CT.out W) hp
      rw [show patX D = patT D from if_pos hp] at CY
      by_cases ht : patT D = s
      · have HS := Lib.hid (HO.out.1 ⟨hp, ht⟩)
        rw [ht, hS] at CY
        have CY := Lib.hid CY
        clear hp ht CT HO
        go_upto_region 8 with (go_at_call 10; (with_reducible refine (CY.out _).mono ?_); rintro e wt ⟨rfl, hbt⟩; (have HB7 := Lib.hid (HB6.out.call hbt)); dsimp only)
        have r0 := HB7.out.free (j := 1) (i := 0) rfl rfl
        have r1 := HB7.out.free (j := 1) (i := 1) rfl rfl
        have r2 := HB7.out.free (j := 1) (i := 2) rfl rfl
        have r3 := HB7.out.free (j := 1) (i := 3) rfl rfl
        have r4 := HB7.out.free (j := 1) (i := 4) rfl rfl
        have r5 := HB7.out.free (j := 1) (i := 5) rfl rfl
        have r6 := HB7.out.free (j := 1) (i := 6) rfl rfl
        clear c0 c1 c2 c3 c4 c5 c6
        obtain ⟨c0, c1, c2, c3, c4, c5, c6, d0, d1, d2, d3, d4, d5, d6, -⟩ := HB7.out.cells
        have H3 := HB7.out.put7b (.string P) (.string U) (.int .i64 (n1 : Int)) (.int .i64 (n2 : Int)) (.int .i64 (n3 : Int)) (.int .i64 (g1 : Int)) (.int .i64 (g2 : Int))
        go_wp2_with fail
        obtain ⟨-, -, -, -, -, -, -, z0, z1, z2, z3, z4, z5, z6, -⟩ := H3.cells
        refine bodyPost_ret (v := .tuple #[.agg #[.string P, .string U, .int .i64 (n1 : Int), .int .i64 (n2 : Int), .int .i64 (n3 : Int), .int .i64 (g1 : Int), .int .i64 (g2 : Int)], .nilIface]) ?_ rfl (by rw [← HV.out]; exact .some HS.out H3.below)
        simp [results, Tryd.results12, go_sem, z0, z1, z2, z3, z4, z5, z6]
      · have HN := Lib.hid (HO.out.2 fun h => ht h.2)
        have hne : str (patT D) ≠ S := fun h => ht (HST.out _ h)
        have hne1 := (toList_ne hne).1
        have hne2 := (toList_ne hne).2
        have CY := Lib.hid CY
        clear hp ht CT HO hne
        generalize str (patT D) = T at *
        go_upto_region 8 with (go_at_call 10; (with_reducible refine (CY.out _).mono ?_); rintro e wt ⟨rfl, hbt⟩; (have HB7 := Lib.hid (HB6.out.call hbt)); dsimp only)
        have r0 := HB7.out.free (j := 1) (i := 0) rfl rfl
        have r1 := HB7.out.free (j := 1) (i := 1) rfl rfl
        have r2 := HB7.out.free (j := 1) (i := 2) rfl rfl
        have r3 := HB7.out.free (j := 1) (i := 3) rfl rfl
        have r4 := HB7.out.free (j := 1) (i := 4) rfl rfl
        have r5 := HB7.out.free (j := 1) (i := 5) rfl rfl
        have r6 := HB7.out.free (j := 1) (i := 6) rfl rfl
        clear c0 c1 c2 c3 c4 c5 c6
        obtain ⟨c0, c1, c2, c3, c4, c5, c6, d0, d1, d2, d3, d4, d5, d6, -⟩ := HB7.out.cells
        have H3 := HB7.out.put7b (.string ⟨#[]⟩) (.string ⟨#[]⟩) (.int .i64 0) (.int .i64 0) (.int .i64 0) (.int .i64 0) (.int .i64 0)
        go_wp2_with fail
        obtain ⟨-, -, -, -, -, -, -, z0, z1, z2, z3, z4, z5, z6, -⟩ := H3.cells
        refine bodyPost_ret (v := .tuple #[.agg #[.string ⟨#[]⟩, .string ⟨#[]⟩, .int .i64 0, .int .i64 0, .int .i64 0, .int .i64 0, .int .i64 0], .iface 25 (.int .i64 3)]) ?_ rfl (.none HN.out H3.below)
        simp [results, Tryd.results12, go_sem, z0, z1, z2, z3, z4, z5, z6]
    · have HN := Lib.hid (HO.out.2 fun h => hp h.1)
      have CY := Lib.hid (fun W => textE_no (CT.out W) hp (if_neg hp))
      clear hp CT HO
      generalize patF D = z at *
      go_upto_region 8 with (go_at_call 10; (with_reducible refine (CY.out _).mono ?_); rintro e wt ⟨rfl, hbt⟩; (have HB7 := Lib.hid (HB6.out.call hbt)); dsimp only)
      have r0 := HB7.out.free (j := 1) (i := 0) rfl rfl
      have r1 := HB7.out.free (j := 1) (i := 1) rfl rfl
      have r2 := HB7.out.free (j := 1) (i := 2) rfl rfl
      have r3 := HB7.out.free (j := 1) (i := 3) rfl rfl
      have r4 := HB7.out.free (j := 1) (i := 4) rfl rfl
      have r5 := HB7.out.free (j := 1) (i := 5) rfl rfl
      have r6 := HB7.out.free (j := 1) (i := 6) rfl rfl
      clear c0 c1 c2 c3 c4 c5 c6
      obtain ⟨c0, c1, c2, c3, c4, c5, c6, d0, d1, d2, d3, d4, d5, d6, -⟩ := HB7.out.cells
      have H3 := HB7.out.put7b (.string ⟨#[]⟩) (.string ⟨#[]⟩) (.int .i64 0) (.int .i64 0) (.int .i64 0) (.int .i64 0) (.int .i64 0)
      go_wp2_with fail
      obtain ⟨-, -, -, -, -, -, -, z0, z1, z2, z3, z4, z5, z6, -⟩ := H3.cells
      refine bodyPost_ret (v := .tuple #[.agg #[.string ⟨#[]⟩, .string ⟨#[]⟩, .int .i64 0, .int .i64 0, .int .i64 0, .int .i64 0, .int .i64 0], .iface 25 (.int .i64 3)]) ?_ rfl (.none HN.out H3.below)
      simp [results, Tryd.results12, go_sem, z0, z1, z2, z3, z4, z5, z6]
theorem parse_any (s : List UInt8) (w : World) (hs : s.length ≤ 140737488355328) (hT : Tabs w) : Calls Tryd.prog 12 #[.string (str s)] w (ParsE s w) := by
  rcases ends_cases s with ⟨h1, h2⟩ | ⟨i, t, h1, h2, h3, h4⟩
  · exact parse_none s w hs hT h1 h2
  · exact parse_ends s w hs hT i t h1 h2 h3 h4
theorem parse_ok (N : Nat) (w : World) (hN : N ≤ 140737488355328) (hT : Tabs w) : ParseOk N w := fun s W hW hs => parse_any s W (by omega) (hT.later hW)
theorem text_ok (N : Nat) (w : World) (hN : N ≤ 140737488355328) : TextOk N w := fun p W _ h1 h2 => text_any p W (by omega) (by omega)
end Np
end Go.Proofs.YtonbjfepckolnaaDoor
