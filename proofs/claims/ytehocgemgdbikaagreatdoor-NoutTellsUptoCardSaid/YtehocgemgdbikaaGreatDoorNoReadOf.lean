/- The reference's number of a text, by a pattern; what lay in memory stays as it was. -/
import Derived.Test.YtehocgemgdbikaaGreatDoorNoShown
import Derived.Test.YtehocgemgdbikaaGreatDoorDecRefFault
namespace Go.Proofs.YtehocgemgdbikaaGreatDoor
namespace No
open Go.RowKit Go.Maps D Ru Np

theorem starts_any (t : List UInt8) (w : World) (hs : t.length ≤ 140737488355328) : Calls Tryz.prog 34 #[.string (str t), .string ⟨#[45]⟩] w fun e w' => e = .returned (.bool (negT t)) ∧ w = w' := by
  have hsz : (str t).size = t.length := by rw [D.ba_size, str_data]
  have hx : ((str t).extract 0 1).toList = t.take 1 := by
    rw [ByteArray.toList_eq, ByteArray.data_extract, Array.toList_extract, str_data, List.extract_eq_take_drop]; simp
  by_cases h1 : 1 ≤ t.length
  · have h1i : (1 : Int) ≤ ((str t).size : Int) := by omega
    cases hn : negT t
    all_goals
      have hb : (((str t).extract 0 1).toList == [45]) = negT t := by rw [hx]; rfl
      rw [hn] at hb
      clear hx hn
      generalize str t = S at *
      go_enter Tryz.func34, Tryz.ntmps34
      go_wp2_with fail
      go_ret
      exact ⟨rfl, rfl⟩
  · have h1i : ¬ ((1 : Int) ≤ ((str t).size : Int)) := by omega
    obtain rfl : t = [] := List.eq_nil_of_length_eq_zero (by omega)
    rw [show negT [] = false from rfl]
    clear hx h1
    generalize str [] = S at *
    go_enter Tryz.func34, Tryz.ntmps34
    go_wp2_with fail
    go_ret
    exact ⟨rfl, rfl⟩
/-- the last byte of a text -/
theorem last_at {X : List UInt8} {j : Nat} (h : X.length = j + 1) (S : ByteArray) (hS : S = str X) (hj : j < S.size) : X.getLast? = some (S[j]'hj) := by
  subst hS
  rw [List.getLast?_eq_getElem?, h, Nat.add_sub_cancel]
  show _ = some X.toArray[j]
  rw [List.getElem?_eq_getElem (by omega)]; simp
theorem strip_stay {X : List UInt8} {k : Nat} (h : ¬ (0 < k ∧ X.getLast? = some 48)) : stripL X k = (X, k) := by
  cases k with
  | zero => rfl
  | succ k => exact strip_no fun e => h ⟨Nat.succ_pos _, e⟩
/-- what is read of the middle, from a place on -/
def restT (pt : UInt8) (U : List UInt8) (M k : Nat) (B : Bool) : List UInt8 × Nat := scanL pt ((U.take M).drop k) B
theorem rest_end (pt : UInt8) {U : List UInt8} {M k : Nat} (B : Bool) (h : M ≤ k) : restT pt U M k B = ([], 0) := by
  unfold restT
  rw [List.drop_eq_nil_of_le (by rw [List.length_take]; omega)]; rfl
theorem rest_cons {U : List UInt8} {M k : Nat} (hM : M ≤ U.length) (h : k < M) : (U.take M).drop k = U[k] :: (U.take M).drop (k + 1) := by
  rw [List.drop_eq_getElem_cons (by rw [List.length_take]; omega), List.getElem_take]
theorem rest_dig {pt : UInt8} {U : List UInt8} {M k : Nat} (B : Bool) (hM : M ≤ U.length) (h : k < M) (hd : Gr.Dg U[k]) :
    restT pt U M k B = (U[k] :: (restT pt U M (k + 1) (B || U[k] == pt)).1, (if B || U[k] == pt then 1 else 0) + (restT pt U M (k + 1) (B || U[k] == pt)).2) := by
  unfold restT
  rw [rest_cons hM h, scan_dig _ _ hd]
theorem rest_skip {pt : UInt8} {U : List UInt8} {M k : Nat} (B : Bool) (hM : M ≤ U.length) (h : k < M) (hd : ¬ Gr.Dg U[k]) :
    restT pt U M k B = restT pt U M (k + 1) (B || U[k] == pt) := by
  unfold restT
  rw [rest_cons hM h, scan_skip _ _ hd]
theorem byte_eq (a b : UInt8) : ((a.toNat : Int) == (b.toNat : Int)) = (a == b) := by
  rw [Bool.eq_iff_iff, beq_iff_eq, beq_iff_eq, ← UInt8.toNat_inj]; omega
theorem one_at (U : List UInt8) (k : Nat) (h : k < U.length) : (str U).extract k (k + 1) = str [U[k]] := by
  apply ba_ext
  rw [ByteArray.data_extract, Array.toList_extract, str_data, str_data, List.extract_eq_take_drop, Nat.add_sub_cancel_left, List.drop_eq_getElem_cons h]
  rfl
theorem drop_one (U : List UInt8) : (str U).extract 1 U.length = str (U.drop 1) := by
  apply ba_ext
  rw [ByteArray.data_extract, Array.toList_extract, str_data, str_data, List.extract_eq_take_drop]
  exact List.take_of_length_le (by rw [List.length_drop]; omega)
theorem take_less (U : List UInt8) : (str U).extract 0 (U.length - 1) = str U.dropLast := by
  apply ba_ext
  rw [ByteArray.data_extract, Array.toList_extract, str_data, str_data, List.extract_eq_take_drop, List.dropLast_eq_take]
  simp
theorem bare_len (t : List UInt8) : (bareT t).length ≤ t.length := by unfold bareT; split <;> simp
set_option maxHeartbeats 8000000 in
set_option maxRecDepth 100000 in
theorem refReadOf_any (p : PatV) (pt cm : UInt8) (t : List UInt8) (w : World) (h : patF p = 0) (ht : t.length ≤ 140737488355328) :
    Calls Tryz.prog 13 #[patV p, symV pt cm, .string (str t)] w (Gives w (.tuple #[.agg #[.int .i64 ((readO p pt cm t).getD (0, 0)).1, .int .i64 (((readO p pt cm t).getD (0, 0)).2 : Nat)], .bool (readO p pt cm t).isSome])) := by
  have CSH := Lib.hid fun (c s : Int) (hr : Right c s) W => refShown_any p pt cm c s W h hr
  have CF := Lib.hid fun (c s : Int) W => refFault_any c s W
  have CST := Lib.hid fun W => starts_any t W ht
  obtain ⟨⟨⟨hp5, -⟩, ⟨hs5, -⟩⟩, ⟨-, ⟨m0, m6⟩, -⟩, -⟩ := patF_zero.1 h
  have hFAR := Lib.hid fun hx => readO_far (p := p) (pt := pt) (cm := cm) (t := t) hx
  have hBIG := Lib.hid fun hx => readO_none (p := p) (pt := pt) (cm := cm) (t := t) hx
  have hFIT := Lib.hid fun h1 h2 => readO_fit (p := p) (pt := pt) (cm := cm) (t := t) h1 h2
  have hRC := Lib.hid (readC_eq p pt t)
  have hDG := Lib.hid (scanT_digs p pt t)
  obtain ⟨pre, suf, a, b, m, g, g2⟩ := p
  have HSC : Hid (scanT ⟨pre, suf, a, b, m, g, g2⟩ pt t = stripL (restT pt (bareT t) ((bareT t).length - suf.length) pre.length false).1 (restT pt (bareT t) ((bareT t).length - suf.length) pre.length false).2) := Lib.hid rfl
  have HCN : Hid ((restT pt (bareT t) ((bareT t).length - suf.length) pre.length false).2 ≤ (restT pt (bareT t) ((bareT t).length - suf.length) pre.length false).1.length) := Lib.hid (scan_count _ _ _).1
  have HB0 : Hid (Bs w _ [(w.heap.size + 2, [.int .i64 0, .int .i64 0]), (w.heap.size + 1, symC pt cm), (w.heap.size, patC ⟨pre, suf, a, b, m, g, g2⟩)]) := Lib.hid (by
    have := ((bs_one w (patC ⟨pre, suf, a, b, m, g, g2⟩) 23).alloc (symC pt cm) 25).alloc [.int .i64 0, .int .i64 0] 27
    simp only [World.size_alloc] at this
    exact this)
  generalize readO ⟨pre, suf, a, b, m, g, g2⟩ pt cm t = o at *
  dsimp only [patV, patC, symV, symC] at HB0 CSH ⊢
  dsimp only at hp5 hs5 m0 m6
  have hpz : (str pre).size = pre.length := by rw [D.ba_size, str_data]
  have hsz : (str suf).size = suf.length := by rw [D.ba_size, str_data]
  generalize hPR : str pre = PR at *
  generalize hSU : str suf = SU at *
  have hul := bare_len t
  have hUD : Hid (negT t = true → bareT t = t.drop 1 ∧ 1 ≤ t.length ∧ sgnT t = -1) := Lib.hid fun hn => by
    refine ⟨by unfold bareT; rw [if_pos hn], ?_, by unfold sgnT; rw [if_pos hn]⟩
    cases t with
    | nil => exact absurd hn (by decide)
    | cons x r => simp
  have hUN : Hid (negT t = false → bareT t = t ∧ sgnT t = 1) := Lib.hid fun hn => ⟨by unfold bareT; rw [if_neg (by rw [hn]; decide)], by unfold sgnT; rw [if_neg (by rw [hn]; decide)]⟩
  have hsg : sgnT t = -1 ∨ sgnT t = 1 := by unfold sgnT; split <;> simp
  have htz : (str t).size = t.length := by rw [D.ba_size, str_data]
  have HDR := Lib.hid (drop_one t)
  go_enter Tryz.func13, Tryz.ntmps13
  go_upto_region 1 with fail
  generalize ((w.alloc (.cells #[.string PR, .string SU, .int .i64 a, .int .i64 b, .int .i64 m, .int .i64 g, .int .i64 g2] 23)).alloc (.cells #[.int .u8 (pt.toNat : Int), .int .u8 (cm.toNat : Int)] 25)).alloc (.cells #[.int .i64 0, .int .i64 0] 27) = W0 at *
  obtain ⟨r0, r1, s0, s1, p0, p1, p2, p3, p4, p5, p6, -⟩ := HB0.out.cells
  go_upto_if 19 with (go_at_call 34; (with_reducible refine (CST.out _).mono ?_); rintro e w1 ⟨rfl, rfl⟩)
  go_cut [8, 9] (fun s8 s9 wx => (s8 = .int .i64 (sgnT t) ∧ s9 = .string (str (bareT t))) ∧ W0 = wx)
  case first =>
    cases hn : negT t
    · obtain ⟨e1, e2⟩ := hUN.out hn
      have E1 := Lib.hid e1
      have E2 := Lib.hid e2
      clear hUD hUN hn e1 e2
      go_wp2_with fail
      go_meet
      exact ⟨⟨by rw [E2.out], by rw [E1.out]⟩, rfl⟩
    · obtain ⟨e1, e3, e2⟩ := hUD.out hn
      have E1 := Lib.hid (congrArg str e1)
      have E2 := Lib.hid e2
      clear hUD hUN hn e1 e2
      have hd := HDR.out
      rw [← htz] at hd
      have HD2 := Lib.hid hd
      clear hd HDR
      have h1i : (1 : Int) ≤ ((str t).size : Int) := by omega
      generalize str t = TT at *
      go_wp2_with fail
      go_meet
      exact ⟨⟨by rw [E2.out], by rw [E1.out, ← HD2.out, htz]⟩, rfl⟩
  case rest =>
    obtain ⟨⟨rfl, rfl⟩, rfl⟩ := hcut
    clear hUD hUN HDR
    generalize bareT t = U at *
    generalize hM : U.length - suf.length = M at *
    generalize hDT : (restT pt U M pre.length false).1 = DT at *
    generalize hNT : (restT pt U M pre.length false).2 = NT at *
    have hUz : (str U).size = U.length := by rw [D.ba_size, str_data]
    have hMU : M ≤ U.length := by omega
    have HDG2 := Lib.hid fun (B : Bool) (k : Nat) (h1 : k < M) (h2 : Gr.Dg (U[k]'(by omega))) => rest_dig (pt := pt) (U := U) (M := M) (k := k) B hMU h1 h2
    have HSK2 := Lib.hid fun (B : Bool) (k : Nat) (h1 : k < M) (h2 : ¬ Gr.Dg (U[k]'(by omega))) => rest_skip (pt := pt) (U := U) (M := M) (k := k) B hMU h1 h2
    have HEN2 := Lib.hid fun (B : Bool) (k : Nat) (h1 : M ≤ k) => rest_end pt (U := U) (M := M) (k := k) B h1
    have HSB : ∀ S : ByteArray, S = str U → ∀ (k : Nat) (hk : k < U.length) (hk' : k < S.size), S[k]'hk' = U[k] := by
      rintro _ rfl k hk hk'
      show U.toArray[k] = U[k]; simp
    have HON : ∀ S : ByteArray, S = str U → ∀ (k : Nat) (hk : k < U.length), S.extract k (k + 1) = str [U[k]] := by
      rintro _ rfl k hk
      exact one_at U k hk
    have HST : Hid (restT pt U M pre.length false = (DT, NT)) := Lib.hid (by rw [← hDT, ← hNT])
    clear hDT hNT
    generalize hpl : pre.length = pl at *
    generalize hsl : suf.length = sl at *
    clear hpl hsl
    obtain ⟨S, hS⟩ : ∃ S, S = str U := ⟨_, rfl⟩
    have HSB := Lib.hid (HSB S hS)
    have HON := Lib.hid (HON S hS)
    rw [← hS] at hUz ⊢
    clear hS
    go_upto_region 9 with fail
    go_wp2_with fail
    go_loopw [10, 11, 12, 13] (fun d sc bh i wx => ∃ (k d2 n : Nat) (DD : List UInt8) (B : Bool), d = .string (str DD) ∧ sc = .int .i64 n ∧ bh = .bool B ∧ i = .int .i64 k ∧ W0.drewN d2 = wx ∧ n ≤ DD.length ∧ DD.length ≤ k ∧ (k ≤ M ∨ k = pl) ∧ Hid (DD ++ (restT pt U M k B).1 = DT ∧ n + (restT pt U M k B).2 = NT)) (fun _ _ _ i _ => U.length - (intOf i).toNat)
    case atStart => exact ⟨pl, 0, 0, [], false, rfl, rfl, rfl, by first | rfl | rw [hpz], rfl, Nat.zero_le _, Nat.zero_le _, .inr rfl, Lib.hid (by rw [HST.out]; simp)⟩
    case round =>
      obtain ⟨k, d2, n, DD, B, rfl, rfl, rfl, rfl, rfl, hn1, hn2, hkM, HR⟩ := hrel
      have q2 : (W0.drewN d2).cell? ⟨w.heap.size, 1, none⟩ = some (.string SU) := by simpa using p1
      have q3 : (W0.drewN d2).cell? ⟨w.heap.size + 1, 0, none⟩ = some (.int .u8 pt.toNat) := by simpa using s0
      have hwr : IntKind.i64.wrap ((S.size : Int) - (SU.size : Int)) = (S.size : Int) - (SU.size : Int) := by rw [IntKind.wrap_i64]; omega
      by_cases hlt : k < M
      · have hki : (k : Int) < (S.size : Int) - (SU.size : Int) := by omega
        have hk1 : (k : Int) < (S.size : Int) := by omega
        have hkU : k < U.length := by omega
        have hkS : k < S.size := by omega
        have hb1 := HSB.out k hkU hkS
        have ho1 := HON.out k hkU
        rw [← hb1] at ho1
        have HO := Lib.hid ho1
        have HDr : Hid (Gr.Dg S[k] → restT pt U M k B = (S[k] :: (restT pt U M (k + 1) (B || S[k] == pt)).1, (if B || S[k] == pt then 1 else 0) + (restT pt U M (k + 1) (B || S[k] == pt)).2)) := Lib.hid (by
          have := HDG2.out B k hlt
          rw [← hb1] at this
          exact this)
        have HSr : Hid (¬ Gr.Dg S[k] → restT pt U M k B = restT pt U M (k + 1) (B || S[k] == pt)) := Lib.hid (by
          have := HSK2.out B k hlt
          rw [← hb1] at this
          exact this)
        clear hb1 ho1
        go_upto_region 12 with fail
        go_cut [12] (fun s12 wx => s12 = .bool (B || S[k] == pt) ∧ ∃ d3, W0.drewN d3 = wx)
        case first =>
          clear HDr HSr HO HR
          cases B
          · go_quiet (fail)
            go_wp2_with fail
            go_meet
            exact ⟨val_b (by rw [byte_eq]; rfl), d2 + nq, by simp⟩
          · go_quiet (fail)
            go_wp2_with fail
            go_meet
            exact ⟨rfl, d2 + nq, by simp⟩
        case rest =>
          obtain ⟨rfl, d3, rfl⟩ := hcut
          generalize hC : (B || S[k] == pt) = C at *
          clear hC q2 q3
          by_cases hd : Gr.Dg S[k]
          · have hr := HR.out
            rw [HDr.out hd] at hr
            obtain ⟨g1, g2'⟩ := hd
            have h48 : (48 : Int) ≤ (S[k].toNat : Int) := by omega
            have h57 : (S[k].toNat : Int) ≤ 57 := by omega
            have hk2 : (k : Int) + 1 ≤ (S.size : Int) := by omega
            have hDz : (str DD).size = DD.length := by rw [D.ba_size, str_data]
            have HAD : Hid (str DD ++ S.extract k (k + 1) = str (DD ++ [S[k]])) := Lib.hid (by rw [HO.out, Np.add_str])
            have hE1 : (S.extract k (k + 1)).size = 1 := by rw [HO.out, D.ba_size, str_data]; rfl
            have hHR : Hid ((DD ++ [S[k]]) ++ (restT pt U M (k + 1) C).1 = DT ∧ n + (if C then 1 else 0) + (restT pt U M (k + 1) C).2 = NT) := Lib.hid (by
              obtain ⟨h1, h2⟩ := hr
              exact ⟨by rw [← h1]; simp, by rw [← h2]; simp only []; omega⟩)
            have hadd : ¬ 9223372036854775807 < (str DD).size + 1 := by omega
            have hadd2 : ¬ 9223372036854775807 < (str DD).size + (S.extract k (k + 1)).size := by omega
            clear hr HDr HSr HR HO g1 g2'
            generalize str DD = DS at *
            cases C
            · go_wp2_with fail
              go_roundw
              case rel => exact ⟨k + 1, d3, n, DD ++ [S[k]], false, by rw [← HAD.out], rfl, rfl, by go_num, rfl, by simp; omega, by simp; omega, .inl (by omega), by simpa using hHR⟩
              case measure => simp [intOf]; omega
            · go_wp2_with fail
              go_roundw
              case rel => exact ⟨k + 1, d3, n + 1, DD ++ [S[k]], true, by rw [← HAD.out], by go_num, rfl, by go_num, rfl, by simp; omega, by simp; omega, .inl (by omega), by simpa using hHR⟩
              case measure => simp [intOf]; omega
          · have hr := HR.out
            rw [HSr.out hd] at hr
            have hHR := Lib.hid hr
            clear hr HDr HSr HR HO
            by_cases h48 : (48 : Int) ≤ (S[k].toNat : Int)
            · have h57 : ¬ (S[k].toNat : Int) ≤ 57 := fun h => hd ⟨by omega, by omega⟩
              clear hd
              go_wp2_with fail
              go_roundw
              case rel => exact ⟨k + 1, d3, n, DD, C, rfl, rfl, rfl, by go_num, rfl, hn1, by omega, .inl (by omega), hHR⟩
              case measure => simp [intOf]; omega
            · clear hd
              go_wp2_with fail
              go_roundw
              case rel => exact ⟨k + 1, d3, n, DD, C, rfl, rfl, rfl, by go_num, rfl, hn1, by omega, .inl (by omega), hHR⟩
              case measure => simp [intOf]; omega
      · have hki : ¬ (k : Int) < (S.size : Int) - (SU.size : Int) := by omega
        have hr := HR.out
        rw [HEN2.out B k (by omega)] at hr
        obtain ⟨rfl, rfl⟩ : DD = DT ∧ n = NT := ⟨by simpa using hr.1, by simpa using hr.2⟩
        have hDL : DD.length ≤ 140737488355328 := by omega
        have HB1 := Lib.hid (HB0.out.drewN d2)
        clear hr HR HDG2 HSK2 HEN2 HSB HON HST hkM hn2
        go_upto_region 17 with fail
        clear q2 q3 r0 r1 s0 s1 p0 p1 p2 p3 p4 p5 p6 HB0
        generalize W0.drewN d2 = W1 at *
        obtain ⟨r0, r1, s0, s1, p0, p1, p2, p3, p4, p5, p6, -⟩ := HB1.out.cells
        generalize hL : (stripL DD n).1 = L at *
        generalize hK : (stripL DD n).2 = K at *
        have HLK : Hid (stripL DD n = (L, K)) := Lib.hid (by rw [← hL, ← hK])
        have HSC2 := Lib.hid (HSC.out.trans HLK.out)
        have HLK2 := HLK
        go_loopg [10, 11] n (fun gh d sc wx => ∃ X : List UInt8, d = .string (str X) ∧ sc = .int .i64 gh ∧ W1 = wx ∧ gh ≤ X.length ∧ X.length ≤ 140737488355328 ∧ Hid (stripL X gh = (L, K)))
        case atStart => exact ⟨DD, rfl, rfl, rfl, by first | assumption | omega, hDL, HLK⟩
        case round =>
          obtain ⟨X, rfl, rfl, rfl, hX1, hX2, HX⟩ := hrel
          have hXz : (str X).size = X.length := by rw [D.ba_size, str_data]
          have HTL := Lib.hid (take_less X)
          obtain ⟨C, HC⟩ := flag (0 < gk ∧ X.getLast? = some 48)
          obtain ⟨XS, hXS⟩ : ∃ XS, XS = str X := ⟨_, rfl⟩
          have HLA := Lib.hid fun j (hj : X.length = j + 1) => last_at hj XS hXS
          rw [← hXS] at hXz HTL ⊢
          have HXS := Lib.hid hXS
          clear hXS
          go_upto_region 17 with fail
          go_cut [73] (fun s73 wx => s73 = .bool C ∧ W1 = wx)
          case first =>
            clear HTL HX
            cases gk with
            | zero =>
              have hc := HC.out.2 fun h => absurd h.1 (by omega)
              clear HC HLA
              go_wp2_with fail
              go_meet
              exact ⟨val_b hc.symm, rfl⟩
            | succ gk =>
              obtain ⟨j, hj⟩ : ∃ j, X.length = j + 1 := ⟨X.length - 1, by omega⟩
              have hjS : j < XS.size := by omega
              have hl := HLA.out j hj hjS
              have hw1 : (XS.size : Int) - 1 = (j : Int) := by omega
              have hji : (j : Int) < (XS.size : Int) := by omega
              have hw2 : IntKind.i64.wrap (j : Int) = (j : Int) := by rw [IntKind.wrap_i64]; omega
              have hgi : (0 : Int) < ((gk : Int) + 1) := by omega
              by_cases h48 : (XS[j].toNat : Int) = 48
              · have hc := HC.out.1 ⟨by omega, by rw [hl]; congr 1; apply UInt8.toNat_inj.1; show _ = 48; omega⟩
                have hq : ((XS[j].toNat : Int) == 48) = true := by rw [beq_iff_eq]; exact h48
                clear HC HLA hl h48
                go_wp2_with fail
                go_meet
                exact ⟨val_b hc.symm, rfl⟩
              · have hc := HC.out.2 fun h => h48 (by
                  have := h.2
                  rw [hl] at this
                  rw [Option.some.inj this]; rfl)
                have hq : ((XS[j].toNat : Int) == 48) = false := by rw [beq_eq_false_iff_ne]; exact h48
                clear HC HLA hl h48
                go_wp2_with fail
                go_meet
                exact ⟨val_b hc.symm, rfl⟩
          case rest =>
            obtain ⟨rfl, rfl⟩ := hcut
            clear HLA
            cases hC : C
            · have hst := HX.out
              rw [strip_stay (HC.out.no hC)] at hst
              obtain ⟨rfl, rfl⟩ : X = L ∧ gk = K := Prod.mk.inj hst
              clear hst HTL HX HC hC hXz hL hK HLK2
              have hDX : Digs X := by have := hDG.out; rw [HSC2.out] at this; exact this
              have hXz : XS.size = X.length := by rw [HXS.out, D.ba_size, str_data]
              have HXB : Hid (∀ k (hk : k < X.length) (hk' : k < XS.size), XS[k]'hk' = X[k]) := Lib.hid (by
                have := HXS.out
                revert this
                rintro rfl
                intro k hk hk'
                show X.toArray[k] = X[k]; simp)
              have HSTP := Lib.hid fun k (hk : k < X.length) => addD_step X k hk
              have HTK := Lib.hid fun k => addD_take hDX k
              have HDX := Lib.hid hDX
              clear hDX
              go_upto_region 22 with fail
              go_loopw [14, 15] (fun nn i wx => ∃ (k : Nat) (z : Int), k ≤ X.length ∧ i = .int .i64 k ∧ nn = .int .i64 z ∧ 0 ≤ z ∧ z ≤ 1000000000000000 ∧ W1 = wx ∧ Hid (addD 0 (X.take k) = z)) (fun _ i _ => X.length - (intOf i).toNat)
              case atStart => exact ⟨0, 0, Nat.zero_le _, rfl, rfl, by omega, by omega, rfl, Lib.hid (by simp [addD])⟩
              case round =>
                obtain ⟨k, z, hk, rfl, rfl, hz0, hz1, rfl, HZ⟩ := hrel
                by_cases hlt : k < X.length
                · have hki : (k : Int) < (XS.size : Int) := by omega
                  have hkS : k < XS.size := by omega
                  have hb1 := HXB.out k hlt hkS
                  have hdg := HDX.out X[k] (List.getElem_mem hlt)
                  have hstp := HSTP.out k hlt
                  rw [HZ.out, ← hb1] at hstp
                  rw [← hb1] at hdg
                  obtain ⟨g48, g57⟩ := hdg
                  have hw1 : IntKind.u8.wrap ((XS[k].toNat : Int) - 48) = (XS[k].toNat : Int) - 48 := by
                    rw [IntKind.wrap_u8]; omega
                  have hw2 : IntKind.i64.wrap ((XS[k].toNat : Int) - 48) = (XS[k].toNat : Int) - 48 := by rw [IntKind.wrap_i64]; omega
                  have hw3 : IntKind.i64.wrap (10 * z) = 10 * z := by rw [IntKind.wrap_i64]; omega
                  have hw4 : IntKind.i64.wrap (10 * z + ((XS[k].toNat : Int) - 48)) = 10 * z + ((XS[k].toNat : Int) - 48) := by rw [IntKind.wrap_i64]; omega
                  have HZ2 := Lib.hid hstp
                  clear hb1 hstp
                  by_cases hbig : 1000000000000000 < 10 * z + ((XS[k].toNat : Int) - 48)
                  · have hno : o = none := hBIG.out (by
                      rw [HSC2.out]
                      have h1 := HTK.out (k + 1)
                      have h2 := HZ2.out
                      show 1000000000000000 < addD 0 X
                      omega)
                    clear hBIG hFAR hFIT
                    subst hno
                    obtain ⟨f0, f1⟩ := HB1.out.open2
                    go_wp2_with fail
                    have HF := HB1.out.put2 (.int .i64 0) (.int .i64 0)
                    obtain ⟨e0, e1, -⟩ := HF.cells
                    have hF := HF.below
                    clear HF
                    generalize (W1.setCell ⟨w.heap.size + 2, 0, none⟩ (.int .i64 0)).setCell ⟨w.heap.size + 2, 1, none⟩ (.int .i64 0) = W9 at *
                    refine bodyPost_ret (v := .tuple #[.agg #[.int .i64 0, .int .i64 0], .bool false]) ?_ rfl ⟨rfl, hF⟩
                    simp [results, Tryz.results13, go_sem, e0, e1]
                  · have hnb : 10 * z + ((XS[k].toNat : Int) - 48) ≤ 1000000000000000 := by omega
                    go_wp2_with fail
                    go_roundw
                    case rel =>
                      refine ⟨k + 1, _, by omega, by go_num, rfl, ?_, ?_, trivial, Lib.hid ?_⟩
                      · omega
                      · omega
                      · exact HZ2.out
                    case measure => simp [intOf]; omega
                · have hki : ¬ (k : Int) < (XS.size : Int) := by omega
                  have hzx : addD 0 X = z := by have := HZ.out; rwa [List.take_of_length_le (by omega)] at this
                  have hfit : gk ≤ m.toNat → o = if shownL ⟨pre, suf, a, b, m, g, g2⟩ pt cm (fitI ⟨pre, suf, a, b, m, g, g2⟩ (sgnT t * z) gk).1 (fitI ⟨pre, suf, a, b, m, g, g2⟩ (sgnT t * z) gk).2 = t then some (sgnT t * z, gk) else none := fun hgm => by
                    have h1 := hFIT.out (by rw [HSC2.out]; exact hgm) (by rw [HSC2.out]; show addD 0 X ≤ _; omega)
                    rw [hRC.out, HSC2.out] at h1
                    dsimp only at h1
                    rw [hzx] at h1
                    exact h1
                  have hfar : m.toNat < gk → o = none := fun hgm => hFAR.out (by rw [HSC2.out]; exact hgm)
                  have hv : IntKind.i64.wrap (sgnT t * z) = sgnT t * z := by
                    rw [IntKind.wrap_i64]
                    rcases hsg with e | e <;> rw [e] <;> omega
                  have hv1 : -1000000000000000 ≤ sgnT t * z ∧ sgnT t * z ≤ 1000000000000000 := by
                    rcases hsg with e | e <;> rw [e] <;> omega
                  clear hBIG hFAR hFIT hRC hDG HSC HSC2 HZ HTK HSTP HDX HXB hzx hsg hlt
                  have hv2 : wrap64 (sgnT t * z) = sgnT t * z := by unfold wrap64; omega
                  generalize sgnT t = sg at *
                  go_upto_region 28 with fail
                  clear hv hv2
                  generalize sg * z = V at *
                  have H2 := Lib.hid (HB1.out.alloc [.int .i64 V, .int .i64 gk] 27)
                  generalize W1.alloc (.cells #[.int .i64 V, .int .i64 (gk : Int)] 27) = W2 at *
                  clear r0 r1 s0 s1 p0 p1 p2 p3 p4 p5 p6
                  obtain ⟨v0, v1, r0, r1, s0, s1, p0, p1, p2, p3, p4, p5, p6, -⟩ := H2.out.cells
                  by_cases hKm : m.toNat < gk
                  · have hKi : m < (gk : Int) := by omega
                    have hno := hfar hKm
                    clear hfit hfar hKm
                    subst hno
                    obtain ⟨f0, f1⟩ := H2.out.open2b
                    go_wp2_with fail
                    have HF := H2.out.put2b (.int .i64 0) (.int .i64 0)
                    obtain ⟨-, -, e0, e1, -⟩ := HF.cells
                    have hF := HF.below
                    clear HF
                    generalize (W2.setCell ⟨w.heap.size + 2, 0, none⟩ (.int .i64 0)).setCell ⟨w.heap.size + 2, 1, none⟩ (.int .i64 0) = W9 at *
                    refine bodyPost_ret (v := .tuple #[.agg #[.int .i64 0, .int .i64 0], .bool false]) ?_ rfl ⟨rfl, hF⟩
                    simp [results, Tryz.results13, go_sem, e0, e1]
                  · have hKi : ¬ m < (gk : Int) := by omega
                    have hof := hfit (by omega)
                    have hR : Right V (gk : Int) := ⟨by omega, by omega, hv1.1, hv1.2⟩
                    have CF1 := Lib.hid (CF.out V gk)
                    rw [decide_eq_false (fun h => h hR)] at CF1
                    have CS1 := Lib.hid (CSH.out V gk hR)
                    rw [Int.toNat_natCast] at CS1
                    generalize shownL ⟨pre, suf, a, b, m, g, g2⟩ pt cm (fitI ⟨pre, suf, a, b, m, g, g2⟩ V gk).1 (fitI ⟨pre, suf, a, b, m, g, g2⟩ V gk).2 = SH at *
                    clear hfit hfar hKm CF CSH CST hR
                    by_cases heq : SH = t
                    · rw [if_pos heq] at hof
                      subst hof
                      subst heq
                      generalize str SH = TT at *
                      go_wp2_with (first
                        | (go_at_call 10; (with_reducible refine (CF1.out _).mono ?_); rintro e w3 ⟨rfl, hb3⟩; (have H3 := Lib.hid (H2.out.call hb3)); (obtain ⟨v0', v1', -, -, s0', s1', p0', p1', p2', p3', p4', p5', p6', -⟩ := H3.out.cells); dsimp only)
                        | (go_at_call 11; (with_reducible refine (CS1.out _).mono ?_); rintro e w4 ⟨rfl, hb4⟩; (have H4 := Lib.hid (H3.out.call hb4)); (obtain ⟨v0'', v1'', r0'', r1'', -⟩ := H4.out.cells); (obtain ⟨f0, f1⟩ := H4.out.open2b); dsimp only))
                      have HF := H4.out.put2b (.int .i64 V) (.int .i64 (gk : Int))
                      obtain ⟨-, -, e0, e1, -⟩ := HF.cells
                      have hF := HF.below
                      clear HF
                      generalize (w4.setCell ⟨w.heap.size + 2, 0, none⟩ (.int .i64 V)).setCell ⟨w.heap.size + 2, 1, none⟩ (.int .i64 (gk : Int)) = W9 at *
                      refine bodyPost_ret (v := .tuple #[.agg #[.int .i64 V, .int .i64 (gk : Int)], .bool true]) ?_ rfl ⟨rfl, hF⟩
                      simp [results, Tryz.results13, go_sem, e0, e1]
                    · rw [if_neg heq] at hof
                      subst hof
                      have hne : str SH ≠ str t := fun e => heq (by have := congrArg (fun b : ByteArray => b.data.toList) e; simpa using this)
                      have hne1 := (toList_ne hne).1
                      have hne2 := (toList_ne hne).2
                      have hne3 : ¬ (str SH).toList = (str t).toList := by simpa using hne1
                      generalize str SH = TT at *
                      generalize str t = T0 at *
                      go_wp2_with (first
                        | (go_at_call 10; (with_reducible refine (CF1.out _).mono ?_); rintro e w3 ⟨rfl, hb3⟩; (have H3 := Lib.hid (H2.out.call hb3)); (obtain ⟨v0', v1', -, -, s0', s1', p0', p1', p2', p3', p4', p5', p6', -⟩ := H3.out.cells); dsimp only)
                        | (go_at_call 11; (with_reducible refine (CS1.out _).mono ?_); rintro e w4 ⟨rfl, hb4⟩; (have H4 := Lib.hid (H3.out.call hb4)); (obtain ⟨v0'', v1'', r0'', r1'', -⟩ := H4.out.cells); (obtain ⟨f0, f1⟩ := H4.out.open2b); dsimp only))
                      have HF := H4.out.put2b (.int .i64 0) (.int .i64 0)
                      obtain ⟨-, -, e0, e1, -⟩ := HF.cells
                      have hF := HF.below
                      clear HF
                      generalize (w4.setCell ⟨w.heap.size + 2, 0, none⟩ (.int .i64 0)).setCell ⟨w.heap.size + 2, 1, none⟩ (.int .i64 0) = W9 at *
                      refine bodyPost_ret (v := .tuple #[.agg #[.int .i64 0, .int .i64 0], .bool false]) ?_ rfl ⟨rfl, hF⟩
                      simp [results, Tryz.results13, go_sem, e0, e1]
            · obtain ⟨h0, hl⟩ := HC.out.yes hC
              obtain ⟨gk, rfl⟩ : ∃ g', gk = g' + 1 := ⟨gk - 1, by omega⟩
              obtain ⟨j, hj⟩ : ∃ j, X.length = j + 1 := ⟨X.length - 1, by omega⟩
              have hw1 : (XS.size : Int) - 1 = (j : Int) := by omega
              have hji : (j : Int) ≤ (XS.size : Int) := by omega
              have hj0 : (0 : Int) ≤ (j : Int) := by omega
              have hx := HX.out
              rw [strip_yes hl] at hx
              have HX2 := Lib.hid hx
              have htl := HTL.out
              rw [hj, Nat.add_sub_cancel] at htl
              have HTL2 := Lib.hid htl
              have hdl : X.dropLast.length = j := by rw [List.length_dropLast]; omega
              clear hx htl HTL HX hl HC hC h0
              go_wp2_with fail
              go_roundg gk
              case measure => omega
              case rel => exact ⟨X.dropLast, congrArg Value.string HTL2.out, by go_num, rfl, by omega, by omega, HX2⟩
end No
end Go.Proofs.YtehocgemgdbikaaGreatDoor
