/- The reference's reading of a decimal's text: the right number whose text it is, or none; what lay in memory stays as it was. -/
import Derived.Test.YteekhfiphbhbjaaGreatDoorDecRefOfKit
namespace Go.Proofs.YteekhfiphbhbjaaGreatDoor
namespace D
open Go.RowKit Go.Maps

set_option maxHeartbeats 8000000 in
set_option maxRecDepth 100000 in
theorem refDecOf_any (s : ByteArray) (w : World) (hs : s.size ≤ 1048576) : Calls Tryz.prog 8 #[.string s] w (OfPost w s) := by
  have CS := Lib.hid fun W => refStarts_any s W (by omega)
  have CC := Lib.hid fun W => refCut_any (bareB s) W (by have := bareB_size s; omega)
  have HR := Lib.hid (Res.new w)
  have HFO := Lib.hid fun (c k : Int) (h : IsText s c k) (l : List ByteArray) (hl : Pieces (bareB s).data.toList (bs l)) => found h hl
  have HBS := Lib.hid (bareB_size s)
  have HBB : Hid (bareB s = if neg s then s.extract 1 s.size else s) := Lib.hid rfl
  have HN1 : Hid (neg s = true → 1 ≤ s.size) := Lib.hid fun h => by
    rcases Nat.eq_zero_or_pos s.size with h0 | h0
    · have : s.data.toList = [] := List.eq_nil_of_length_eq_zero (by rw [← ba_size]; exact h0)
      unfold neg at h
      rw [this] at h
      simp at h
    · exact h0
  generalize bareB s = T at *
  go_enter Tryz.func8, Tryz.ntmps8
  go_upto_if 11 with (go_at_call 22; (with_reducible refine (CS.out _).mono ?_); rintro e wq ⟨rfl, rfl⟩)
  go_cut [4] (fun s4 wx => s4 = .string T ∧ w.alloc (box 0 0) = wx)
  case first =>
    cases hn : neg s
    · have hT := HBB.out
      rw [hn, if_neg (by simp)] at hT
      subst hT
      go_wp2_with fail
      go_meet
      exact ⟨rfl, rfl⟩
    · have hT := HBB.out
      rw [hn, if_pos rfl] at hT
      have h1 := HN1.out hn
      have h1i : (1 : Int) ≤ (s.size : Int) := by omega
      have HT := Lib.hid hT
      clear hT
      go_wp2_with fail
      go_meet
      exact ⟨by rw [HT.out], rfl⟩
  case rest =>
    obtain ⟨rfl, rfl⟩ := hcut
    clear HBB HN1
    go_upto_region 5 with (go_at_call 23; (with_reducible refine (CC.out _).mono ?_); rintro e w3 ⟨l, v3, rfl, hown, hb3, hl, hsm, hll⟩)
    have hne : l ≠ [] := by
      rintro rfl
      exact hl.ne (by simp [bs])
    have hown' : w3.ownsRow (w.alloc (box 0 0)).heap.size 9 1 v3 (sv l).length (sv l) := by simpa [sv] using hown
    obtain ⟨g, c, rfl, hbg, hlc, hgl, hcell⟩ := own_row hown' (by simpa [sv] using hne)
    have hlen : (sv l).length = l.length := by simp [sv]
    rw [hlen] at hlc ⊢
    have HR3 := Lib.hid (HR.out.call hb3)
    have hgw : w.heap.size < g := by simp at hbg; omega
    have HL := Lib.hid hl
    have HCE : Hid (∀ (j : Nat) x, l[j]? = some x → w3.cell? ⟨g, j, none⟩ = some (.string x)) := Lib.hid fun j x hx => hcell j _ (by simp [sv, hx])
    have HFO' : Hid (∀ c k, IsText s c k → _) := Lib.hid fun c k h => HFO.out c k h l hl
    clear hown hown' hb3 hl hlen hcell CC HFO hbg
    obtain ⟨x, r, rfl⟩ : ∃ x r, l = x :: r := by
      cases l with
      | nil => exact absurd rfl hne
      | cons x r => exact ⟨x, r, rfl⟩
    have hx := HCE.out 0 x rfl
    have hxs := hsm x (by simp)
    have CN := Lib.hid fun W => refNumber_any x W (by have := HBS.out; omega)
    clear hne
    have hlp : 0 < (x :: r).length := by simp
    have HLEN : Hid ((x :: r).length ≤ 1048577) := Lib.hid (by have := HBS.out; omega)
    generalize hn : (x :: r).length = n at *
    have HN := Lib.hid hn
    clear hn
    have hni : (0 : Int) < (n : Int) := by omega
    have hnb : n ≤ 1048577 := HLEN.out
    have HSM := Lib.hid hsm
    clear hll hsm
    go_upto_region 6 with (go_at_call 24; (with_reducible refine (CN.out _).mono ?_); rintro e w4 ⟨hb4, hnum⟩; rcases hnum with ⟨rfl, hno⟩ | ⟨q, rfl, hq⟩)
    · have HNO : Hid (NoText s) := Lib.hid fun c k h => by
        rcases HFO'.out c k h with ⟨x', e, _, hI⟩ | ⟨x', y', e, _, _, _, hI, _⟩
        · injection e with e _; subst e; exact hno _ hI
        · injection e with e _; subst e; exact hno _ hI
      have HR4 := Lib.hid (HR3.out.call hb4)
      clear hno hb4 hx
      go_upto_region 7 with fail
      have HR5 := Lib.hid (HR4.out.alloc (box (-1) 0))
      generalize w4.alloc (box (-1) 0) = w5 at *
      have r0 := HR5.out.r0
      have r1 := HR5.out.r1
      have f0 := HR5.out.f0
      have f1 := HR5.out.f1
      go_wp2_with fail
      obtain ⟨z0, z1⟩ := stored (wx := w5) HR5.out.r0 HR5.out.r1 (.int .i64 0) (.int .i64 0)
      refine bodyPost_ret (v := .tuple #[.agg #[.int .i64 0, .int .i64 0], .bool false]) ?_ rfl ?_
      · simp [results, Tryz.results8, go_sem, z0, z1]
      · exact of_none HNO.out rfl (up_set (up_set HR5.out.below (le_self _) _) (le_self _) _)
    · have HQ := Lib.hid hq
      have hqb : (q : Int) ≤ 1000000000000000 := by have := hq.1; omega
      have hq0 : (0 : Int) ≤ (q : Int) := by omega
      have HDB := Lib.hid (DB.new HR3.out hgw hgl hb4 (q : Int))
      clear hq hx hb4
      go_upto_region 7 with fail
      generalize w4.alloc (box (q : Int) 0) = w5 at *
      generalize w4.heap.size = gd at *
      by_cases h2 : 2 < n
      · have h2i : (2 : Int) < (n : Int) := by omega
        have HNO : Hid (NoText s) := Lib.hid fun c k h => by
          have hl := HN.out
          rcases HFO'.out c k h with ⟨x', e, _⟩ | ⟨x', y', e, _⟩
          · rw [e] at hl; simp at hl; omega
          · rw [e] at hl; simp at hl; omega
        have r0 := HDB.out.res.r0
        have r1 := HDB.out.res.r1
        have f0 := HDB.out.res.f0
        have f1 := HDB.out.res.f1
        go_wp2_with fail
        obtain ⟨z0, z1⟩ := stored (wx := w5) HDB.out.res.r0 HDB.out.res.r1 (.int .i64 0) (.int .i64 0)
        refine bodyPost_ret (v := .tuple #[.agg #[.int .i64 0, .int .i64 0], .bool false]) ?_ rfl ?_
        · simp [results, Tryz.results8, go_sem, z0, z1]
        · exact of_none HNO.out rfl (up_set (up_set HDB.out.res.below (le_self _) _) (le_self _) _)
      · have h2i : ¬ (2 : Int) < (n : Int) := by omega
        by_cases h1 : n = 1
        · have h1i : ((n : Int) == 2) = false := by rw [beq_eq_false_iff_ne]; omega
          have HF : Hid (∀ c k, IsText s c k → (c.natAbs : Int) = (q : Int) ∧ k = 0) := Lib.hid fun c k h => by
            have hl := HN.out
            rcases HFO'.out c k h with ⟨x', e, hk, hI⟩ | ⟨x', y', e, _⟩
            · injection e with e _
              subst e
              exact ⟨by have := hI.eq HQ.out; omega, hk⟩
            · rw [e] at hl; simp at hl; omega
          clear h1 h2 HFO'
          have HM : Hid (∀ c k, IsText s c k → c = signed (neg s) (q : Int) ∧ k = 0) := Lib.hid fun c k h => by
            obtain ⟨h1, h2⟩ := HF.out c k h
            exact ⟨by rw [← h1]; exact (signed_text h).symm, h2⟩
          have hMb : -10000000000000000 ≤ signed (neg s) (q : Int) ∧ signed (neg s) (q : Int) ≤ 10000000000000000 := by unfold signed; split <;> omega
          have d0 := HDB.out.d0
          have d1 := HDB.out.d1
          have g0 := HDB.out.g0
          have g1 := HDB.out.g1
          go_upto_if 75 with (go_at_call 22; (with_reducible refine (CS.out _).mono ?_); rintro e wq ⟨rfl, rfl⟩)
          go_cut [3] (fun s3 wx => s3 = .bool false ∧ Hid (DB w w3 wx g gd (signed (neg s) (q : Int)) 0))
          case first =>
            cases hn : neg s
            · go_wp2_with fail
              go_meet
              exact ⟨rfl, by rw [show signed (neg s) (q : Int) = (q : Int) by rw [hn]; rfl]; exact HDB⟩
            · go_wp2_with fail
              go_meet
              exact ⟨rfl, by rw [show signed (neg s) (q : Int) = -(q : Int) by rw [hn]; simp [signed]]; exact Lib.hid (HDB.out.set0 _)⟩
          case rest =>
            obtain ⟨rfl, HD⟩ := hcut
            clear d0 d1 g0 g1
            have d0 := HD.out.d0
            have d1 := HD.out.d1
            generalize signed (neg s) (q : Int) = M at *
            have CF := Lib.hid fun W => refFault_any M 0 W
            by_cases hr : Right M 0
            · rw [decide_eq_false (Classical.not_not.2 hr)] at CF
              have CX := Lib.hid fun W => refDecText_any M 0 W hr
              by_cases ht : s.data.toList = text M (0 : Int).toNat
              · have HI : Hid (IsText s M 0) := Lib.hid ⟨hr, ht⟩
                rw [← str_eq ht] at CX
                clear ht hr
                go_wp2_with (first
                  | (go_at_call 5; (with_reducible refine (CF.out _).mono ?_); rintro e wf ⟨rfl, hbf⟩; (have HD2 := Lib.hid (HD.out.call hbf)); (have u0 := HD2.out.d0); (have u1 := HD2.out.d1); clear hbf d0 d1)
                  | (go_at_call 14; (with_reducible refine (CX.out _).mono ?_); rintro e wt ⟨rfl, hbt⟩; (have HD3 := Lib.hid (HD2.out.call hbt)); (have v0 := HD3.out.d0); (have v1 := HD3.out.d1); (have r0 := HD3.out.res.r0); (have r1 := HD3.out.res.r1); (have f0 := HD3.out.res.f0); (have f1 := HD3.out.res.f1); clear hbt u0 u1))
                obtain ⟨z0, z1⟩ := stored (wx := wt) HD3.out.res.r0 HD3.out.res.r1 (.int .i64 M) (.int .i64 0)
                refine bodyPost_ret (v := .tuple #[.agg #[.int .i64 M, .int .i64 0], .bool true]) ?_ rfl ?_
                · simp [results, Tryz.results8, go_sem, z0, z1]
                · exact of_some HI.out rfl (up_set (up_set HD3.out.res.below (le_self _) _) (le_self _) _)
              · have HI : Hid (NoText s) := Lib.hid fun c k h => by
                  obtain ⟨h1, h2⟩ := HM.out c k h
                  subst h1; subst h2
                  exact ht h.2
                obtain ⟨n1, n2⟩ := toList_ne (a := str (text M (0 : Int).toNat)) (b := s) (fun e => ht ((congrArg (fun b : ByteArray => b.data.toList) e).symm.trans (str_data _)))
                generalize str (text M (0 : Int).toNat) = X at *
                clear ht hr
                go_wp2_with (first
                  | (go_at_call 5; (with_reducible refine (CF.out _).mono ?_); rintro e wf ⟨rfl, hbf⟩; (have HD2 := Lib.hid (HD.out.call hbf)); (have u0 := HD2.out.d0); (have u1 := HD2.out.d1); clear hbf d0 d1)
                  | (go_at_call 14; (with_reducible refine (CX.out _).mono ?_); rintro e wt ⟨rfl, hbt⟩; (have HD3 := Lib.hid (HD2.out.call hbt)); (have v0 := HD3.out.d0); (have v1 := HD3.out.d1); (have r0 := HD3.out.res.r0); (have r1 := HD3.out.res.r1); (have f0 := HD3.out.res.f0); (have f1 := HD3.out.res.f1); clear hbt u0 u1))
                obtain ⟨z0, z1⟩ := stored (wx := wt) HD3.out.res.r0 HD3.out.res.r1 (.int .i64 0) (.int .i64 0)
                refine bodyPost_ret (v := .tuple #[.agg #[.int .i64 0, .int .i64 0], .bool false]) ?_ rfl ?_
                · simp [results, Tryz.results8, go_sem, z0, z1]
                · exact of_none HI.out rfl (up_set (up_set HD3.out.res.below (le_self _) _) (le_self _) _)
            · rw [decide_eq_true hr] at CF
              have HI : Hid (NoText s) := Lib.hid fun c k h => by
                obtain ⟨h1, h2⟩ := HM.out c k h
                subst h1; subst h2
                exact hr h.1
              clear hr
              go_wp2_with (first
                | (go_at_call 5; (with_reducible refine (CF.out _).mono ?_); rintro e wf ⟨rfl, hbf⟩; (have HD2 := Lib.hid (HD.out.call hbf)); (have r0 := HD2.out.res.r0); (have r1 := HD2.out.res.r1); (have f0 := HD2.out.res.f0); (have f1 := HD2.out.res.f1); clear hbf d0 d1))
              obtain ⟨z0, z1⟩ := stored (wx := wf) HD2.out.res.r0 HD2.out.res.r1 (.int .i64 0) (.int .i64 0)
              refine bodyPost_ret (v := .tuple #[.agg #[.int .i64 0, .int .i64 0], .bool false]) ?_ rfl ?_
              · simp [results, Tryz.results8, go_sem, z0, z1]
              · exact of_none HI.out rfl (up_set (up_set HD2.out.res.below (le_self _) _) (le_self _) _)
        · obtain rfl : n = 2 := by omega
          obtain ⟨y, rfl⟩ : ∃ y, r = [y] := by
            have hl := HN.out
            match r, hl with
            | [y], _ => exact ⟨y, rfl⟩
          have hy : w5.cell? ⟨g, 1, none⟩ = some (.string y) := (HDB.out.row 1).trans (HCE.out 1 y rfl)
          have hys : y.size ≤ 1048576 := by have := HSM.out y (by simp); have := HBS.out; omega
          have CO := Lib.hid fun W => refOnly_any y ⟨#[48, 49, 50, 51, 52, 53, 54, 55, 56, 57]⟩ 1 9 W (by unfold maxLen; omega) (by unfold maxLen; decide)
          simp only [show ((1 : Nat) : Int) = 1 from rfl, show ((9 : Nat) : Int) = 9 from rfl] at CO
          have HFD : Hid (fillsB (amongB (⟨#[48, 49, 50, 51, 52, 53, 54, 55, 56, 57]⟩ : ByteArray).data.toList) y.data.toList 1 9 = true ↔ 1 ≤ y.size ∧ y.size ≤ 9 ∧ Digs y.data.toList) := Lib.hid (fills_dig y)
          generalize fillsB (amongB (⟨#[48, 49, 50, 51, 52, 53, 54, 55, 56, 57]⟩ : ByteArray).data.toList) y.data.toList 1 9 = fb at *
          have HF : Hid (∀ c k, IsText s c k → (c.natAbs : Int) = addD (q : Int) y.data.toList ∧ k = (y.size : Int) ∧ fb = true ∧ q ≤ 1000000000000000 / 10 ^ y.size) := Lib.hid fun c k h => by
            rcases HFO'.out c k h with ⟨x', e, _⟩ | ⟨x', y', e, hk, z1, z9, hI, hd, ha, hm⟩
            · simp at e
            · injection e with e1 e2
              injection e2 with e2 _
              subst e1; subst e2
              have hqq := hI.eq HQ.out
              rw [← hqq]
              exact ⟨ha.symm, hk.symm, HFD.out.2 ⟨z1, z9, hd⟩, hm⟩
          clear hni hnb h2 h1 h2i hlc hlp HLEN HFO'
          cases fb
          · have HNO : Hid (NoText s) := Lib.hid fun c k h => by
              have := (HF.out c k h).2.2.1
              simp at this
            go_wp2_with (go_at_call 25; (with_reducible refine (CO.out _).mono ?_); rintro e w6 ⟨rfl, dn, rfl⟩; (have HD6 := Lib.hid (HDB.out.drewN dn)); (have r0 := HD6.out.res.r0); (have r1 := HD6.out.res.r1); (have f0 := HD6.out.res.f0); (have f1 := HD6.out.res.f1))
            obtain ⟨z0, z1⟩ := stored (wx := (w5.drewN dn)) HD6.out.res.r0 HD6.out.res.r1 (.int .i64 0) (.int .i64 0)
            refine bodyPost_ret (v := .tuple #[.agg #[.int .i64 0, .int .i64 0], .bool false]) ?_ rfl ?_
            · simp [results, Tryz.results8, go_sem, z0, z1]
            · exact of_none HNO.out rfl (up_set (up_set HD6.out.res.below (le_self _) _) (le_self _) _)
          · obtain ⟨z1, z9, hd⟩ := HFD.out.1 rfl
            have HDG := Lib.hid hd
            clear hd
            have CT := Lib.hid fun W => refTen_any (y.size : Int) W (by omega) (by omega)
            have b0 := ten_pos (y.size : Int)
            have b6 := ten_le_nine (a := (y.size : Int)) (by omega) (by omega)
            have eT : ten (y.size : Int) = ((10 ^ y.size : Nat) : Int) := by rw [ten_nat]; simp
            have ed : (1000000000000000 : Int).tdiv (ten (y.size : Int)) = 1000000000000000 / ten (y.size : Int) := Int.tdiv_eq_ediv_of_nonneg (by decide)
            have hmu := Int.mul_ediv_add_emod 1000000000000000 (ten (y.size : Int))
            have hme := Int.emod_nonneg 1000000000000000 (show ten (y.size : Int) ≠ 0 by omega)
            have HQM : Hid (q ≤ 1000000000000000 / 10 ^ y.size ↔ (q : Int) ≤ 1000000000000000 / ten (y.size : Int)) := Lib.hid (by rw [eT, show (1000000000000000 : Int) / ((10 ^ y.size : Nat) : Int) = ((1000000000000000 / 10 ^ y.size : Nat) : Int) by rw [Int.natCast_ediv]; rfl]; omega)
            have hm0 : 0 ≤ (1000000000000000 : Int) / ten (y.size : Int) ∧ (1000000000000000 : Int) / ten (y.size : Int) ≤ 1000000000000000 := ⟨Int.ediv_nonneg (by decide) (by omega), Int.ediv_le_self _ (by decide)⟩
            have HRM : Hid ((q : Int) ≤ 1000000000000000 / ten (y.size : Int) → ∀ k, k ≤ y.size → 0 ≤ addD (q : Int) (y.data.toList.take k) ∧ addD (q : Int) (y.data.toList.take k) ≤ 1000001000000000) := Lib.hid fun hle k hk => by
              obtain ⟨r0, r1⟩ := addD_room (y.data.toList.take k) (q : Int) hq0 (HDG.out.take k)
              refine ⟨r0, ?_⟩
              have e1 : ((10 : Int) ^ (y.data.toList.take k).length) ≤ ten (y.size : Int) := by
                have h1 : (y.data.toList.take k).length ≤ y.size := by rw [List.length_take]; omega
                exact ten_le (a := ((y.data.toList.take k).length : Int)) (b := (y.size : Int)) (by omega) (by omega)
              have e2 := Int.mul_le_mul_of_nonneg_left e1 (show 0 ≤ (q : Int) + 1 by omega)
              have e3 := Int.mul_le_mul_of_nonneg_right hle (show 0 ≤ ten (y.size : Int) by omega)
              have e4 : ((q : Int) + 1) * ten (y.size : Int) = (q : Int) * ten (y.size : Int) + ten (y.size : Int) := by rw [Int.add_mul, Int.one_mul]
              rw [Int.mul_comm] at hmu
              omega
            clear hmu hme eT
            generalize (1000000000000000 : Int) / ten (y.size : Int) = m at *
            generalize ten (y.size : Int) = u at *
            have hu0 : (u == 0) = false := by simp; omega
            have hu1 : ¬ u = 0 := by omega
            by_cases hqm : (q : Int) ≤ m
            · have hqmi : ¬ m < (q : Int) := by omega
              have HROOM := Lib.hid (HRM.out hqm)
              clear HRM
              go_upto_region 12 with (first
                | (go_at_call 25; (with_reducible refine (CO.out _).mono ?_); rintro e w6 ⟨rfl, dn, rfl⟩)
                | (go_at_call 26; (with_reducible refine (CT.out _).mono ?_); rintro e w7 ⟨rfl, rfl⟩))
              have HD6 := Lib.hid (HDB.out.drewN dn)
              have hy6 : (w5.drewN dn).cell? ⟨g, 1, none⟩ = some (.string y) := by simpa using hy
              clear hy
              generalize w5.drewN dn = w6 at *
              have d0 := HD6.out.d0
              have d1 := HD6.out.d1
              have g0 := HD6.out.g0
              have g1 := HD6.out.g1
              have HY : Hid (∀ wr m sc, DB w w3 wr g gd m sc → wr.cell? ⟨g, 1, none⟩ = some (.string y)) := Lib.hid fun wr m sc h => ((h.row 1).trans (HD6.out.row 1).symm).trans hy6
              go_wp2_with fail
              have HD7 := Lib.hid (HD6.out.set1 (y.size : Int))
              clear d0 d1 g0 g1 hy6
              generalize w6.setCell ⟨gd, 1, none⟩ (.int .i64 (y.size : Int)) = w7 at *
              go_loopw [8] (fun i wr => ∃ k : Nat, k ≤ y.size ∧ i = .int .i64 k ∧ Hid (DB w w3 wr g gd (addD (q : Int) (y.data.toList.take k)) (y.size : Int))) (fun i _ => y.size - (intOf i).toNat)
              case atStart => exact ⟨0, Nat.zero_le _, rfl, Lib.hid (by simpa [addD] using HD7.out)⟩
              case round =>
                obtain ⟨k, hk, rfl, HDk⟩ := hrel
                have hyk := HY.out _ _ _ HDk.out
                obtain ⟨rm0, rm1⟩ := HROOM.out k hk
                by_cases hlt : k < y.size
                · have hki : (k : Int) < (y.size : Int) := by omega
                  have HT : Hid (addD (q : Int) (y.data.toList.take (k + 1)) = 10 * addD (q : Int) (y.data.toList.take k) + ((y[k].toNat : Int) - 48)) := Lib.hid (by rw [take_snoc y k hlt, addD_snoc])
                  have hdk := HDG.out y[k] (List.getElem_mem (by simpa using hlt))
                  have d0 := HDk.out.d0
                  have g0 := HDk.out.g0
                  generalize addD (q : Int) (y.data.toList.take k) = mk at *
                  have k1 : IntKind.u8.wrap ((y[k].toNat : Int) - 48) = (y[k].toNat : Int) - 48 := by rw [IntKind.wrap_u8]; omega
                  have k2 := D.wr (x := (y[k].toNat : Int) - 48) (by omega) (by omega)
                  have k3 := D.wr (x := 10 * mk) (by omega) (by omega)
                  have k4 := D.wr (x := 10 * mk + ((y[k].toNat : Int) - 48)) (by omega) (by omega)
                  go_upto_region 16 with fail
                  go_region
                  have HDn := Lib.hid ((HDk.out.set0 (10 * mk + ((y[k].toNat : Int) - 48))).drew)
                  clear k1 k2 k3 k4 d0 g0 hyk
                  generalize (wr.setCell ⟨gd, 0, none⟩ (.int .i64 (10 * mk + ((y[k].toNat : Int) - 48)))).drew = wn at *
                  go_wp2_with fail
                  go_roundw
                  case rel => exact ⟨k + 1, by omega, by go_num, by rw [HT.out]; exact HDn⟩
                  case measure => simp [intOf]; omega
                · have hki : ¬ ((k : Int) < (y.size : Int)) := by omega
                  have hta : y.data.toList.take k = y.data.toList := List.take_of_length_le (by rw [← ba_size]; omega)
                  rw [hta] at HDk rm0 rm1
                  clear hta hlt
                  generalize addD (q : Int) y.data.toList = mk at *
                  have HM : Hid (∀ c k, IsText s c k → c = signed (neg s) mk ∧ k = (y.size : Int)) := Lib.hid fun c k h => by
                    obtain ⟨h1, h2⟩ := HF.out c k h
                    exact ⟨by rw [← h1]; exact (signed_text h).symm, h2.1⟩
                  have d0 := HDk.out.d0
                  have d1 := HDk.out.d1
                  have g0 := HDk.out.g0
                  have g1 := HDk.out.g1
                  cases hn : neg s
                  · rw [hn] at CS
                    simp only [hn, signed, if_false, Bool.false_eq_true] at HM
                    go_upto_region 19 with (go_at_call 22; (with_reducible refine (CS.out _).mono ?_); rintro e wq ⟨rfl, rfl⟩)
                    clear hn d0 d1 g0 g1
                    have HD := HDk
                    obtain ⟨M, hMM⟩ : ∃ M, mk = M := ⟨_, rfl⟩
                    rw [hMM] at HD HM
                    have hMb : -10000000000000000 ≤ M ∧ M ≤ 10000000000000000 := by omega
                    clear hMM
                    have d0 := HD.out.d0
                    have d1 := HD.out.d1
                    have CF := Lib.hid fun W => refFault_any M (y.size : Int) W
                    by_cases hr : Right M (y.size : Int)
                    · rw [decide_eq_false (Classical.not_not.2 hr)] at CF
                      have CX := Lib.hid fun W => refDecText_any M (y.size : Int) W hr
                      by_cases ht : s.data.toList = text M ((y.size : Int) : Int).toNat
                      · have HI : Hid (IsText s M (y.size : Int)) := Lib.hid ⟨hr, ht⟩
                        rw [← str_eq ht] at CX
                        clear ht hr
                        go_wp2_with (first
                          | (go_at_call 5; (with_reducible refine (CF.out _).mono ?_); rintro e wf ⟨rfl, hbf⟩; (have HD2 := Lib.hid (HD.out.call hbf)); (have u0 := HD2.out.d0); (have u1 := HD2.out.d1); clear hbf d0 d1)
                          | (go_at_call 14; (with_reducible refine (CX.out _).mono ?_); rintro e wt ⟨rfl, hbt⟩; (have HD3 := Lib.hid (HD2.out.call hbt)); (have v0 := HD3.out.d0); (have v1 := HD3.out.d1); (have r0 := HD3.out.res.r0); (have r1 := HD3.out.res.r1); (have f0 := HD3.out.res.f0); (have f1 := HD3.out.res.f1); clear hbt u0 u1))
                        obtain ⟨z0, z1⟩ := stored (wx := wt) HD3.out.res.r0 HD3.out.res.r1 (.int .i64 M) (.int .i64 (y.size : Int))
                        refine bodyPost_ret (v := .tuple #[.agg #[.int .i64 M, .int .i64 (y.size : Int)], .bool true]) ?_ rfl ?_
                        · simp [results, Tryz.results8, go_sem, z0, z1]
                        · exact of_some HI.out rfl (up_set (up_set HD3.out.res.below (le_self _) _) (le_self _) _)
                      · have HI : Hid (NoText s) := Lib.hid fun c k h => by
                          obtain ⟨h1, h2⟩ := HM.out c k h
                          subst h1; subst h2
                          exact ht h.2
                        obtain ⟨n1, n2⟩ := toList_ne (a := str (text M ((y.size : Int) : Int).toNat)) (b := s) (fun e => ht ((congrArg (fun b : ByteArray => b.data.toList) e).symm.trans (str_data _)))
                        generalize str (text M ((y.size : Int) : Int).toNat) = X at *
                        clear ht hr
                        go_wp2_with (first
                          | (go_at_call 5; (with_reducible refine (CF.out _).mono ?_); rintro e wf ⟨rfl, hbf⟩; (have HD2 := Lib.hid (HD.out.call hbf)); (have u0 := HD2.out.d0); (have u1 := HD2.out.d1); clear hbf d0 d1)
                          | (go_at_call 14; (with_reducible refine (CX.out _).mono ?_); rintro e wt ⟨rfl, hbt⟩; (have HD3 := Lib.hid (HD2.out.call hbt)); (have v0 := HD3.out.d0); (have v1 := HD3.out.d1); (have r0 := HD3.out.res.r0); (have r1 := HD3.out.res.r1); (have f0 := HD3.out.res.f0); (have f1 := HD3.out.res.f1); clear hbt u0 u1))
                        obtain ⟨z0, z1⟩ := stored (wx := wt) HD3.out.res.r0 HD3.out.res.r1 (.int .i64 0) (.int .i64 0)
                        refine bodyPost_ret (v := .tuple #[.agg #[.int .i64 0, .int .i64 0], .bool false]) ?_ rfl ?_
                        · simp [results, Tryz.results8, go_sem, z0, z1]
                        · exact of_none HI.out rfl (up_set (up_set HD3.out.res.below (le_self _) _) (le_self _) _)
                    · rw [decide_eq_true hr] at CF
                      have HI : Hid (NoText s) := Lib.hid fun c k h => by
                        obtain ⟨h1, h2⟩ := HM.out c k h
                        subst h1; subst h2
                        exact hr h.1
                      clear hr
                      go_wp2_with (first
                        | (go_at_call 5; (with_reducible refine (CF.out _).mono ?_); rintro e wf ⟨rfl, hbf⟩; (have HD2 := Lib.hid (HD.out.call hbf)); (have r0 := HD2.out.res.r0); (have r1 := HD2.out.res.r1); (have f0 := HD2.out.res.f0); (have f1 := HD2.out.res.f1); clear hbf d0 d1))
                      obtain ⟨z0, z1⟩ := stored (wx := wf) HD2.out.res.r0 HD2.out.res.r1 (.int .i64 0) (.int .i64 0)
                      refine bodyPost_ret (v := .tuple #[.agg #[.int .i64 0, .int .i64 0], .bool false]) ?_ rfl ?_
                      · simp [results, Tryz.results8, go_sem, z0, z1]
                      · exact of_none HI.out rfl (up_set (up_set HD2.out.res.below (le_self _) _) (le_self _) _)
                  · rw [hn] at CS
                    simp only [hn, signed, if_true, Int.zero_sub] at HM
                    go_upto_region 19 with (go_at_call 22; (with_reducible refine (CS.out _).mono ?_); rintro e wq ⟨rfl, rfl⟩)
                    clear hn d0 d1 g0 g1
                    have HD := Lib.hid (HDk.out.set0 (-mk))
                    generalize wr.setCell ⟨gd, 0, none⟩ (.int .i64 (-mk)) = wx at *
                    generalize hMM : -mk = M at *
                    have hMb : -10000000000000000 ≤ M ∧ M ≤ 10000000000000000 := by omega
                    clear hMM
                    have d0 := HD.out.d0
                    have d1 := HD.out.d1
                    have CF := Lib.hid fun W => refFault_any M (y.size : Int) W
                    by_cases hr : Right M (y.size : Int)
                    · rw [decide_eq_false (Classical.not_not.2 hr)] at CF
                      have CX := Lib.hid fun W => refDecText_any M (y.size : Int) W hr
                      by_cases ht : s.data.toList = text M ((y.size : Int) : Int).toNat
                      · have HI : Hid (IsText s M (y.size : Int)) := Lib.hid ⟨hr, ht⟩
                        rw [← str_eq ht] at CX
                        clear ht hr
                        go_wp2_with (first
                          | (go_at_call 5; (with_reducible refine (CF.out _).mono ?_); rintro e wf ⟨rfl, hbf⟩; (have HD2 := Lib.hid (HD.out.call hbf)); (have u0 := HD2.out.d0); (have u1 := HD2.out.d1); clear hbf d0 d1)
                          | (go_at_call 14; (with_reducible refine (CX.out _).mono ?_); rintro e wt ⟨rfl, hbt⟩; (have HD3 := Lib.hid (HD2.out.call hbt)); (have v0 := HD3.out.d0); (have v1 := HD3.out.d1); (have r0 := HD3.out.res.r0); (have r1 := HD3.out.res.r1); (have f0 := HD3.out.res.f0); (have f1 := HD3.out.res.f1); clear hbt u0 u1))
                        obtain ⟨z0, z1⟩ := stored (wx := wt) HD3.out.res.r0 HD3.out.res.r1 (.int .i64 M) (.int .i64 (y.size : Int))
                        refine bodyPost_ret (v := .tuple #[.agg #[.int .i64 M, .int .i64 (y.size : Int)], .bool true]) ?_ rfl ?_
                        · simp [results, Tryz.results8, go_sem, z0, z1]
                        · exact of_some HI.out rfl (up_set (up_set HD3.out.res.below (le_self _) _) (le_self _) _)
                      · have HI : Hid (NoText s) := Lib.hid fun c k h => by
                          obtain ⟨h1, h2⟩ := HM.out c k h
                          subst h1; subst h2
                          exact ht h.2
                        obtain ⟨n1, n2⟩ := toList_ne (a := str (text M ((y.size : Int) : Int).toNat)) (b := s) (fun e => ht ((congrArg (fun b : ByteArray => b.data.toList) e).symm.trans (str_data _)))
                        generalize str (text M ((y.size : Int) : Int).toNat) = X at *
                        clear ht hr
                        go_wp2_with (first
                          | (go_at_call 5; (with_reducible refine (CF.out _).mono ?_); rintro e wf ⟨rfl, hbf⟩; (have HD2 := Lib.hid (HD.out.call hbf)); (have u0 := HD2.out.d0); (have u1 := HD2.out.d1); clear hbf d0 d1)
                          | (go_at_call 14; (with_reducible refine (CX.out _).mono ?_); rintro e wt ⟨rfl, hbt⟩; (have HD3 := Lib.hid (HD2.out.call hbt)); (have v0 := HD3.out.d0); (have v1 := HD3.out.d1); (have r0 := HD3.out.res.r0); (have r1 := HD3.out.res.r1); (have f0 := HD3.out.res.f0); (have f1 := HD3.out.res.f1); clear hbt u0 u1))
                        obtain ⟨z0, z1⟩ := stored (wx := wt) HD3.out.res.r0 HD3.out.res.r1 (.int .i64 0) (.int .i64 0)
                        refine bodyPost_ret (v := .tuple #[.agg #[.int .i64 0, .int .i64 0], .bool false]) ?_ rfl ?_
                        · simp [results, Tryz.results8, go_sem, z0, z1]
                        · exact of_none HI.out rfl (up_set (up_set HD3.out.res.below (le_self _) _) (le_self _) _)
                    · rw [decide_eq_true hr] at CF
                      have HI : Hid (NoText s) := Lib.hid fun c k h => by
                        obtain ⟨h1, h2⟩ := HM.out c k h
                        subst h1; subst h2
                        exact hr h.1
                      clear hr
                      go_wp2_with (first
                        | (go_at_call 5; (with_reducible refine (CF.out _).mono ?_); rintro e wf ⟨rfl, hbf⟩; (have HD2 := Lib.hid (HD.out.call hbf)); (have r0 := HD2.out.res.r0); (have r1 := HD2.out.res.r1); (have f0 := HD2.out.res.f0); (have f1 := HD2.out.res.f1); clear hbf d0 d1))
                      obtain ⟨z0, z1⟩ := stored (wx := wf) HD2.out.res.r0 HD2.out.res.r1 (.int .i64 0) (.int .i64 0)
                      refine bodyPost_ret (v := .tuple #[.agg #[.int .i64 0, .int .i64 0], .bool false]) ?_ rfl ?_
                      · simp [results, Tryz.results8, go_sem, z0, z1]
                      · exact of_none HI.out rfl (up_set (up_set HD2.out.res.below (le_self _) _) (le_self _) _)
            · have hqmi : m < (q : Int) := by omega
              have HNO : Hid (NoText s) := Lib.hid fun c k h => hqm (HQM.out.1 (HF.out c k h).2.2.2)
              clear HRM
              go_wp2_with (first
                | (go_at_call 25; (with_reducible refine (CO.out _).mono ?_); rintro e w6 ⟨rfl, dn, rfl⟩; (have HD6 := Lib.hid (HDB.out.drewN dn)); (have r0 := HD6.out.res.r0); (have r1 := HD6.out.res.r1); (have f0 := HD6.out.res.f0); (have f1 := HD6.out.res.f1))
                | (go_at_call 26; (with_reducible refine (CT.out _).mono ?_); rintro e w7 ⟨rfl, rfl⟩))
              obtain ⟨z0, z1⟩ := stored (wx := (w5.drewN dn)) HD6.out.res.r0 HD6.out.res.r1 (.int .i64 0) (.int .i64 0)
              refine bodyPost_ret (v := .tuple #[.agg #[.int .i64 0, .int .i64 0], .bool false]) ?_ rfl ?_
              · simp [results, Tryz.results8, go_sem, z0, z1]
              · exact of_none HNO.out rfl (up_set (up_set HD6.out.res.below (le_self _) _) (le_self _) _)
end D
end Go.Proofs.YteekhfiphbhbjaaGreatDoor
