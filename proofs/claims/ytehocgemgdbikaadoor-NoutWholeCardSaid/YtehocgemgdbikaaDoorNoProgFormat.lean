/- The program's Check of signs, and of a pattern and signs. And what follows from it. -/
import Derived.Test.YtehocgemgdbikaaDoorNoSays
import Derived.Test.YtehocgemgdbikaaDoorNpCheck
import Derived.Test.YtehocgemgdbikaaDoorNoMath
import Derived.Test.YtehocgemgdbikaaDoorDecText
import Derived.Test.YtehocgemgdbikaaDoorDecRound
import Derived.Test.YtehocgemgdbikaaDoorGrPut
import Derived.Deep.DeepCutAuto
import Derived.Laws.IdiomStrings
namespace Go.Proofs.YtehocgemgdbikaaDoor
namespace No
open Go.RowKit Go.Maps D Ru Np

theorem sign_table : ((List.range 256).all fun n => signL.contains (UInt8.ofNat n) == (n == 46 || n == 44 || n == 39 || n == 95)) = true := by decide +kernel
theorem sign_is (c : UInt8) : signL.contains c = (c.toNat == 46 || c.toNat == 44 || c.toNat == 39 || c.toNat == 95) := by
  have h := List.all_eq_true.1 sign_table c.toNat (List.mem_range.2 c.toNat_lt)
  rw [beq_iff_eq] at h
  rw [← h]
  simp
theorem isSign_any (c : UInt8) (w : World) : Calls Tryd.prog 41 #[.int .u8 c.toNat] w fun e w' => e = .returned (.bool (signL.contains c)) ∧ w = w' := by
  have hb : c.toNat < 256 := c.toNat_lt
  rw [sign_is]
  generalize c.toNat = n at *
  rcases (show n = 46 ∨ n = 44 ∨ n = 39 ∨ n = 95 ∨ (n ≠ 46 ∧ n ≠ 44 ∧ n ≠ 39 ∧ n ≠ 95) by omega) with rfl | rfl | rfl | rfl | h
  · go_enter Tryd.func41, Tryd.ntmps41
    go_wp2
    go_ret
    exact ⟨rfl, rfl⟩
  · go_enter Tryd.func41, Tryd.ntmps41
    go_wp2
    go_ret
    exact ⟨rfl, rfl⟩
  · go_enter Tryd.func41, Tryd.ntmps41
    go_wp2
    go_ret
    exact ⟨rfl, rfl⟩
  · go_enter Tryd.func41, Tryd.ntmps41
    go_wp2
    go_ret
    exact ⟨rfl, rfl⟩
  · have e1 : ((n : Int) == 46) = false := beq_eq_false_iff_ne.2 (by omega)
    have e2 : ((n : Int) == 44) = false := beq_eq_false_iff_ne.2 (by omega)
    have e3 : ((n : Int) == 39) = false := beq_eq_false_iff_ne.2 (by omega)
    have e4 : ((n : Int) == 95) = false := beq_eq_false_iff_ne.2 (by omega)
    have HR := Lib.hid (show (n == 46 || n == 44 || n == 39 || n == 95) = false by simp; omega)
    generalize (n == 46 || n == 44 || n == 39 || n == 95) = R at *
    go_enter Tryd.func41, Tryd.ntmps41
    go_wp2_with fail
    go_ret
    exact ⟨by rw [HR.out]; rfl, rfl⟩
set_option maxHeartbeats 1000000 in
theorem holds_any (pt cm : UInt8) (g : Nat) (w : World) (h0 : w.cell? ⟨g, 0, none⟩ = some (.int .u8 pt.toNat)) (h1 : w.cell? ⟨g, 1, none⟩ = some (.int .u8 cm.toNat)) :
    Calls Tryd.prog 42 #[.func (.func 41) #[] #[], .slice (some ⟨g, 0, none⟩) 2 2] w fun e w' => e = .returned (.bool (signL.contains pt && signL.contains cm)) ∧ w = w' := by
  have C0 := Lib.hid (isSign_any pt w)
  have C1 := Lib.hid (isSign_any cm w)
  generalize signL.contains pt = A at *
  generalize signL.contains cm = B at *
  generalize (pt.toNat : Int) = p at *
  generalize (cm.toNat : Int) = q at *
  go_enter Tryd.func42, Tryd.ntmps42
  go_wp2_with fail
  go_loopw [9] (fun i wr => ∃ k : Nat, k ≤ 2 ∧ i = .int .i64 k ∧ w = wr ∧ Hid ((0 < k → A = true) ∧ (1 < k → B = true))) (fun i _ => 2 - (intOf i).toNat)
  case atStart => exact ⟨0, by omega, rfl, rfl, Lib.hid ⟨fun h => absurd h (by omega), fun h => absurd h (by omega)⟩⟩
  case round =>
    obtain ⟨k, hk, rfl, rfl, hall⟩ := hrel
    rcases (show k = 0 ∨ k = 1 ∨ k = 2 by omega) with rfl | rfl | rfl
    · cases A with
      | true =>
        go_wp2_with (go_at_call 41; (with_reducible refine (C0.out).mono ?_); rintro e w' ⟨rfl, rfl⟩)
        go_roundw
        case rel => exact ⟨1, by omega, by go_num, trivial, Lib.hid ⟨fun _ => trivial, fun h => absurd h (by omega)⟩⟩
        case measure => simp [intOf]
      | false =>
        go_wp2_with (go_at_call 41; (with_reducible refine (C0.out).mono ?_); rintro e w' ⟨rfl, rfl⟩)
        go_ret
        exact ⟨ret_bool rfl, rfl⟩
    · cases B with
      | true =>
        go_wp2_with (go_at_call 41; (with_reducible refine (C1.out).mono ?_); rintro e w' ⟨rfl, rfl⟩)
        go_roundw
        case rel => exact ⟨2, by omega, by go_num, trivial, Lib.hid ⟨fun _ => hall.out.1 (by omega), fun _ => trivial⟩⟩
        case measure => simp [intOf]
      | false =>
        go_wp2_with (go_at_call 41; (with_reducible refine (C1.out).mono ?_); rintro e w' ⟨rfl, rfl⟩)
        go_ret
        exact ⟨ret_bool (by rw [Bool.and_false]), rfl⟩
    · have HA := Lib.hid (hall.out.1 (by omega))
      have HB := Lib.hid (hall.out.2 (by omega))
      go_wp2_with fail
      go_ret
      exact ⟨ret_bool (by rw [HA.out, HB.out]; rfl), rfl⟩
set_option maxHeartbeats 1000000 in
theorem check_any (pt cm : UInt8) (w : World) : Calls Tryd.prog 26 #[symV pt cm] w (Gives w (errV (symF pt cm))) := by
  have HB : Hid (Bs w _ [_]) := Lib.hid (bs_one w (symC pt cm) 25)
  have CH := Lib.hid (holds_any pt cm (w.heap.size + 1) ((w.alloc (.cells (symC pt cm).toArray 25)).alloc (.cells #[.int .u8 pt.toNat, .int .u8 cm.toNat] 5)) (by simp) (by simp))
  have HB2 : Hid (Below w.heap.size w ((w.alloc (.cells (symC pt cm).toArray 25)).alloc (.cells #[.int .u8 pt.toNat, .int .u8 cm.toNat] 5))) := Lib.hid (bel_alloc (bel_alloc (Below.refl _ _) _) _)
  have HC : Hid (∀ i v, (symC pt cm)[i]? = some v → ((w.alloc (.cells (symC pt cm).toArray 25)).alloc (.cells #[.int .u8 pt.toNat, .int .u8 cm.toNat] 5)).cell? ⟨w.heap.size, i, none⟩ = some v) := Lib.hid fun i v h => by
    have := (HB.out.call (Below.refl _ _)).alloc [.int .u8 pt.toNat, .int .u8 cm.toNat] 5
    exact this.cell (j := 1) (i := i) (v := v) rfl h
  have HF : Hid (symF pt cm = if pt ≠ cm ∧ signL.contains pt = true ∧ signL.contains cm = true then 0 else 3) := Lib.hid rfl
  have HE : Hid (pt = cm ↔ (pt.toNat : Int) = (cm.toNat : Int)) := Lib.hid ⟨fun h => by rw [h], fun h => UInt8.toNat_inj.1 (by omega)⟩
  generalize symF pt cm = F at *
  generalize signL.contains pt = A at *
  generalize signL.contains cm = B at *
  obtain ⟨d0, d1, -⟩ := HB.out.cells
  have k0 := HC.out 0 _ rfl
  have k1 := HC.out 1 _ rfl
  generalize hW : (w.alloc (.cells (symC pt cm).toArray 25)).alloc (.cells #[.int .u8 pt.toNat, .int .u8 cm.toNat] 5) = W at *
  by_cases hAB : (A && B) = true
  · rw [hAB] at CH
    by_cases he : pt = cm
    · obtain rfl : F = 3 := by rw [HF.out, if_neg fun h => h.1 he]
      subst he
      clear HF HE hAB
      go_enter Tryd.func26, Tryd.ntmps26
      go_wp2_with (go_at_call 42; (with_reducible refine (CH.out).mono ?_); rintro e w' ⟨rfl, rfl⟩)
      go_ret
      exact ⟨rfl, HB2.out⟩
    · rw [Bool.and_eq_true] at hAB
      obtain rfl : F = 0 := by rw [HF.out, if_pos ⟨he, hAB⟩]
      have hne : ((pt.toNat : Int) == (cm.toNat : Int)) = false := beq_eq_false_iff_ne.2 fun h => he (HE.out.2 h)
      clear HF HE hAB he
      go_enter Tryd.func26, Tryd.ntmps26
      go_wp2_with (go_at_call 42; (with_reducible refine (CH.out).mono ?_); rintro e w' ⟨rfl, rfl⟩)
      go_ret
      exact ⟨rfl, HB2.out⟩
  · rw [Bool.not_eq_true] at hAB
    rw [hAB] at CH
    obtain rfl : F = 3 := by
      rw [HF.out, if_neg fun h => ?_]
      rw [h.2.1, h.2.2] at hAB
      cases hAB
    clear HF HE hAB
    go_enter Tryd.func26, Tryd.ntmps26
    go_wp2_with (go_at_call 42; (with_reducible refine (CH.out).mono ?_); rintro e w' ⟨rfl, rfl⟩)
    go_ret
    exact ⟨rfl, HB2.out⟩
set_option maxHeartbeats 1000000 in
theorem both_any (p : PatV) (pt cm : UInt8) (w : World) (h1 : p.pre.length ≤ 140737488355328) (h2 : p.suf.length ≤ 140737488355328) :
    Calls Tryd.prog 12 #[patV p, symV pt cm] w (Gives w (errV (baseF p pt cm))) := by
  have HB : Hid (Bs w _ [(w.heap.size + 1, symC pt cm), (w.heap.size, patC p)]) := Lib.hid (by
    have := (bs_one w (patC p) 23).alloc (symC pt cm) 25
    simp only [World.size_alloc] at this
    exact this)
  have CP := Lib.hid fun W => Np.check_any p W h1 h2
  have CS := Lib.hid fun W => check_any pt cm W
  have HF : Hid (baseF p pt cm = if patF p = 0 then symF pt cm else patF p) := Lib.hid rfl
  clear h1 h2
  obtain ⟨pre, suf, a, b, m, g, g2⟩ := p
  generalize baseF ⟨pre, suf, a, b, m, g, g2⟩ pt cm = F at *
  generalize patF ⟨pre, suf, a, b, m, g, g2⟩ = P at *
  obtain ⟨d0, d1, p0, p1, p2, p3, p4, p5, p6, -⟩ := HB.out.cells
  by_cases h : P = 0
  · obtain rfl : F = symF pt cm := by rw [HF.out, if_pos h]
    subst h
    rw [show errV 0 = .nilIface from rfl] at CP
    generalize symF pt cm = F at *
    clear HF
    go_enter Tryd.func12, Tryd.ntmps12
    go_upto_region 4 with (go_at_call 19; (with_reducible refine (CP.out _).mono ?_); rintro e w1 ⟨rfl, hb1⟩)
    have HB1 := Lib.hid (HB.out.call hb1)
    clear d0 d1 p0 p1 p2 p3 p4 p5 p6
    obtain ⟨d0, d1, p0, p1, p2, p3, p4, p5, p6, -⟩ := HB1.out.cells
    go_wp2_with (go_at_call 26; (with_reducible refine (CS.out _).mono ?_); rintro e w2 ⟨rfl, hb2⟩)
    go_ret
    exact ⟨rfl, (HB1.out.call hb2).below⟩
  · obtain rfl : F = P := by rw [HF.out, if_neg h]
    rw [show errV F = .iface 54 (.int .i64 F) from if_neg h] at *
    clear HF CS h
    go_enter Tryd.func12, Tryd.ntmps12
    go_wp2_with (go_at_call 19; (with_reducible refine (CP.out _).mono ?_); rintro e w1 ⟨rfl, hb1⟩)
    go_ret
    exact ⟨rfl, (HB.out.call hb1).below⟩
theorem check_ok (w : World) : ∀ (pt cm : UInt8) (W : World), Below w.heap.size w W → Calls Tryd.prog 26 #[symV pt cm] W (Gives W (errV (symF pt cm))) := fun pt cm W _ => check_any pt cm W
end No
end Go.Proofs.YtehocgemgdbikaaDoor

/- The program's Format: the number, rounded, its text, cut and put together. -/
namespace Go.Proofs.YtehocgemgdbikaaDoor
namespace No
open Go.RowKit D Ru Np

theorem noughts_size (k : Nat) : (str (noughts k)).size = k := by rw [str_len]; unfold noughts; simp
theorem zeros_any (n : Int) (w : World) (h1 : n ≤ 100) : Calls Tryd.prog 17 #[.int .i64 n] w (Gives w (.string (str (noughts n.toNat)))) := by
  have C := Lib.hid (noughts_any n.toNat w (by omega))
  have e : max n 0 = (n.toNat : Int) := by omega
  generalize n.toNat = k at *
  go_enter Tryd.func17, Tryd.ntmps17
  go_wp2_with (go_at_call 35; (with_reducible refine C.out.mono ?_); rintro e w' ⟨rfl, hb⟩)
  go_ret
  exact ⟨rfl, hb⟩
theorem trimR_any (l : List UInt8) (w : World) (hl : l.length ≤ 140737488355328) : Calls Tryd.prog 37 #[.string (str l), .string ⟨#[48]⟩] w fun e w' => e = .returned (.string (str (Lib.trimRightB l 48))) ∧ w = w' := by
  refine (Tryd.strings_TrimRight_one (str l) 48 (by decide) w (by rw [str_len]; omega)).mono fun e w' ⟨he, hw⟩ => ⟨?_, hw.symm⟩
  rw [he, str_data]
theorem trimR_le (l : List UInt8) : (Lib.trimRightB l 48).length ≤ l.length := by
  unfold Lib.trimRightB
  rw [List.length_reverse]
  have := (List.dropWhile_sublist (p := (· == (48 : UInt8))) (l := l.reverse)).length_le
  rw [List.length_reverse] at this
  exact this
/-- a sign as a text -/
theorem sign_text {c : UInt8} (h : signL.contains c = true) (w : World) : (convert 5 9 (.int .u8 (c.toNat : Int))).run Tryd.prog w = .ok (.string (str [c])) w := by
  unfold signL at h
  simp at h
  rcases h with rfl | rfl | rfl | rfl <;> kernel_rfl
set_option maxHeartbeats 1000000 in
set_option maxRecDepth 100000 in
theorem part_any (l : List UInt8) (b : Int) (pt cm : UInt8) (w : World) (hl : l.length ≤ 20) (h0 : 0 ≤ b) (h1 : b ≤ 6) (hy : SymOk pt cm) :
    Calls Tryd.prog 18 #[.string (str l), .int .i64 b, symV pt cm] w (Gives w (.string (str (partL pt b.toNat l)))) := by
  have HB : Hid (Bs w _ [_]) := Lib.hid (bs_one w (symC pt cm) 25)
  have CT := Lib.hid fun W => trimR_any l W (by omega)
  have hle := trimR_le l
  have HP : Hid (partL pt b.toNat l = if Lib.trimRightB l 48 ++ noughts (b.toNat - (Lib.trimRightB l 48).length) = [] then [] else pt :: (Lib.trimRightB l 48 ++ noughts (b.toNat - (Lib.trimRightB l 48).length))) := Lib.hid rfl
  have HS := Lib.hid fun W => sign_text hy.2.1 W
  have hz := str_len (Lib.trimRightB l 48)
  obtain ⟨r, hr⟩ : ∃ r, r = Lib.trimRightB l 48 := ⟨_, rfl⟩
  rw [← hr] at CT HP hz hle
  have CZ := Lib.hid fun W => zeros_any (b - (r.length : Int)) W (by omega)
  rw [show (b - (r.length : Int)).toNat = b.toNat - r.length by omega] at CZ
  have hn := noughts_size (b.toNat - r.length)
  have w1 : IntKind.i64.wrap (b - (r.length : Int)) = b - (r.length : Int) := by rw [IntKind.wrap_i64]; omega
  have hadd : str r ++ str (noughts (b.toNat - r.length)) = str (r ++ noughts (b.toNat - r.length)) := add_str _ _
  have hg : ¬ 9223372036854775807 < (str r).size + (str (noughts (b.toNat - r.length))).size := by omega
  have hfs := str_len (r ++ noughts (b.toNat - r.length))
  have hfl : (r ++ noughts (b.toNat - r.length)).length ≤ 40 := by rw [← hfs, ← hadd, ByteArray.size_append]; omega
  have hp1 : str [pt] ++ str (r ++ noughts (b.toNat - r.length)) = str (pt :: (r ++ noughts (b.toNat - r.length))) := add_str [pt] _
  have hg2 : ¬ 9223372036854775807 < (str [pt]).size + (str (r ++ noughts (b.toNat - r.length))).size := by rw [str_len, hfs]; simp only [List.length_cons, List.length_nil]; omega
  have hem : (str (r ++ noughts (b.toNat - r.length)) = ⟨#[]⟩) ↔ r ++ noughts (b.toNat - r.length) = [] := ⟨fun h => by have := congrArg (fun x : ByteArray => x.data.toList) h; simpa using this, fun h => by rw [h]⟩
  have HEM := Lib.hid hem; clear hem hle hr
  generalize r ++ noughts (b.toNat - r.length) = F at *
  generalize str (noughts (b.toNat - r.length)) = Z at *
  obtain ⟨d0, d1, -⟩ := HB.out.cells
  by_cases hF : F = []
  · rw [if_pos hF] at HP
    have he := HEM.out.2 hF
    rw [HP.out]
    clear HP HS hp1 hg2 hF HEM
    go_enter Tryd.func18, Tryd.ntmps18
    go_wp2_with (first
      | (go_at_call 37; (with_reducible refine (CT.out _).mono ?_); rintro e w1 ⟨rfl, rfl⟩)
      | (go_at_call 17; (with_reducible refine (CZ.out _).mono ?_); rintro e w2 ⟨rfl, hb2⟩))
    go_ret
    exact ⟨rfl, (HB.out.call hb2).below⟩
  · rw [if_neg hF] at HP
    have hne : str F ≠ ⟨#[]⟩ := fun h => hF (HEM.out.1 h)
    have hne1 : (str F).toList.isEmpty = false := by
      cases hb : (str F).toList.isEmpty with
      | false => rfl
      | true =>
        exfalso
        apply hne
        apply ba_ext
        rw [← ByteArray.toList_eq]
        exact List.isEmpty_iff.1 hb
    rw [HP.out]
    clear HP hF HEM hne
    generalize str F = T at *
    generalize str (pt :: F) = U at *
    generalize str [pt] = Q at *
    go_enter Tryd.func18, Tryd.ntmps18
    go_upto_region 3 with (first
      | (go_at_call 37; (with_reducible refine (CT.out _).mono ?_); rintro e w1 ⟨rfl, rfl⟩)
      | (go_at_call 17; (with_reducible refine (CZ.out _).mono ?_); rintro e w2 ⟨rfl, hb2⟩))
    have HB2 := Lib.hid (HB.out.call hb2)
    clear d0 d1
    obtain ⟨d0, d1, -⟩ := HB2.out.cells
    have hsg := HS.out w2
    go_wp2_with fail
    go_ret
    exact ⟨rfl, HB2.out.below⟩
/-! ### Format -/
theorem cutminus_any (t : List UInt8) (w : World) : Calls Tryd.prog 14 #[.string (str t), .string ⟨#[45]⟩] w fun e w' => e = .returned (.tuple #[.string (str (bareT t)), .bool (negT t)]) ∧ w = w' := by
  refine (Tryd.strings_CutPrefix (str t) ⟨#[45]⟩ w).mono fun e w' ⟨he, hw⟩ => ⟨?_, hw.symm⟩
  rw [he, str_data]
  show Ending.returned (.tuple #[.string (str (Lib.trimPrefix t [45])), .bool (Lib.hasPrefix t [45])]) = _
  have hn : Lib.hasPrefix t [45] = negT t := by
    unfold Lib.hasPrefix negT
    cases t with
    | nil => rfl
    | cons c r =>
      simp [List.isPrefixOf]
      exact Bool.beq_comm
  unfold bareT Lib.trimPrefix
  rw [hn]
  rfl
theorem text_bare (c : Int) (k : Nat) : negT (text c k) = decide (c < 0) ∧ bareT (text c k) = text (c.natAbs : Nat) k := by
  have hd : ∀ k, negT (text (c.natAbs : Nat) k) = false := fun k => by
    obtain ⟨b, r, e⟩ := List.exists_cons_of_ne_nil (dec_ne (((c.natAbs : Nat) : Int).natAbs / 10 ^ k))
    have hb := dec_digs _ b (by rw [e]; simp)
    unfold negT text
    rw [if_neg (by omega), List.nil_append, e]
    simp
    rintro rfl
    exact absurd hb.1 (by decide)
  by_cases h : c < 0
  · have e : text c k = 45 :: text (c.natAbs : Nat) k := by
      unfold text
      rw [if_pos h, if_neg (by omega : ¬ ((c.natAbs : Nat) : Int) < 0), Int.natAbs_natCast]; rfl
    rw [e, decide_eq_true h]
    exact ⟨rfl, rfl⟩
  · have e : ((c.natAbs : Nat) : Int) = c := by omega
    have := hd k
    rw [e] at this ⊢
    rw [decide_eq_false h]
    unfold bareT
    rw [this]
    exact ⟨rfl, rfl⟩
theorem dec_long {n : Nat} (h : n ≤ 1000000000000000) (t : Nat) : 1 ≤ (Lib.decDigits (n / 10 ^ t)).length ∧ (Lib.decDigits (n / 10 ^ t)).length ≤ 16 := by
  have hp := Lib.nDigits_pos (n / 10 ^ t)
  have hd : n / 10 ^ t ≤ n := Nat.div_le_self _ _
  rw [Lib.decDigits_length]
  exact ⟨hp, nDigits_le (by decide) (by omega)⟩
/-- a right pattern's parts -/
structure PatOk (p : PatV) : Prop where
  pre : p.pre.length ≤ 5
  suf : p.suf.length ≤ 5
  a1 : 1 ≤ p.a
  a9 : p.a ≤ 9
  m0 : 0 ≤ p.m
  m6 : p.m ≤ 6
  b0 : 0 ≤ p.b
  b6 : p.b ≤ 6
  sz : Gr.SzOk p.g p.g2
theorem pat_ok {p : PatV} (hp : patF p = 0) : PatOk p := by
  unfold patF at hp
  by_cases h1 : Aff p.pre ∧ Aff p.suf
  · rw [if_pos h1] at hp
    split at hp
    · rename_i h2
      obtain ⟨⟨a1, a9⟩, ⟨m0, m6⟩, ⟨b0, bm⟩, hg, hg2⟩ := h2
      exact ⟨h1.1.1, h1.2.1, a1, a9, m0, m6, b0, by omega, ⟨hg, hg2⟩⟩
    · cases hp
  · rw [if_neg h1] at hp; cases hp
set_option maxHeartbeats 4000000 in
set_option maxRecDepth 100000 in
theorem format_no (p : PatV) (pt cm : UInt8) (c s : Int) (w : World) (h1 : p.pre.length ≤ 140737488355328) (h2 : p.suf.length ≤ 140737488355328) (hf : fmtF p pt cm c s ≠ 0) :
    Calls Tryd.prog 7 #[patV p, symV pt cm, .agg #[.int .i64 c, .int .i64 s]] w (TextN w (fmtF p pt cm c s)) := by
  have HB0 : Hid (Bs w _ [(w.heap.size + 1 + 1, [.int .i64 c, .int .i64 s]), (w.heap.size + 1, symC pt cm), (w.heap.size, patC p)]) := Lib.hid (by
    have := ((bs_one w (patC p) 23).alloc (symC pt cm) 25).alloc [.int .i64 c, .int .i64 s] 27
    simp only [World.size_alloc] at this
    exact this)
  have CB := Lib.hid fun W => both_any p pt cm W h1 h2
  have HFF : Hid (fmtF p pt cm c s = if baseF p pt cm = 0 then (if Right c s then 0 else 1) else baseF p pt cm) := Lib.hid rfl
  clear h1 h2
  obtain ⟨pre, suf, a, b, m, g, g2⟩ := p
  generalize hF : fmtF ⟨pre, suf, a, b, m, g, g2⟩ pt cm c s = F at *
  clear hF
  generalize baseF ⟨pre, suf, a, b, m, g, g2⟩ pt cm = B at *
  obtain ⟨d0, d1, y0, y1, p0, p1, p2, p3, p4, p5, p6, -⟩ := HB0.out.cells
  by_cases hb : B = 0
  · subst hb
    rw [show errV 0 = .nilIface from rfl] at CB
    rw [if_pos rfl] at HFF
    by_cases hr : Right c s
    · rw [if_pos hr] at HFF; exact absurd HFF.out hf
    · rw [if_neg hr] at HFF
      obtain rfl := HFF.out
      have CR := Lib.hid fun (t : Int) (W : World) => by
        have := round_any c s t 5 W
        rw [roundV_one (show roundF c s t 5 = 1 by unfold roundF; rw [if_pos hr])] at this
        exact this
      clear HFF hr hf
      go_enter Tryd.func7, Tryd.ntmps7
      go_upto_region 4 with (go_at_call 12; (with_reducible refine (CB.out _).mono ?_); rintro e w1 ⟨rfl, hb1⟩)
      have HB1 := Lib.hid (HB0.out.call hb1)
      clear d0 d1 y0 y1 p0 p1 p2 p3 p4 p5 p6
      obtain ⟨d0, d1, y0, y1, p0, p1, p2, p3, p4, p5, p6, -⟩ := HB1.out.cells
      go_upto_region 5 with (go_at_call 13; (with_reducible refine (CR.out _ _).mono ?_); rintro e w2 ⟨rfl, hb2⟩; (have HB2 := Lib.hid (HB1.out.call hb2)); (obtain ⟨q0, q1⟩ := HB2.out.open2); (obtain ⟨e0, e1, -⟩ := HB2.out.cells); dsimp only)
      go_wp2_with fail
      go_ret2
      exact ⟨rfl, (HB2.out.put2 (.int .i64 0) (.int .i64 0)).below⟩
  · rw [show errV B = .iface 54 (.int .i64 B) from if_neg hb] at CB
    rw [if_neg hb] at HFF
    obtain rfl := HFF.out
    clear HFF hb
    go_enter Tryd.func7, Tryd.ntmps7
    go_wp2_with (go_at_call 12; (with_reducible refine (CB.out _).mono ?_); rintro e w1 ⟨rfl, hb1⟩)
    go_ret2
    exact ⟨rfl, (HB0.out.call hb1).below⟩
/-! ### Format of a right number -/
theorem ahead_abs (r : Int) (t : Nat) : D.ahead (r.natAbs : Nat) t = Lib.decDigits (r.natAbs / 10 ^ t) := by
  unfold D.ahead
  rw [if_neg (by omega), List.nil_append, Int.natAbs_natCast]
theorem pad_sum (a : Int) (n : Nat) : noughts (a - ((Lib.decDigits n).length : Int)).toNat ++ Lib.decDigits n = pad a.toNat n := by
  unfold pad
  rw [Lib.decDigits_length, show (a - (Lib.nDigits n : Int)).toNat = a.toNat - Lib.nDigits n by omega]
theorem str_add (a b : List UInt8) : str a ++ str b = str (a ++ b) := add_str a b
theorem part_len (pt : UInt8) (b : Nat) (l : List UInt8) : (partL pt b l).length ≤ b + l.length + 1 := by
  have hle := trimR_le l
  unfold partL noughts
  split
  · simp
  · simp; omega
theorem pad_len (a n : Nat) : (pad a n).length ≤ a + Lib.nDigits n := by
  unfold pad noughts
  rw [List.length_append, List.length_replicate, Lib.decDigits_length]; omega
set_option maxHeartbeats 8000000 in
set_option maxRecDepth 100000 in
theorem format_yes (p : PatV) (pt cm : UInt8) (c : Int) (s : Nat) (w : World) (hp : patF p = 0) (hy : SymOk pt cm) (hr : Right c s) (hP : Pow w) :
    Calls Tryd.prog 7 #[patV p, symV pt cm, .agg #[.int .i64 c, .int .i64 s]] w (TextY w (str (shownL p pt cm (fitI p c s).1 (fitI p c s).2))) := by
  have HB0 : Hid (Bs w _ [(w.heap.size + 1 + 1, [.int .i64 c, .int .i64 s]), (w.heap.size + 1, symC pt cm), (w.heap.size, patC p)]) := Lib.hid (by
    have := ((bs_one w (patC p) 23).alloc (symC pt cm) 25).alloc [.int .i64 c, .int .i64 s] 27
    simp only [World.size_alloc] at this
    exact this)
  have ok := pat_ok hp
  have CB := Lib.hid fun W => both_any p pt cm W (by have := ok.pre; omega) (by have := ok.suf; omega)
  rw [base_ok hp hy, show errV 0 = .nilIface from rfl] at CB
  obtain ⟨hro, hrr⟩ := round_ok (p := p) hr
  have CR := Lib.hid fun (W : World) => by
    have := round_any c s (tI p s : Nat) 5 W
    rw [roundV_ok hro, show rc c s (tI p s : Nat) 5 = rI p c s from rfl] at this
    exact this
  have hmin : min (s : Int) p.m = ((tI p s : Nat) : Int) := by unfold tI; have := ok.m0; omega
  have hsh := shown_text (p := p) (pt := pt) (cm := cm) hr
  have hrl : (rI p c s).natAbs ≤ 1000000000000000 := by have := hrr.2.2; omega
  have ht6 : tI p s ≤ 6 := by unfold tI; have := ok.m6; omega
  generalize rI p c s = r at *
  generalize tI p s = t at *
  have CT := Lib.hid fun (W : World) (hW : Below w.heap.size w W) => by
    have := text_pow r t W hrr (hP.later hW)
    rw [show ((t : Int)).toNat = t from rfl] at this
    exact this
  have CP := Lib.hid fun W => cutminus_any (text r t) W
  rw [(text_bare r t).1, (text_bare r t).2] at CP
  have hxs : (text (r.natAbs : Nat) t).length ≤ 30 := by
    rw [text_ahead, ahead_abs, List.length_append]
    have := (dec_long hrl t).2
    split <;> simp [low_length] <;> omega
  have CC := Lib.hid fun W => D.cut_any (str (text (r.natAbs : Nat) t)) W (by rw [str_len]; omega)
  rw [str_data, (cut_text (r.natAbs : Nat) t).1, (cut_text (r.natAbs : Nat) t).2, ahead_abs, Int.natAbs_natCast] at CC
  obtain ⟨L1, L2⟩ := dec_long hrl t
  have hLs := str_len (Lib.decDigits (r.natAbs / 10 ^ t))
  have CZ := Lib.hid fun W => zeros_any (p.a - ((Lib.decDigits (r.natAbs / 10 ^ t)).length : Int)) W (by have := ok.a9; omega)
  have hpad := str_add (noughts (p.a - ((Lib.decDigits (r.natAbs / 10 ^ t)).length : Int)).toNat) (Lib.decDigits (r.natAbs / 10 ^ t))
  rw [pad_sum] at hpad
  have hZs := noughts_size (p.a - ((Lib.decDigits (r.natAbs / 10 ^ t)).length : Int)).toNat
  have hnum : Gr.putF (pad p.a.toNat (r.natAbs / 10 ^ t)) p.g p.g2 cm = 0 := Gr.putF_zero.2 ⟨⟨⟨pad_ne _ _, digs_dg (pad_digs _ _)⟩, (sign_not hy.2.2).1⟩, ok.sz⟩
  have hpl := pad_len p.a.toNat (r.natAbs / 10 ^ t)
  rw [← Lib.decDigits_length] at hpl
  have CU := Lib.hid fun W => textE_yes (Gr.put_any (pad p.a.toNat (r.natAbs / 10 ^ t)) p.g p.g2 cm W (by have := ok.a9; omega)) hnum
  rw [Gr.putT_zero hnum] at CU
  have hgl := Gr.grouped_le cm p.g.toNat p.g2.toNat (pad p.a.toNat (r.natAbs / 10 ^ t))
  have hGs := str_len (Gr.grouped cm p.g.toNat p.g2.toNat (pad p.a.toNat (r.natAbs / 10 ^ t)))
  have CA := Lib.hid fun W => part_any (low t r.natAbs) p.b pt cm W (by rw [low_length]; omega) ok.b0 ok.b6 hy
  have hal := part_len pt p.b.toNat (low t r.natAbs)
  rw [low_length] at hal
  have hAs := str_len (partL pt p.b.toNat (low t r.natAbs))
  have hpre := str_len p.pre
  have hsuf := str_len p.suf
  have wa : IntKind.i64.wrap (p.a - ((Lib.decDigits (r.natAbs / 10 ^ t)).length : Int)) = p.a - ((Lib.decDigits (r.natAbs / 10 ^ t)).length : Int) := by rw [IntKind.wrap_i64]; have := ok.a9; have := ok.a1; omega
  have o1 := ok.pre
  have o2 := ok.suf
  have o3 := ok.a9
  have o4 := ok.b6
  clear ok hnum hrr hro
  have HT : Hid (str (shownL p pt cm (fitI p c s).1 (fitI p c s).2) = str (if r < 0 then [45] else []) ++ (((str p.pre ++ str (Gr.grouped cm p.g.toNat p.g2.toNat (pad p.a.toNat (r.natAbs / 10 ^ t)))) ++ str (partL pt p.b.toNat (low t r.natAbs))) ++ str p.suf)) := Lib.hid (by
    rw [hsh, str_add, str_add, str_add, str_add]
    simp [List.append_assoc])
  generalize str (noughts (p.a - ((Lib.decDigits (r.natAbs / 10 ^ t)).length : Int)).toNat) = Z0 at *
  have hn : Hid (r < 0 → str (if r < 0 then [45] else []) = ⟨#[45]⟩) := Lib.hid fun h => by rw [if_pos h]
  have hn' : Hid (¬ r < 0 → str (if r < 0 then [45] else []) = ⟨#[]⟩) := Lib.hid fun h => by rw [if_neg h]
  have zG : (str (Gr.grouped cm p.g.toNat p.g2.toNat (pad p.a.toNat (r.natAbs / 10 ^ t)))).size ≤ 60 := by omega
  have zA : (str (partL pt p.b.toNat (low t r.natAbs))).size ≤ 20 := by omega
  have zP : (str p.pre).size ≤ 5 := by omega
  have zS : (str p.suf).size ≤ 5 := by omega
  have zZ : Z0.size ≤ 10 := by omega
  clear hsh hp hy hr hxs hrl ht6 hgl hal hAs hpre hsuf hGs hpl hZs o1 o2 o3 o4 L1
  generalize str (shownL p pt cm (fitI p c s).1 (fitI p c s).2) = R at *
  generalize (Lib.decDigits (r.natAbs / 10 ^ t)).length = L at *
  generalize str (text r t) = T0 at *
  generalize str (text (r.natAbs : Nat) t) = TX at *
  generalize str (Lib.decDigits (r.natAbs / 10 ^ t)) = Wh at *
  generalize str (pad p.a.toNat (r.natAbs / 10 ^ t)) = P at *
  generalize str (Gr.grouped cm p.g.toNat p.g2.toNat (pad p.a.toNat (r.natAbs / 10 ^ t))) = G at *
  generalize str (partL pt p.b.toNat (low t r.natAbs)) = A at *
  generalize str (low t r.natAbs) = Fr at *
  generalize (Lib.cut (text (r.natAbs : Nat) t) [46]).2.2 = bb at *
  generalize str (if r < 0 then [45] else []) = sg at *
  generalize Z0 = Z at *
  have hs1 := ByteArray.size_append (a := str p.pre) (b := G)
  have hs2 := ByteArray.size_append (a := str p.pre ++ G) (b := A)
  have hs3 := ByteArray.size_append (a := str p.pre ++ G ++ A) (b := str p.suf)
  have g1 : ¬ 9223372036854775807 < Z.size + Wh.size := by omega
  have g1' : ¬ 9223372036854775807 < Z.size + L := by omega
  have g2 : ¬ 9223372036854775807 < (str p.pre).size + G.size := by omega
  have g3 : ¬ 9223372036854775807 < (str p.pre ++ G).size + A.size := by omega
  have g4 : ¬ 9223372036854775807 < (str p.pre ++ G ++ A).size + (str p.suf).size := by omega
  have g2' : ¬ 9223372036854775807 < p.pre.length + G.size := by rw [← str_len]; omega
  have g4' : ¬ 9223372036854775807 < (str p.pre ++ G ++ A).size + p.suf.length := by rw [← str_len p.suf]; omega
  have g5 : ¬ 9223372036854775807 < 1 + (str p.pre ++ G ++ A ++ str p.suf).size := by omega
  clear hs1 hs2 hs3 zG zA zP zS zZ L2
  obtain ⟨pre, suf, a, b, m, gq, gk⟩ := p
  dsimp only at *
  obtain ⟨V1, hV1⟩ : ∃ V1, str pre ++ G = V1 := ⟨_, rfl⟩
  rw [hV1] at HT g3 g4 g4' g5
  obtain ⟨V2, hV2⟩ : ∃ V2, V1 ++ A = V2 := ⟨_, rfl⟩
  rw [hV2] at HT g4 g4' g5
  obtain ⟨V3, hV3⟩ : ∃ V3, V2 ++ str suf = V3 := ⟨_, rfl⟩
  rw [hV3] at HT g5
  obtain ⟨d0, d1, y0, y1, p0, p1, p2, p3, p4, p5, p6, -⟩ := HB0.out.cells
  go_enter Tryd.func7, Tryd.ntmps7
  go_upto_region 4 with (go_at_call 12; (with_reducible refine (CB.out _).mono ?_); rintro e w1 ⟨rfl, hb1⟩)
  have HB1 := Lib.hid (HB0.out.call hb1)
  clear d0 d1 y0 y1 p0 p1 p2 p3 p4 p5 p6
  obtain ⟨d0, d1, y0, y1, p0, p1, p2, p3, p4, p5, p6, -⟩ := HB1.out.cells
  go_upto_region 7 with (go_at_call 13; (with_reducible refine (CR.out _).mono ?_); rintro e w2 ⟨rfl, hb2⟩; (have HB2 := Lib.hid (HB1.out.call hb2)); (obtain ⟨q0, q1⟩ := HB2.out.open2); (obtain ⟨e0, e1, -⟩ := HB2.out.cells); dsimp only)
  have HB3 := Lib.hid (HB2.out.put2 (.int .i64 r) (.int .i64 t))
  clear d0 d1 y0 y1 p0 p1 p2 p3 p4 p5 p6 e0 e1 q0 q1 hmin CB CR
  generalize (w2.setCell ⟨w.heap.size + 1 + 1, 0, none⟩ (.int .i64 r)).setCell ⟨w.heap.size + 1 + 1, 1, none⟩ (.int .i64 t) = W3 at *
  obtain ⟨d0, d1, -⟩ := HB3.out.cells
  have hbel := HB3.out.below
  go_upto_region 9 with (first
    | (go_at_call 15; (with_reducible refine (CT.out _ hbel).mono ?_); rintro e w4 ⟨rfl, hb4⟩)
    | (go_at_call 14; (with_reducible refine (CP.out _).mono ?_); rintro e w5 ⟨rfl, rfl⟩; dsimp only)
    | (go_at_call 16; (with_reducible refine (CC.out _).mono ?_); rintro e w6 ⟨rfl, nd, rfl⟩; dsimp only))
  have HB4 := Lib.hid ((HB3.out.call hb4).drewN nd)
  clear d0 d1 hbel CT CP CC hb1 hb2 hb4 HB0 HB1 HB2
  generalize w4.drewN nd = W4 at *
  have HC : Hid (∀ wx, Below W4.heap.size W4 wx → Below W4.heap.size W4 wx ∧ wx.cell? ⟨w.heap.size, 2, none⟩ = some (.int .i64 a) ∧ wx.cell? ⟨w.heap.size, 5, none⟩ = some (.int .i64 gq) ∧ wx.cell? ⟨w.heap.size, 6, none⟩ = some (.int .i64 gk) ∧ wx.cell? ⟨w.heap.size + 1, 1, none⟩ = some (.int .u8 (cm.toNat : Int))) := Lib.hid fun wx hb => by
    obtain ⟨-, -, -, y1, -, -, p2, -, -, p5, p6, -⟩ := (HB4.out.call hb).cells
    exact ⟨hb, p2, p5, p6, y1⟩
  have HD : Hid (∀ wx, Below W4.heap.size W4 wx → wx.cell? ⟨w.heap.size, 0, none⟩ = some (.string (str pre)) ∧ wx.cell? ⟨w.heap.size, 1, none⟩ = some (.string (str suf)) ∧ wx.cell? ⟨w.heap.size, 3, none⟩ = some (.int .i64 b) ∧ wx.cell? ⟨w.heap.size + 1, 0, none⟩ = some (.int .u8 (pt.toNat : Int)) ∧ wx.cell? ⟨w.heap.size + 1, 1, none⟩ = some (.int .u8 (cm.toNat : Int))) := Lib.hid fun wx hb => by
    obtain ⟨-, -, y0, y1, p0, p1, -, p3, -⟩ := (HB4.out.call hb).cells
    exact ⟨p0, p1, p3, y0, y1⟩
  have HE : Hid (∀ wx, Below W4.heap.size W4 wx → Below w.heap.size w wx) := Lib.hid fun wx hb => (HB4.out.call hb).below
  clear HB3 HB4
  obtain ⟨hB0, k2, k5, k6, k1⟩ := HC.out _ (Below.refl W4.heap.size W4)
  go_region_held3 (fun wx => Below W4.heap.size W4 wx ∧ wx.cell? ⟨w.heap.size, 2, none⟩ = some (.int .i64 a) ∧ wx.cell? ⟨w.heap.size, 5, none⟩ = some (.int .i64 gq) ∧ wx.cell? ⟨w.heap.size, 6, none⟩ = some (.int .i64 gk) ∧ wx.cell? ⟨w.heap.size + 1, 1, none⟩ = some (.int .u8 (cm.toNat : Int)))
    (first | exact HC.out _ (by assumption) | exact HC.out _ (Below.drew (by assumption)))
    (first
      | (go_at_call 17; (with_reducible refine (CZ.out _).mono ?_); rintro e wy ⟨rfl, hby⟩; (have hTy : Below W4.heap.size W4 wy := by first | exact up_call (by assumption) hby | exact up_call (Below.drew (by assumption)) hby))
      | (go_at_call 9; (with_reducible refine (CU.out _).mono ?_); rintro e wz ⟨rfl, hbz⟩; (have hTz : Below W4.heap.size W4 wz := by first | exact up_call (by assumption) hbz | exact up_call (Below.drew (by assumption)) hbz); dsimp only))
  all_goals
    have hB1 : Below W4.heap.size W4 wz := hTz
    obtain ⟨j0, j1, j3, u0, u1⟩ := HD.out _ hB1
    clear k1 k2 k5 k6
    go_upto_region 10 with fail
    go_region_held3 (fun wx => Below W4.heap.size W4 wx ∧ wx.cell? ⟨w.heap.size, 0, none⟩ = some (.string (str pre)) ∧ wx.cell? ⟨w.heap.size, 1, none⟩ = some (.string (str suf)) ∧ wx.cell? ⟨w.heap.size, 3, none⟩ = some (.int .i64 b) ∧ wx.cell? ⟨w.heap.size + 1, 0, none⟩ = some (.int .u8 (pt.toNat : Int)) ∧ wx.cell? ⟨w.heap.size + 1, 1, none⟩ = some (.int .u8 (cm.toNat : Int)))
      (first | exact ⟨by assumption, HD.out _ (by assumption)⟩ | exact ⟨Below.drew (by assumption), HD.out _ (Below.drew (by assumption))⟩)
      (first | (go_at_call 18; (with_reducible refine (CA.out _).mono ?_); rintro e wp ⟨rfl, hbp⟩; (have hTp : Below W4.heap.size W4 wp := by first | exact up_call (by assumption) hbp | exact up_call (Below.drew (by assumption)) hbp)))
  all_goals
    have hfin := HE.out _ hTp
    by_cases hc : r < 0
    · have e := hn.out hc
      go_wp2_with fail
      go_ret2
      exact ⟨by rw [HT.out, e]; rfl, hfin⟩
    · have e := hn'.out (by omega)
      go_wp2_with fail
      go_ret2
      have e2 : R = V3 := by rw [HT.out, e]; exact ByteArray.empty_append
      exact ⟨by rw [e2]; rfl, hfin⟩
theorem format_any (p : PatV) (pt cm : UInt8) (c s : Int) (w : World) (h1 : p.pre.length ≤ 140737488355328) (h2 : p.suf.length ≤ 140737488355328) (hP : Pow w) :
    Calls Tryd.prog 7 #[patV p, symV pt cm, .agg #[.int .i64 c, .int .i64 s]] w (TextE w (fmtT p pt cm c s) (fmtF p pt cm c s)) := by
  by_cases hf : fmtF p pt cm c s = 0
  · obtain ⟨hb, hr⟩ := fmt_zero hf
    obtain ⟨hp, hy⟩ := base_zero hb
    obtain ⟨k, rfl⟩ : ∃ k : Nat, s = k := ⟨s.toNat, by have := hr.1; omega⟩
    refine (format_yes p pt cm c k w hp hy hr hP).mono fun e w' ⟨he, hw⟩ => ⟨?_, hw⟩
    rw [hf, show fmtT p pt cm c k = _ from if_pos hf]
    exact he
  · refine (format_no p pt cm c s w h1 h2 hf).mono fun e w' ⟨he, hw⟩ => ⟨?_, hw⟩
    rw [fmtT_no hf, show errV (fmtF p pt cm c s) = .iface 54 (.int .i64 (fmtF p pt cm c s)) from if_neg hf]
    exact he
theorem format_ok (N : Nat) (w : World) (hN : N ≤ 140737488355328) (hP : Pow w) : FormatOk N w := fun p pt cm c s W hW h1 h2 => format_any p pt cm c s W (by omega) (by omega) (hP.later hW)
end No
end Go.Proofs.YtehocgemgdbikaaDoor
