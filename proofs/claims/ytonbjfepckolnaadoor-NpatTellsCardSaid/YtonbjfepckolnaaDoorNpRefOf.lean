/- The reference's pattern of a text; what lay in memory stays as it was. -/
import Derived.Test.YtonbjfepckolnaaDoorNpOfMath
import Derived.Test.YtonbjfepckolnaaDoorNpRefText
import Derived.Test.YtonbjfepckolnaaDoorPut7
namespace Go.Proofs.YtonbjfepckolnaaDoor
namespace Np
open Go.RowKit D Ru

theorem take_str (l : List UInt8) (k : Nat) : (str l).extract 0 k = str (l.take k) := by
  apply ba_ext
  rw [ByteArray.data_extract, Array.toList_extract, str_data, str_data]; simp
theorem drop_str (l : List UInt8) (k : Nat) : (str l).extract k (str l).size = str (l.drop k) := by
  apply ba_ext
  rw [ByteArray.data_extract, Array.toList_extract, str_data, str_data, str_len]
  simp
  exact List.take_of_length_le (by rw [List.length_drop]; exact Nat.le_refl _)
theorem mark_no {c : UInt8} (h35 : c ≠ 35) (h48 : c ≠ 48) : mark c = false := by unfold mark; simp [h35, h48]
theorem byte_ne {c : UInt8} {n : Nat} (d : UInt8) (hd : d.toNat = n) (h : c ≠ d) : ¬ ((c.toNat : Int) = (n : Int)) := fun e => h (UInt8.toNat_inj.1 (by omega))
set_option maxHeartbeats 8000000 in
set_option maxRecDepth 100000 in
theorem refPatOf_any (s : List UInt8) (w : World) (hs : s.length ≤ 140737488355328) : Calls Tryd.prog 11 #[.string (str s)] w (OfP w (patO s)) := by
  have HB0 : Hid (Bs w _ [_]) := Lib.hid (bs_one w zeroC 23)
  have HG : Hid (∀ (k : Nat) (h : k < (str s).size), s[k]? = some (str s)[k]) := Lib.hid fun k h => by
    have hk : k < s.length := by rw [← str_len]; exact h
    rw [List.getElem?_eq_getElem hk]; rfl
  have HTK : Hid (∀ k, (str s).extract 0 k = str (s.take k)) := Lib.hid (take_str s)
  have HDR : Hid (∀ k, (str s).extract k (str s).size = str (s.drop k)) := Lib.hid (drop_str s)
  have hsz : (str s).size = s.length := str_len s
  have HSS := Lib.hid (rfl : str s = str s)
  generalize hS : str s = S at *
  clear HSS
  go_enter Tryd.func11, Tryd.ntmps11
  go_wp2_with fail
  generalize w.alloc (.cells #[.string ⟨#[]⟩, .string ⟨#[]⟩, .int .i64 0, .int .i64 0, .int .i64 0, .int .i64 0, .int .i64 0] 23) = W0 at *
  go_loop [4] (fun i => ∃ k : Nat, k ≤ S.size ∧ i = .int .i64 k ∧ Hid (∀ c ∈ s.take k, mark c = false)) (fun i => S.size - (intOf i).toNat)
  case atStart => exact ⟨0, Nat.zero_le _, rfl, Lib.hid fun c hc => by simp at hc⟩
  case round =>
    obtain ⟨k, hk, rfl, HA⟩ := hrel
    obtain ⟨C, HC⟩ := flag (∃ h : k < S.size, mark S[k] = false)
    go_upto_region 2 with fail
    go_cut [27] (fun s27 wx => s27 = .bool C ∧ W0 = wx)
    case first =>
      by_cases hlt : k < S.size
      · have hki : (k : Int) < (S.size : Int) := by omega
        by_cases h35 : S[k] = 35
        · have e1 : ((S[k].toNat : Int) == 35) = true := by rw [h35]; rfl
          have e2 : ((S[k].toNat : Int) != 35) = false := by rw [h35]; rfl
          have hd := HC.out.2 fun ⟨_, h⟩ => by rw [h35] at h; cases h
          clear h35
          go_wp2_with fail
          go_meet
          exact ⟨val_b hd.symm, rfl⟩
        · have e0 := byte_ne 35 rfl h35
          have e1 : ((S[k].toNat : Int) == 35) = false := by rw [beq_eq_false_iff_ne]; exact e0
          have e2 : ((S[k].toNat : Int) != 35) = true := by rw [bne_iff_ne]; exact e0
          by_cases h48 : S[k] = 48
          · have e3 : ((S[k].toNat : Int) == 48) = true := by rw [h48]; rfl
            have e4 : ((S[k].toNat : Int) != 48) = false := by rw [h48]; rfl
            have hd := HC.out.2 fun ⟨_, h⟩ => by rw [h48] at h; cases h
            clear h48 h35 e0
            go_wp2_with fail
            go_meet
            exact ⟨val_b hd.symm, rfl⟩
          · have e5 := byte_ne 48 rfl h48
            have e3 : ((S[k].toNat : Int) == 48) = false := by rw [beq_eq_false_iff_ne]; exact e5
            have e4 : ((S[k].toNat : Int) != 48) = true := by rw [bne_iff_ne]; exact e5
            have hd := HC.out.1 ⟨hlt, mark_no h35 h48⟩
            clear h48 h35 e0 e5
            go_wp2_with fail
            go_meet
            exact ⟨val_b hd.symm, rfl⟩
      · have hki : ¬ (k : Int) < (S.size : Int) := by omega
        have hd := HC.out.2 fun ⟨h, _⟩ => hlt h
        go_wp2_with fail
        go_meet
        exact ⟨val_b hd.symm, rfl⟩
    case rest =>
      obtain ⟨rfl, rfl⟩ := hcut
      cases hC : C
      · have hno := HC.out.no hC
        have HFST : Hid (k = s.length ∨ ∃ c, s[k]? = some c ∧ mark c = true) := Lib.hid (by
          by_cases hlt : k < S.size
          · refine .inr ⟨S[k], HG.out k hlt, ?_⟩
            cases hm : mark S[k]
            · exact absurd ⟨hlt, hm⟩ hno
            · rfl
          · exact .inl (by omega))
        clear hno HC hC
        go_wp2_with fail
        go_loop [5] (fun i => ∃ t : Nat, k ≤ t ∧ t ≤ S.size ∧ i = .int .i64 t ∧ Hid (∀ c ∈ s.drop t, mark c = false)) (fun i => (intOf i).toNat)
        case atStart => exact ⟨S.size, hk, Nat.le_refl _, by rw [hsz], Lib.hid fun c hc => by rw [List.drop_of_length_le (by omega)] at hc; cases hc⟩
        case round =>
          obtain ⟨t, hkt, ht, rfl, HB⟩ := hrel
          obtain ⟨C2, HC2⟩ := flag (∃ h : t - 1 < S.size, k < t ∧ mark S[t - 1] = false)
          go_upto_region 5 with fail
          go_cut [48] (fun s48 wx => s48 = .bool C2 ∧ W0 = wx)
          case first =>
            by_cases hlt : k < t
            · have hki : (k : Int) < (t : Int) := by omega
              have hw : IntKind.i64.wrap ((t : Int) - 1) = ((t - 1 : Nat) : Int) := by rw [IntKind.wrap_i64]; omega
              have hx : t - 1 < S.size := by omega
              have hxi : ((t - 1 : Nat) : Int) < (S.size : Int) := by omega
              by_cases h35 : S[t - 1] = 35
              · have e1 : ((S[t - 1].toNat : Int) == 35) = true := by rw [h35]; rfl
                have e2 : ((S[t - 1].toNat : Int) != 35) = false := by rw [h35]; rfl
                have hd := HC2.out.2 fun ⟨_, _, h⟩ => by rw [h35] at h; cases h
                clear h35
                go_wp2_with fail
                go_meet
                exact ⟨val_b hd.symm, rfl⟩
              · have e0 := byte_ne 35 rfl h35
                have e1 : ((S[t - 1].toNat : Int) == 35) = false := by rw [beq_eq_false_iff_ne]; exact e0
                have e2 : ((S[t - 1].toNat : Int) != 35) = true := by rw [bne_iff_ne]; exact e0
                by_cases h48 : S[t - 1] = 48
                · have e3 : ((S[t - 1].toNat : Int) == 48) = true := by rw [h48]; rfl
                  have e4 : ((S[t - 1].toNat : Int) != 48) = false := by rw [h48]; rfl
                  have hd := HC2.out.2 fun ⟨_, _, h⟩ => by rw [h48] at h; cases h
                  clear h48 h35 e0
                  go_wp2_with fail
                  go_meet
                  exact ⟨val_b hd.symm, rfl⟩
                · have e5 := byte_ne 48 rfl h48
                  have e3 : ((S[t - 1].toNat : Int) == 48) = false := by rw [beq_eq_false_iff_ne]; exact e5
                  have e4 : ((S[t - 1].toNat : Int) != 48) = true := by rw [bne_iff_ne]; exact e5
                  have hd := HC2.out.1 ⟨hx, hlt, mark_no h35 h48⟩
                  clear h48 h35 e0 e5
                  go_wp2_with fail
                  go_meet
                  exact ⟨val_b hd.symm, rfl⟩
            · have hki : ¬ (k : Int) < (t : Int) := by omega
              have hd := HC2.out.2 fun ⟨_, h, _⟩ => hlt h
              go_wp2_with fail
              go_meet
              exact ⟨val_b hd.symm, rfl⟩
          case rest =>
            obtain ⟨rfl, rfl⟩ := hcut
            cases hC : C2
            · have HE : Hid (Ends s k t) := Lib.hid ⟨hkt, by omega, HA.out, HFST.out, HB.out, by
                by_cases hlt : k < t
                · have hx : t - 1 < S.size := by omega
                  refine .inr ⟨S[t - 1], HG.out _ hx, ?_⟩
                  cases hm : mark S[t - 1]
                  · exact absurd ⟨hx, hlt, hm⟩ (HC2.out.no hC)
                  · rfl
                · exact .inl (by omega)⟩
              have HTKk := Lib.hid (HTK.out k)
              have HDRt := Lib.hid (HDR.out t)
              clear HC2 hC HA HB HFST HG HTK HDR
              obtain ⟨F, HF⟩ := flag (5 < k ∨ 5 < s.length - t ∨ 40 < t - k)
              have hw1 : IntKind.i64.wrap ((s.length : Int) - (t : Int)) = (s.length : Int) - (t : Int) := by rw [IntKind.wrap_i64]; omega
              have hw2 : IntKind.i64.wrap ((t : Int) - (k : Int)) = (t : Int) - (k : Int) := by rw [IntKind.wrap_i64]; omega
              go_upto_region 7 with fail
              go_cut [65] (fun s65 wx => s65 = .bool F ∧ W0 = wx)
              case first =>
                by_cases f1 : 5 < k
                · have f1i : (5 : Int) < (k : Int) := by omega
                  have hd := HF.out.1 (.inl f1)
                  clear f1
                  go_wp2_with fail
                  go_meet
                  exact ⟨val_b hd.symm, rfl⟩
                · have f1i : ¬ (5 : Int) < (k : Int) := by omega
                  by_cases f2 : 5 < s.length - t
                  · have f2i : (5 : Int) < (s.length : Int) - (t : Int) := by omega
                    have hd := HF.out.1 (.inr (.inl f2))
                    clear f1 f2
                    go_wp2_with fail
                    go_meet
                    exact ⟨val_b hd.symm, rfl⟩
                  · have f2i : ¬ (5 : Int) < (s.length : Int) - (t : Int) := by omega
                    by_cases f3 : 40 < t - k
                    · have f3i : (40 : Int) < (t : Int) - (k : Int) := by omega
                      have hd := HF.out.1 (.inr (.inr f3))
                      clear f1 f2 f3
                      go_wp2_with fail
                      go_meet
                      exact ⟨val_b hd.symm, rfl⟩
                    · have f3i : ¬ (40 : Int) < (t : Int) - (k : Int) := by omega
                      have hd := HF.out.2 fun h => h.elim f1 fun h => h.elim f2 f3
                      clear f1 f2 f3
                      go_wp2_with fail
                      go_meet
                      exact ⟨val_b hd.symm, rfl⟩
              case rest =>
                obtain ⟨rfl, rfl⟩ := hcut
                clear hw1 hw2
                have hNB := HB0.out.below
                cases hF : F
                · clear HF hF
                  have CFL : Hid (∀ (a b m g g2 : Nat) (W : World), Calls Tryd.prog 6 #[.agg #[.string (str (s.take k)), .string (str (s.drop t)), .int .i64 a, .int .i64 b, .int .i64 m, .int .i64 g, .int .i64 g2]] W (GivesI W (patF (patQ s k t a b m g g2)))) := Lib.hid fun a b m g g2 W => refPatFault_any (patQ s k t a b m g g2) W (by show (s.take k).length ≤ maxLen; rw [List.length_take]; unfold maxLen; omega) (by show (s.drop t).length ≤ maxLen; rw [List.length_drop]; unfold maxLen; omega)
                  have CTX : Hid (∀ (a b m g g2 : Nat), patF (patQ s k t a b m g g2) = 0 → ∀ (W : World), Calls Tryd.prog 9 #[.agg #[.string (str (s.take k)), .string (str (s.drop t)), .int .i64 a, .int .i64 b, .int .i64 m, .int .i64 g, .int .i64 g2]] W (Gives W (.string (str (patT (patQ s k t a b m g g2)))))) := Lib.hid fun a b m g g2 h W => refPatText_any (patQ s k t a b m g g2) W h
                  have HQV : Hid (∀ (a b m g g2 : Nat), Hit s k t a b m g g2 → ∀ w', Below w.heap.size w w' → OfP w (patO s) (.returned (.tuple #[.agg #[.string (str (s.take k)), .string (str (s.drop t)), .int .i64 a, .int .i64 b, .int .i64 m, .int .i64 g, .int .i64 g2], .bool true])) w') := Lib.hid fun a b m g g2 h w' hb => ⟨by rw [hit_some h]; rfl, hb⟩
                  have HNO : Hid (NoneYet (Hit s k t) (code 10 0 0 0 0) → ∀ w', Below w.heap.size w w' → OfP w (patO s) (.returned (.tuple #[.agg #[.string ⟨#[]⟩, .string ⟨#[]⟩, .int .i64 0, .int .i64 0, .int .i64 0, .int .i64 0, .int .i64 0], .bool false])) w') := Lib.hid fun h w' hb => ⟨by rw [none_all HE.out h]; rfl, hb⟩
                  have HHIT : Hid (∀ (a b m g g2 : Nat), Hit s k t a b m g g2 ↔ patF (patQ s k t a b m g g2) = 0 ∧ str (patT (patQ s k t a b m g g2)) = S) := Lib.hid fun a b m g g2 => by
                    unfold Hit
                    rw [← hS]
                    exact ⟨fun h => ⟨h.1, by rw [h.2]⟩, fun h => ⟨h.1, by have := congrArg (fun x : ByteArray => x.data.toList) h.2; simpa using this⟩⟩
                  have hk1 : (k : Int) ≤ (s.length : Int) := by omega
                  have ht1 : (t : Int) ≤ (s.length : Int) := by omega
                  have HTK2 := HTKk.out
                  have HDR2 := HDRt.out
                  have HDR3 : S.extract t s.length = str (s.drop t) := by rw [← HDR2, hsz]
                  clear HTKk HDRt HE hS
                  generalize Hit s k t = H at *
                  generalize str (s.take k) = PK at *
                  generalize str (s.drop t) = SD at *
                  generalize patQ s k t = Q at *
                  go_wp2_with fail
                  go_loopw [6] (fun i wr => ∃ a : Nat, 1 ≤ a ∧ a ≤ 10 ∧ i = .int .i64 a ∧ Hid (Bs w wr [(w.heap.size, zeroC)]) ∧ Hid (NoneYet H (code a 0 0 0 0))) (fun i _ => 10 - (intOf i).toNat)
                  case atStart => exact ⟨1, Nat.le_refl _, by omega, rfl, HB0, Lib.hid NoneYet.start⟩
                  case round =>
                    obtain ⟨a, ha1, ha10, rfl, HBa, HNa⟩ := hrel
                    generalize wr = Wa at *
                    by_cases ha9 : a ≤ 9
                    · have hai : (a : Int) ≤ 9 := by omega
                      go_wp2_with fail
                      go_loopw [7] (fun i wr => ∃ b : Nat, b ≤ 7 ∧ i = .int .i64 b ∧ Hid (Bs w wr [(w.heap.size, zeroC)]) ∧ Hid (NoneYet H (code a b 0 0 0))) (fun i _ => 7 - (intOf i).toNat)
                      case atStart => exact ⟨0, Nat.zero_le _, rfl, HBa, HNa⟩
                      case round =>
                        obtain ⟨b, hb7, rfl, HBb, HNb⟩ := hrel
                        generalize wr = Wb at *
                        by_cases hb6 : b ≤ 6
                        · have hbi : (b : Int) ≤ 6 := by omega
                          go_wp2_with fail
                          go_loopw [8] (fun i wr => ∃ m : Nat, b ≤ m ∧ m ≤ 7 ∧ i = .int .i64 m ∧ Hid (Bs w wr [(w.heap.size, zeroC)]) ∧ Hid (NoneYet H (code a b m 0 0))) (fun i _ => 7 - (intOf i).toNat)
                          case atStart => exact ⟨b, Nat.le_refl _, by omega, rfl, HBb, Lib.hid (HNb.out.from_ hb6)⟩
                          case round =>
                            obtain ⟨m, hbm, hm7, rfl, HBm, HNm⟩ := hrel
                            generalize wr = Wm at *
                            by_cases hm6 : m ≤ 6
                            · have hmi : (m : Int) ≤ 6 := by omega
                              go_wp2_with fail
                              go_loopw [9] (fun i wr => ∃ g : Nat, g ≤ 5 ∧ i = .int .i64 g ∧ Hid (Bs w wr [(w.heap.size, zeroC)]) ∧ Hid (NoneYet H (code a b m g 0))) (fun i _ => 5 - (intOf i).toNat)
                              case atStart => exact ⟨0, Nat.zero_le _, rfl, HBm, HNm⟩
                              case round =>
                                obtain ⟨g, hg5, rfl, HBg, HNg⟩ := hrel
                                generalize wr = Wg at *
                                by_cases hg4 : g ≤ 4
                                · have hgi : (g : Int) ≤ 4 := by omega
                                  go_wp2_with fail
                                  go_loopw [10] (fun i wr => ∃ g2 : Nat, g2 ≤ 5 ∧ i = .int .i64 g2 ∧ Hid (Bs w wr [(w.heap.size, zeroC)]) ∧ Hid (NoneYet H (code a b m g g2))) (fun i _ => 5 - (intOf i).toNat)
                                  case atStart => exact ⟨0, Nat.zero_le _, rfl, HBg, HNg⟩
                                  case round =>
                                    obtain ⟨g2, hg25, rfl, HBq, HNq⟩ := hrel
                                    generalize wr = Wq at *
                                    by_cases hg24 : g2 ≤ 4
                                    · have hqi : (g2 : Int) ≤ 4 := by omega
                                      have HD : Hid (Dom a b m g g2) := Lib.hid ⟨⟨ha1, ha9⟩, ⟨hbm, hm6⟩, hg4, hg24⟩
                                      have CF1 := Lib.hid (CFL.out a b m g g2)
                                      have CT1 := Lib.hid (CTX.out a b m g g2)
                                      have HH1 := Lib.hid (HHIT.out a b m g g2)
                                      have HQ1 := Lib.hid (HQV.out a b m g g2)
                                      have hne : ¬ H a b m g g2 → NoneYet H (code a b m g (g2 + 1)) := fun h => HNq.out.next HD.out h
                                      have HNE := Lib.hid hne
                                      clear hne CFL CTX HHIT HQV HNO HNq HD
                                      generalize H a b m g g2 = Hp at *
                                      generalize str (patT (Q a b m g g2)) = TX at *
                                      generalize patF (Q a b m g g2) = F0 at *
                                      go_upto_region 24 with fail
                                      go_region
                                      have HB1 := Lib.hid ((HBq.out.alloc [.string PK, .string SD, .int .i64 (a : Int), .int .i64 (b : Int), .int .i64 (m : Int), .int .i64 (g : Int), .int .i64 (g2 : Int)] 23).drew)
                                      try rw [HDR3]
                                      generalize hW1 : (Wq.alloc (.cells #[.string PK, .string SD, .int .i64 (a : Int), .int .i64 (b : Int), .int .i64 (m : Int), .int .i64 (g : Int), .int .i64 (g2 : Int)] 23)).drew = W1 at *
                                      clear hW1
                                      go_upto_region 25 with fail
                                      obtain ⟨Y, HY⟩ := flag Hp
                                      obtain ⟨c0, c1, c2, c3, c4, c5, c6, -⟩ := HB1.out.cells
                                      go_cut [108] (fun s108 wx => s108 = .bool Y ∧ ∃ V, Hid (Bs w V [(Wq.heap.size, [.string PK, .string SD, .int .i64 (a : Int), .int .i64 (b : Int), .int .i64 (m : Int), .int .i64 (g : Int), .int .i64 (g2 : Int)]), (w.heap.size, zeroC)]) ∧ V = wx)
                                      case first =>
                                        by_cases hf : F0 = 0
                                        · subst hf
                                          have CT2 := Lib.hid (CT1.out rfl)
                                          clear CT1
                                          by_cases ht : TX = S
                                          · have hd := HY.out.1 (HH1.out.2 ⟨rfl, ht⟩)
                                            subst ht
                                            go_wp2_with (first
                                              | (go_at_call 6; (with_reducible refine (CF1.out _).mono ?_); rintro e wf ⟨rfl, hbf⟩; (have HB2 := Lib.hid (HB1.out.call hbf)); (obtain ⟨q0, q1, q2, q3, q4, q5, q6, -⟩ := HB2.out.cells))
                                              | (go_at_call 9; (with_reducible refine (CT2.out _).mono ?_); rintro e wt ⟨rfl, hbt⟩; (have HB3 := Lib.hid (HB2.out.call hbt))))
                                            go_meet
                                            exact ⟨val_b hd.symm, _, HB3, rfl⟩
                                          · have hd := HY.out.2 fun h => ht (HH1.out.1 h).2
                                            have hne := (toList_ne ht).1
                                            clear ht
                                            go_wp2_with (first
                                              | (go_at_call 6; (with_reducible refine (CF1.out _).mono ?_); rintro e wf ⟨rfl, hbf⟩; (have HB2 := Lib.hid (HB1.out.call hbf)); (obtain ⟨q0, q1, q2, q3, q4, q5, q6, -⟩ := HB2.out.cells))
                                              | (go_at_call 9; (with_reducible refine (CT2.out _).mono ?_); rintro e wt ⟨rfl, hbt⟩; (have HB3 := Lib.hid (HB2.out.call hbt))))
                                            go_meet
                                            exact ⟨by rw [hd, ← hne], _, HB3, rfl⟩
                                        · have hd := HY.out.2 fun h => hf (HH1.out.1 h).1
                                          have hz : ((F0 : Int) == 0) = false := by rw [beq_eq_false_iff_ne]; omega
                                          clear hf
                                          go_wp2_with (go_at_call 6; (with_reducible refine (CF1.out _).mono ?_); rintro e wf ⟨rfl, hbf⟩; (have HB2 := Lib.hid (HB1.out.call hbf)))
                                          go_meet
                                          exact ⟨val_b hd.symm, _, HB2, rfl⟩
                                      case rest =>
                                        obtain ⟨rfl, V3, HB3, rfl⟩ := hcut
                                        clear c0 c1 c2 c3 c4 c5 c6 CF1 CT1 HH1 HB1 HBq
                                        cases hY : Y
                                        · have HN2 := Lib.hid (HNE.out (HY.out.no hY))
                                          clear hY HY
                                          go_wp2_with fail
                                          go_roundw
                                          case rel => exact ⟨g2 + 1, by omega, by go_num, Lib.hid HB3.out.tail, HN2⟩
                                          case measure => simp [intOf]; omega
                                        · have HQ2 := Lib.hid (HQ1.out (HY.out.yes hY))
                                          clear hY HY HNE HQ1
                                          obtain ⟨q0, q1, q2, q3, q4, q5, q6, r0, r1, r2, r3, r4, r5, r6, -⟩ := HB3.out.cells
                                          have f0 := HB3.out.free (j := 1) (i := 0) rfl rfl
                                          have f1 := HB3.out.free (j := 1) (i := 1) rfl rfl
                                          have f2 := HB3.out.free (j := 1) (i := 2) rfl rfl
                                          have f3 := HB3.out.free (j := 1) (i := 3) rfl rfl
                                          have f4 := HB3.out.free (j := 1) (i := 4) rfl rfl
                                          have f5 := HB3.out.free (j := 1) (i := 5) rfl rfl
                                          have f6 := HB3.out.free (j := 1) (i := 6) rfl rfl
                                          have H3 := HB3.out.put7b (.string PK) (.string SD) (.int .i64 (a : Int)) (.int .i64 (b : Int)) (.int .i64 (m : Int)) (.int .i64 (g : Int)) (.int .i64 (g2 : Int))
                                          go_wp2_with fail
                                          obtain ⟨-, -, -, -, -, -, -, z0, z1, z2, z3, z4, z5, z6, -⟩ := H3.cells
                                          refine bodyPost_ret (v := .tuple #[.agg #[.string PK, .string SD, .int .i64 (a : Int), .int .i64 (b : Int), .int .i64 (m : Int), .int .i64 (g : Int), .int .i64 (g2 : Int)], .bool true]) ?_ rfl (HQ2.out _ H3.below)
                                          simp [results, Tryd.results11, go_sem, z0, z1, z2, z3, z4, z5, z6]
                                    · have hqi : ¬ (g2 : Int) ≤ 4 := by omega
                                      obtain rfl : g2 = 5 := by omega
                                      go_wp2_with fail
                                      go_roundw
                                      case rel => exact ⟨g + 1, by omega, by go_num, HBq, Lib.hid HNq.out.g5⟩
                                      case measure => simp [intOf]; omega
                                · have hgi : ¬ (g : Int) ≤ 4 := by omega
                                  obtain rfl : g = 5 := by omega
                                  go_wp2_with fail
                                  go_roundw
                                  case rel => exact ⟨m + 1, by omega, by omega, by go_num, HBg, Lib.hid HNg.out.m5⟩
                                  case measure => simp [intOf]; omega
                            · have hmi : ¬ (m : Int) ≤ 6 := by omega
                              obtain rfl : m = 7 := by omega
                              go_wp2_with fail
                              go_roundw
                              case rel => exact ⟨b + 1, by omega, by go_num, HBm, Lib.hid HNm.out.b7⟩
                              case measure => simp [intOf]; omega
                        · have hbi : ¬ (b : Int) ≤ 6 := by omega
                          obtain rfl : b = 7 := by omega
                          go_wp2_with fail
                          go_roundw
                          case rel => exact ⟨a + 1, by omega, by omega, by go_num, HBb, Lib.hid HNb.out.a7⟩
                          case measure => simp [intOf]; omega
                    · have hai : ¬ (a : Int) ≤ 9 := by omega
                      obtain rfl : a = 10 := by omega
                      obtain ⟨r0, r1, r2, r3, r4, r5, r6, -⟩ := HBa.out.cells
                      have f0 := HBa.out.free (j := 0) (i := 0) rfl rfl
                      have f1 := HBa.out.free (j := 0) (i := 1) rfl rfl
                      have f2 := HBa.out.free (j := 0) (i := 2) rfl rfl
                      have f3 := HBa.out.free (j := 0) (i := 3) rfl rfl
                      have f4 := HBa.out.free (j := 0) (i := 4) rfl rfl
                      have f5 := HBa.out.free (j := 0) (i := 5) rfl rfl
                      have f6 := HBa.out.free (j := 0) (i := 6) rfl rfl
                      have H3 := HBa.out.put7 (.string ⟨#[]⟩) (.string ⟨#[]⟩) (.int .i64 0) (.int .i64 0) (.int .i64 0) (.int .i64 0) (.int .i64 0)
                      go_wp2_with fail
                      obtain ⟨z0, z1, z2, z3, z4, z5, z6, -⟩ := H3.cells
                      refine bodyPost_ret (v := .tuple #[.agg #[.string ⟨#[]⟩, .string ⟨#[]⟩, .int .i64 0, .int .i64 0, .int .i64 0, .int .i64 0, .int .i64 0], .bool false]) ?_ rfl (HNO.out HNa.out _ H3.below)
                      simp [results, Tryd.results11, go_sem, z0, z1, z2, z3, z4, z5, z6]
                · have HN := Lib.hid (far_none HE.out (HF.out.yes hF))
                  obtain ⟨r0, r1, r2, r3, r4, r5, r6, -⟩ := HB0.out.cells
                  have f0 := HB0.out.free (j := 0) (i := 0) rfl rfl
                  have f1 := HB0.out.free (j := 0) (i := 1) rfl rfl
                  have f2 := HB0.out.free (j := 0) (i := 2) rfl rfl
                  have f3 := HB0.out.free (j := 0) (i := 3) rfl rfl
                  have f4 := HB0.out.free (j := 0) (i := 4) rfl rfl
                  have f5 := HB0.out.free (j := 0) (i := 5) rfl rfl
                  have f6 := HB0.out.free (j := 0) (i := 6) rfl rfl
                  have H3 := HB0.out.put7 (.string ⟨#[]⟩) (.string ⟨#[]⟩) (.int .i64 0) (.int .i64 0) (.int .i64 0) (.int .i64 0) (.int .i64 0)
                  go_wp2_with fail
                  obtain ⟨z0, z1, z2, z3, z4, z5, z6, -⟩ := H3.cells
                  refine bodyPost_ret (v := .tuple #[.agg #[.string ⟨#[]⟩, .string ⟨#[]⟩, .int .i64 0, .int .i64 0, .int .i64 0, .int .i64 0, .int .i64 0], .bool false]) ?_ rfl ⟨by rw [HN.out]; rfl, H3.below⟩
                  simp [results, Tryd.results11, go_sem, z0, z1, z2, z3, z4, z5, z6]
            · obtain ⟨hx, hlt, hm⟩ := HC2.out.yes hC
              have HB2 : Hid (∀ c ∈ s.drop (t - 1), mark c = false) := Lib.hid fun c hc => by
                have hx' : t - 1 < s.length := by omega
                rw [List.drop_eq_getElem_cons hx'] at hc
                rcases List.mem_cons.1 hc with rfl | hc
                · have := HG.out (t - 1) hx
                  rw [List.getElem?_eq_getElem hx'] at this
                  rw [Option.some.inj this]; exact hm
                · rw [show t - 1 + 1 = t by omega] at hc
                  exact HB.out c hc
              have hw : IntKind.i64.wrap ((t : Int) - 1) = ((t - 1 : Nat) : Int) := by rw [IntKind.wrap_i64]; omega
              clear hC HC2 hm
              go_wp2_with fail
              go_round
              case rel => exact ⟨t - 1, by omega, by omega, by rfl, HB2⟩
              case measure => simp [intOf]; omega
      · obtain ⟨hlt, hm⟩ := HC.out.yes hC
        have HA2 : Hid (∀ c ∈ s.take (k + 1), mark c = false) := Lib.hid fun c hc => by
          have hk' : k < s.length := by omega
          rw [List.take_succ_eq_append_getElem hk'] at hc
          rcases List.mem_append.1 hc with hc | hc
          · exact HA.out c hc
          · have := HG.out k hlt
            rw [List.getElem?_eq_getElem hk'] at this
            rw [List.mem_singleton.1 hc, Option.some.inj this]; exact hm
        clear hC HC hm
        go_wp2_with fail
        go_round
        case rel => exact ⟨k + 1, by omega, by go_num, HA2⟩
        case measure => simp [intOf]; omega
end Np
end Go.Proofs.YtonbjfepckolnaaDoor
