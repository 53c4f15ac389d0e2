/- The law GroupTells returns true. -/
import Derived.Test.YtbacfehkalkmbaaDoorGrFact
import Derived.Test.YtbacfehkalkmbaaDoorGrTake
import Derived.Test.YtbacfehkalkmbaaDoorGrConv
import Derived.Test.YtbacfehkalkmbaaDoorGrRef
import Derived.Test.YtbacfehkalkmbaaDoorErrorSame
namespace Go.Proofs.YtbacfehkalkmbaaDoor
namespace Gr
open Go.RowKit Go.Maps D Ru

/-- what is wrong with the sign, with the sizes -/
def baseF (g g2 : Int) (c : UInt8) : Nat := if Dg c then 3 else if SzOk g g2 then 0 else 1
theorem putF_base (l : List UInt8) (g g2 : Int) (c : UInt8) : putF l g g2 c = if Num l then baseF g g2 c else 3 := by
  unfold putF baseF
  by_cases h1 : Num l <;> by_cases h2 : Dg c <;> simp [h1, h2]
theorem takeF_base (s : List UInt8) (g g2 : Int) (c : UInt8) : takeF s g g2 c = if baseF g g2 c = 0 then (if Num (bare c s) ∧ grouped c g.toNat g2.toNat (bare c s) = s then 0 else 3) else baseF g g2 c := by
  unfold takeF baseF
  by_cases h2 : Dg c
  · simp [h2]
  · by_cases h3 : SzOk g g2 <;> simp [h2, h3]
theorem base_cases (g g2 : Int) (c : UInt8) : (Dg c ∧ baseF g g2 c = 3) ∨ (¬ Dg c ∧ SzOk g g2 ∧ baseF g g2 c = 0) ∨ (¬ Dg c ∧ ¬ SzOk g g2 ∧ baseF g g2 c = 1) := by
  unfold baseF
  by_cases h2 : Dg c
  · simp [h2]
  · by_cases h3 : SzOk g g2 <;> simp [h2, h3]
theorem base_zero {g g2 : Int} {c : UInt8} (h : baseF g g2 c = 0) : SzOk g g2 := by
  rcases base_cases g g2 c with ⟨_, h'⟩ | ⟨_, h', _⟩ | ⟨_, _, h'⟩
  · omega
  · exact h'
  · omega
theorem fills_num (l : List UInt8) : fillsB (amongB [48, 49, 50, 51, 52, 53, 54, 55, 56, 57]) l 1 l.length = decide (Num l) := by
  unfold fillsB Num
  rw [Bool.eq_iff_iff]
  simp only [Bool.and_eq_true, decide_eq_true_iff, List.all_eq_true, ← List.length_pos_iff]
  constructor
  · rintro ⟨⟨h0, _⟩, h2⟩
    exact ⟨h0, fun c hc => (among_dig c).1 (h2 c hc)⟩
  · rintro ⟨h0, h2⟩
    exact ⟨⟨h0, Nat.le_refl _⟩, fun c hc => (among_dig c).2 (h2 c hc)⟩
theorem only_num (l : List UInt8) (W : World) (hl : l.length ≤ maxLen) : Calls Tryd.prog 6 #[.string (str l), .string ⟨#[48, 49, 50, 51, 52, 53, 54, 55, 56, 57]⟩, .int .i64 1, .int .i64 ((str l).size : Int)] W (Drawn W (.bool (decide (Num l)))) := by
  have := refOnly_any (str l) ⟨#[48, 49, 50, 51, 52, 53, 54, 55, 56, 57]⟩ 1 (str l).size W (by rw [D.ba_size, str_data]; exact hl) (by unfold maxLen; decide)
  rw [str_data, str_data, show (str l).size = l.length by rw [D.ba_size, str_data], fills_num] at this
  rw [show (str l).size = l.length by rw [D.ba_size, str_data]]
  exact this
theorem grouped_int (l : List UInt8) (g g2 : Int) (c : UInt8) (W : World) (h : SzOk g g2) (hl : l.length ≤ 1152921504606846976) : Calls Tryd.prog 7 #[.string (str l), .int .i64 g, .int .i64 g2, .string (str [c])] W (Drawn W (.string (str (grouped c g.toNat g2.toNat l)))) := by
  obtain ⟨⟨h0, h4⟩, k0, k4⟩ := h
  have := refGrouped_any c g.toNat g2.toNat l (by omega) (by omega) hl W
  rwa [show ((g.toNat : Nat) : Int) = g by omega, show ((g2.toNat : Nat) : Int) = g2 by omega] at this
/-- without the sign, so far -/
theorem bare_next (c : UInt8) (S : ByteArray) (k : Nat) (h : k < S.size) : bare c (S.data.toList.take (k + 1)) = bare c (S.data.toList.take k) ++ (if S[k] = c then [] else [S[k]]) := by
  rw [take_snoc S k h, bare_app]
  congr 1
  unfold bare
  by_cases hc : S[k] = c <;> simp [hc]
theorem one_str (S : ByteArray) (k : Nat) (h : k < S.size) : S.extract k (k + 1) = str [S[k]] := by
  apply ba_ext
  rw [ByteArray.data_extract, Array.toList_extract, str_data]
  have := take_snoc S k h
  rw [List.extract_eq_take_drop, ← List.drop_take, this, List.drop_append_of_le_length (by rw [List.length_take]; simp at *; omega)]
  rw [List.drop_of_length_le (by rw [List.length_take]; omega)]; rfl
set_option maxHeartbeats 8000000 in
set_option maxRecDepth 100000 in
theorem tells_any (N : Nat) (l s : List UInt8) (g g2 : Int) (c : UInt8) (w : World) (hG : PutOk N w) (hK : TakeOk N w) (hg : ErrType w) (h5 : 5 ≤ N) (hl : l.length ≤ N) (hs : s.length ≤ N) (hN : N ≤ 140737488355328) :
    Calls Tryd.prog 3 #[.string (str l), .string (str s), .int .i64 g, .int .i64 g2, .int .u8 c.toNat] w (TrueB w) := by
  have hB0 := Below.refl w.heap.size w
  have CF := Lib.hid (fact_any hG h5)
  have CP : Hid (∀ W, Below w.heap.size w W → Calls Tryd.prog 8 #[.string (str l), .int .i64 g, .int .i64 g2, .int .u8 c.toNat] W (Gives W (.tuple #[.string (str (putT l g g2 c)), errV (putF l g g2 c)]))) := Lib.hid fun W hW => hG.put l g g2 c W hW hl
  have CT : Hid (∀ W, Below w.heap.size w W → Calls Tryd.prog 10 #[.string (str s), .int .i64 g, .int .i64 g2, .int .u8 c.toNat] W (Gives W (.tuple #[.string (str (takeT s g g2 c)), errV (takeF s g g2 c)]))) := Lib.hid fun W hW => hK.take s g g2 c W hW hs
  have EP := Lib.hid fun (W : World) (hW : Below w.heap.size w W) => errorSame_any (putF l g g2 c) W (errType_later hg hW)
  have ET := Lib.hid fun (W : World) (hW : Below w.heap.size w W) => errorSame_any (takeF s g g2 c) W (errType_later hg hW)
  have O1 := Lib.hid fun (W : World) => only_num l W (by unfold maxLen; omega)
  have O2 := Lib.hid fun (W : World) => only_num (bare c s) W (by have := bare_le c s; unfold maxLen; omega)
  have G1 := Lib.hid fun (h : baseF g g2 c = 0) (W : World) => grouped_int l g g2 c W (base_zero h) (by omega)
  have G2 := Lib.hid fun (h : baseF g g2 c = 0) (W : World) => grouped_int (bare c s) g g2 c W (base_zero h) (by have := bare_le c s; omega)
  have hPB := putF_base l g g2 c
  have hTB := takeF_base s g g2 c
  have hPT : str (putT l g g2 c) = if putF l g g2 c = 0 then str (grouped c g.toNat g2.toNat l) else ⟨#[]⟩ := by unfold putT; split <;> rfl
  have hTT : str (takeT s g g2 c) = if takeF s g g2 c = 0 then str (bare c s) else ⟨#[]⟩ := by unfold takeT; split <;> rfl
  have hEC := Lib.hid (base_cases g g2 c)
  have hss : (str s).size ≤ 140737488355328 := by rw [D.ba_size, str_data]; omega
  clear hG hK hg h5 hl hs hN
  have hconv := fun W : World => conv_one W c
  have HGS : Hid (str (grouped c g.toNat g2.toNat (bare c s)) = str s ↔ grouped c g.toNat g2.toNat (bare c s) = s) := Lib.hid ⟨fun h => by have := congrArg (fun b : ByteArray => b.data.toList) h; simpa using this, fun h => by rw [h]⟩
  have HNX : Hid (∀ (k : Nat) (h : k < (str s).size), bare c ((str s).data.toList.take (k + 1)) = bare c ((str s).data.toList.take k) ++ (if (str s)[k] = c then [] else [(str s)[k]])) := Lib.hid (bare_next c (str s))
  have HBE : Hid (bare c (str s).data.toList = bare c s) := Lib.hid (by rw [str_data])
  generalize grouped c g.toNat g2.toNat (bare c s) = GB at *
  generalize str s = S at *
  generalize baseF g g2 c = E at *
  generalize takeF s g g2 c = TF at *
  generalize str (takeT s g g2 c) = TT at *
  generalize str (putT l g g2 c) = PT at *
  generalize putF l g g2 c = PF at *
  generalize hcs : str [c] = cs at *
  clear hcs
  generalize str (grouped c g.toNat g2.toNat l) = GL at *
  generalize str l = L at *
  have HPB := Lib.hid hPB
  have HTB := Lib.hid hTB
  have HPT := Lib.hid hPT
  have HTT := Lib.hid hTT
  clear hPB hTB hPT hTT
  go_enter Tryd.func3, Tryd.ntmps3
  go_upto_region 3 with (go_at_call 5; (with_reducible refine (CF.out _ hB0).mono ?_); rintro e w1 ⟨rfl, hb1⟩; dsimp only)
  go_cut [29] (fun s29 wx => s29 = .bool (decide (Dg c)) ∧ w1 = wx)
  case first =>
    by_cases hdg : Dg c
    · have h1 : (48 : Int) ≤ (c.toNat : Int) := by have := hdg.1; omega
      have h2 : (c.toNat : Int) ≤ 57 := by have := hdg.2; omega
      go_wp2_with fail
      go_meet
      exact ⟨by rw [decide_eq_true hdg], rfl⟩
    · by_cases h1 : (48 : Int) ≤ (c.toNat : Int)
      · have h2 : ¬ (c.toNat : Int) ≤ 57 := fun h => hdg ⟨by omega, by omega⟩
        go_wp2_with fail
        go_meet
        exact ⟨by rw [decide_eq_false hdg], rfl⟩
      · go_wp2_with fail
        go_meet
        exact ⟨by rw [decide_eq_false hdg], rfl⟩
  case rest =>
    obtain ⟨rfl, rfl⟩ := hcut
    go_upto_if 29 with fail
    go_cut [12] (fun s12 wx => s12 = .int .i64 (E : Int) ∧ w1 = wx)
    case first =>
      rcases hEC.out with ⟨hd, he⟩ | ⟨hd, ⟨⟨z1, z2⟩, z3, z4⟩, he⟩ | ⟨hd, hz, he⟩
      · rw [decide_eq_true hd]
        subst he
        go_wp2_with fail
        go_meet
        exact ⟨rfl, rfl⟩
      · rw [decide_eq_false hd]
        subst he
        have y1 : ¬ g < 0 := by omega
        have y2 : ¬ 4 < g := by omega
        have y3 : ¬ g2 < 0 := by omega
        have y4 : ¬ 4 < g2 := by omega
        go_wp2_with fail
        go_meet
        exact ⟨rfl, rfl⟩
      · rw [decide_eq_false hd]
        subst he
        unfold SzOk at hz
        by_cases y1 : g < 0
        · go_wp2_with fail
          go_meet
          exact ⟨rfl, rfl⟩
        · by_cases y2 : 4 < g
          · go_wp2_with fail
            go_meet
            exact ⟨rfl, rfl⟩
          · by_cases y3 : g2 < 0
            · go_wp2_with fail
              go_meet
              exact ⟨rfl, rfl⟩
            · have y4 : 4 < g2 := by omega
              go_wp2_with fail
              go_meet
              exact ⟨rfl, rfl⟩
    case rest =>
      obtain ⟨rfl, rfl⟩ := hcut
      have hconv := hconv w1
      go_upto_if 52 with (go_at_call 6; (with_reducible refine (O1.out _).mono ?_); rintro e wo ⟨rfl, d1, rfl⟩)
      have HV0 := Lib.hid (up_drewN (bel_alloc hb1 (.cells #[.int .u8 (c.toNat : Int)] 5)) d1)
      generalize (w1.alloc (.cells #[.int .u8 (c.toNat : Int)] 5)).drewN d1 = V0 at *
      clear hconv
      go_cut [13] (fun s13 wx => s13 = .int .i64 (PF : Int) ∧ V0 = wx)
      case first =>
        have hPB := HPB.out
        by_cases hnl : Num l
        · rw [if_pos hnl] at hPB
          subst hPB
          rw [decide_eq_true hnl]
          go_wp2_with fail
          go_meet
          exact ⟨rfl, rfl⟩
        · rw [if_neg hnl] at hPB
          subst hPB
          rw [decide_eq_false hnl]
          go_wp2_with fail
          go_meet
          exact ⟨rfl, rfl⟩
      case rest =>
        obtain ⟨rfl, rfl⟩ := hcut
        go_upto_if 54 with fail
        go_cut [15] (fun s15 wx => s15 = .string PT ∧ ∃ V, Hid (Below w.heap.size w V) ∧ V = wx)
        case first =>
          have hPT := HPT.out
          by_cases h0 : PF = 0
          · have hE : E = 0 := by
              have hPB := HPB.out
              by_cases hnl : Num l
              · rw [if_pos hnl] at hPB; omega
              · rw [if_neg hnl] at hPB; omega
            have G1z := Lib.hid (G1.out hE)
            rw [if_pos h0] at hPT
            subst hPT
            subst h0
            subst hE
            go_wp2_with (go_at_call 7; (with_reducible refine (G1z.out _).mono ?_); rintro e wo ⟨rfl, d2, rfl⟩)
            go_meet
            exact ⟨rfl, _, Lib.hid (up_drewN HV0.out d2), rfl⟩
          · rw [if_neg h0] at hPT
            subst hPT
            have hz : ((PF : Int) == 0) = false := by rw [beq_eq_false_iff_ne]; omega
            clear h0
            go_wp2_with fail
            go_meet
            exact ⟨rfl, _, HV0, rfl⟩
        case rest =>
          obtain ⟨rfl, V1, HV1, rfl⟩ := hcut
          clear HPB HPT O1 G1 HV0
          go_wp2_with fail
          go_loop [16, 17] (fun b i => ∃ k : Nat, k ≤ S.size ∧ i = .int .i64 k ∧ b = .string (str (bare c (S.data.toList.take k)))) (fun _ i => S.size - (intOf i).toNat)
          case atStart => exact ⟨0, Nat.zero_le _, rfl, rfl⟩
          case round =>
            obtain ⟨k, hk, rfl, rfl⟩ := hrel
            by_cases hlt : k < S.size
            · have hki : (k : Int) < (S.size : Int) := by omega
              have HX := Lib.hid (HNX.out k hlt)
              have hx1 := Lib.hid (one_str S k hlt)
              have hbl := bare_le c (S.data.toList.take k)
              rw [List.length_take] at hbl
              have hbs : (str (bare c (S.data.toList.take k))).size ≤ k := by rw [D.ba_size, str_data]; omega
              clear hbl
              generalize bare c (S.data.toList.take k) = bk at *
              have hp1 : ¬ 9223372036854775807 < (str bk).size + 1 := by omega
              have hp2 : ¬ 9223372036854775807 < (str bk).size + (k + 1 - k) := by omega
              have hb3 : S[k].toNat < 256 := S[k].toNat_lt
              by_cases hx : S[k] = c
              · have e1 : ((S[k].toNat : Int) == (c.toNat : Int)) = true := by rw [hx]; simp
                have e2 : ((S[k].toNat : Int) != (c.toNat : Int)) = false := by rw [hx]; simp
                have HY : Hid (str (bare c (S.data.toList.take (k + 1))) = str bk) := Lib.hid (by rw [HX.out, if_pos hx, List.append_nil])
                clear hx HX hx1
                generalize str bk = BK at *
                go_wp2_with fail
                go_round
                case rel => exact ⟨k + 1, by omega, by go_num, by rw [HY.out]⟩
                case measure => simp [intOf]; omega
              · have e0 : ¬ ((S[k].toNat : Int) = (c.toNat : Int)) := fun h => hx (UInt8.toNat_inj.1 (by omega))
                have e1 : ((S[k].toNat : Int) == (c.toNat : Int)) = false := by rw [beq_eq_false_iff_ne]; exact e0
                have e2 : ((S[k].toNat : Int) != (c.toNat : Int)) = true := by rw [bne_iff_ne]; exact e0
                have HY : Hid (str (bare c (S.data.toList.take (k + 1))) = str bk ++ S.extract k (k + 1)) := Lib.hid (by rw [HX.out, if_neg hx, hx1.out, ba_add])
                clear hx HX hx1 e0
                generalize str bk = BK at *
                go_wp2_with fail
                go_round
                case rel => exact ⟨k + 1, by omega, by go_num, by rw [HY.out]⟩
                case measure => simp [intOf]; omega
            · have hki : ¬ ((k : Int) < (S.size : Int)) := by omega
              have HE : Hid (str (bare c (S.data.toList.take k)) = str (bare c s)) := Lib.hid (by rw [← HBE.out, List.take_of_length_le (by rw [← D.ba_size]; omega)])
              rw [HE.out]
              have HBS : Hid (str GB = S ↔ GB = s) := HGS
              clear HE HBE HNX hlt hk HGS hss
              generalize str (bare c s) = B at *
              generalize str GB = GBs at *
              go_upto_region 20 with fail
              go_cut [95] (fun s95 wx => s95 = .bool (decide (E = 0 ∧ ¬ (Num (bare c s) ∧ GB = s))) ∧ ∃ V, Hid (Below w.heap.size w V) ∧ V = wx)
              case first =>
                by_cases hE : E = 0
                · subst hE
                  have G2z := Lib.hid (G2.out rfl)
                  clear G2
                  by_cases hnb : Num (bare c s)
                  · rw [decide_eq_true hnb] at O2
                    by_cases hgs : GB = s
                    · have hq := HBS.out.2 hgs
                      go_wp2_with (first
                        | (go_at_call 6; (with_reducible refine (O2.out _).mono ?_); rintro e wo ⟨rfl, d2, rfl⟩)
                        | (go_at_call 7; (with_reducible refine (G2z.out _).mono ?_); rintro e wo ⟨rfl, d3, rfl⟩))
                      go_meet
                      exact ⟨by rw [decide_eq_false fun h => h.2 ⟨hnb, hgs⟩], _, Lib.hid (up_drewN HV1.out _), rfl⟩
                    · have hq := toList_ne fun h => hgs (HBS.out.1 h)
                      go_wp2_with (first
                        | (go_at_call 6; (with_reducible refine (O2.out _).mono ?_); rintro e wo ⟨rfl, d2, rfl⟩)
                        | (go_at_call 7; (with_reducible refine (G2z.out _).mono ?_); rintro e wo ⟨rfl, d3, rfl⟩))
                      go_meet
                      exact ⟨by rw [decide_eq_true ⟨trivial, fun h => hgs h.2⟩], _, Lib.hid (up_drewN HV1.out _), rfl⟩
                  · rw [decide_eq_false hnb] at O2
                    go_wp2_with (go_at_call 6; (with_reducible refine (O2.out _).mono ?_); rintro e wo ⟨rfl, d2, rfl⟩)
                    go_meet
                    exact ⟨by rw [decide_eq_true ⟨trivial, fun h => hnb h.1⟩], _, Lib.hid (up_drewN HV1.out d2), rfl⟩
                · have hz : ((E : Int) == 0) = false := by rw [beq_eq_false_iff_ne]; omega
                  go_wp2_with fail
                  go_meet
                  exact ⟨by rw [decide_eq_false fun h => hE h.1], _, HV1, rfl⟩
              case rest =>
                obtain ⟨rfl, V2, HV2, rfl⟩ := hcut
                go_upto_if 95 with fail
                go_cut [12] (fun s12 wx => s12 = .int .i64 (TF : Int) ∧ V2 = wx)
                case first =>
                  have hTB := HTB.out
                  by_cases hE : E = 0
                  · rw [if_pos hE] at hTB
                    by_cases hok : Num (bare c s) ∧ GB = s
                    · rw [if_pos hok] at hTB
                      rw [decide_eq_false fun h => h.2 hok]
                      subst hTB
                      subst hE
                      clear hok
                      go_wp2_with fail
                      go_meet
                      exact ⟨rfl, rfl⟩
                    · rw [if_neg hok] at hTB
                      rw [decide_eq_true ⟨hE, hok⟩]
                      subst hTB
                      subst hE
                      clear hok
                      go_wp2_with fail
                      go_meet
                      exact ⟨rfl, rfl⟩
                  · rw [if_neg hE] at hTB
                    rw [decide_eq_false fun h => hE h.1]
                    subst hTB
                    clear hE
                    go_wp2_with fail
                    go_meet
                    exact ⟨rfl, rfl⟩
                case rest =>
                  obtain ⟨rfl, rfl⟩ := hcut
                  clear HTB O2 G2 HBS
                  go_upto_if 97 with fail
                  go_cut [16] (fun s16 wx => s16 = .string TT ∧ V2 = wx)
                  case first =>
                    have hTT := HTT.out
                    by_cases h0 : TF = 0
                    · rw [if_pos h0] at hTT
                      subst hTT
                      subst h0
                      go_wp2_with fail
                      go_meet
                      exact ⟨rfl, rfl⟩
                    · rw [if_neg h0] at hTT
                      subst hTT
                      have hz : ((TF : Int) == 0) = false := by rw [beq_eq_false_iff_ne]; omega
                      have hz2 : ((TF : Int) != 0) = true := by rw [bne_iff_ne]; omega
                      clear h0
                      go_wp2_with fail
                      go_meet
                      exact ⟨rfl, rfl⟩
                  case rest =>
                    obtain ⟨rfl, rfl⟩ := hcut
                    clear HTT
                    have hV2 := HV2.out
                    generalize errV TF = evt at *
                    generalize errV PF = evp at *
                    go_upto_region 25 with (go_at_call 8; (with_reducible refine (CP.out _ hV2).mono ?_); rintro e w5 ⟨rfl, hb5⟩; (have hB5 := bel_call hV2 hb5); dsimp only)
                    go_upto_region 26 with (go_at_call 9; (with_reducible refine (EP.out _ hB5).mono ?_); rintro e w6 ⟨rfl, hb6⟩; (have hB6 := bel_call hB5 hb6); dsimp only)
                    go_upto_region 27 with (go_at_call 10; (with_reducible refine (CT.out _ hB6).mono ?_); rintro e w7 ⟨rfl, hb7⟩; (have hB7 := bel_call hB6 hb7); dsimp only)
                    go_upto_region 28 with (go_at_call 9; (with_reducible refine (ET.out _ hB7).mono ?_); rintro e w8 ⟨rfl, hb8⟩; (have hB8 := bel_call hB7 hb8); dsimp only)
                    go_wp2_with fail
                    go_ret
                    exact ⟨rfl, hB8⟩
end Gr
end Go.Proofs.YtbacfehkalkmbaaDoor
