/- What the laws on groups ask of the program's Take. And what follows from it. -/
import Derived.Test.YtehocgemgdbikaaGreatDoorGrPut
import Derived.Test.YtehocgemgdbikaaGreatDoorGrConv
import Derived.Test.YtehocgemgdbikaaGreatDoorShelf
namespace Go.Proofs.YtehocgemgdbikaaGreatDoor
namespace Gr
open Go.RowKit D Ru

/-- Take, behind whatever call of a law's own, of texts up to a length -/
structure TakeOk (N : Nat) (w : World) : Prop where
  take : ∀ (s : List UInt8) (g g2 : Int) (c : UInt8) (W : World), Below w.heap.size w W → s.length ≤ N → Calls Tryz.prog 60 #[.string (str s), .int .i64 g, .int .i64 g2, .int .u8 c.toNat] W (TextE W (takeT s g g2 c) (takeF s g g2 c))
theorem TakeOk.takeY {N : Nat} {w : World} (h : TakeOk N w) {l : List UInt8} {g g2 : Int} {c : UInt8} (hl : l.length ≤ N) (hp : takeF l g g2 c = 0) : ∀ W, Below w.heap.size w W → Calls Tryz.prog 60 #[.string (str l), .int .i64 g, .int .i64 g2, .int .u8 c.toNat] W (TextY W (str (takeT l g g2 c))) :=
  fun W hW => textE_yes (h.take l g g2 c W hW hl) hp
theorem TakeOk.takeN {N : Nat} {w : World} (h : TakeOk N w) {l : List UInt8} {g g2 : Int} {c : UInt8} (hl : l.length ≤ N) (hp : takeF l g g2 c ≠ 0) : ∀ W, Below w.heap.size w W → Calls Tryz.prog 60 #[.string (str l), .int .i64 g, .int .i64 g2, .int .u8 c.toNat] W (TextN W (takeF l g g2 c)) :=
  fun W hW => textE_no (h.take l g g2 c W hW hl) hp (takeT_no hp)
end Gr
end Go.Proofs.YtehocgemgdbikaaGreatDoor

/- The program's Take: what it says, what it tells. -/
namespace Go.Proofs.YtehocgemgdbikaaGreatDoor
namespace Gr
open Go.RowKit Go.Maps D Ru

/-- what strings.Index reads -/
def MaxL (w : World) : Prop := ∃ m : Int, w.cell? ⟨1, 0, none⟩ = some (.int .i64 m)
theorem MaxL.later {w W : World} (h : MaxL w) (hb : Below w.heap.size w W) : MaxL W := by
  obtain ⟨m, hm⟩ := h
  exact ⟨m, (hb.cell (World.block_lt_of_cell? w _ hm)).trans hm⟩
theorem strike_any (s : List UInt8) (c : UInt8) (w : World) (hs : s.length < 4294967281) (hM : MaxL w) : Calls Tryz.prog 89 #[.string (str s), .string (str [c]), .string ⟨#[]⟩] w (Gives w (.string (str (bare c s)))) := by
  obtain ⟨m, hm⟩ := hM
  refine (Tryz.strings_ReplaceAll (str s) (str [c]) ⟨#[]⟩ m w (by rw [D.ba_size, str_data]; exact hs) hm (by rw [D.ba_size, str_data]; simp) ?_).mono fun e w' ⟨he, hb⟩ => ⟨?_, hb⟩
  · rw [D.ba_size, str_data]
    show s.length + Lib.countB (str s) (str [c]) * 0 ≤ _
    omega
  · rw [he, str_data, str_data]
    show Ending.returned (.string (str (Lib.replaceAll s [c] []))) = _
    rw [replace_bare]
set_option maxHeartbeats 4000000 in
set_option maxRecDepth 100000 in
/-- Take, whatever the arguments, of texts up to so many bytes -/
theorem take_any (s : List UInt8) (g g2 : Int) (c : UInt8) (w : World) (hl : s.length < 4294967281) (hM : MaxL w) : Calls Tryz.prog 60 #[.string (str s), .int .i64 g, .int .i64 g2, .int .u8 c.toNat] w (TextE w (takeT s g g2 c) (takeF s g g2 c)) := by
  have CD := Lib.hid (isDigit_any c)
  have CG := Lib.hid (fits_any g)
  have CH := Lib.hid (fits_any g2)
  have hb0 := Below.refl w.heap.size w
  by_cases hD : Dg c
  · have hF : takeF s g g2 c = 3 := by unfold takeF; rw [if_pos hD]
    rw [takeT_no (by rw [hF]; decide), hF]
    rw [decide_eq_true hD] at CD
    clear hD hF CG CH hl hM
    generalize str s = S at *
    generalize hci : (c.toNat : Int) = ci at *
    go_enter Tryz.func60, Tryz.ntmps60
    go_wp2_with (go_at_call 54; (with_reducible refine (CD.out _).mono ?_); rintro e w' ⟨rfl, rfl⟩)
    go_ret2
    exact ⟨rfl, hb0⟩
  · rw [decide_eq_false hD] at CD
    by_cases hz : SzOk g g2
    · obtain ⟨hg, hh⟩ := hz
      have hz : SzOk g g2 := ⟨hg, hh⟩
      rw [decide_eq_true hg] at CG
      rw [decide_eq_true hh] at CH
      have hconv := conv_one w c
      have hba : Below w.heap.size w (w.alloc (.cells #[.int .u8 (c.toNat : Int)] 5)) := hb0.alloc (Nat.le_refl _) _
      have CS := Lib.hid (strike_any s c _ hl (hM.later hba))
      have hba' := Lib.hid hba
      have hbl := bare_le c s
      have CP := fun W => put_any (bare c s) g g2 c W (by omega)
      by_cases hp : putF (bare c s) g g2 c = 0
      · have CP := Lib.hid (fun W => textE_yes (CP W) hp)
        obtain ⟨⟨hnum, -⟩, -⟩ := putF_zero.1 hp
        have hpt := putT_zero hp
        by_cases he : grouped c g.toNat g2.toNat (bare c s) = s
        · have hF : takeF s g g2 c = 0 := takeF_zero.2 ⟨⟨hD, hz⟩, hnum, he⟩
          rw [takeT_zero hF, hF]
          rw [hpt, he] at CP
          clear hD hz hg hh hF hM hbl hp hnum hpt he hl hba
          generalize hR : str (bare c s) = R at *
          generalize str s = S at *
          generalize hcs : str [c] = cs at *
          generalize hci : (c.toNat : Int) = ci at *
          go_enter Tryz.func60, Tryz.ntmps60
          go_wp2_with (first | (go_at_call 54; (with_reducible refine (CD.out _).mono ?_); rintro e w' ⟨rfl, rfl⟩) | (go_at_call 55; (with_reducible refine (CG.out _).mono ?_); rintro e w' ⟨rfl, rfl⟩) | (go_at_call 55; (with_reducible refine (CH.out _).mono ?_); rintro e w' ⟨rfl, rfl⟩) | (go_at_call 89; (with_reducible refine (CS.out).mono ?_); rintro e w1 ⟨rfl, hb1⟩) | (go_at_call 31; (with_reducible refine (CP.out _).mono ?_); rintro e w2 ⟨rfl, hb2⟩; dsimp only))
          go_ret2
          exact ⟨by rw [hR]; rfl, bel_call (bel_call hba'.out hb1) hb2⟩
        · have hF : takeF s g g2 c = 3 := by unfold takeF; rw [if_neg hD, if_pos hz, if_neg (fun h => he h.2)]
          rw [takeT_no (by rw [hF]; decide), hF]
          rw [hpt] at CP
          have hne : str (grouped c g.toNat g2.toNat (bare c s)) ≠ str s := fun e => he (by have := congrArg (fun b : ByteArray => b.data.toList) e; simpa using this)
          have hne1 := (toList_ne hne).1
          have hne2 := (toList_ne hne).2
          have hne3 : ¬ (str (grouped c g.toNat g2.toNat (bare c s))).toList = (str s).toList := by simpa using hne1
          clear hD hz hg hh hF hM hbl hp hnum hpt he hl hba hne
          generalize str (grouped c g.toNat g2.toNat (bare c s)) = T at *
          generalize str (bare c s) = R at *
          generalize str s = S at *
          generalize hcs : str [c] = cs at *
          generalize hci : (c.toNat : Int) = ci at *
          go_enter Tryz.func60, Tryz.ntmps60
          go_wp2_with (first | (go_at_call 54; (with_reducible refine (CD.out _).mono ?_); rintro e w' ⟨rfl, rfl⟩) | (go_at_call 55; (with_reducible refine (CG.out _).mono ?_); rintro e w' ⟨rfl, rfl⟩) | (go_at_call 55; (with_reducible refine (CH.out _).mono ?_); rintro e w' ⟨rfl, rfl⟩) | (go_at_call 89; (with_reducible refine (CS.out).mono ?_); rintro e w1 ⟨rfl, hb1⟩) | (go_at_call 31; (with_reducible refine (CP.out _).mono ?_); rintro e w2 ⟨rfl, hb2⟩; dsimp only))
          go_ret2
          exact ⟨rfl, bel_call (bel_call hba'.out hb1) hb2⟩
      · have CP := Lib.hid (fun W => textE_no (CP W) hp (putT_no hp))
        have hF : takeF s g g2 c = 3 := by
          unfold takeF; rw [if_neg hD, if_pos hz, if_neg (fun h => hp (putF_zero.2 ⟨⟨h.1, hD⟩, hz⟩))]
        rw [takeT_no (by rw [hF]; decide), hF]
        clear hD hz hg hh hF hM hbl hp hl hba
        generalize putF (bare c s) g g2 c = z at *
        generalize str (bare c s) = R at *
        generalize str s = S at *
        generalize hcs : str [c] = cs at *
        generalize hci : (c.toNat : Int) = ci at *
        go_enter Tryz.func60, Tryz.ntmps60
        go_wp2_with (first | (go_at_call 54; (with_reducible refine (CD.out _).mono ?_); rintro e w' ⟨rfl, rfl⟩) | (go_at_call 55; (with_reducible refine (CG.out _).mono ?_); rintro e w' ⟨rfl, rfl⟩) | (go_at_call 55; (with_reducible refine (CH.out _).mono ?_); rintro e w' ⟨rfl, rfl⟩) | (go_at_call 89; (with_reducible refine (CS.out).mono ?_); rintro e w1 ⟨rfl, hb1⟩) | (go_at_call 31; (with_reducible refine (CP.out _).mono ?_); rintro e w2 ⟨rfl, hb2⟩; dsimp only))
        go_ret2
        exact ⟨rfl, bel_call (bel_call hba'.out hb1) hb2⟩
    · have hF : takeF s g g2 c = 1 := by unfold takeF; rw [if_neg hD, if_neg hz]
      rw [takeT_no (by rw [hF]; decide), hF]
      by_cases hg : 0 ≤ g ∧ g ≤ 4
      · have hh : ¬ (0 ≤ g2 ∧ g2 ≤ 4) := fun h => hz ⟨hg, h⟩
        rw [decide_eq_true hg] at CG
        rw [decide_eq_false hh] at CH
        clear hD hF hl hz hg hh hM
        generalize str s = S at *
        generalize hci : (c.toNat : Int) = ci at *
        go_enter Tryz.func60, Tryz.ntmps60
        go_wp2_with (first | (go_at_call 54; (with_reducible refine (CD.out _).mono ?_); rintro e w' ⟨rfl, rfl⟩) | (go_at_call 55; (with_reducible refine (CG.out _).mono ?_); rintro e w' ⟨rfl, rfl⟩) | (go_at_call 55; (with_reducible refine (CH.out _).mono ?_); rintro e w' ⟨rfl, rfl⟩))
        go_ret2
        exact ⟨rfl, hb0⟩
      · rw [decide_eq_false hg] at CG
        clear hD hF hl hz hg hM
        generalize str s = S at *
        generalize hci : (c.toNat : Int) = ci at *
        go_enter Tryz.func60, Tryz.ntmps60
        go_wp2_with (first | (go_at_call 54; (with_reducible refine (CD.out _).mono ?_); rintro e w' ⟨rfl, rfl⟩) | (go_at_call 55; (with_reducible refine (CG.out _).mono ?_); rintro e w' ⟨rfl, rfl⟩))
        go_ret2
        exact ⟨rfl, hb0⟩
theorem take_ok (N : Nat) (w : World) (hN : N < 4294967281) (hM : MaxL w) : TakeOk N w := ⟨fun s g g2 c W hW hl => take_any s g g2 c W (by omega) (hM.later hW)⟩
end Gr
end Go.Proofs.YtehocgemgdbikaaGreatDoor
