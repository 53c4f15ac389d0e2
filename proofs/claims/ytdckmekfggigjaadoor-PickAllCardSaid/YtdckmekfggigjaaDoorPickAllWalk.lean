/- The law PickAll, walked: it returns true for every tag and all tags that there are; what lay in memory stays as it was. -/
import Derived.Test.YtdckmekfggigjaaDoorAllWalk
import Derived.Test.YtdckmekfggigjaaDoorInChain
namespace Go.Proofs.YtdckmekfggigjaaDoor
open Go.RowKit Go.Maps
attribute [local go_sem ↓] Go.wp_at_zero Go.wp_at_succ

/-- the box of the tag and a tag in a row, later -/
structure BoxAt (w5 wx : World) (gb : Nat) (ad : Addr) (u x : TagX) : Prop where
  below : Below w5.heap.size w5 wx
  box : TagAt wx gb u.t.lang u.t.script u.t.region u.A u.t.vars.length u.c u.t.vars
  one : CellsAt wx ad x
  lt : ad.block < w5.heap.size
section
variable {w5 wx wy : World} {gb : Nat} {ad : Addr} {u x : TagX}
theorem BoxAt.later (h : BoxAt w5 wx gb ad u x) (hb : Below wx.heap.size wx wy) : BoxAt w5 wy gb ad u x := ⟨up_call h.below hb, h.box.later hb, h.one.keep hb (Nat.lt_of_lt_of_le h.lt h.below.size), h.lt⟩
theorem BoxAt.drew (h : BoxAt w5 wx gb ad u x) : BoxAt w5 wx.drew gb ad u x := ⟨below_drewN h.below 1, h.box.drew, h.one, h.lt⟩
theorem BoxAt.all (h : BoxAt w5 wx gb ad u x) : BoxAt w5 wx gb ad u x ∧ wx.cell? ad = some (.string x.t.lang) ∧ wx.cell? ⟨ad.block, ad.off + 1, none⟩ = some (.string x.t.script) ∧ wx.cell? ⟨ad.block, ad.off + 2, none⟩ = some (.string x.t.region) ∧ wx.cell? ⟨ad.block, ad.off + 3, none⟩ = some x.vs ∧
    wx.cell? ⟨gb, 0, none⟩ = some (.string u.t.lang) ∧ wx.cell? ⟨gb, 1, none⟩ = some (.string u.t.script) ∧ wx.cell? ⟨gb, 2, none⟩ = some (.string u.t.region) ∧ wx.cell? ⟨gb, 3, none⟩ = some u.vs := by
  obtain ⟨t0, t1, t2, t3⟩ := h.box.cells
  exact ⟨h, h.one.1, h.one.2.1, h.one.2.2.1, h.one.2.2.2, t0, t1, t2, t3⟩
end
abbrev InX (x u : TagX) (b : Bool) (W : World) : Prop :=
  Calls Tryd.prog 15 #[argX x, argX u] W fun e w' => e = .returned (.bool b) ∧ Below W.heap.size W w'

set_option maxHeartbeats 16000000 in
set_option maxRecDepth 100000 in
theorem pickAll_any (u : TagX) (A : Option Addr) (n c : Nat) (xs : List TagX) (w : World) (hU : Reads w w.heap.size 1 u.A u.t.vars.length (sv u.t.vars)) (huc : u.t.vars.length ≤ u.c) (h : TagsAt w w.heap.size A n xs) (hn : n * 72 ≤ 140737488355328) (hzu : Sized u.t u.t.vars.length) (hz : SizedAll xs) (hg : ErrType w) :
    Calls Tryd.prog 4 #[argX u, .slice A n c] w (TrueBelow w) := by
  obtain ⟨i0, hi0, hz0, hz1, hz2⟩ := info_parts int_info
  have HL := Lib.hid h.len
  have hT0 := TagAt.new (L := u.t.lang) (S := u.t.script) (R := u.t.region) (c := u.c) w hU
  have hB0 := up_alloc (Below.refl w.heap.size w) (.cells (tagCs u.t.lang u.t.script u.t.region u.A u.t.vars.length u.c) 29)
  have rd : ∀ W : World, Below w.heap.size w W → Reads W W.heap.size 1 u.A u.t.vars.length (sv u.t.vars) := fun W hW => (hU.below hW).more hW.size
  have rx : ∀ W : World, Below w.heap.size w W → TagsAt W W.heap.size A n xs := fun W hW => (h.below hW).more hW.size
  have CT := Lib.hid (fun (W : World) (_ : Below w.heap.size w W) => tagged_any W)
  have C1 : Hid (∀ W, Below w.heap.size w W → FaultCall u (.int .i64 (faultB u.t : Nat)) W) := Lib.hid (fun W hW => fault_x u hzu huc W (rd W hW))
  have C2 : Hid (∀ W, Below w.heap.size w W → Calls Tryd.prog 9 #[.slice A n c] W fun e w' => e = .returned (.int .i64 (faultsB (tagsB xs) : Nat)) ∧ Below W.heap.size W w') :=
    Lib.hid (fun W hW => tagsFault_any A n c xs W (rx W hW) (by unfold maxLen; omega) hz)
  have CA : Hid (∀ W, Below w.heap.size w W → Calls Tryd.prog 16 #[argX u, .slice A n c] W (AllPost W u.t (tagsB xs))) :=
    Lib.hid (fun W hW => all_any u A n c xs W (rd W hW) (rx W hW) hn hzu hz)
  have CE : Hid (∀ W, Below w.heap.size w W → Calls Tryd.prog 13 #[errV (faultsB (u.t :: tagsB xs)), .int .i64 (faultsB (u.t :: tagsB xs) : Nat)] W (TrueBelow W)) :=
    Lib.hid (fun W hW => error_same _ W (errType_later hg hW))
  have hfc := faults_cons u.t (tagsB xs)
  have CN : Hid (∀ (W : World) (A3 : Option Addr) (c3 : Nat), Calls Tryd.prog 17 #[.slice A3 0 c3, .slice none 0 0] W fun e w' => e = .returned (.bool true) ∧ Below W.heap.size W w') :=
    Lib.hid (fun W A3 c3 => ints_same A3 none 0 c3 0 [] W 0 0 ⟨rfl, fun h => absurd h (by omega)⟩ Reads.none_ (by decide))
  cases hf : faultB u.t with
  | succ f =>
    rw [if_neg (by omega), hf] at hfc
    have hA : allA u.t (tagsB xs) = [] := by unfold allA; rw [hfc, if_neg (by omega)]
    have CA' := CA.out; have CE' := CE.out; have C1' := C1.out
    unfold AllPost at CA'
    rw [hfc, hA, errV_succ] at CA'
    rw [hfc, errV_succ] at CE'
    rw [hf] at C1'
    have hz0 : (((f + 1 : Nat) : Int) == 0) = false := by simp; omega
    obtain ⟨z, hzz⟩ : ∃ z : Int, ((f + 1 : Nat) : Int) = z := ⟨_, rfl⟩
    rw [hzz] at CA' CE' C1' hz0
    have D1 := Lib.hid C1'; have DA := Lib.hid CA'; have DE := Lib.hid CE'
    clear C1 C2 CA CE C1' CA' CE' h hz hzu hg hfc hf hA hzz HL hn rd rx hU huc
    go_enter Tryd.func4, Tryd.ntmps4
    go_upto_region 2 with (go_at_call 8; (with_reducible refine (CT.out _ hB0).mono ?_); rintro e w1 ⟨rfl, hb1⟩)
    have hB1 := up_call hB0 hb1
    have hT1 := hT0.later hb1
    obtain ⟨t0, t1, t2, t3⟩ := hT1.cells
    go_upto_region 5 with (go_at_call 14; (with_reducible refine (D1.out _ hB1).mono ?_); rintro e w2 ⟨rfl, hb2⟩)
    have hB2 := up_call hB1 hb2
    have hT2 := hT1.later hb2
    clear t0 t1 t2 t3 hT0 hT1 hb1 hb2
    go_wp2_with fail
    go_loopw [7, 8] (fun v i wr => v = .slice none 0 0 ∧ i = .int .i64 0 ∧ Below w.heap.size w wr ∧ TagAt wr w.heap.size u.t.lang u.t.script u.t.region u.A u.t.vars.length u.c u.t.vars) (fun _ _ _ => 0)
    case atStart => exact ⟨rfl, rfl, hB2, hT2⟩
    case round =>
      obtain ⟨rfl, rfl, hb, hT⟩ := hrel
      obtain ⟨t0, t1, t2, t3⟩ := hT.cells
      go_wp2_with (first
        | (go_at_call 16; (with_reducible refine (DA.out _ hb).mono ?_); rintro e w3 ⟨v3, rfl, hown3, hb3⟩; obtain ⟨A3, c3, rfl, hc3, hr3⟩ := own_form hown3; (rw [show ([] : List Nat).length = 0 from rfl]); (have hB3 := up_call hb hb3); dsimp only)
        | (go_at_call 13; (with_reducible refine (DE.out _ hB3).mono ?_); rintro e w4 ⟨rfl, hb4⟩; (have hB4 := up_call hB3 hb4))
        | (go_at_call 17; (with_reducible refine (CN.out _ _ _).mono ?_); rintro e w5 ⟨rfl, hb5⟩))
      go_ret
      exact ⟨rfl, up_call hB4 hb5⟩
  | zero =>
    rw [if_pos hf] at hfc
    have HUZ := Lib.hid hf
    have C1' := C1.out
    rw [hf] at C1'
    have D1 := Lib.hid C1'
    clear C1 C1' hzu huc
    cases hf' : faultsB (tagsB xs) with
    | succ f =>
      rw [hf'] at hfc
      have hA : allA u.t (tagsB xs) = [] := by unfold allA; rw [hfc, if_neg (by omega)]
      have CA' := CA.out; have CE' := CE.out; have C2' := C2.out
      unfold AllPost at CA'
      rw [hfc, hA, errV_succ] at CA'
      rw [hfc, errV_succ] at CE'
      rw [hf'] at C2'
      have hz0 : (((f + 1 : Nat) : Int) == 0) = false := by simp; omega
      obtain ⟨z, hzz⟩ : ∃ z : Int, ((f + 1 : Nat) : Int) = z := ⟨_, rfl⟩
      rw [hzz] at CA' CE' C2' hz0
      have D2 := Lib.hid C2'; have DA := Lib.hid CA'; have DE := Lib.hid CE'
      clear C2 CA CE C2' CA' CE' h hz hg hfc hf hf' hA hzz HL hn rd rx hU
      go_enter Tryd.func4, Tryd.ntmps4
      go_upto_region 2 with (go_at_call 8; (with_reducible refine (CT.out _ hB0).mono ?_); rintro e w1 ⟨rfl, hb1⟩)
      have hB1 := up_call hB0 hb1
      have hT1 := hT0.later hb1
      obtain ⟨t0, t1, t2, t3⟩ := hT1.cells
      go_upto_region 4 with (go_at_call 14; (with_reducible refine (D1.out _ hB1).mono ?_); rintro e w2 ⟨rfl, hb2⟩)
      have hB2 := up_call hB1 hb2
      have hT2 := hT1.later hb2
      clear t0 t1 t2 t3 hT0 hT1 hb1 hb2
      go_upto_region 5 with (go_at_call 9; (with_reducible refine (D2.out _ hB2).mono ?_); rintro e w3 ⟨rfl, hb3⟩)
      have hB3 := up_call hB2 hb3
      have hT3 := hT2.later hb3
      go_wp2_with fail
      go_loopw [7, 8] (fun v i wr => v = .slice none 0 0 ∧ i = .int .i64 0 ∧ Below w.heap.size w wr ∧ TagAt wr w.heap.size u.t.lang u.t.script u.t.region u.A u.t.vars.length u.c u.t.vars) (fun _ _ _ => 0)
      case atStart => exact ⟨rfl, rfl, hB3, hT3⟩
      case round =>
        obtain ⟨rfl, rfl, hb, hT⟩ := hrel
        obtain ⟨t0, t1, t2, t3⟩ := hT.cells
        go_wp2_with (first
          | (go_at_call 16; (with_reducible refine (DA.out _ hb).mono ?_); rintro e w4 ⟨v4, rfl, hown4, hb4⟩; obtain ⟨A4, c4, rfl, hc4, hr4⟩ := own_form hown4; (rw [show ([] : List Nat).length = 0 from rfl]); (have hB4 := up_call hb hb4); dsimp only)
          | (go_at_call 13; (with_reducible refine (DE.out _ hB4).mono ?_); rintro e w5 ⟨rfl, hb5⟩; (have hB5 := up_call hB4 hb5))
          | (go_at_call 17; (with_reducible refine (CN.out _ _ _).mono ?_); rintro e w6 ⟨rfl, hb6⟩))
        go_ret
        exact ⟨rfl, up_call hB5 hb6⟩
    | zero =>
      rw [hf'] at hfc
      have hA : allA u.t (tagsB xs) = allB u.t (tagsB xs) := if_pos hfc
      have HR := Lib.hid (faults_zero.1 hf')
      have DA : Hid (∀ W, Below w.heap.size w W → Calls Tryd.prog 16 #[argX u, .slice A n c] W fun e w' =>
          ∃ v, e = .returned (.tuple #[v, .nilIface]) ∧ w'.ownsRow W.heap.size 3 1 v (allB u.t (tagsB xs)).length (iv (allB u.t (tagsB xs))) ∧ Below W.heap.size W w') :=
        Lib.hid (by have := CA.out; unfold AllPost at this; rw [hA, hfc, errV_zero] at this; exact this)
      have DE : Hid (∀ W, Below w.heap.size w W → Calls Tryd.prog 13 #[.nilIface, .int .i64 0] W (TrueBelow W)) :=
        Lib.hid (by have := CE.out; rw [hfc] at this; exact this)
      have D2 : Hid (∀ W, Below w.heap.size w W → Calls Tryd.prog 9 #[.slice A n c] W fun e w' => e = .returned (.int .i64 0) ∧ Below W.heap.size W w') :=
        Lib.hid (by have := C2.out; rw [hf'] at this; exact this)
      have hla := all_length u.t (tagsB xs)
      rw [List.length_map] at hla
      have HLA : Hid ((allB u.t (tagsB xs)).length < maxLen) := Lib.hid (by have := HL.out; unfold maxLen; omega)
      clear C2 CA CE hz hg hfc hf hf' hA hla h hU CN
      go_enter Tryd.func4, Tryd.ntmps4
      go_upto_region 2 with (go_at_call 8; (with_reducible refine (CT.out _ hB0).mono ?_); rintro e w1 ⟨rfl, hb1⟩)
      have hB1 := up_call hB0 hb1
      have hT1 := hT0.later hb1
      obtain ⟨t0, t1, t2, t3⟩ := hT1.cells
      go_upto_region 4 with (go_at_call 14; (with_reducible refine (D1.out _ hB1).mono ?_); rintro e w2 ⟨rfl, hb2⟩)
      have hB2 := up_call hB1 hb2
      have hT2 := hT1.later hb2
      clear t0 t1 t2 t3 hT0 hT1 hb1 hb2
      go_upto_region 5 with (go_at_call 9; (with_reducible refine (D2.out _ hB2).mono ?_); rintro e w3 ⟨rfl, hb3⟩)
      have hB3 := up_call hB2 hb3
      have hT3 := hT2.later hb3
      go_wp2_with fail
      go_loopw [7, 8] (fun v i wr => ∃ k : Nat, k ≤ n ∧ i = .int .i64 k ∧ wr.ownsRow w.heap.size 3 1 v (allB u.t ((tagsB xs).take k)).length (iv (allB u.t ((tagsB xs).take k))) ∧ Below w.heap.size w wr ∧ TagAt wr w.heap.size u.t.lang u.t.script u.t.region u.A u.t.vars.length u.c u.t.vars) (fun _ i _ => n - (intOf i).toNat)
      case atStart => exact ⟨0, Nat.zero_le _, rfl, World.ownsRow_nil _ _ _ _, hB3, hT3⟩
      case round =>
        obtain ⟨k, hk, rfl, hown, hb, hT⟩ := hrel
        by_cases hlt : k < n
        · have hkx : k < xs.length := by have := HL.out; omega
          obtain ⟨ad, rfl, hadb, hcx, hxc, hxr⟩ := (rx wr hb).cellsAt (List.getElem?_eq_getElem hkx)
          have hbox : BoxAt wr wr w.heap.size (ad.add (k * 4)) u xs[k] := ⟨Below.refl _ _, hT, hcx, by rw [block_of_add]; exact hadb⟩
          have hrk : RightB xs[k].t := HR.out _ (List.mem_map.2 ⟨_, List.getElem_mem hkx, rfl⟩)
          have CI : Hid (∀ W, Below wr.heap.size wr W → InX xs[k] u (decide (u.t ∈ chainB xs[k].t)) W) := Lib.hid (fun W hW =>
            inChain_any xs[k] u hrk HUZ.out W (((rx W (up_call hb hW)).vars _ (List.getElem_mem hkx)).2) (rd W (up_call hb hW)) hxc)
          have E1 := Lib.hid (tags_take xs k hkx)
          have hkl : ((tagsB xs).take k).length = k := by simp; omega
          have hak := all_length u.t ((tagsB xs).take k)
          rw [hkl] at hak
          have hsn := all_snoc u.t ((tagsB xs).take k) xs[k].t
          rw [← E1.out, hkl] at hsn
          have hki : (k : Int) < (n : Int) := by omega
          clear hcx hxc hxr hrk hkl rx E1
          generalize xs[k] = x at *
          obtain ⟨-, x0, x1, x2, x3, t0, t1, t2, t3⟩ := hbox.all
          by_cases hd : u.t ∈ chainB x.t
          · have CI' := CI.out
            rw [decide_eq_true hd] at CI'
            rw [if_pos hd] at hsn
            have DI := Lib.hid CI'
            have HSN := Lib.hid hsn
            clear CI CI' hsn hd hT
            generalize allB u.t ((tagsB xs).take k) = la at *
            go_wp2_with fail
            (go_region_held3 (fun wx => BoxAt wr wx w.heap.size (ad.add (k * 4)) u x ∧ wx.cell? (ad.add (k * 4)) = some (.string x.t.lang) ∧ wx.cell? ⟨(ad.add (k * 4)).block, (ad.add (k * 4)).off + 1, none⟩ = some (.string x.t.script) ∧ wx.cell? ⟨(ad.add (k * 4)).block, (ad.add (k * 4)).off + 2, none⟩ = some (.string x.t.region) ∧ wx.cell? ⟨(ad.add (k * 4)).block, (ad.add (k * 4)).off + 3, none⟩ = some x.vs ∧
                  wx.cell? ⟨w.heap.size, 0, none⟩ = some (.string u.t.lang) ∧ wx.cell? ⟨w.heap.size, 1, none⟩ = some (.string u.t.script) ∧ wx.cell? ⟨w.heap.size, 2, none⟩ = some (.string u.t.region) ∧ wx.cell? ⟨w.heap.size, 3, none⟩ = some u.vs)
                (first | exact BoxAt.all (by assumption) | exact BoxAt.all (BoxAt.drew (by assumption)))
                (first
                  | (go_at_call 15; (with_reducible refine (DI.out _ ?_).mono ?_); (first | exact BoxAt.below (by assumption) | exact BoxAt.below (BoxAt.drew (by assumption))); rintro e wy ⟨rfl, hby⟩; (have hPy : BoxAt wr wy w.heap.size (ad.add (k * 4)) u x := by first | exact BoxAt.later (by assumption) hby | exact BoxAt.later (BoxAt.drew (by assumption)) hby))))
            have hBy := up_call hb hPy.below
            have hown1 := own_later hown hPy.below
            have hBz := up_alloc hBy (.cells #[.int .i64 (k : Nat)] 3)
            have hTz := hPy.box.alloc (.cells #[.int .i64 (k : Nat)] 3)
            have hownz := own_later hown1 ((Below.refl wy.heap.size wy).alloc (Nat.le_refl _) (.cells #[.int .i64 (k : Nat)] 3))
            have hrdz := Reads.of_own (own_lit wy (iv [k]) 3 (base := 0) (Nat.zero_le _) (by simp [maxLen]))
            clear hown hown1
            go_wp2_with (at_builtin; refine wpList_append_any _ rfl (.tmp 36) (.tmp 38) _ rfl w.heap.size 3 i0 _ 1 8 Tryd.underlying38 hi0 hz0 hz1 hz2 rfl (by omega) _ la.length (iv la) rfl hownz _ _ 1 1 (iv [k]) rfl hrdz (iv_one [k]) (by unfold maxLen; omega) (by omega) hBz.size ?_; intro v6 w6 hown6 hg6 hat6)
            have hB6 : Below w.heap.size w w6 := hBz.grown hg6 hBz.size (fun j hj => (hownz.lt j hj).1)
            have hT6 : TagAt w6 w.heap.size u.t.lang u.t.script u.t.region u.A u.t.vars.length u.c u.t.vars := ⟨hTz.blk.grown hg6 (Ne.symm (own_blk_ne hownz hTz.blk (by decide))), rd _ hB6⟩
            go_roundw
            case rel => exact ⟨k + 1, by omega, by go_num, by rw [HSN.out, iv_snoc, List.length_append]; exact hown6, hB6, hT6⟩
            case measure => simp [intOf]; omega
          · have CI' := CI.out
            rw [decide_eq_false hd] at CI'
            rw [if_neg hd, List.append_nil] at hsn
            have DI := Lib.hid CI'
            have HSN := Lib.hid hsn
            clear CI CI' hsn hd hT
            go_wp2_with fail
            (go_region_held3 (fun wx => BoxAt wr wx w.heap.size (ad.add (k * 4)) u x ∧ wx.cell? (ad.add (k * 4)) = some (.string x.t.lang) ∧ wx.cell? ⟨(ad.add (k * 4)).block, (ad.add (k * 4)).off + 1, none⟩ = some (.string x.t.script) ∧ wx.cell? ⟨(ad.add (k * 4)).block, (ad.add (k * 4)).off + 2, none⟩ = some (.string x.t.region) ∧ wx.cell? ⟨(ad.add (k * 4)).block, (ad.add (k * 4)).off + 3, none⟩ = some x.vs ∧
                  wx.cell? ⟨w.heap.size, 0, none⟩ = some (.string u.t.lang) ∧ wx.cell? ⟨w.heap.size, 1, none⟩ = some (.string u.t.script) ∧ wx.cell? ⟨w.heap.size, 2, none⟩ = some (.string u.t.region) ∧ wx.cell? ⟨w.heap.size, 3, none⟩ = some u.vs)
                (first | exact BoxAt.all (by assumption) | exact BoxAt.all (BoxAt.drew (by assumption)))
                (first
                  | (go_at_call 15; (with_reducible refine (DI.out _ ?_).mono ?_); (first | exact BoxAt.below (by assumption) | exact BoxAt.below (BoxAt.drew (by assumption))); rintro e wy ⟨rfl, hby⟩; (have hPy : BoxAt wr wy w.heap.size (ad.add (k * 4)) u x := by first | exact BoxAt.later (by assumption) hby | exact BoxAt.later (BoxAt.drew (by assumption)) hby))))
            have hBy := up_call hb hPy.below
            have hown1 := own_later hown hPy.below
            have hTy := hPy.box
            clear hown
            go_wp2_with fail
            go_roundw
            case rel => exact ⟨k + 1, by omega, by go_num, by rw [HSN.out]; exact hown1, hBy, hTy⟩
            case measure => simp [intOf]; omega
        · have hall : (tagsB xs).take k = tagsB xs := List.take_of_length_le (by have := HL.out; simp; omega)
          rw [hall] at hown
          obtain ⟨Al, cl, rfl, hcl, hrl⟩ := own_form hown
          obtain ⟨t0, t1, t2, t3⟩ := hT.cells
          have hki : ¬ (k : Int) < (n : Int) := by omega
          clear hall hown rx
          generalize allB u.t (tagsB xs) = la at *
          go_wp2_with (first
            | (go_at_call 16; (with_reducible refine (DA.out _ hb).mono ?_); rintro e w4 ⟨v4, rfl, hown4, hb4⟩; obtain ⟨A4, c4, rfl, hc4, hr4⟩ := own_form hown4; (have hB4 := up_call hb hb4); dsimp only)
            | (go_at_call 13; (with_reducible refine (DE.out _ hB4).mono ?_); rintro e w5 ⟨rfl, hb5⟩; (have hB5 := up_call hB4 hb5); (have hS := ints_same A4 Al la.length c4 cl la w5 w4.heap.size wr.heap.size (hr4.below hb5) ((hrl.below hb4).below (hb5.mono hb4.size)) HLA.out))
            | (go_at_call 17; (with_reducible refine hS.mono ?_); rintro e w6 ⟨rfl, hb6⟩))
          go_ret
          exact ⟨rfl, up_call hB5 hb6⟩
theorem pickAll_arg (t : TagB) (A0 : Option Addr) (n0 c0 : Nat) (A : Option Addr) (n c : Nat) (xs : List TagX) (w : World) (hU : Reads w w.heap.size 1 A0 n0 (sv t.vars)) (hc : n0 ≤ c0) (hzu : Sized t n0) (h : TagsAt w w.heap.size A n xs) (hn : n * 72 ≤ 140737488355328) (hz : SizedAll xs) (hg : ErrType w) :
    Calls Tryd.prog 4 #[.agg #[.string t.lang, .string t.script, .string t.region, .slice A0 n0 c0], .slice A n c] w (TrueBelow w) := by
  obtain rfl : n0 = t.vars.length := hU.len.symm
  exact pickAll_any ⟨t, A0, c0⟩ A n c xs w hU hc h hn hzu hz hg
end Go.Proofs.YtdckmekfggigjaaDoor
