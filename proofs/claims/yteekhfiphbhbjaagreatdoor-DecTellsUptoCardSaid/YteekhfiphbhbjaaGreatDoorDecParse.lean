/- The program's Parse of a text: the right number whose text it is, or an error where there is none; what lay in memory stays as it was. -/
import Derived.Test.YteekhfiphbhbjaaGreatDoorDecText
import Derived.Test.YteekhfiphbhbjaaGreatDoorDecRound
namespace Go.Proofs.YteekhfiphbhbjaaGreatDoor
namespace D
open Go.RowKit

/-- a text is a right number's -/
def IsText (s : ByteArray) (c k : Int) : Prop := Right c k ∧ s.data.toList = text c k.toNat
/-- it is none's -/
def NoText (s : ByteArray) : Prop := ∀ c k, ¬ IsText s c k
abbrev fore (s : ByteArray) : ByteArray := str (Lib.cut s.data.toList [46]).1
abbrev aft (s : ByteArray) : ByteArray := str (Lib.cut s.data.toList [46]).2.1
theorem is_parts {s : ByteArray} {c k : Int} (h : IsText s c k) : Lib.atoiAll (fore s ++ aft s).data.toList = .ok c ∧ ((aft s).size : Int) = k := by
  obtain ⟨⟨k0, k9, c0, c1⟩, e⟩ := h
  obtain ⟨e1, e2⟩ := cut_text c k.toNat
  have f1 : (fore s).data.toList = ahead c k.toNat := by rw [str_data, e, e1]
  have f2 : (aft s).data.toList = low k.toNat c.natAbs := by rw [str_data, e, e2]
  refine ⟨?_, ?_⟩
  · rw [ByteArray.data_append, Array.toList_append, f1, f2]
    unfold ahead
    rw [List.append_assoc]
    exact atoi_all c k.toNat c0 c1
  · rw [ba_size, f2, low_length]
    omega
theorem is_one {s : ByteArray} {c k d t : Int} (h : IsText s c k) (h' : IsText s d t) : c = d ∧ k = t := by
  obtain ⟨a1, a2⟩ := is_parts h
  obtain ⟨b1, b2⟩ := is_parts h'
  rw [a1] at b1
  injection b1 with b1
  exact ⟨b1, by omega⟩
theorem text_is {c k : Int} (h : Right c k) : IsText (str (text c k.toNat)) c k := ⟨h, str_data _⟩

/-- Atoi's errors -/
def AtoiBad (w : World) (e : Ending) (w' : World) : Prop := ∃ (v : Int) (N : Nat), e = .returned (.tuple #[.int .i64 v, .iface 97 (.pointer (some ⟨N, 0, none⟩))]) ∧ Below w.heap.size w w'
theorem atoi_bad (s : ByteArray) (w : World) (hs : Strc w) (hl : s.size ≤ 281474976710656) (h : ∀ v, Lib.atoiAll s.data.toList ≠ .ok v) : Calls Tryz.prog 28 #[.string s] w (AtoiBad w) := by
  rcases ha : Lib.atoiAll s.data.toList with v | _ | _
  · exact absurd ha (h v)
  · obtain ⟨ev, h1, h2⟩ := hs.syn
    exact (Any.strconv_Atoi_syntax Tryz.laysC172 s hl ha ev w h1 h2).mono fun _ _ ⟨N, he, _, _, hb⟩ => ⟨_, N, he, hb⟩
  · obtain ⟨ev, h1, h2⟩ := hs.rng
    exact (Any.strconv_Atoi_range Tryz.laysC172 s hl ha ev w h1 h2).mono fun _ _ ⟨N, he, _, _, hb⟩ => ⟨_, N, he, hb⟩
theorem atoi_good (s : ByteArray) (w : World) (hl : s.size ≤ 281474976710656) (v : Int) (h : Lib.atoiAll s.data.toList = .ok v) : Calls Tryz.prog 28 #[.string s] w (Gives w (.tuple #[.int .i64 v, .nilIface])) :=
  (Tryz.strconv_Atoi_ok s (by omega) v h w).mono fun _ _ ⟨he, hw⟩ => ⟨he, by
    rcases hw with rfl | ⟨t, rfl⟩
    · exact Below.refl _ _
    · exact Lib.bytesWorld_below _ _ _⟩

/-- the result's box, as it was made -/
structure Res (w wx : World) : Prop where
  below : Below w.heap.size w wx
  lt : w.heap.size < wx.heap.size
  r0 : wx.cell? ⟨w.heap.size, 0, none⟩ = some (.int .i64 0)
  r1 : wx.cell? ⟨w.heap.size, 1, none⟩ = some (.int .i64 0)
  f0 : wx.frozen? ⟨w.heap.size, 0, none⟩ = false
  f1 : wx.frozen? ⟨w.heap.size, 1, none⟩ = false
theorem Res.new (w : World) : Res w (w.alloc (box 0 0)) := ⟨up_alloc (Below.refl _ _) _, by simp, by simp, by simp, by simp, by simp⟩
theorem Res.call {w wx wy : World} (h : Res w wx) (hb : Below wx.heap.size wx wy) : Res w wy :=
  ⟨up_call h.below hb, Nat.lt_of_lt_of_le h.lt hb.size, (hb.cell h.lt).trans h.r0, (hb.cell h.lt).trans h.r1, (hb.frozen h.lt).trans h.f0, (hb.frozen h.lt).trans h.f1⟩
theorem Res.drewN {w wx : World} (h : Res w wx) (n : Nat) : Res w (wx.drewN n) := h.call ⟨rfl, rfl, rfl, by simp, fun _ _ => by simp⟩
theorem Res.alloc {w wx : World} (h : Res w wx) (o : Obj) : Res w (wx.alloc o) := h.call ((Below.refl _ _).alloc (Nat.le_refl _) _)
theorem le_self (n : Nat) : n ≤ n := Nat.le_refl n

set_option maxHeartbeats 8000000 in
set_option maxRecDepth 100000 in
theorem parse_bad (s : ByteArray) (w : World) (hs : s.size ≤ 140737488355328) (hS : Strc w) (h : ∀ v, Lib.atoiAll (fore s ++ aft s).data.toList ≠ .ok v) :
    Calls Tryz.prog 9 #[.string s] w (Gives w (.tuple #[.agg #[.int .i64 0, .int .i64 0], .iface 25 (.int .i64 3)])) := by
  have CC := Lib.hid fun W => cut_any s W hs
  have hz : (fore s).size + (aft s).size ≤ s.size := cut_size s
  have hx : (fore s ++ aft s).size ≤ 281474976710656 := by rw [ByteArray.size_append]; omega
  have CA := Lib.hid fun (W : World) (hW : Below w.heap.size w W) => atoi_bad (fore s ++ aft s) W (hS.later hW) hx h
  have HR := Lib.hid (Res.new w)
  clear hS h hx
  unfold fore aft at *
  generalize str (Lib.cut s.data.toList [46]).1 = A at *
  generalize str (Lib.cut s.data.toList [46]).2.1 = B at *
  generalize (Lib.cut s.data.toList [46]).2.2 = bb at *
  have hAB : ¬ 9223372036854775807 < A.size + B.size := by omega
  go_enter Tryz.func9, Tryz.ntmps9
  go_upto_region 2 with (go_at_call 27; (with_reducible refine (CC.out _).mono ?_); rintro e w1 ⟨rfl, n1, rfl⟩; dsimp only)
  have HR1 := Lib.hid (HR.out.drewN n1)
  generalize (w.alloc (box 0 0)).drewN n1 = w1 at *
  go_upto_region 3 with (go_at_call 28; (with_reducible refine (CA.out _ HR1.out.below).mono ?_); rintro e w2 ⟨v, N, rfl, hb2⟩; dsimp only)
  have hR2 := HR1.out.call hb2
  have HR2 := Lib.hid hR2
  obtain ⟨_, _, r0, r1, f0, f1⟩ := hR2
  clear hb2
  go_wp2_with fail
  obtain ⟨z0, z1⟩ := stored (wx := w2) HR2.out.r0 HR2.out.r1 (.int .i64 0) (.int .i64 0)
  refine bodyPost_ret (v := .tuple #[.agg #[.int .i64 0, .int .i64 0], .iface 25 (.int .i64 3)]) ?_ rfl ⟨rfl, ?_⟩
  · simp [results, Tryz.results9, go_sem, z0, z1]
  · exact up_set (up_set HR2.out.below (le_self _) _) (le_self _) _
theorem toList_ne {a b : ByteArray} (h : a ≠ b) : (a.toList == b.toList) = false ∧ (a.toList != b.toList) = true := by
  have : a.toList ≠ b.toList := fun e => h (by
    rw [ByteArray.toList_eq, ByteArray.toList_eq] at e
    exact ba_ext e)
  exact ⟨by simpa using this, by simpa using this⟩
set_option maxHeartbeats 8000000 in
set_option maxRecDepth 100000 in
theorem parse_yes_ (s : ByteArray) (v : Int) (w : World) (hs : s.size ≤ 140737488355328) (hS : Strc w) (h : Lib.atoiAll (fore s ++ aft s).data.toList = .ok v) (hi : IsText s v (aft s).size) :
    Calls Tryz.prog 9 #[.string s] w (Gives w (.tuple #[.agg #[.int .i64 v, .int .i64 (aft s).size], .nilIface])) := by
  have CC := Lib.hid fun W => cut_any s W hs
  have hz : (fore s).size + (aft s).size ≤ s.size := cut_size s
  have hx : (fore s ++ aft s).size ≤ 281474976710656 := by rw [ByteArray.size_append]; omega
  have CA := Lib.hid fun (W : World) => atoi_good (fore s ++ aft s) W hx v h
  have CK := Lib.hid fun (W : World) => check_any v (aft s).size W
  simp only [fault_ok hi.1, errV_zero] at CK
  have CT := Lib.hid fun (W : World) (hW : Below w.heap.size w W) => text_any v (aft s).size W hi.1 (hS.later hW)
  simp only [← str_eq hi.2] at CT
  have HR := Lib.hid (Res.new w)
  clear hS h hx hi
  unfold fore aft at *
  generalize str (Lib.cut s.data.toList [46]).1 = A at *
  generalize str (Lib.cut s.data.toList [46]).2.1 = B at *
  generalize (Lib.cut s.data.toList [46]).2.2 = bb at *
  have hAB : ¬ 9223372036854775807 < A.size + B.size := by omega
  go_enter Tryz.func9, Tryz.ntmps9
  go_upto_region 2 with (go_at_call 27; (with_reducible refine (CC.out _).mono ?_); rintro e w1 ⟨rfl, n1, rfl⟩; dsimp only)
  have HR1 := Lib.hid (HR.out.drewN n1)
  generalize (w.alloc (box 0 0)).drewN n1 = w1 at *
  go_upto_region 6 with (go_at_call 28; (with_reducible refine (CA.out _).mono ?_); rintro e w2 ⟨rfl, hb2⟩; dsimp only)
  have HR3 := Lib.hid ((HR1.out.call hb2).alloc (box v B.size))
  have y0 : (w2.alloc (box v B.size)).cell? ⟨w2.heap.size, 0, none⟩ = some (.int .i64 v) := by simp
  have y1 : (w2.alloc (box v B.size)).cell? ⟨w2.heap.size, 1, none⟩ = some (.int .i64 B.size) := by simp
  have hl3 : w2.heap.size < (w2.alloc (box v B.size)).heap.size := by simp
  clear hb2
  generalize w2.alloc (box v B.size) = W3 at *
  generalize w2.heap.size = g at *
  have HY : Hid (∀ wx, Below W3.heap.size W3 wx → wx.cell? ⟨g, 0, none⟩ = some (.int .i64 v) ∧ wx.cell? ⟨g, 1, none⟩ = some (.int .i64 B.size)) := Lib.hid fun wx hb => ⟨(hb.cell (p := ⟨g, 0, none⟩) hl3).trans y0, (hb.cell (p := ⟨g, 1, none⟩) hl3).trans y1⟩
  clear hl3
  go_wp2_with (first
    | (go_at_call 7; (with_reducible refine (CK.out _).mono ?_); rintro e w4 ⟨rfl, hb4⟩; (have HB4 := Lib.hid hb4); (have HR4 := Lib.hid (HR3.out.call hb4)); obtain ⟨u0, u1⟩ := HY.out _ hb4; clear hb4 y0 y1)
    | (go_at_call 13; (with_reducible refine (CT.out _ HR4.out.below).mono ?_); rintro e w5 ⟨rfl, hb5⟩; (have HR5 := Lib.hid (HR4.out.call hb5)); obtain ⟨v0, v1⟩ := HY.out _ (up_call HB4.out hb5); obtain ⟨_, _, r0, r1, f0, f1⟩ := HR4.out.call hb5; clear hb5 u0 u1))
  obtain ⟨z0, z1⟩ := stored (wx := w5) HR5.out.r0 HR5.out.r1 (.int .i64 v) (.int .i64 B.size)
  refine bodyPost_ret (v := .tuple #[.agg #[.int .i64 v, .int .i64 B.size], .nilIface]) ?_ rfl ⟨rfl, ?_⟩
  · simp [results, Tryz.results9, go_sem, z0, z1]
  · exact up_set (up_set HR5.out.below (le_self _) _) (le_self _) _
set_option maxHeartbeats 8000000 in
set_option maxRecDepth 100000 in
theorem parse_no_ (s : ByteArray) (v : Int) (w : World) (hs : s.size ≤ 140737488355328) (hS : Strc w) (h : Lib.atoiAll (fore s ++ aft s).data.toList = .ok v) (hi : ¬ IsText s v (aft s).size) :
    Calls Tryz.prog 9 #[.string s] w (Gives w (.tuple #[.agg #[.int .i64 0, .int .i64 0], .iface 25 (.int .i64 3)])) := by
  have CC := Lib.hid fun W => cut_any s W hs
  have hz : (fore s).size + (aft s).size ≤ s.size := cut_size s
  have hx : (fore s ++ aft s).size ≤ 281474976710656 := by rw [ByteArray.size_append]; omega
  have CA := Lib.hid fun (W : World) => atoi_good (fore s ++ aft s) W hx v h
  have CK := Lib.hid fun (W : World) => check_any v (aft s).size W
  have HR := Lib.hid (Res.new w)
  by_cases hr : Right v (aft s).size
  · simp only [fault_ok hr, errV_zero] at CK
    have CT := Lib.hid fun (W : World) (hW : Below w.heap.size w W) => text_any v (aft s).size W hr (hS.later hW)
    obtain ⟨n1, n2⟩ := toList_ne (a := str (text v ((aft s).size : Int).toNat)) (b := s) (fun e => hi ⟨hr, (congrArg (fun b : ByteArray => b.data.toList) e).symm.trans (str_data _)⟩)
    generalize str (text v ((aft s).size : Int).toNat) = T at *
    clear hS h hx hi hr
    unfold fore aft at *
    generalize str (Lib.cut s.data.toList [46]).1 = A at *
    generalize str (Lib.cut s.data.toList [46]).2.1 = B at *
    generalize (Lib.cut s.data.toList [46]).2.2 = bb at *
    have hAB : ¬ 9223372036854775807 < A.size + B.size := by omega
    go_enter Tryz.func9, Tryz.ntmps9
    go_upto_region 2 with (go_at_call 27; (with_reducible refine (CC.out _).mono ?_); rintro e w1 ⟨rfl, n1, rfl⟩; dsimp only)
    have HR1 := Lib.hid (HR.out.drewN n1)
    generalize (w.alloc (box 0 0)).drewN n1 = w1 at *
    go_upto_region 6 with (go_at_call 28; (with_reducible refine (CA.out _).mono ?_); rintro e w2 ⟨rfl, hb2⟩; dsimp only)
    have HR3 := Lib.hid ((HR1.out.call hb2).alloc (box v B.size))
    have y0 : (w2.alloc (box v B.size)).cell? ⟨w2.heap.size, 0, none⟩ = some (.int .i64 v) := by simp
    have y1 : (w2.alloc (box v B.size)).cell? ⟨w2.heap.size, 1, none⟩ = some (.int .i64 B.size) := by simp
    have hl3 : w2.heap.size < (w2.alloc (box v B.size)).heap.size := by simp
    clear hb2
    generalize w2.alloc (box v B.size) = W3 at *
    generalize w2.heap.size = g at *
    have HY : Hid (∀ wx, Below W3.heap.size W3 wx → wx.cell? ⟨g, 0, none⟩ = some (.int .i64 v) ∧ wx.cell? ⟨g, 1, none⟩ = some (.int .i64 B.size)) := Lib.hid fun wx hb => ⟨(hb.cell (p := ⟨g, 0, none⟩) hl3).trans y0, (hb.cell (p := ⟨g, 1, none⟩) hl3).trans y1⟩
    clear hl3
    go_wp2_with (first
      | (go_at_call 7; (with_reducible refine (CK.out _).mono ?_); rintro e w4 ⟨rfl, hb4⟩; (have HR4 := Lib.hid (HR3.out.call hb4)); obtain ⟨u0, u1⟩ := HY.out _ hb4; clear hb4 y0 y1)
      | (go_at_call 13; (with_reducible refine (CT.out _ HR4.out.below).mono ?_); rintro e w5 ⟨rfl, hb5⟩; (have HR5 := Lib.hid (HR4.out.call hb5)); obtain ⟨_, _, r0, r1, f0, f1⟩ := HR4.out.call hb5; clear hb5 u0 u1))
    obtain ⟨z0, z1⟩ := stored (wx := w5) HR5.out.r0 HR5.out.r1 (.int .i64 0) (.int .i64 0)
    refine bodyPost_ret (v := .tuple #[.agg #[.int .i64 0, .int .i64 0], .iface 25 (.int .i64 3)]) ?_ rfl ⟨rfl, ?_⟩
    · simp [results, Tryz.results9, go_sem, z0, z1]
    · exact up_set (up_set HR5.out.below (le_self _) _) (le_self _) _
  · simp only [fault_no hr, errV_one] at CK
    clear hS h hx hi hr
    unfold fore aft at *
    generalize str (Lib.cut s.data.toList [46]).1 = A at *
    generalize str (Lib.cut s.data.toList [46]).2.1 = B at *
    generalize (Lib.cut s.data.toList [46]).2.2 = bb at *
    have hAB : ¬ 9223372036854775807 < A.size + B.size := by omega
    go_enter Tryz.func9, Tryz.ntmps9
    go_upto_region 2 with (go_at_call 27; (with_reducible refine (CC.out _).mono ?_); rintro e w1 ⟨rfl, n1, rfl⟩; dsimp only)
    have HR1 := Lib.hid (HR.out.drewN n1)
    generalize (w.alloc (box 0 0)).drewN n1 = w1 at *
    go_upto_region 6 with (go_at_call 28; (with_reducible refine (CA.out _).mono ?_); rintro e w2 ⟨rfl, hb2⟩; dsimp only)
    have HR3 := Lib.hid ((HR1.out.call hb2).alloc (box v B.size))
    have y0 : (w2.alloc (box v B.size)).cell? ⟨w2.heap.size, 0, none⟩ = some (.int .i64 v) := by simp
    have y1 : (w2.alloc (box v B.size)).cell? ⟨w2.heap.size, 1, none⟩ = some (.int .i64 B.size) := by simp
    clear hb2
    generalize w2.alloc (box v B.size) = W3 at *
    generalize w2.heap.size = g at *
    go_wp2_with (first
      | (go_at_call 7; (with_reducible refine (CK.out _).mono ?_); rintro e w4 ⟨rfl, hb4⟩; (have HR4 := Lib.hid (HR3.out.call hb4)); obtain ⟨_, _, r0, r1, f0, f1⟩ := HR3.out.call hb4; clear hb4 y0 y1))
    obtain ⟨z0, z1⟩ := stored (wx := w4) HR4.out.r0 HR4.out.r1 (.int .i64 0) (.int .i64 0)
    refine bodyPost_ret (v := .tuple #[.agg #[.int .i64 0, .int .i64 0], .iface 25 (.int .i64 3)]) ?_ rfl ⟨rfl, ?_⟩
    · simp [results, Tryz.results9, go_sem, z0, z1]
    · exact up_set (up_set HR4.out.below (le_self _) _) (le_self _) _

/-- a right number's text: the number -/
theorem parse_yes {s : ByteArray} {c k : Int} (h : IsText s c k) (w : World) (hs : s.size ≤ 140737488355328) (hS : Strc w) :
    Calls Tryz.prog 9 #[.string s] w (Gives w (.tuple #[.agg #[.int .i64 c, .int .i64 k], .nilIface])) := by
  obtain ⟨h1, h2⟩ := is_parts h
  subst h2
  exact parse_yes_ s c w hs hS h1 h
/-- another text: an error -/
theorem parse_no {s : ByteArray} (h : NoText s) (w : World) (hs : s.size ≤ 140737488355328) (hS : Strc w) :
    Calls Tryz.prog 9 #[.string s] w (Gives w (.tuple #[.agg #[.int .i64 0, .int .i64 0], .iface 25 (.int .i64 3)])) := by
  by_cases ha : ∃ v, Lib.atoiAll (fore s ++ aft s).data.toList = .ok v
  · obtain ⟨v, hv⟩ := ha
    exact parse_no_ s v w hs hS hv (h v _)
  · exact parse_bad s w hs hS fun v hv => ha ⟨v, hv⟩
end D
end Go.Proofs.YteekhfiphbhbjaaGreatDoor
