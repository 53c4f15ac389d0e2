/- strings.IndexAny and strings.LastIndexAny at the two places of a pattern, of long texts: by the set of bytes. -/
import Derived.Test.YtonbjfepckolnaaDoorNpLast
namespace Go.Proofs.YtonbjfepckolnaaDoor
namespace Np
open Go.RowKit Go.Maps D Ru

/-- a set of bytes in memory: 256 flags -/
structure SetC (C : Array Value) : Prop where
  size : C.size = 256
  one : C.all (·.oneCell') = true
  at_ : ∀ x : UInt8, C[x.toNat]? = some (.bool (mark x))
theorem set_c : SetC (Lib.setCells [48, 35]) := ⟨Lib.setCells_size _, Lib.setCells_one _, fun x => by rw [Lib.setCells_at, mark_chars]⟩
theorem set_info : (Tryd.prog.info? 58).map (fun i => (i.zero, i.size)) = some (some (.agg (Array.replicate 256 (.bool false))), 256) := by kernel_rfl
theorem make_any : ∃ C, SetC C ∧ ∀ W : World, Calls Tryd.prog 30 #[.string ⟨#[48, 35]⟩] W fun e w' => e = .returned (.tuple #[.agg C, .bool true]) ∧ w' = W.alloc (.cells C 58) :=
  ⟨_, set_c, fun W => Tryd.strings_makeASCIISet (zero_of_info set_info).1 ⟨#[48, 35]⟩ W (by decide) (fun j b h => by
    rcases j with _ | _ | j
    · simp at h; subst h; decide
    · simp at h; subst h; decide
    · simp at h)⟩
set_option maxHeartbeats 8000000 in
set_option maxRecDepth 100000 in
theorem first_long (s : ByteArray) (w : World) (h8 : 8 < s.size) (hs : s.size ≤ 140737488355328) : Calls Tryd.prog 19 #[.string s, .string ⟨#[48, 35]⟩] w (Gives w (.int .i64 (firstI s.data.toList))) := by
  have CS := Lib.hid (Tryd.strings_shouldUseASCIISet (s.size : Int))
  have h8z : decide ((8 : Int) < (s.size : Int)) = true := decide_eq_true (by omega)
  rw [h8z] at CS
  clear h8z
  obtain ⟨C, HC, hM⟩ := make_any
  have CM := Lib.hid (hM w)
  have hl : s.data.toList.length = s.size := by simp
  have HL := Lib.hid hl; clear hl hM
  have hsz := HC.size
  have hsc : (storeCells ⟨w.heap.size + 1, 0, none⟩ C.toList 0).run Tryd.prog ((w.alloc (.cells C 58)).alloc (.cells Tryd.zeroCells58 58)) = .ok () ((w.alloc (.cells C 58)).alloc (.cells C 58)) := by
    have := run_storeCells_new (P := Tryd.prog) (w.alloc (.cells C 58)) 58 Tryd.zeroCells58 C (by rw [HC.size]; exact (zero_of_info set_info).2) (by rw [HC.size]; kernel_rfl) HC.one
    simpa using this
  have HAt := Lib.hid (fun x : UInt8 => show ((w.alloc (.cells C 58)).alloc (.cells C 58)).cell? ⟨w.heap.size + 1, x.toNat, none⟩ = some (.bool (mark x)) by
    rw [World.cell?_alloc_at _ _ _ _ (by simp), HC.at_])
  clear HC
  go_enter Tryd.func19, Tryd.ntmps19
  go_wp2_with (first
    | (go_at_call 29; (with_reducible refine (CS.out _).mono ?_); rintro e w' ⟨rfl, hw⟩; rw [hw])
    | (go_at_call 30; (with_reducible refine (CM.out).mono ?_); rintro e w' ⟨rfl, hw⟩; rw [hw]))
  clear hsc hsz CM CS
  have hbel : Below w.heap.size w ((w.alloc (.cells C 58)).alloc (.cells C 58)) := ((Below.refl _ _).alloc (Nat.le_refl _) _).alloc (by simp) _
  go_loopg [8] s.size (fun g s8 wx => ∃ i : Nat, i + g = s.size ∧ s8 = .int .i64 i ∧ wx = ((w.alloc (.cells C 58)).alloc (.cells C 58)) ∧ Hid (Till s.data.toList i))
  case atStart => exact ⟨0, by omega, rfl, rfl, Lib.hid (Till.zero _)⟩
  case round =>
    obtain ⟨i, hig, rfl, rfl, HT⟩ := hrel
    cases gk with
    | zero =>
      obtain rfl : i = s.size := by omega
      have HF := Lib.hid (first_none (l := s.data.toList) (by rw [HL.out]; exact HT.out))
      have hiz : ¬ ((s.size : Int) < (s.size : Int)) := by omega
      go_wp2
      go_ret
      exact ⟨by rw [HF.out]; rfl, hbel⟩
    | succ g =>
      have hi : i < s.size := by omega
      have hiz : (i : Int) < (s.size : Int) := by omega
      have HG := Lib.hid (getD_at s i hi)
      have CX := Lib.hid (Tryd.asciiSet_contains (w.heap.size + 1) s[i] _ _ (HAt.out s[i]))
      generalize hxx : s[i]'hi = x at *
      by_cases hm : mark x = true
      · have HF := Lib.hid (first_hit HT.out (by rw [HL.out]; exact hi) (by rw [HG.out, hm]))
        rw [hm] at CX
        clear hm HG
        go_wp2_with (go_at_call 31; (with_reducible refine (CX.out).mono ?_); rintro e w2 ⟨rfl, hw2⟩; rw [hw2])
        go_ret
        exact ⟨by rw [HF.out]; rfl, hbel⟩
      · have hmf : mark x = false := by simpa using hm
        have HN := Lib.hid (HT.out.more (d := 1) (fun j h1 h2 _ => by rw [show j = i by omega, HG.out, hmf]))
        rw [hmf] at CX
        clear hm hmf HG
        go_wp2_with (go_at_call 31; (with_reducible refine (CX.out).mono ?_); rintro e w2 ⟨rfl, hw2⟩; rw [hw2])
        go_roundg g
        case measure => omega
        case rel => exact ⟨i + 1, by omega, by go_num, rfl, HN⟩
set_option maxHeartbeats 8000000 in
set_option maxRecDepth 100000 in
theorem last_long (s : ByteArray) (w : World) (h8 : 8 < s.size) (hs : s.size ≤ 140737488355328) : Calls Tryd.prog 20 #[.string s, .string ⟨#[48, 35]⟩] w (Gives w (.int .i64 (lastI s.data.toList))) := by
  have CS := Lib.hid (Tryd.strings_shouldUseASCIISet (s.size : Int))
  have h8z : decide ((8 : Int) < (s.size : Int)) = true := decide_eq_true (by omega)
  rw [h8z] at CS
  clear h8z
  obtain ⟨C, HC, hM⟩ := make_any
  have CM := Lib.hid (hM w)
  have hl : s.data.toList.length = s.size := by simp
  have HL := Lib.hid hl; clear hl hM
  have hsz := HC.size
  have hsc : (storeCells ⟨w.heap.size + 1, 0, none⟩ C.toList 0).run Tryd.prog ((w.alloc (.cells C 58)).alloc (.cells Tryd.zeroCells58 58)) = .ok () ((w.alloc (.cells C 58)).alloc (.cells C 58)) := by
    have := run_storeCells_new (P := Tryd.prog) (w.alloc (.cells C 58)) 58 Tryd.zeroCells58 C (by rw [HC.size]; exact (zero_of_info set_info).2) (by rw [HC.size]; kernel_rfl) HC.one
    simpa using this
  have HAt := Lib.hid (fun x : UInt8 => show ((w.alloc (.cells C 58)).alloc (.cells C 58)).cell? ⟨w.heap.size + 1, x.toNat, none⟩ = some (.bool (mark x)) by
    rw [World.cell?_alloc_at _ _ _ _ (by simp), HC.at_])
  clear HC
  have hn1 : ((s.size : Int) == 1) = false := beq_eq_false_iff_ne.2 (by omega)
  have hw1 : IntKind.i64.wrap ((s.size : Int) - 1) = (s.size : Int) - 1 := by rw [IntKind.wrap_i64]; omega
  go_enter Tryd.func20, Tryd.ntmps20
  go_wp2_with (first
    | (go_at_call 29; (with_reducible refine (CS.out _).mono ?_); rintro e w' ⟨rfl, hw⟩; rw [hw])
    | (go_at_call 30; (with_reducible refine (CM.out).mono ?_); rintro e w' ⟨rfl, hw⟩; rw [hw]))
  clear hsc hsz CM CS
  have hbel : Below w.heap.size w ((w.alloc (.cells C 58)).alloc (.cells C 58)) := ((Below.refl _ _).alloc (Nat.le_refl _) _).alloc (by simp) _
  go_loopg [8] s.size (fun g s8 wx => ∃ k : Nat, g = k ∧ k ≤ s.size ∧ s8 = .int .i64 ((k : Int) - 1) ∧ wx = ((w.alloc (.cells C 58)).alloc (.cells C 58)) ∧ Hid (lastI s.data.toList = lastK s.data.toList k))
  case atStart => exact ⟨s.size, rfl, Nat.le_refl _, rfl, rfl, Lib.hid (by unfold lastI; rw [HL.out])⟩
  case round =>
    obtain ⟨k, rfl, hk, rfl, rfl, HK⟩ := hrel
    cases gk with
    | zero =>
      have hneg : ¬ (0 : Int) ≤ ((0 : Nat) : Int) - 1 := by omega
      go_wp2
      go_ret
      exact ⟨by rw [HK.out]; rfl, hbel⟩
    | succ k =>
      have hkk : ((k + 1 : Nat) : Int) - 1 = (k : Int) := by omega
      rw [hkk]
      have hpos : (0 : Int) ≤ (k : Int) := by omega
      have hi : k < s.size := by omega
      have hiz : (k : Int) < (s.size : Int) := by omega
      have HG := Lib.hid (getD_at s k hi)
      have CX := Lib.hid (Tryd.asciiSet_contains (w.heap.size + 1) s[k] _ _ (HAt.out s[k]))
      generalize hxx : s[k]'hi = x at *
      by_cases hm : mark x = true
      · have HF := Lib.hid (HK.out.trans (lastK_hit (by rw [HG.out, hm])))
        rw [hm] at CX
        clear hm HG hkk
        go_wp2_with (go_at_call 31; (with_reducible refine (CX.out).mono ?_); rintro e w2 ⟨rfl, hw2⟩; rw [hw2])
        go_ret
        exact ⟨by rw [HF.out]; rfl, hbel⟩
      · have hmf : mark x = false := by simpa using hm
        have HF := Lib.hid (HK.out.trans (lastK_miss (by rw [HG.out, hmf])))
        rw [hmf] at CX
        clear hm hmf HG hkk
        go_wp2_with (go_at_call 31; (with_reducible refine (CX.out).mono ?_); rintro e w2 ⟨rfl, hw2⟩; rw [hw2])
        go_roundg k
        case measure => omega
        case rel => exact ⟨k, rfl, by omega, by go_num, rfl, HF⟩
/-- strings.IndexAny, strings.LastIndexAny at the two places, of any text -/
theorem first_any (s : ByteArray) (w : World) (hs : s.size ≤ 140737488355328) : Calls Tryd.prog 19 #[.string s, .string ⟨#[48, 35]⟩] w (Gives w (.int .i64 (firstI s.data.toList))) := by
  by_cases h : s.size ≤ 8
  · exact first_short s w h
  · exact first_long s w (by omega) hs
theorem last_any (s : ByteArray) (w : World) (hs : s.size ≤ 140737488355328) (hT : Tabs w) : Calls Tryd.prog 20 #[.string s, .string ⟨#[48, 35]⟩] w (Gives w (.int .i64 (lastI s.data.toList))) := by
  by_cases h1 : s.size = 1
  · exact last_one s w h1
  · by_cases h : s.size ≤ 8
    · exact last_short s w h1 h hT
    · exact last_long s w (by omega) hs
end Np
end Go.Proofs.YtonbjfepckolnaaDoor
