/- The reference's number of a text of digits; whether a text begins with a sign; what lay in memory stays as it was. -/
import Derived.Test.YtabglcpllfcmbaaGreatDoorRefDigits
namespace Go.Proofs.YtabglcpllfcmbaaGreatDoor
namespace D
open Go.RowKit

theorem take_snoc (s : ByteArray) (k : Nat) (h : k < s.size) : s.data.toList.take (k + 1) = s.data.toList.take k ++ [s[k]] := by
  rw [List.take_succ_eq_append_getElem (by simpa using h)]; rfl
def NumPost (w : World) (s : ByteArray) (e : Ending) (w' : World) : Prop :=
  Below w.heap.size w w' ∧ ((e = .returned (.int .i64 (-1)) ∧ ∀ n, ¬ IsNum s.data.toList n) ∨ ∃ n : Nat, e = .returned (.int .i64 n) ∧ IsNum s.data.toList n)
theorem num_none {w w' : World} {s : ByteArray} {e : Ending} (he : e = .returned (.int .i64 (-1))) (hb : Below w.heap.size w w') (h : ∀ n, ¬ IsNum s.data.toList n) : NumPost w s e w' := ⟨hb, .inl ⟨he, h⟩⟩
theorem num_some {w w' : World} {s : ByteArray} {e : Ending} (n : Nat) (he : e = .returned (.int .i64 n)) (hb : Below w.heap.size w w') (h : IsNum s.data.toList n) : NumPost w s e w' := ⟨hb, .inr ⟨n, he, h⟩⟩

set_option maxHeartbeats 4000000 in
set_option maxRecDepth 100000 in
theorem refNumber_any (s : ByteArray) (w : World) (hs : s.size ≤ 140737488355328) : Calls Tryz.prog 56 #[.string s] w (NumPost w s) := by
  have hsz := ba_size s
  have HL : Hid (∀ n, IsNum s.data.toList n → 0 < s.size ∧ s.size ≤ 16 ∧ Digs s.data.toList) := Lib.hid fun n h => by rw [hsz]; exact h.length
  have HSZ := Lib.hid hsz
  clear hsz
  by_cases h0 : s.size = 0
  · have h0i : ((s.size : Int) == 0) = true := by simp [h0]
    go_enter Tryz.func56, Tryz.ntmps56
    go_wp2_with fail
    go_ret
    exact num_none rfl (Below.refl _ _) fun n h => by have := HL.out n h; omega
  · have h0i : ((s.size : Int) == 0) = false := by rw [beq_eq_false_iff_ne]; omega
    by_cases h16 : 16 < s.size
    · have h16i : (16 : Int) < (s.size : Int) := by omega
      go_enter Tryz.func56, Tryz.ntmps56
      go_wp2_with fail
      go_ret
      exact num_none rfl (Below.refl _ _) fun n h => by have := HL.out n h; omega
    · have h16i : ¬ ((16 : Int) < (s.size : Int)) := by omega
      go_enter Tryz.func56, Tryz.ntmps56
      go_wp2_with fail
      go_loop [3, 4] (fun n i => ∃ k : Nat, k ≤ s.size ∧ i = .int .i64 k ∧ n = .int .i64 (addD 0 (s.data.toList.take k)) ∧ Hid (Digs (s.data.toList.take k))) (fun _ i => s.size - (intOf i).toNat)
      case atStart => exact ⟨0, Nat.zero_le _, rfl, rfl, Lib.hid fun c hc => by simp at hc⟩
      case round =>
        obtain ⟨k, hk, rfl, rfl, HD⟩ := hrel
        obtain ⟨r0, r1⟩ := addD_room _ 0 (Int.le_refl 0) HD.out
        have r2 : addD 0 (s.data.toList.take k) < 10000000000000000 := by
          refine Int.lt_of_lt_of_le r1 ?_
          have h1 : (s.data.toList.take k).length ≤ 16 := by rw [List.length_take]; omega
          have := ten_le (a := ((s.data.toList.take k).length : Int)) (b := 16) (by omega) (by omega)
          unfold ten at this
          simpa using this
        clear r1
        by_cases hlt : k < s.size
        · have hki : (k : Int) < (s.size : Int) := by omega
          have HT : Hid (addD 0 (s.data.toList.take (k + 1)) = 10 * addD 0 (s.data.toList.take k) + ((s[k].toNat : Int) - 48)) := Lib.hid (by rw [take_snoc s k hlt, addD_snoc])
          have HM : Hid (s[k] ∈ s.data.toList) := Lib.hid (List.getElem_mem (by simpa using hlt))
          rcases (show s[k].toNat < 48 ∨ 57 < s[k].toNat ∨ (48 ≤ s[k].toNat ∧ s[k].toNat ≤ 57) by omega) with hd | hd | hd
          · have hdi : (s[k].toNat : Int) < 48 := by omega
            go_wp2_with fail
            go_ret
            exact num_none rfl (Below.refl _ _) fun n h => by have := (HL.out n h).2.2 _ HM.out; omega
          · have hdi : (57 : Int) < (s[k].toNat : Int) := by omega
            have hdj : ¬ (s[k].toNat : Int) < 48 := by omega
            go_wp2_with fail
            go_ret
            exact num_none rfl (Below.refl _ _) fun n h => by have := (HL.out n h).2.2 _ HM.out; omega
          · have hdi : ¬ (57 : Int) < (s[k].toNat : Int) := by omega
            have hdj : ¬ (s[k].toNat : Int) < 48 := by omega
            have hn : Digs (s.data.toList.take (k + 1)) := by
              rw [take_snoc s k hlt]
              intro c hc
              rcases List.mem_append.1 hc with hc | hc
              · exact HD.out c hc
              · obtain rfl := List.mem_singleton.1 hc; exact hd
            have HN := Lib.hid hn
            clear hn hd
            go_wp2_with fail
            go_round
            case rel => exact ⟨k + 1, by omega, by go_num, by rw [HT.out], HN⟩
            case measure => simp [intOf]; omega
        · have hks : k = s.size := by omega
          have ht : s.data.toList.take k = s.data.toList := List.take_of_length_le (by rw [← HSZ.out]; omega)
          rw [ht] at r0 r2 ⊢
          have hd : Digs s.data.toList := by rw [← ht]; exact HD.out
          clear HD ht
          have HV : Hid (∀ n, IsNum s.data.toList n → (n : Int) = addD 0 s.data.toList ∧ n ≤ 1000000000000000 ∧ Lib.decDigits n = s.data.toList) := Lib.hid fun n h => ⟨h.value.symm, h.1, h.2⟩
          clear hd
          generalize addD 0 s.data.toList = v at *
          have hki : ¬ ((k : Int) < (s.size : Int)) := by omega
          have hv : ((v.toNat : Nat) : Int) = v := by omega
          have CD : Hid (∀ W : World, Calls Tryz.prog 48 #[.int .i64 v, .int .i64 0] W (Gives W (.string (str (Lib.decDigits v.toNat))))) := Lib.hid fun W => by
            have := refDigits_any v.toNat 0 W (by omega) (by omega)
            rwa [pad_zero, hv, show ((0 : Nat) : Int) = 0 from rfl] at this
          have HVN := Lib.hid hv
          clear hv hks
          by_cases he : Lib.decDigits v.toNat = s.data.toList
          · rw [he, ← str_eq (b := s) rfl] at CD
            have HE := Lib.hid he
            clear he
            by_cases hb : v ≤ 1000000000000000
            · have hbi : ¬ ((1000000000000000 : Int) < v) := by omega
              have HI : Hid (IsNum s.data.toList v.toNat) := Lib.hid ⟨by omega, HE.out⟩
              go_wp2_with (go_at_call 48; (with_reducible refine (CD.out _).mono ?_); rintro e w1 ⟨rfl, hb1⟩)
              go_ret
              exact num_some v.toNat (by rw [HVN.out]; rfl) hb1 HI.out
            · have HNB : Hid (¬ v ≤ 1000000000000000) := Lib.hid hb
              have hbi : (1000000000000000 : Int) < v := by omega
              clear hb
              go_wp2_with (go_at_call 48; (with_reducible refine (CD.out _).mono ?_); rintro e w1 ⟨rfl, hb1⟩)
              go_ret
              exact num_none rfl hb1 fun n h => by have := HV.out n h; have := HNB.out; omega
          · obtain ⟨n1, n2⟩ := toList_ne (a := str (Lib.decDigits v.toNat)) (b := s) (fun e => he ((str_data _).symm.trans (congrArg (fun b : ByteArray => b.data.toList) e)))
            generalize str (Lib.decDigits v.toNat) = T at *
            have HE := Lib.hid he
            clear he
            go_wp2_with (go_at_call 48; (with_reducible refine (CD.out _).mono ?_); rintro e w1 ⟨rfl, hb1⟩)
            go_ret
            exact num_none rfl hb1 fun n h => HE.out (by
              obtain ⟨h1, _, h3⟩ := HV.out n h
              rw [show v.toNat = n by omega]
              exact h3)
end D
end Go.Proofs.YtabglcpllfcmbaaGreatDoor
