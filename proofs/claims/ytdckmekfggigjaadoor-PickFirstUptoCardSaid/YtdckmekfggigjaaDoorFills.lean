/- The program's tests on single letters and on whole parts: each returns what the plain test says, and the world stays as it was. -/
import Derived.Test.YtdckmekfggigjaaDoorProg
import Derived.Test.YtdckmekfggigjaaDoorPlain
import Derived.WalkKit
import Derived.WalkSpells
import Derived.Lib.Hide
import Derived.BigQuiet
import Derived.Outline
import Derived.Deep.QuietTactic
namespace Go.Proofs.YtdckmekfggigjaaDoor
open Go.RowKit

theorem ret_bool {a b : Bool} (h : a = b) : Ending.returned (.bool a) = .returned (.bool b) := by rw [h]

theorem low_any (c : UInt8) (w : World) : Calls Tryd.prog 61 #[.int .u8 c.toNat] w fun e w' => e = .returned (.bool (P.low c)) ∧ w = w' := by
  have hb : c.toNat < 256 := c.toNat_lt
  by_cases h1 : (97 : Int) ≤ c.toNat <;> by_cases h2 : (c.toNat : Int) ≤ 122
  all_goals
    go_enter Tryd.func61, Tryd.ntmps61
    go_wp2
    go_ret
    exact ⟨ret_bool (by unfold P.low; rw [Bool.eq_iff_iff]; simp; omega), rfl⟩
theorem upp_any (c : UInt8) (w : World) : Calls Tryd.prog 63 #[.int .u8 c.toNat] w fun e w' => e = .returned (.bool (P.upp c)) ∧ w = w' := by
  have hb : c.toNat < 256 := c.toNat_lt
  by_cases h1 : (65 : Int) ≤ c.toNat <;> by_cases h2 : (c.toNat : Int) ≤ 90
  all_goals
    go_enter Tryd.func63, Tryd.ntmps63
    go_wp2
    go_ret
    exact ⟨ret_bool (by unfold P.upp; rw [Bool.eq_iff_iff]; simp; omega), rfl⟩
theorem dig_any (c : UInt8) (w : World) : Calls Tryd.prog 64 #[.int .u8 c.toNat] w fun e w' => e = .returned (.bool (P.dig c)) ∧ w = w' := by
  have hb : c.toNat < 256 := c.toNat_lt
  by_cases h1 : (48 : Int) ≤ c.toNat <;> by_cases h2 : (c.toNat : Int) ≤ 57
  all_goals
    go_enter Tryd.func64, Tryd.ntmps64
    go_wp2
    go_ret
    exact ⟨ret_bool (by unfold P.dig; rw [Bool.eq_iff_iff]; simp; omega), rfl⟩
theorem lowdig_any (c : UInt8) (w : World) : Calls Tryd.prog 74 #[.int .u8 c.toNat] w fun e w' => e = .returned (.bool (P.lowdig c)) ∧ w = w' := by
  cases h1 : P.low c
  all_goals
    have hl := low_any c
    have hd := dig_any c
    rw [h1] at hl
    have H1 := Lib.hid h1; clear h1
    have HL := Lib.hid hl; clear hl
    have HD := Lib.hid hd; clear hd
    go_enter Tryd.func74, Tryd.ntmps74
    go_wp2_with (first | (go_at_call 61; refine (HL.out _).mono ?_; rintro e w' ⟨rfl, rfl⟩) | (go_at_call 64; refine (HD.out _).mono ?_; rintro e w' ⟨rfl, rfl⟩))
    go_ret
    exact ⟨ret_bool (by simp [P.lowdig, H1.out]), rfl⟩

/-- What a function that tests a letter does. -/
def Tests (f : Nat) (p : UInt8 → Bool) : Prop := ∀ (c : UInt8) (w : World), Calls Tryd.prog f #[.int .u8 c.toNat] w fun e w' => e = .returned (.bool (p c)) ∧ w = w'

theorem fills_no (p : UInt8 → Bool) (l : P.Bs) (lo hi : Nat) (h : l.length < lo ∨ hi < l.length) : P.fillsB p l lo hi = false := by
  unfold P.fillsB
  rcases h with h | h
  · rw [decide_eq_false (by omega : ¬ lo ≤ l.length)]; rfl
  · rw [decide_eq_false (by omega : ¬ l.length ≤ hi)]; simp
theorem fills_yes (p : UInt8 → Bool) (l : P.Bs) (lo hi : Nat) (h1 : lo ≤ l.length) (h2 : l.length ≤ hi) : P.fillsB p l lo hi = l.all p := by
  unfold P.fillsB
  rw [decide_eq_true h1, decide_eq_true h2]; simp
theorem take_snoc (s : ByteArray) (k : Nat) (h : k < s.size) : s.data.toList.take (k + 1) = s.data.toList.take k ++ [s[k]] := by
  rw [List.take_succ_eq_append_getElem (by simpa using h)]; rfl
theorem all_snoc_t (p : UInt8 → Bool) (s : ByteArray) (k : Nat) (h : k < s.size) (h0 : (s.data.toList.take k).all p = true) (h1 : p s[k] = true) : (s.data.toList.take (k + 1)).all p = true := by
  rw [take_snoc s k h, List.all_append, h0]; simp [h1]
theorem all_snoc_f (p : UInt8 → Bool) (s : ByteArray) (k : Nat) (h : k < s.size) (h1 : p s[k] = false) : s.data.toList.all p = false := by
  rw [List.all_eq_false]
  exact ⟨s[k], by have : s[k] = s.data.toList[k]'(by simpa using h) := rfl
                  rw [this]; exact List.getElem_mem _, by simp [h1]⟩

set_option maxHeartbeats 400000 in
theorem fills_any (f : Nat) (p : UInt8 → Bool) (hp : Tests f p) (hf : f = 61 ∨ f = 63 ∨ f = 64 ∨ f = 74) (s : ByteArray) (lo hi : Nat) (w : World) (_hs : s.size ≤ maxLen) (_hlo : lo ≤ 100) (hhi : hi ≤ 100) :
    Calls Tryd.prog 62 #[.func (.func f) #[] #[], .string s, .int .i64 lo, .int .i64 hi] w fun e w' => e = .returned (.bool (P.fillsB p s.data.toList lo hi)) ∧ w = w' := by
  unfold maxLen at _hs
  have HP := Lib.hid hp
  clear hp
  have HN := Lib.hid hf
  clear hf
  have hsl : s.data.toList.length = s.size := by simp
  by_cases h1 : s.size < lo
  · have HF := Lib.hid (fills_no p s.data.toList lo hi (.inl (by omega)))
    clear hsl
    go_enter Tryd.func62, Tryd.ntmps62
    go_wp2_with fail
    go_ret
    exact ⟨ret_bool HF.out.symm, rfl⟩
  · by_cases h2 : hi < s.size
    · have HF := Lib.hid (fills_no p s.data.toList lo hi (.inr (by omega)))
      clear hsl
      go_enter Tryd.func62, Tryd.ntmps62
      go_wp2_with fail
      go_ret
      exact ⟨ret_bool HF.out.symm, rfl⟩
    · have HF := Lib.hid (fills_yes p s.data.toList lo hi (by omega) (by omega))
      have HL := Lib.hid hsl
      clear hsl
      go_enter Tryd.func62, Tryd.ntmps62
      go_wp2_with fail
      go_loop [22] (fun i => ∃ k : Nat, k ≤ s.size ∧ i = .int .i64 k ∧ (s.data.toList.take k).all p = true) (fun i => s.size - (intOf i).toNat)
      case atStart => exact ⟨0, Nat.zero_le _, rfl, rfl⟩
      case round =>
        obtain ⟨k, hk, rfl, hall⟩ := hrel
        have HA := Lib.hid hall
        clear hall
        by_cases hlt : k < s.size
        · cases hc : p s[k]
          all_goals
            have HC := Lib.hid hc
            clear hc
            rcases HN.out with h | h | h | h
            all_goals
              subst h
              clear HN
              go_wp2_with (first | (go_at_call 61; refine (HP.out _ _).mono ?_; rintro e w' ⟨rfl, rfl⟩; rw [HC.out]) | (go_at_call 63; refine (HP.out _ _).mono ?_; rintro e w' ⟨rfl, rfl⟩; rw [HC.out]) | (go_at_call 64; refine (HP.out _ _).mono ?_; rintro e w' ⟨rfl, rfl⟩; rw [HC.out]) | (go_at_call 74; refine (HP.out _ _).mono ?_; rintro e w' ⟨rfl, rfl⟩; rw [HC.out]))
              first
                | (go_ret
                   exact ⟨ret_bool (by rw [HF.out]; exact (all_snoc_f p s k hlt HC.out).symm), rfl⟩)
                | (go_round
                   case rel => exact ⟨k + 1, by omega, by go_num, all_snoc_t p s k hlt HA.out HC.out⟩
                   case measure => simp [intOf]; omega)
        · go_wp2_with fail
          go_ret
          exact ⟨ret_bool (by rw [HF.out]; have := HA.out; rw [List.take_of_length_le (by have := HL.out; omega)] at this; exact this.symm), rfl⟩

theorem isLang_any (s : ByteArray) (w : World) (hs : s.size ≤ maxLen) : Calls Tryd.prog 44 #[.string s] w fun e w' => e = .returned (.bool (P.langB s.data.toList)) ∧ w = w' := by
  go_enter Tryd.func44, Tryd.ntmps44
  go_wp2_with (go_at_call 62; refine (fills_any _ _ low_any (by simp) s 2 3 _ hs (by omega) (by omega)).mono ?_; rintro e w' ⟨rfl, rfl⟩)
  go_ret
  exact ⟨rfl, rfl⟩
theorem isVariant_any (s : ByteArray) (w : World) (hs : s.size ≤ maxLen) : Calls Tryd.prog 65 #[.string s] w fun e w' => e = .returned (.bool (P.variantB s.data.toList)) ∧ w = w' := by
  go_enter Tryd.func65, Tryd.ntmps65
  go_wp2_with (go_at_call 62; refine (fills_any _ _ lowdig_any (by simp) s 5 8 _ hs (by omega) (by omega)).mono ?_; rintro e w' ⟨rfl, rfl⟩)
  go_ret
  exact ⟨rfl, rfl⟩
end Go.Proofs.YtdckmekfggigjaaDoor
