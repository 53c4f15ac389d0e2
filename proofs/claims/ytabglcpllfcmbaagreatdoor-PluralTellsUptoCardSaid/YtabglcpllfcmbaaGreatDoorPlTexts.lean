/- The reference's rows of five texts: a set's, the kinds' names; what lay in memory stays as it was. -/
import Derived.Test.YtabglcpllfcmbaaGreatDoorPlKind
namespace Go.Proofs.YtabglcpllfcmbaaGreatDoor
namespace Ru
open Go.RowKit Go.Maps D

/-- a row of five texts of the call's own -/
def TextsP (w : World) (ts : List (List UInt8)) (e : Ending) (w' : World) : Prop := ∃ g : Nat, e = .returned (.slice (some ⟨g, 0, none⟩) 5 5) ∧ g < w'.heap.size ∧ (∀ (j : Nat) (x : List UInt8), ts[j]? = some x → w'.cell? ⟨g, j, none⟩ = some (.string (str x))) ∧ Below w.heap.size w w'
theorem texts_at {W : World} {g : Nat} {z o t f m : List UInt8} {T : TypeId} (hg : g = W.heap.size) (j : Nat) (x : List UInt8) (h : [z, o, t, f, m][j]? = some x) : (W.alloc (.cells #[.string (str z), .string (str o), .string (str t), .string (str f), .string (str m)] T)).cell? ⟨g, j, none⟩ = some (.string (str x)) := by
  subst hg
  match j, h with
  | 0, h | 1, h | 2, h | 3, h | 4, h => injection h with h; subst h; exact (Blk.new W T _).cell _
  | j + 5, h => simp at h
set_option maxRecDepth 100000 in
theorem setTexts_any (z o t f m : List UInt8) (w : World) : Calls Tryz.prog 45 #[.agg #[.string (str z), .string (str o), .string (str t), .string (str f), .string (str m)]] w (TextsP w [z, o, t, f, m]) := by
  have HB0 : Hid (Bs w _ [_]) := Lib.hid (bs_one w [.string (str z), .string (str o), .string (str t), .string (str f), .string (str m)] 44)
  obtain ⟨x0, x1, x2, x3, x4, -⟩ := HB0.out.cells
  have HP := Lib.hid ((HB0.out.alloc [.string (str z), .string (str o), .string (str t), .string (str f), .string (str m)] 9).below)
  have HQ := Lib.hid fun (j : Nat) (x : List UInt8) (h : [z, o, t, f, m][j]? = some x) => texts_at (W := w.alloc (.cells #[.string (str z), .string (str o), .string (str t), .string (str f), .string (str m)] 44)) (T := 9) rfl j x h
  go_enter Tryz.func45, Tryz.ntmps45
  go_wp2_with fail
  go_ret
  exact ⟨_, rfl, by simp, by simpa using HQ.out, HP.out⟩
set_option maxRecDepth 100000 in
theorem kinds_any (w : World) : Calls Tryz.prog 47 #[] w (TextsP w [kindL 0, kindL 1, kindL 2, kindL 3, kindL 4]) := by
  have HP := Lib.hid ((Below.refl w.heap.size w).alloc (Nat.le_refl _) (.cells #[.string (str (kindL 0)), .string (str (kindL 1)), .string (str (kindL 2)), .string (str (kindL 3)), .string (str (kindL 4))] 9))
  have HQ := Lib.hid fun (j : Nat) (x : List UInt8) (h : [kindL 0, kindL 1, kindL 2, kindL 3, kindL 4][j]? = some x) => texts_at (W := w) (T := 9) rfl j x h
  go_enter Tryz.func47, Tryz.ntmps47
  go_wp2_with fail
  go_ret
  exact ⟨_, rfl, by simp, HQ.out, HP.out⟩
theorem kind_at {k : Nat} {x : List UInt8} (h : k < 5) (hx : [kindL 0, kindL 1, kindL 2, kindL 3, kindL 4][k]? = some x) : x = kindL k := by
  match k, hx with
  | 0, h | 1, h | 2, h | 3, h | 4, h => injection h with h; exact h.symm
/-- the first that holds -/
theorem first_eq : ∀ {bs : List Bool} {k : Nat}, bs[k]? = some true → (∀ j, j < k → bs[j]? = some false) → firstB bs = k
  | [], k, h, _ => by simp at h
  | true :: l, 0, _, _ => rfl
  | true :: l, k + 1, _, hf => by have := hf 0 (by omega); simp at this
  | false :: l, 0, h, _ => by simp at h
  | false :: l, k + 1, h, hf => by
    have := first_eq (bs := l) (k := k) (by simpa using h) (fun j hj => by have := hf (j + 1) (by omega); simpa using this)
    simp [firstB, this]
theorem first_none : ∀ {bs : List Bool}, (∀ b ∈ bs, b = false) → firstB bs = bs.length
  | [], _ => rfl
  | b :: l, h => by
    have hb := h b (by simp)
    subst hb
    simp [firstB, first_none (bs := l) fun b hb => h b (by simp [hb])]
end Ru
end Go.Proofs.YtabglcpllfcmbaaGreatDoor
