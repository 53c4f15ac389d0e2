/- A set of texts kept as a map of bools that the call makes: what a look-up gives, at the operation, for the walk. Nothing of the program stands here. -/
import Derived.Test.YtdckmekfggigjaaDoorPlain
import Derived.Maps.OwnOps
import Derived.Maps.Views
import Derived.WalkKit
namespace Go.Proofs.YtdckmekfggigjaaDoor
open Go.RowKit Go.Maps Go.WideShapes

def seenD (l : List P.Bs) : DataW Unit := setOf (.lit (.bool true)) (l.map Lit.string)
theorem seenD_nil : seenD [] = .map [] := rfl
theorem seenD_snoc (l : List P.Bs) (x : P.Bs) : seenD (l ++ [x]) = (seenD l).put (.string x) (.lit (.bool true)) := by
  unfold seenD
  rw [List.map_append, List.map_singleton, setOf_snoc]

theorem atKey_fold : ∀ (l : List P.Bs) (m : DataW Unit) (S : List P.Bs), IsMap m → (∀ x, m.atKey (.string x) (.lit (.bool false)) = .lit (.bool (S.contains x))) →
    ∀ x, ((l.map Lit.string).foldl (fun m x => m.put x (.lit (.bool true))) m).atKey (.string x) (.lit (.bool false)) = .lit (.bool ((S ++ l).contains x))
  | [], m, S, _, h, x => by simpa using h x
  | a :: r, m, S, hm, h, x => by
    rw [List.map_cons, List.foldl_cons]
    have e : S ++ a :: r = (S ++ [a]) ++ r := by simp
    rw [e]
    refine atKey_fold r _ (S ++ [a]) (hm.put _ _) (fun y => ?_) x
    by_cases hy : y = a
    · subst hy
      rw [atKey_put_same hm (show WideAt.IsKeyLit (.string y) from trivial)]
      simp
    · rw [atKey_put_other (fun h' => hy (by injection h')), h y]
      congr 2
      rw [Bool.eq_iff_iff]
      simp [hy]
theorem seenD_at (l : List P.Bs) (x : P.Bs) : (seenD l).atKey (.string x) (.lit (.bool false)) = .lit (.bool (l.contains x)) := by
  have h := atKey_fold l (.map []) [] isMap_empty (fun y => by simp [DataW.atKey]) x
  simpa [seenD, setOf] using h

theorem plainElem_bool_inv {H : Type} {P : Program} {e : TypeId} (he : P.underlying e = some .bool) {v : Value} {b : Bool} {ps : List MemPlace} (h : plainElem (H := H) P e v = some (.lit (.bool b), ps)) : v = .bool b := by
  unfold plainElem at h
  rw [he] at h
  cases v <;> simp at h
  rw [h.1]

/-- a look-up in the call's own map of bools -/
theorem wpList_lookup_own_boolAt {H : Type} {P : Program} (w : World) {ops : Array Oper} {rest : List Oper} {o : Oper} {a : Act} {Q : Exit → Act → World → Prop}
    (hg : o.guard = none) (m x : Operand) (t : TypeId) (hop : o.op = Op.lookup t m x false)
    (k e : TypeId) (K : Keyed P k) (ht : P.underlying t = some (.map k e)) (he : P.underlying e = some .bool) (hz : (zeroValue e).run P w = .ok (.bool false) w) (b n : Nat) (D : DataW H)
    (hm : a.eval m = .map (some b)) (hown : w.ownsMap P k (plainElem P e) b n D) (key : Value) (kl : Lit) (hx : a.eval x = key) (hkey : keyOf P k key = some kl)
    (c : Bool) (hat : D.atKey kl (.lit (.bool false)) = .lit (.bool c))
    (hK : wpList P ops Q rest (a.put o.dst (.bool c)) w) :
    wpList P ops Q (o :: rest) a w := by
  refine wpList_plain hg fun K' hK' => ?_
  obtain ⟨v, ps, hrun, hv⟩ := hown.lookup K ht hz (plainElem_bool he false) hkey
  rw [hat] at hv
  obtain rfl := plainElem_bool_inv he hv
  unfold Oper.wp
  simp [execOp, hop, hm, hx, hrun, Result.andThen]
  exact hK' _ _ hK
end Go.Proofs.YtdckmekfggigjaaDoor
