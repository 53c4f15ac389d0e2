/- What a row's list gives of the kinds' names, and of the variables that strings and strconv read. -/
import Derived.Test.YteedhnpdffnfjaaGreatDoorPlKind
import Derived.Test.YteedhnpdffnfjaaGreatDoorRuEnv
import Derived.Lib.LaidU8
import Derived.LaidSub
namespace Go.Proofs.YteedhnpdffnfjaaGreatDoor
namespace Ru
open Go.ChangeShapes Go.WideShapes Go.ChangeAt Go.RowKit D

theorem namesGlobal : Tryz.prog.globalNamed "linguister/plural.names" = some 0 := by kernel_rfl
theorem namesType : (Tryz.prog.globals[0]?).map (·.type) = some 52 := by kernel_rfl
theorem names_of {W : World} {l : List (String × DataW Unit)} (h : laidMet Tryz.prog l W) (hm : ("linguister/plural.names", Rows.laid_linguister_plural_names) ∈ l) : Names W := by
  obtain ⟨g, t, cs, fuel, p, h1, h2, h3, h4⟩ := Lib.laidMet.reads h hm
  obtain rfl : 0 = g := Option.some.inj (namesGlobal.symm.trans h1)
  obtain rfl : 52 = t := Option.some.inj (namesType.symm.trans h2)
  intro j hj
  obtain ⟨fuel', d, q, h5, h6⟩ := Lib.array_elem Tryz.underlying52 h4 j hj
  rw [strCells] at h6
  have h7 : d = .lit (.string (kindL j)) := by
    match j, hj, h5 with
    | 0, _, h | 1, _, h | 2, _, h | 3, _, h | 4, _, h => injection h with h; exact h.symm
  subst h7
  obtain ⟨s, hc, hx, _⟩ := DataW.trod_string Tryz.underlying9 h6
  have hx1 := congrArg Prod.fst hx
  simp only [DataW.lit.injEq, Lit.string.injEq] at hx1
  have hs : s = str (kindL j) := str_eq hx1.symm
  have hc1 : cs[j]? = some (.string s) := by
    have := congrArg (·[0]?) hc
    simpa [List.getElem?_take, List.getElem?_drop] using this
  rw [World.var?_cell namesGlobal h3 j, hc1, hs]
/-- what a row's list gives -/
theorem env_names {W : World} {l : List (String × DataW Unit)} {d32 d64 dacc dfirst : DataW Unit} (h : laidMet Tryz.prog l W) (hS : W.ShapedOpen Tryz.prog) (hm : ("linguister/plural.names", Rows.laid_linguister_plural_names) ∈ l)
    (e : (l.filter fun x => x.1 != "linguister/plural.names") = [("math/bits.deBruijn32tab", d32), ("math/bits.deBruijn64tab", d64), ("internal/strconv.uint64pow10", Rows.laid_internal_strconv_uint64pow10), ("unicode/utf8.acceptRanges", dacc), ("strconv.ErrRange", Rows.laid_strconv_ErrRange), ("strconv.ErrSyntax", Rows.laid_strconv_ErrSyntax), ("unicode/utf8.first", dfirst)]) : Env W ∧ Names W := by
  have h' := laidMet.filter (fun x => x.1 != "linguister/plural.names") h
  rw [e] at h'
  exact ⟨env_of h' hS, names_of h hm⟩
end Ru
end Go.Proofs.YteedhnpdffnfjaaGreatDoor
