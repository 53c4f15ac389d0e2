/- What a row's list gives of the variables that strings and strconv read; arguments of the laws on rules, opened: their bounds. -/
import Derived.Test.YteedhnpdffnfjaaDoorStrcLaid
import Derived.Test.YteedhnpdffnfjaaDoorRuOpens
import Derived.Test.YteedhnpdffnfjaaDoorRuText
namespace Go.Proofs.YteedhnpdffnfjaaDoor
namespace Ru
open Go.Joins Go.ChangeShapes Go.WideShapes Go.ChangeAt Go.RowKit Go.Deep D

theorem maxl_of {W : World} (h : W.ShapedOpen Tryd.prog) : ∃ m : Int, W.cell? ⟨2, 0, none⟩ = some (.int .i64 m) := Tryd.laysM143.s1_3 W h
theorem env_of {W : World} {d32 d64 dacc dfirst : DataW Unit}
    (h : laidMet Tryd.prog [("math/bits.deBruijn32tab", d32), ("math/bits.deBruijn64tab", d64), ("internal/strconv.uint64pow10", Rows.laid_internal_strconv_uint64pow10), ("unicode/utf8.acceptRanges", dacc), ("strconv.ErrRange", Rows.laid_strconv_ErrRange), ("strconv.ErrSyntax", Rows.laid_strconv_ErrSyntax), ("unicode/utf8.first", dfirst)] W) (hS : W.ShapedOpen Tryd.prog) : Env W := by
  have h3 := h.tail.tail
  have h4 := h3.tail.tail
  have h5 := h4.tail
  rw [tab_data] at h3
  obtain ⟨a, _, e1, _⟩ := laid_sentinel h4 rngGlobal rngType Tryd.underlying25 errRow Tryd.underlying173 Tryd.underlying175 rfl rfl Tryd.underlying9 errCells strCells
  obtain ⟨b, _, e2, _⟩ := laid_sentinel h5 synGlobal synType Tryd.underlying25 errRow Tryd.underlying173 Tryd.underlying175 rfl rfl Tryd.underlying9 errCells strCells
  exact ⟨⟨Lib.tabIs_of_head tabGlobal tabType Tryd.underlying188 Tryd.underlying159 wordCells tabCells h3, holds_of synGlobal e2, holds_of rngGlobal e1⟩, maxl_of hS⟩
theorem env_of_both {W : World} {l : List (String × DataW Unit)} {d32 d64 dacc dfirst : DataW Unit} (h : laidMet Tryd.prog (l.filter fun x => x.2.handleName?.isNone) W) (hS : W.ShapedOpen Tryd.prog)
    (e : (l.filter fun x => x.2.handleName?.isNone) = [("math/bits.deBruijn32tab", d32), ("math/bits.deBruijn64tab", d64), ("internal/strconv.uint64pow10", Rows.laid_internal_strconv_uint64pow10), ("unicode/utf8.acceptRanges", dacc), ("strconv.ErrRange", Rows.laid_strconv_ErrRange), ("strconv.ErrSyntax", Rows.laid_strconv_ErrSyntax), ("unicode/utf8.first", dfirst)]) : Env W := by
  rw [e] at h
  exact env_of h hS

section
variable {H : Type} {enc : TypeId × Value → H} {W : World}
theorem wf_bounds {x : Int} (h : (Lit.int .i64 x).wf = true) : I64 x := by
  simp only [Lit.wf, Bool.and_eq_true, decide_eq_true_eq, show IntKind.i64.min = -9223372036854775808 from by decide, show IntKind.i64.max = 9223372036854775807 from by decide] at h
  exact h
set_option maxRecDepth 100000 in
theorem open_opsI {b0 : Nat} {v : Value} {d : DataW H} {p : List MemPlace} (hv : Value.okWide Tryd.prog W .any b0 41 v) (h : DataW.Trod enc Tryd.prog W 0 (fun _ => true) true 41 v d p) :
    ∃ i a b f t : Int, v = .agg #[.int .i64 i, .int .i64 a, .int .i64 b, .int .i64 f, .int .i64 t] ∧ I64 i ∧ I64 a ∧ I64 b ∧ I64 f ∧ I64 t := by
  obtain ⟨⟨cs⟩, rfl, hsz⟩ := okWide_struct opsUnder hv
  rw [opsCells] at hsz
  obtain ⟨fuel, hf⟩ := h
  obtain ⟨xs, n, _, _, _, hl, hi⟩ := DataW.trod_struct opsUnder hf
  match cs, hsz, xs, hl with
  | [c0, c1, c2, c3, c4], _, [y0, y1, y2, y3, y4], _ =>
    obtain ⟨i, e0, _, w0⟩ := DataW.trod_int Tryd.underlying3 (show DataW.trod enc Tryd.prog W 0 (fun _ => true) true n 3 [c0] = some y0 by simpa [Value.cells, intCells] using hi 0 _ rfl)
    obtain ⟨a, e1, _, w1⟩ := DataW.trod_int Tryd.underlying3 (show DataW.trod enc Tryd.prog W 0 (fun _ => true) true n 3 [c1] = some y1 by simpa [Value.cells, intCells] using hi 1 _ rfl)
    obtain ⟨b, e2, _, w2⟩ := DataW.trod_int Tryd.underlying3 (show DataW.trod enc Tryd.prog W 0 (fun _ => true) true n 3 [c2] = some y2 by simpa [Value.cells, intCells] using hi 2 _ rfl)
    obtain ⟨f, e3, _, w3⟩ := DataW.trod_int Tryd.underlying3 (show DataW.trod enc Tryd.prog W 0 (fun _ => true) true n 3 [c3] = some y3 by simpa [Value.cells, intCells] using hi 3 _ rfl)
    obtain ⟨t, e4, _, w4⟩ := DataW.trod_int Tryd.underlying3 (show DataW.trod enc Tryd.prog W 0 (fun _ => true) true n 3 [c4] = some y4 by simpa [Value.cells, intCells] using hi 4 _ rfl)
    simp at e0 e1 e2 e3 e4
    exact ⟨i, a, b, f, t, by rw [e0, e1, e2, e3, e4], wf_bounds w0, wf_bounds w1, wf_bounds w2, wf_bounds w3, wf_bounds w4⟩
set_option maxRecDepth 100000 in
theorem open_pair {b0 : Nat} {v : Value} {d : DataW H} {p : List MemPlace} (hv : Value.okWide Tryd.prog W .any b0 120 v) (h : DataW.Trod enc Tryd.prog W 0 (fun _ => true) true 120 v d p) : ∃ a b : Int, v = .agg #[.int .i64 a, .int .i64 b] := by
  have h0 := hv
  simp only [Value.okWide, Tryd.underlying120] at h0
  obtain ⟨⟨cs⟩, rfl, hsz, _⟩ := h0
  obtain ⟨fuel, hf⟩ := h
  obtain ⟨a, b, e⟩ := open_rg (cs := cs) (by simpa [Value.cells] using hf)
  exact ⟨a, b, by rw [e]⟩
/-- what is few of an argument of the second form -/
theorem bulk_all_mem {H : Type} {d : DataW H} {l : List (DataW H)} (h : d ∈ l) : Rows.uptoBulk d ≤ Rows.uptoBulkAll l := bulk_mem h
theorem bulk_pos {H : Type} (d : DataW H) : 1 ≤ Rows.uptoBulk d := by
  cases d with
  | lit l => cases l <;> simp [Rows.uptoBulk]
  | _ => simp [Rows.uptoBulk]
theorem bulk_many {H : Type} : ∀ l : List (DataW H), l.length ≤ Rows.uptoBulkAll l
  | [] => by simp
  | d :: l => by
    have h1 := bulk_pos d
    have h2 := bulk_many l
    unfold Rows.uptoBulkAll
    simp only [List.length_cons]
    omega
theorem bulk_slice {H : Type} {es rest : List (DataW H)} {N : Nat} (h : Rows.uptoBulk (.slice es rest) ≤ N) : es.length ≤ N ∧ ∀ d ∈ es, Rows.uptoBulk d ≤ N := by
  unfold Rows.uptoBulk at h
  refine ⟨by have := bulk_many es; omega, fun d hd => by have := bulk_mem hd; omega⟩
theorem bulk_rel {H : Type} {d : DataW H} {x : RelX} {N : Nat} (h : RelData d x) (hb : Rows.uptoBulk d ≤ N) : x.v.rs.length ≤ N := by
  obtain ⟨dr, rfl, hr⟩ := h
  have h1 : Rows.uptoBulk dr ≤ N := by
    have : dr ∈ [DataW.lit (.int .u8 x.v.op), .lit (.int .i64 x.v.mod), .lit (.bool x.v.nt), dr] := by simp
    have := bulk_mem this
    unfold Rows.uptoBulk at hb
    omega
  rcases hr with ⟨rfl, h0⟩ | ⟨es, rest, rfl, hl⟩
  · omega
  · rw [← hl]; exact (bulk_slice h1).1
theorem bulk_part {H : Type} {W : World} {v : Value} {d : DataW H} {p : PartX} {N : Nat} (h : PartOpen W v d p) (hb : Rows.uptoBulk d ≤ N) : p.xs.length ≤ N ∧ ∀ x ∈ p.xs, x.v.rs.length ≤ N := by
  rcases h.data with ⟨rfl, h0⟩ | ⟨es, rest, rfl, hl, hx⟩
  · rw [h0]; exact ⟨Nat.zero_le _, fun x hx => (by cases hx)⟩
  · obtain ⟨h1, h2⟩ := bulk_slice hb
    refine ⟨by omega, fun x hm => ?_⟩
    obtain ⟨i, hi⟩ := List.mem_iff_getElem?.1 hm
    obtain ⟨di, hdi, hd⟩ := hx i x hi
    exact bulk_rel hd (h2 _ (List.mem_of_getElem? hdi))
/-- rows of the second form -/
structure Bulk (ps : List PartX) : Prop where
  few : ps.length ≤ 1048576
  all : ∀ p ∈ ps, p.xs.length ≤ 1048576 ∧ ∀ x ∈ p.xs, x.v.rs.length ≤ 1048576
  byt : Byt ps
theorem Bulk.fewS {ps : List PartX} (h : Bulk ps) : FewS ps := fun p hp => ⟨by have := (h.all p hp).1; omega, fun x hx => by have := (h.all p hp).2 x hx; omega⟩
/-- a rule among the arguments of the second form -/
theorem bulk_rule {H : Type} {W : World} {l : List (DataW H)} (hk : Rows.uptoSmall H l = true) {j : Nat} {d : DataW H} (hj : l[j]? = some d) {ps : List PartX} (hd : RuleData W d ps) : Bulk ps := by
  have h1 := of_decide_eq_true hk
  have h2 := bulk_mem (List.mem_of_getElem? hj)
  have hb : Rows.uptoBulk d ≤ 1048576 := by omega
  rcases hd with ⟨rfl, rfl⟩ | ⟨es, rest, rfl, hl, hp⟩
  · exact ⟨by simp, fun p hp => (by cases hp), fun p hp => (by cases hp)⟩
  · obtain ⟨h3, h4⟩ := bulk_slice hb
    refine ⟨by omega, fun p hm => ?_, fun p hm x hx => ?_⟩
    · obtain ⟨i, hi⟩ := List.mem_iff_getElem?.1 hm
      obtain ⟨di, hdi, ho⟩ := hp i p hi
      obtain ⟨h5, h6⟩ := bulk_part ho (h4 _ (List.mem_of_getElem? hdi))
      exact ⟨h5, h6⟩
    · obtain ⟨i, hi⟩ := List.mem_iff_getElem?.1 hm
      obtain ⟨di, hdi, ho⟩ := hp i p hi
      exact (ho.rels x hx).2
theorem rgBytes : Tryd.prog.bytesOf 120 = 16 := by kernel_rfl
/-- the ranges of a relation among the arguments -/
theorem rel_room {H : Type} {ts : List TypeId} {ds : List (DataW H)} (h : (DataW.weightsEach Tryd.prog ts ds).all (· ≤ reachBytes) = true) {j : Nat} {d : DataW H} (ht : ts[j]? = some 88) (hd : ds[j]? = some d)
    {x : RelX} (hT : RelData d x) : x.v.rs.length * 16 ≤ 140737488355328 - 4096 := by
  obtain ⟨dv, rfl, hdv⟩ := hT
  rcases hdv with ⟨_, h0⟩ | ⟨es, rest, rfl, hn⟩
  · rw [h0]; decide
  · have hm : (x.v.rs.length + rest.length) * 16 ∈ DataW.weights Tryd.prog 88 (.agg [.lit (.int .u8 x.v.op), .lit (.int .i64 x.v.mod), .lit (.bool x.v.nt), .slice es rest] : DataW H) := by
      simp [DataW.weights, DataW.weightsEach, Tryd.underlying86, rgBytes, hn]
    have := List.all_eq_true.1 h _ (DataW.weights_mem_each ht hd _ hm)
    have hr : reachBytes = 140737488355328 - 4096 := by decide
    simp at *
    omega
end
end Ru
end Go.Proofs.YteedhnpdffnfjaaDoor
