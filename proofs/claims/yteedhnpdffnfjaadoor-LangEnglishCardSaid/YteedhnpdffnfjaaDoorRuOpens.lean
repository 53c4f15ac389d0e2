/- An argument that is a rule, a relation or a range, opened: what it holds, where that lies. And what follows from it. -/
import Derived.Test.YteedhnpdffnfjaaDoorRows
import Derived.Test.YteedhnpdffnfjaaDoorRuGround
import Derived.OpenShut
import Derived.ProofKit
import Derived.SliceStrings
import Derived.Lib.SmallJoins
import Derived.SizedLaws
import Derived.Deep.Slices
import Derived.Deep.Fields
import Derived.Test.YteedhnpdffnfjaaDoorLawRow
namespace Go.Proofs.YteedhnpdffnfjaaDoor
namespace Ru
open Go.Joins Go.ChangeShapes Go.WideShapes Go.RowKit Go.Deep D

section
variable {H : Type} {enc : TypeId × Value → H} {W : World}
theorem intCells : Tryd.prog.cellsOf 3 = 1 := by kernel_rfl
theorem rgCells : Tryd.prog.cellsOf 120 = 2 := by kernel_rfl
theorem relCells : Tryd.prog.cellsOf 88 = 4 := by kernel_rfl
theorem partCells : Tryd.prog.cellsOf 83 = 1 := by kernel_rfl
set_option maxRecDepth 100000 in
theorem open_rg {fuel : Nat} {cs : List Value} {d : DataW H} {p : List MemPlace} (h : DataW.trod enc Tryd.prog W 0 (fun _ => true) true fuel 120 cs = some (d, p)) : ∃ a b : Int, cs = [.int .i64 a, .int .i64 b] := by
  obtain ⟨xs, m, _, _, hl, hlen, hi⟩ := DataW.trod_array Tryd.underlying120 h
  rw [rgCells] at hl
  rw [intCells] at hi
  match cs, hl, xs, hlen with
  | [c0, c1], _, [y0, y1], _ =>
    have k0 : DataW.trod enc Tryd.prog W 0 (fun _ => true) true m 3 [c0] = some y0 := by simpa using hi 0 (by decide)
    have k1 : DataW.trod enc Tryd.prog W 0 (fun _ => true) true m 3 [c1] = some y1 := by simpa using hi 1 (by decide)
    obtain ⟨a, e0, _, _⟩ := DataW.trod_int Tryd.underlying3 k0
    obtain ⟨b, e1, _, _⟩ := DataW.trod_int Tryd.underlying3 k1
    simp at e0 e1
    exact ⟨a, b, by rw [e0, e1]⟩
/-- what a row reads as, by its length alone -/
def RowData (d : DataW H) (n : Nat) : Prop := (d = .nil ∧ n = 0) ∨ ∃ es rest : List (DataW H), d = .slice es rest ∧ es.length = n
set_option maxRecDepth 100000 in
theorem open_rgs {fuel : Nat} {c3 : Value} {d : DataW H} {p : List MemPlace} (h : DataW.trod enc Tryd.prog W 0 (fun _ => true) true fuel 86 [c3] = some (d, p)) :
    ∃ (A : Option Addr) (c : Nat) (rs : List (Int × Int)), c3 = .slice A rs.length c ∧ rs.length ≤ c ∧ c ≤ maxLen ∧ RgsAt W W.heap.size A rs.length rs ∧ RowData d rs.length := by
  rcases open_slice Tryd.underlying86 h with ⟨hcs, hx⟩ | ⟨a, len, cap, m, n, D, Pl, hcs, hb, hl, hm, hmm, hx, hi⟩
  · simp at hcs hx
    exact ⟨none, 0, [], by simpa using hcs, Nat.le_refl _, Nat.zero_le _, ⟨rfl, fun h => absurd h (by simp)⟩, .inl ⟨hx.1, rfl⟩⟩
  · simp at hcs hx hmm
    subst hmm
    rw [rgCells] at hi
    have hp : ∀ i, i < len → ∃ r : Int × Int, W.cell? (a.add (i * 2)) = some (.int .i64 r.1) ∧ W.cell? (a.add (i * 2 + 1)) = some (.int .i64 r.2) := fun i hin => by
      obtain ⟨cs, h1, h2⟩ := hi i (by omega)
      obtain ⟨x, y, rfl⟩ := open_rg h2
      obtain ⟨_, _, hat⟩ := World.cells?_some h1
      have g0 := hat 0 (by omega)
      have g1 := hat 1 (by omega)
      rw [Go.Proofs.YteedhnpdffnfjaaDoor.add_of_add] at g0 g1
      exact ⟨(x, y), by simpa using g0, by simpa using g1⟩
    obtain ⟨f, hf⟩ := choose_lt hp
    have hlr : ((List.range len).map f).length = len := by simp
    refine ⟨some a, _, (List.range len).map f, by rw [hlr]; exact hcs, by rw [hlr]; exact hl, hm, ?_, .inr ⟨_, _, hx.1, by simp⟩⟩
    rw [hlr]
    refine ⟨by rw [rgC, flat_length rgCell (k := 2) (fun _ => rfl), hlr], fun hn => ⟨a, rfl, ?_, fun j u hu => ?_⟩⟩
    · have := World.block_lt_of_cell? W _ (hf 0 hn).1
      rwa [block_of_add] at this
    · have hj : j < len * 2 := by have := (List.getElem?_eq_some_iff.1 hu).1; rwa [rgC, flat_length rgCell (k := 2) (fun _ => rfl), hlr] at this
      have hi2 : j / 2 < len := by omega
      have hx2 : ((List.range len).map f)[j / 2]? = some (f (j / 2)) := by rw [List.getElem?_map, List.getElem?_range hi2]; rfl
      have hr := flat_get rgCell (k := 2) (fun _ => rfl) _ _ _ hx2 (j % 2) (by omega)
      rw [show j / 2 * 2 + j % 2 = j from by omega] at hr
      rw [rgC, hr] at hu
      have hp := hf _ hi2
      have h2 : j % 2 = 0 ∨ j % 2 = 1 := by omega
      rcases h2 with e | e <;> rw [e] at hu <;> simp at hu <;> subst hu
      · rw [show j = j / 2 * 2 from by omega]; simpa using hp.1
      · rw [show j = j / 2 * 2 + 1 from by omega]; simpa [show (j / 2 * 2 + 1) / 2 = j / 2 from by omega] using hp.2

/-- a relation's four cells, opened -/
structure RelOpen (W : World) (c0 c1 c2 c3 : Value) (x : RelX) : Prop where
  c0 : c0 = .int .u8 x.v.op
  c1 : c1 = .int .i64 x.v.mod
  c2 : c2 = .bool x.v.nt
  c3 : c3 = x.rgs
  cap : x.v.rs.length ≤ x.c
  few : x.c ≤ maxLen
  reads : RgsAt W W.heap.size x.A x.v.rs.length x.v.rs
  byte : 0 ≤ x.v.op ∧ x.v.op < 256
def RelData (d : DataW H) (x : RelX) : Prop := ∃ dr, d = .agg [.lit (.int .u8 x.v.op), .lit (.int .i64 x.v.mod), .lit (.bool x.v.nt), dr] ∧ RowData dr x.v.rs.length
theorem relUnder : Tryd.prog.underlying 88 = some (.struct #[⟨ "Op", 5, 0, false, "", "", 0⟩, ⟨ "Mod", 3, 1, false, "", "", 8⟩, ⟨ "Not", 4, 2, false, "", "", 16⟩, ⟨ "Ranges", 86, 3, false, "", "", 24⟩]) := Tryd.underlying88
set_option maxRecDepth 100000 in
theorem open_relCells {fuel : Nat} {c0 c1 c2 c3 : Value} {d : DataW H} {p : List MemPlace} (h : DataW.trod enc Tryd.prog W 0 (fun _ => true) true fuel 88 [c0, c1, c2, c3] = some (d, p)) :
    ∃ x : RelX, RelOpen W c0 c1 c2 c3 x ∧ RelData d x := by
  obtain ⟨y0, y1, y2, y3, m, hx, _, h0, h1, h2, h3⟩ := trod_struct4 relUnder h
  simp only [Prod.mk.injEq] at hx
  obtain ⟨rfl, -⟩ := hx
  have k0 : DataW.trod enc Tryd.prog W 0 (fun _ => true) true m 5 [c0] = some y0 := by simpa [show Tryd.prog.cellsOf 5 = 1 from by kernel_rfl] using h0
  have k1 : DataW.trod enc Tryd.prog W 0 (fun _ => true) true m 3 [c1] = some y1 := by simpa [intCells] using h1
  have k2 : DataW.trod enc Tryd.prog W 0 (fun _ => true) true m 4 [c2] = some y2 := by simpa [show Tryd.prog.cellsOf 4 = 1 from by kernel_rfl] using h2
  have k3 : DataW.trod enc Tryd.prog W 0 (fun _ => true) true m 86 [c3] = some y3 := by simpa [show Tryd.prog.cellsOf 86 = 1 from by kernel_rfl] using h3
  clear h0 h1 h2 h3
  obtain ⟨op, e0, hx0, hw0⟩ := DataW.trod_int Tryd.underlying5 k0
  obtain ⟨mod, e1, hx1, _⟩ := DataW.trod_int Tryd.underlying3 k1
  obtain ⟨nt, e2, hx2⟩ := DataW.trod_bool Tryd.underlying4 k2
  obtain ⟨y30, y31⟩ := y3
  obtain ⟨A, c, rs, rfl, hl, hm, hr, hd⟩ := open_rgs k3
  simp at e0 e1 e2
  subst e0; subst e1; subst e2
  refine ⟨⟨⟨op, mod, nt, rs⟩, A, c⟩, ⟨rfl, rfl, rfl, rfl, hl, hm, hr, ?_⟩, y30, by rw [hx0, hx1, hx2], hd⟩
  have := hw0
  simp [Lit.wf, IntKind.min, IntKind.max, IntKind.signed, IntKind.bits] at this
  show 0 ≤ op ∧ op < 256
  omega
/-- a row of relations, opened -/
structure PartOpen (W : World) (v : Value) (d : DataW H) (p : PartX) : Prop where
  val : v = p.val
  cap : p.xs.length ≤ p.c
  few : p.c ≤ maxLen
  reads : RelsAt W W.heap.size p.A p.xs.length p.xs
  rels : ∀ x ∈ p.xs, x.c ≤ maxLen ∧ 0 ≤ x.v.op ∧ x.v.op < 256
  data : (d = .nil ∧ p.xs = []) ∨ ∃ es rest : List (DataW H), d = .slice es rest ∧ es.length = p.xs.length ∧ ∀ (i : Nat) (x : RelX), p.xs[i]? = some x → ∃ di, es[i]? = some di ∧ RelData di x
set_option maxRecDepth 100000 in
theorem open_part {fuel : Nat} {v : Value} {d : DataW H} {pl : List MemPlace} (h : DataW.trod enc Tryd.prog W 0 (fun _ => true) true fuel 83 [v] = some (d, pl)) : ∃ p : PartX, PartOpen W v d p := by
  rcases open_slice Tryd.underlying83 h with ⟨hcs, hx⟩ | ⟨a, len, cap, m, n, D, Pl, hcs, hb, hl, hm, hmm, hx, hi⟩
  · simp at hcs hx
    exact ⟨⟨none, 0, []⟩, hcs, Nat.le_refl _, Nat.zero_le _, ⟨rfl, ⟨rfl, fun h => absurd h (by simp)⟩, fun x hx => (by cases hx)⟩, fun x hx => (by cases hx), .inl ⟨hx.1, rfl⟩⟩
  · simp at hcs hx hmm
    subst hmm
    rw [relCells] at hi
    have hp : ∀ i, i < len → ∃ x : RelX, (W.cell? (a.add (i * 4)) = some (.int .u8 x.v.op) ∧ W.cell? (a.add (i * 4 + 1)) = some (.int .i64 x.v.mod) ∧ W.cell? (a.add (i * 4 + 2)) = some (.bool x.v.nt) ∧ W.cell? (a.add (i * 4 + 3)) = some x.rgs) ∧
        x.v.rs.length ≤ x.c ∧ x.c ≤ maxLen ∧ RgsAt W W.heap.size x.A x.v.rs.length x.v.rs ∧ (0 ≤ x.v.op ∧ x.v.op < 256) ∧ RelData (D i) x := fun i hin => by
      obtain ⟨cs, h1, h2⟩ := hi i (by omega)
      obtain ⟨_, hcl, hat⟩ := World.cells?_some h1
      match cs, hcl with
      | [c0, c1, c2, c3], _ =>
        obtain ⟨x, hx, hd⟩ := open_relCells h2
        have g0 := hat 0 (by omega)
        have g1 := hat 1 (by omega)
        have g2 := hat 2 (by omega)
        have g3 := hat 3 (by omega)
        rw [Go.Proofs.YteedhnpdffnfjaaDoor.add_of_add] at g0 g1 g2 g3
        exact ⟨x, ⟨by simpa [hx.c0] using g0, by simpa [hx.c1] using g1, by simpa [hx.c2] using g2, by simpa [hx.c3] using g3⟩, hx.cap, hx.few, hx.reads, hx.byte, hd⟩
    obtain ⟨f, hf⟩ := choose_lt hp
    have hlr : ((List.range len).map f).length = len := by simp
    refine ⟨⟨some a, _, (List.range len).map f⟩, by show v = .slice _ _ _; rw [hlr]; exact hcs, by rw [hlr]; exact hl, hm, ?_, fun x hx => ?_, .inr ⟨_, _, hx.1, by simp, fun i x hix => ?_⟩⟩
    · rw [hlr]
      refine ⟨hlr, ⟨by rw [relC, flat_length RelX.cells (k := 4) (fun _ => rfl), hlr], fun hn => ⟨a, rfl, ?_, fun j u hu => ?_⟩⟩, fun x hx => ?_⟩
      · have := World.block_lt_of_cell? W _ (hf 0 hn).1.1
        rwa [block_of_add] at this
      · have hj : j < len * 4 := by have := (List.getElem?_eq_some_iff.1 hu).1; rwa [relC, flat_length RelX.cells (k := 4) (fun _ => rfl), hlr] at this
        have hi4 : j / 4 < len := by omega
        have hx4 : ((List.range len).map f)[j / 4]? = some (f (j / 4)) := by rw [List.getElem?_map, List.getElem?_range hi4]; rfl
        have hr := flat_get RelX.cells (k := 4) (fun _ => rfl) _ _ _ hx4 (j % 4) (by omega)
        rw [show j / 4 * 4 + j % 4 = j from by omega] at hr
        rw [relC, hr] at hu
        have hp := (hf _ hi4).1
        have h4 : j % 4 = 0 ∨ j % 4 = 1 ∨ j % 4 = 2 ∨ j % 4 = 3 := by omega
        rcases h4 with e | e | e | e <;> rw [e] at hu <;> simp at hu <;> subst hu
        · rw [show j = j / 4 * 4 from by omega]; simpa using hp.1
        · rw [show j = j / 4 * 4 + 1 from by omega]; simpa [show (j / 4 * 4 + 1) / 4 = j / 4 from by omega] using hp.2.1
        · rw [show j = j / 4 * 4 + 2 from by omega]; simpa [show (j / 4 * 4 + 2) / 4 = j / 4 from by omega] using hp.2.2.1
        · rw [show j = j / 4 * 4 + 3 from by omega]; simpa [show (j / 4 * 4 + 3) / 4 = j / 4 from by omega] using hp.2.2.2
      · obtain ⟨i, hi', rfl⟩ := List.mem_map.1 hx
        have hp := hf i (List.mem_range.1 hi')
        exact ⟨hp.2.1, hp.2.2.2.1⟩
    · obtain ⟨i, hi', rfl⟩ := List.mem_map.1 hx
      have hp := hf i (List.mem_range.1 hi')
      exact ⟨hp.2.2.1, hp.2.2.2.2.1⟩
    · have hin : i < len := by have := (List.getElem?_eq_some_iff.1 hix).1; simpa using this
      rw [List.getElem?_map, List.getElem?_range hin] at hix
      simp at hix
      subst hix
      exact ⟨D i, by rw [List.getElem?_map, List.getElem?_range hin]; rfl, (hf i hin).2.2.2.2.2⟩
/-- what a rule among the arguments reads as -/
def RuleData (W : World) (d : DataW H) (ps : List PartX) : Prop := (d = .nil ∧ ps = []) ∨ ∃ es rest : List (DataW H), d = .slice es rest ∧ es.length = ps.length ∧ ∀ (i : Nat) (p : PartX), ps[i]? = some p → ∃ di, es[i]? = some di ∧ PartOpen W p.val di p
set_option maxRecDepth 100000 in
theorem open_rule {b0 : Nat} {v : Value} {d : DataW H} {pl : List MemPlace} (hv : Value.okWide Tryd.prog W .any b0 48 v) (h : DataW.Trod enc Tryd.prog W 0 (fun _ => true) true 48 v d pl) :
    ∃ A n c ps, v = .slice A n c ∧ n ≤ c ∧ c ≤ maxLen ∧ RuleAt W W.heap.size A n ps ∧ Few ps ∧ RuleData W d ps := by
  obtain ⟨A0, n0, c0, rfl⟩ := okWide_slice Tryd.underlying48 hv
  obtain ⟨fuel, hf⟩ := h
  have hf' : DataW.trod enc Tryd.prog W 0 (fun _ => true) true fuel 48 [.slice A0 n0 c0] = some (d, pl) := by simpa [Value.cells] using hf
  rcases open_slice Tryd.underlying48 hf' with ⟨hcs, hx⟩ | ⟨a, len, cap, m, n, D, Pl, hcs, hb, hl, hm, hmm, hx, hi⟩
  · simp at hcs hx
    obtain ⟨rfl, rfl, rfl⟩ := hcs
    exact ⟨none, 0, 0, [], rfl, Nat.le_refl _, Nat.zero_le _, ⟨rfl, ⟨rfl, fun h => absurd h (by omega)⟩, fun p hp => (by cases hp)⟩, fun p hp => (by cases hp), .inl ⟨hx.1, rfl⟩⟩
  · simp at hcs hx hmm
    obtain ⟨rfl, rfl, rfl⟩ := hcs
    subst hmm
    rw [partCells] at hi
    have hp : ∀ i, i < n0 → ∃ p : PartX, W.cell? (a.add i) = some p.val ∧ PartOpen W p.val (D i) p := fun i hin => by
      obtain ⟨cs, h1, h2⟩ := hi i (by omega)
      obtain ⟨_, hcl, hat⟩ := World.cells?_some h1
      match cs, hcl with
      | [v0], _ =>
        obtain ⟨p, hpo⟩ := open_part h2
        have g0 := hat 0 (by omega)
        rw [Go.Proofs.YteedhnpdffnfjaaDoor.add_of_add] at g0
        have e := hpo.val
        subst e
        exact ⟨p, by simpa [Nat.mul_one] using g0, hpo⟩
    obtain ⟨f, hfx⟩ := choose_lt hp
    have hlr : ((List.range n0).map f).length = n0 := by simp
    refine ⟨some a, n0, _, (List.range n0).map f, rfl, hl, hm, ⟨hlr, ⟨by simp [partC], fun hn => ⟨a, rfl, ?_, fun j u hu => ?_⟩⟩, fun p hpm => ?_⟩, fun p hpm => ?_, .inr ⟨_, _, hx.1, by simp, fun i p hip => ?_⟩⟩
    · have := World.block_lt_of_cell? W _ (hfx 0 hn).1
      rwa [block_of_add] at this
    · have hj : j < n0 := by have := (List.getElem?_eq_some_iff.1 hu).1; simpa [partC] using this
      simp only [partC, List.map_map, List.getElem?_map, List.getElem?_range hj, Option.map_some, Option.some.injEq] at hu
      rw [← hu]
      exact (hfx j hj).1
    · obtain ⟨i, hi', rfl⟩ := List.mem_map.1 hpm
      have hq := (hfx i (List.mem_range.1 hi')).2
      exact ⟨hq.cap, hq.reads⟩
    · obtain ⟨i, hi', rfl⟩ := List.mem_map.1 hpm
      have hq := (hfx i (List.mem_range.1 hi')).2
      exact ⟨Nat.le_trans hq.cap hq.few, fun x hx => Nat.le_trans (hq.reads.rgs x hx).1 (hq.rels x hx).1⟩
    · have hin : i < n0 := by have := (List.getElem?_eq_some_iff.1 hip).1; simpa using this
      rw [List.getElem?_map, List.getElem?_range hin] at hip
      simp at hip
      subst hip
      exact ⟨D i, by rw [List.getElem?_map, List.getElem?_range hin]; rfl, (hfx i hin).2⟩
end
end Ru
end Go.Proofs.YteedhnpdffnfjaaDoor

/- What the rows of the laws on rules share: arguments that are operands, a relation, a range, opened. -/
namespace Go.Proofs.YteedhnpdffnfjaaDoor
namespace Ru
open Go.Joins Go.ChangeShapes Go.WideShapes Go.RowKit Go.Deep D

section
variable {H : Type} {enc : TypeId × Value → H} {W : World}
theorem opsUnder : Tryd.prog.underlying 41 = some (.struct #[⟨ "I", 3, 0, false, "", "", 0⟩, ⟨ "V", 3, 1, false, "", "", 8⟩, ⟨ "W", 3, 2, false, "", "", 16⟩, ⟨ "F", 3, 3, false, "", "", 24⟩, ⟨ "T", 3, 4, false, "", "", 32⟩]) := Tryd.underlying41
theorem opsCells : Tryd.prog.cellsOf 41 = 5 := by kernel_rfl
set_option maxRecDepth 100000 in
theorem open_ops {b0 : Nat} {v : Value} {d : DataW H} {p : List MemPlace} (hv : Value.okWide Tryd.prog W .any b0 41 v) (h : DataW.Trod enc Tryd.prog W 0 (fun _ => true) true 41 v d p) :
    ∃ i a b f t : Int, v = .agg #[.int .i64 i, .int .i64 a, .int .i64 b, .int .i64 f, .int .i64 t] := by
  obtain ⟨⟨cs⟩, rfl, hsz⟩ := okWide_struct opsUnder hv
  rw [opsCells] at hsz
  obtain ⟨fuel, hf⟩ := h
  obtain ⟨xs, n, _, _, _, hl, hi⟩ := DataW.trod_struct opsUnder hf
  match cs, hsz, xs, hl with
  | [c0, c1, c2, c3, c4], _, [y0, y1, y2, y3, y4], _ =>
    obtain ⟨i, e0, _, _⟩ := DataW.trod_int Tryd.underlying3 (show DataW.trod enc Tryd.prog W 0 (fun _ => true) true n 3 [c0] = some y0 by simpa [Value.cells, intCells] using hi 0 _ rfl)
    obtain ⟨a, e1, _, _⟩ := DataW.trod_int Tryd.underlying3 (show DataW.trod enc Tryd.prog W 0 (fun _ => true) true n 3 [c1] = some y1 by simpa [Value.cells, intCells] using hi 1 _ rfl)
    obtain ⟨b, e2, _, _⟩ := DataW.trod_int Tryd.underlying3 (show DataW.trod enc Tryd.prog W 0 (fun _ => true) true n 3 [c2] = some y2 by simpa [Value.cells, intCells] using hi 2 _ rfl)
    obtain ⟨f, e3, _, _⟩ := DataW.trod_int Tryd.underlying3 (show DataW.trod enc Tryd.prog W 0 (fun _ => true) true n 3 [c3] = some y3 by simpa [Value.cells, intCells] using hi 3 _ rfl)
    obtain ⟨t, e4, _, _⟩ := DataW.trod_int Tryd.underlying3 (show DataW.trod enc Tryd.prog W 0 (fun _ => true) true n 3 [c4] = some y4 by simpa [Value.cells, intCells] using hi 4 _ rfl)
    simp at e0 e1 e2 e3 e4
    exact ⟨i, a, b, f, t, by rw [e0, e1, e2, e3, e4]⟩
set_option maxRecDepth 100000 in
theorem open_rel {b0 : Nat} {v : Value} {d : DataW H} {p : List MemPlace} (hv : Value.okWide Tryd.prog W .any b0 88 v) (h : DataW.Trod enc Tryd.prog W 0 (fun _ => true) true 88 v d p) :
    ∃ x : RelX, v = x.val ∧ x.v.rs.length ≤ x.c ∧ x.c ≤ maxLen ∧ RgsAt W W.heap.size x.A x.v.rs.length x.v.rs ∧ (0 ≤ x.v.op ∧ x.v.op < 256) ∧ RelData d x := by
  obtain ⟨⟨cs⟩, rfl, hsz⟩ := okWide_struct relUnder hv
  rw [relCells] at hsz
  obtain ⟨fuel, hf⟩ := h
  match cs, hsz with
  | [c0, c1, c2, c3], _ =>
    obtain ⟨x, hx, hd⟩ := open_relCells (c0 := c0) (c1 := c1) (c2 := c2) (c3 := c3) (by simpa [Value.cells] using hf)
    exact ⟨x, by rw [hx.c0, hx.c1, hx.c2, hx.c3], hx.cap, hx.few, hx.reads, hx.byte, hd⟩
end
end Ru
end Go.Proofs.YteedhnpdffnfjaaDoor
