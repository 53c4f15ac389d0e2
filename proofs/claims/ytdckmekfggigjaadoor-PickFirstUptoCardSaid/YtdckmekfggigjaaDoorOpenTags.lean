/- An argument that is a row of tags, opened: what it holds, where its variants lie, how much room it takes. -/
import Derived.Test.YtdckmekfggigjaaDoorRoom
import Derived.Test.YtdckmekfggigjaaDoorTags
import Derived.Deep.Slices
import Derived.Deep.Fields
namespace Go.Proofs.YtdckmekfggigjaaDoor
open Go.Joins Go.ChangeShapes Go.WideShapes Go.RowKit Go.Deep

section
variable {H : Type} {enc : TypeId × Value → H} {W : World}
/-- a tag's four cells, opened -/
structure CellsOpen (W : World) (c0 c1 c2 c3 : Value) (x : TagX) : Prop where
  c0 : c0 = .string x.t.lang
  c1 : c1 = .string x.t.script
  c2 : c2 = .string x.t.region
  c3 : c3 = x.vs
  cap : x.t.vars.length ≤ x.c
  reads : Reads W W.heap.size 1 x.A x.t.vars.length (sv x.t.vars)
  lang : x.t.lang.size ≤ maxLen
  script : x.t.script.size ≤ maxLen
  region : x.t.region.size ≤ maxLen
  vars : ∀ v ∈ x.t.vars, v.size ≤ maxLen
def XData (d : DataW H) (x : TagX) : Prop := TagData d x.t.lang x.t.script x.t.region x.t.vars.length x.c x.t.vars

set_option maxRecDepth 100000 in
theorem open_cells {fuel : Nat} {c0 c1 c2 c3 : Value} {d : DataW H} {p : List MemPlace} (h : DataW.trod enc Tryd.prog W 0 (fun _ => true) true fuel 29 [c0, c1, c2, c3] = some (d, p)) :
    ∃ x : TagX, CellsOpen W c0 c1 c2 c3 x ∧ XData d x := by
  obtain ⟨y0, y1, y2, y3, m, hx, _, h0, h1, h2, h3⟩ := trod_struct4 tagUnder h
  simp only [Prod.mk.injEq] at hx
  obtain ⟨rfl, -⟩ := hx
  have k0 : DataW.trod enc Tryd.prog W 0 (fun _ => true) true m 9 [c0] = some y0 := by simpa [strCells] using h0
  have k1 : DataW.trod enc Tryd.prog W 0 (fun _ => true) true m 9 [c1] = some y1 := by simpa [strCells] using h1
  have k2 : DataW.trod enc Tryd.prog W 0 (fun _ => true) true m 9 [c2] = some y2 := by simpa [strCells] using h2
  have k3 : DataW.trod enc Tryd.prog W 0 (fun _ => true) true m 27 [c3] = some y3 := by simpa [show Tryd.prog.cellsOf 27 = 1 from by kernel_rfl] using h3
  clear h0 h1 h2 h3
  obtain ⟨L, e0, rfl, hL⟩ := DataW.trod_string Tryd.underlying9 k0
  obtain ⟨S, e1, rfl, hS⟩ := DataW.trod_string Tryd.underlying9 k1
  obtain ⟨R, e2, rfl, hR⟩ := DataW.trod_string Tryd.underlying9 k2
  simp at e0 e1 e2
  subst e0; subst e1; subst e2
  rcases open_strings Tryd.underlying27 Tryd.underlying9 strCells k3 with ⟨hcs, hx⟩ | ⟨a, len, cap, ss, hcs, hb, hl, hm, hz, hx, hcell, hsz⟩
  · simp at hcs
    subst hcs; subst hx
    exact ⟨⟨⟨L, S, R, []⟩, none, 0⟩, ⟨rfl, rfl, rfl, rfl, Nat.le_refl _, Reads.none_, hL, hS, hR, by simp⟩, .nil, rfl, .inl ⟨rfl, rfl, rfl, rfl⟩⟩
  · simp at hcs
    subst hcs; subst hx
    have hz' : ss.length = cap := by simpa using hz
    have hlen : (ss.take len).length = len := by simp; omega
    refine ⟨⟨⟨L, S, R, ss.take len⟩, some a, cap⟩, ⟨rfl, rfl, rfl, by simp [TagX.vs, hlen], by simpa [hlen] using hl, ?_, hL, hS, hR, fun v hv => hsz v (List.mem_of_mem_take hv)⟩, _, rfl, .inr ⟨ss.drop len, rfl, rfl, by simp [hz']; omega⟩⟩
    rw [hlen]
    refine ⟨by simp [sv, hz']; omega, fun hn => ⟨a, rfl, ?_, ?_⟩⟩
    · have := World.block_lt_of_cell? W _ (hcell 0 (by omega))
      rwa [block_of_add] at this
    · intro j u hj
      have hjl : j < (sv (ss.take len)).length := (List.getElem?_eq_some_iff.1 hj).1
      simp only [sv, List.length_map, List.length_take] at hjl
      have hjs : j < ss.length := by omega
      rw [hcell j hjs]
      simp only [sv, List.getElem?_map, List.getElem?_take, show j < len by omega, if_true] at hj
      rw [List.getElem?_eq_getElem hjs] at hj
      simp only [Option.map_some, Option.some.injEq] at hj
      rw [← hj, List.getD_eq_getElem?_getD, List.getElem?_eq_getElem hjs]
      rfl

/-- a tag among others: how great its parts may be -/
structure XSized (x : TagX) : Prop where
  lang : x.t.lang.size ≤ maxLen
  script : x.t.script.size ≤ maxLen
  region : x.t.region.size ≤ maxLen
  vars : ∀ v ∈ x.t.vars, v.size ≤ maxLen
/-- what a row of tags among the arguments reads as -/
def TagsData (d : DataW H) (n c : Nat) (xs : List TagX) : Prop :=
  (d = .nil ∧ n = 0 ∧ c = 0 ∧ xs = []) ∨ ∃ ds rest : List (DataW H), d = .slice ds rest ∧ ds.length = n ∧ n + rest.length = c ∧ ∀ (i : Nat) (x : TagX), xs[i]? = some x → ∃ di : DataW H, ds[i]? = some di ∧ XData di x
/-- one place of the row, opened -/
structure PlaceOpen (W : World) (a : Addr) (i : Nat) (d : DataW H) (x : TagX) : Prop where
  c0 : W.cell? (a.add (i * 4)) = some (.string x.t.lang)
  c1 : W.cell? (a.add (i * 4 + 1)) = some (.string x.t.script)
  c2 : W.cell? (a.add (i * 4 + 2)) = some (.string x.t.region)
  c3 : W.cell? (a.add (i * 4 + 3)) = some x.vs
  cap : x.t.vars.length ≤ x.c
  reads : Reads W W.heap.size 1 x.A x.t.vars.length (sv x.t.vars)
  sized : XSized x
  data : XData d x
theorem open_place {n i : Nat} {a : Addr} {cs : List Value} {d : DataW H} {p : List MemPlace} (hc : W.cells? 0 (a.add (i * 4)) 4 = some cs) (h : DataW.trod enc Tryd.prog W 0 (fun _ => true) true n 29 cs = some (d, p)) : ∃ x, PlaceOpen W a i d x := by
  obtain ⟨_, hcl, hat⟩ := World.cells?_some hc
  match cs, hcl with
  | [c0, c1, c2, c3], _ =>
    obtain ⟨x, hx, hd⟩ := open_cells h
    have g0 := hat 0 (by omega)
    have g1 := hat 1 (by omega)
    have g2 := hat 2 (by omega)
    have g3 := hat 3 (by omega)
    rw [Go.Proofs.YtdckmekfggigjaaDoor.add_of_add] at g0 g1 g2 g3
    refine ⟨x, ?_, ?_, ?_, ?_, hx.cap, hx.reads, ⟨hx.lang, hx.script, hx.region, hx.vars⟩, hd⟩
    · simpa [hx.c0] using g0
    · simpa [hx.c1] using g1
    · simpa [hx.c2] using g2
    · simpa [hx.c3] using g3
instance : Inhabited TagX := ⟨⟨⟨empB, empB, empB, []⟩, none, 0⟩⟩
/-- a row whose places are opened may be read -/
theorem tagsAt_of {a : Addr} {n : Nat} {D : Nat → DataW H} {f : Nat → TagX} (h : ∀ i, i < n → PlaceOpen W a i (D i) (f i)) : TagsAt W W.heap.size (some a) n ((List.range n).map f) := by
  have hl : ((List.range n).map f).length = n := by simp
  refine ⟨hl, ⟨by rw [rowC_length, hl], fun hn => ⟨a, rfl, ?_, fun j u hu => ?_⟩⟩, fun x hx => ?_⟩
  · have := World.block_lt_of_cell? W _ (h 0 hn).c0
    rwa [block_of_add] at this
  · have hj : j < n * 4 := by have := (List.getElem?_eq_some_iff.1 hu).1; rwa [rowC_length, hl] at this
    have hi : j / 4 < n := by omega
    have hx : ((List.range n).map f)[j / 4]? = some (f (j / 4)) := by rw [List.getElem?_map, List.getElem?_range hi]; rfl
    have hr := rowC_get _ _ _ hx (j % 4) (by omega)
    rw [show j / 4 * 4 + j % 4 = j from by omega] at hr
    rw [hr] at hu
    have hp := h _ hi
    have h4 : j % 4 = 0 ∨ j % 4 = 1 ∨ j % 4 = 2 ∨ j % 4 = 3 := by omega
    rcases h4 with e | e | e | e <;> rw [e] at hu <;> simp at hu <;> subst hu
    · rw [show j = j / 4 * 4 from by omega]; simpa using hp.c0
    · rw [show j = j / 4 * 4 + 1 from by omega]; simpa [show (j / 4 * 4 + 1) / 4 = j / 4 from by omega] using hp.c1
    · rw [show j = j / 4 * 4 + 2 from by omega]; simpa [show (j / 4 * 4 + 2) / 4 = j / 4 from by omega] using hp.c2
    · rw [show j = j / 4 * 4 + 3 from by omega]; simpa [show (j / 4 * 4 + 3) / 4 = j / 4 from by omega] using hp.c3
  · obtain ⟨i, hi, rfl⟩ := List.mem_map.1 hx
    have hp := h i (List.mem_range.1 hi)
    exact ⟨hp.cap, hp.reads⟩

set_option maxRecDepth 100000 in
theorem open_tags {b0 : Nat} {v : Value} {d : DataW H} {p : List MemPlace} (hv : Value.okWide Tryd.prog W .any b0 22 v) (h : DataW.Trod enc Tryd.prog W 0 (fun _ => true) true 22 v d p) :
    ∃ A n c xs, v = .slice A n c ∧ n ≤ c ∧ TagsAt W W.heap.size A n xs ∧ (∀ x ∈ xs, XSized x) ∧ TagsData d n c xs := by
  obtain ⟨A0, n0, c0, rfl⟩ := okWide_slice Tryd.underlying22 hv
  obtain ⟨fuel, hf⟩ := h
  have hf' : DataW.trod enc Tryd.prog W 0 (fun _ => true) true fuel 22 [.slice A0 n0 c0] = some (d, p) := by simpa [Value.cells] using hf
  rcases open_slice Tryd.underlying22 hf' with ⟨hcs, hx⟩ | ⟨a, len, cap, m, n, D, Pl, hcs, hb, hl, hm, hmm, hx, hi⟩
  · simp at hcs hx
    obtain ⟨rfl, rfl, rfl⟩ := hcs
    obtain ⟨rfl, rfl⟩ := hx
    exact ⟨none, 0, 0, [], rfl, Nat.le_refl _, ⟨rfl, ⟨rfl, fun h => absurd h (by omega)⟩, fun x hx => (by cases hx)⟩, fun x hx => (by cases hx), .inl ⟨rfl, rfl, rfl, rfl⟩⟩
  · simp at hcs hx hmm
    obtain ⟨rfl, rfl, rfl⟩ := hcs
    obtain ⟨rfl, rfl⟩ := hx
    subst hmm
    rw [tagCells] at hi
    have hp : ∀ i, i < n0 → ∃ x, PlaceOpen W a i (D i) x := fun i hin => by
      obtain ⟨cs, h1, h2⟩ := hi i (by omega)
      exact open_place h1 h2
    obtain ⟨f, hfx⟩ := choose_lt hp
    refine ⟨some a, n0, _, (List.range n0).map f, rfl, hl, tagsAt_of hfx, fun x hx => ?_, .inr ⟨_, _, rfl, by simp, by simp; omega, fun i x hx => ?_⟩⟩
    · obtain ⟨i, hin, rfl⟩ := List.mem_map.1 hx
      exact (hfx i (List.mem_range.1 hin)).sized
    · have hin : i < n0 := by have := (List.getElem?_eq_some_iff.1 hx).1; simpa using this
      rw [List.getElem?_map, List.getElem?_range hin] at hx
      simp at hx
      subst hx
      exact ⟨D i, by rw [List.getElem?_map, List.getElem?_range hin]; rfl, (hfx i hin).data⟩

theorem weights_all {P : Program} {e : TypeId} : ∀ {ds : List (DataW H)} {i : Nat} {d : DataW H}, ds[i]? = some d → ∀ n ∈ d.weights P e, n ∈ DataW.weightsAll P e ds
  | [], i, d, h, n, hn => by simp at h
  | x :: r, 0, d, h, n, hn => by simp at h; subst h; unfold DataW.weightsAll; exact List.mem_append_left _ hn
  | x :: r, i + 1, d, h, n, hn => by
    simp at h
    unfold DataW.weightsAll
    exact List.mem_append_right _ (weights_all h n hn)
theorem tagBytes : Tryd.prog.bytesOf 29 = 72 := by kernel_rfl
/-- how much room a row of tags takes -/
theorem tags_room {ts : List TypeId} {ds : List (DataW H)} (h : (DataW.weightsEach Tryd.prog ts ds).all (· ≤ reachBytes) = true) {j : Nat} {d : DataW H} (ht : ts[j]? = some 22) (hd : ds[j]? = some d)
    {n c : Nat} {xs : List TagX} (hT : TagsData d n c xs) : n * 72 ≤ 140737488355328 ∧ ∀ x ∈ xs, x.t.vars.length * 16 ≤ 140737488355328 := by
  have hr := reachBytes_lt
  rcases hT with ⟨rfl, rfl, rfl, rfl⟩ | ⟨es, rest, rfl, hn, hc, hall⟩
  · exact ⟨by decide, fun x hx => (by cases hx)⟩
  · have hw : (DataW.slice es rest : DataW H).weights Tryd.prog 22 = (es.length + rest.length) * 72 :: (DataW.weightsAll Tryd.prog 29 es ++ DataW.weightsAll Tryd.prog 29 rest) := by
      simp [DataW.weights, Tryd.underlying22, tagBytes]
    refine ⟨?_, fun x hx => ?_⟩
    · have := List.all_eq_true.1 h _ (DataW.weights_mem_each ht hd ((es.length + rest.length) * 72) (by rw [hw]; simp))
      simp at this
      omega
    · obtain ⟨i, hi⟩ := List.mem_iff_getElem?.1 hx
      obtain ⟨di, hdi, dv, rfl, hdv⟩ := hall i x hi
      rcases hdv with ⟨_, h0, _, _⟩ | ⟨rs, rfl, hvn, _⟩
      · omega
      · have hm : (x.t.vars.length + rs.length) * 16 ∈ DataW.weights Tryd.prog 29 (.agg [.lit (.string x.t.lang.data.toList), .lit (.string x.t.script.data.toList), .lit (.string x.t.region.data.toList), .slice (strs x.t.vars) (strs rs)] : DataW H) := by
          simp [DataW.weights, DataW.weightsEach, Tryd.underlying27, strBytes, strs]
        have := List.all_eq_true.1 h _ (DataW.weights_mem_each ht hd _ (by rw [hw]; exact List.mem_cons_of_mem _ (List.mem_append_left _ (weights_all hdi _ hm))))
        simp at this
        omega
end
end Go.Proofs.YtdckmekfggigjaaDoor
