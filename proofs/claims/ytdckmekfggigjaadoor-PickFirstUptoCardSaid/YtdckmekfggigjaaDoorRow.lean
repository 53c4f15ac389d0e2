/- What the rows share: an argument that is a tag, opened; a row's start world; the last step of a law that returns true and leaves what lay in memory. -/
import Derived.Test.YtdckmekfggigjaaDoorCards
import Derived.Test.YtdckmekfggigjaaDoorTie
import Derived.Test.YtdckmekfggigjaaDoorSame
import Derived.OpenShut
import Derived.ProofKit
import Derived.SliceStrings
import Derived.Lib.SmallJoins
import Derived.SizedLaws
import Derived.Below
import Derived.ChangeSame
import Derived.Carry
import Derived.Deep.DeepHandedRow
import Derived.Lib.LaidTab
namespace Go.Proofs.YtdckmekfggigjaaDoor
open Go.ChangeShapes Go.WideShapes Go.RowKit

section
variable {H : Type} {enc : TypeId × Value → H} {P : Program}
/-- as 'post_of_same', where no more is known of what lay above -/
theorem post_of_below {f : Func} {s : ChangeSpec} {apart fresh handsOn again : Bool} {W W' : World} {args : Array Value} {v : Value} {ds gs : List (DataW H)} {before pa pv : List MemPlace}
    (hW : DataW.Whole enc P f.params.toList s.vars apart W args.toList ds gs before)
    (hres : ∀ (b : Nat) (sp : Nat → Bool) (hd : Bool), DataW.TrodAll enc P W' b sp hd f.resultTypes.toList (v.resultList f.resultTypes.size) (s.fn H (ds ++ gs)).results [])
    (hargs : ∀ sp : Nat → Bool, (∀ p ∈ before, sp p.block = true) → DataW.TrodAll enc P W' 0 sp true f.params.toList args.toList (s.fn H (ds ++ gs)).args pa)
    (hvars : ∀ sp : Nat → Bool, (∀ p ∈ before, sp p.block = true) → DataW.TrodVars enc P W' sp s.vars (s.fn H (ds ++ gs)).vars pv)
    (hps : before = pa ++ pv) (hb : Below W.heap.size W W')
    (hok : ∀ (j : Nat) (t : TypeId) (r : Value), f.resultTypes[j]? = some t → (v.resultList f.resultTypes.size)[j]? = some r → Value.okWide P W' .any 0 t r) :
    s.post enc P f apart fresh handsOn again W args v W' := by
  have hlt : ∀ p ∈ before, p.block < W.heap.size := fun p hp => hW.lt p hp
  have hold : ∀ p ∈ before, (fun b => decide (b < W.heap.size)) p.block = true := fun p hp => by simpa using hlt p hp
  refine ⟨ds, gs, before, [], pa, pv, hW, hres _ _ _, hargs _ hold, hvars _ hold, World.keptBut_mono (fun p hp => ⟨hp, ?_⟩) (hb.frame (· ∈ before)), fun _ => ?_⟩
  · rw [hps, List.mem_append] at hp
    exact Or.inr hp
  · obtain ⟨_, _, _, _, _, hz, hn⟩ := hW
    refine ⟨hok, _, _, ([] ++ pa) ++ pv, ⟨[] ++ pa, pv, trodAll_append (hargs _ (fun _ _ => rfl)) (hres _ _ _), hvars _ (fun _ _ => rfl), rfl, ?_, ?_⟩, ?_⟩
    · intro b off hp
      have hin : MemPlace.cell b off ∈ before := by rw [hps]; simpa using hp
      rw [hb.frozen (hlt _ hin)]
      exact hz b off hin
    · intro ha
      have := hn ha
      rw [hps] at this
      simpa using this
    · intro p hp _
      rw [hps]
      simpa using hp

theorem trodAll_stays (hl : laidOutB P = true) {W W' : World} {sp' : Nat → Bool} : ∀ (ts : List TypeId) (vs : List Value) (ds : List (DataW H)) (ps : List MemPlace),
    (∀ t ∈ ts, P.readableRec t = true ∧ t < P.types.size) → DataW.TrodAll enc P W 0 (fun _ => true) true ts vs ds ps → (∀ p ∈ ps, W.sameAt W' p) → (∀ p ∈ ps, sp' p.block = true) →
    DataW.TrodAll enc P W' 0 sp' true ts vs ds ps
  | [], _, _, _, _, h, _, _ => by
    obtain ⟨rfl, rfl, rfl⟩ := trodAll_nil h
    exact trodAll_mk0
  | t :: ts, _, _, _, hts, h, hsame, hsp => by
    obtain ⟨v0, vs0, d0, ds0, p0, q0, rfl, rfl, rfl, h0, r0⟩ := trodAll_cons h
    exact trodAll_cons_mk (WideElems.Trod_stays hl (hts t (by simp)).1 (hts t (by simp)).2 h0 (fun p hp => hsame p (by simp [hp])) (fun p hp => hsp p (by simp [hp])))
      (trodAll_stays hl ts vs0 ds0 q0 (fun u hu => hts u (by simp [hu])) r0 (fun p hp => hsame p (by simp [hp])) (fun p hp => hsp p (by simp [hp])))
end

section
variable {H : Type} {enc : TypeId × Value → H}
theorem laidOut : laidOutB Tryd.prog = true := by kernel_rfl
set_option maxRecDepth 100000 in
/-- the last step of a law that returns true and leaves what lay in memory -/
theorem post_true {f : Func} {s : ChangeSpec} {apart fresh handsOn again : Bool} {W W' : World} {args : Array Value} {ds gs : List (DataW H)} {before : List MemPlace}
    (hW : DataW.Whole enc Tryd.prog f.params.toList s.vars apart W args.toList ds gs before) (hv : s.vars = []) (hr : f.resultTypes = #[4])
    (hts : ∀ t ∈ f.params.toList, Tryd.prog.readableRec t = true ∧ t < Tryd.prog.types.size)
    (hfn : s.fn H ds = { results := [.lit (.bool true)], args := ds }) (hb : Below W.heap.size W W') : s.post enc Tryd.prog f apart fresh handsOn again W args (.bool true) W' := by
  have hW' := hW
  obtain ⟨p, q, hA, hV, rfl, hfz, hnd⟩ := hW
  rw [hv] at hV
  obtain ⟨rfl, rfl⟩ := trodVars_none hV
  have hlt : ∀ x ∈ p ++ [], x.block < W.heap.size := fun x hx => hW'.lt x hx
  have hA' : DataW.TrodAll enc Tryd.prog W 0 (fun _ => true) true f.params.toList args.toList ds p := hA
  refine post_of_below (pa := p) (pv := []) hW' ?_ ?_ ?_ rfl hb ?_
  · intro b sp hd
    rw [List.append_nil, hfn, hr]
    exact trodAll_cons_mk (shut_bool Tryd.underlying4 _) trodAll_mk0
  · intro sp hsp
    rw [List.append_nil, hfn]
    exact trodAll_stays laidOut _ _ _ _ hts hA' (fun x hx => hb.same (hlt x (by simp [hx]))) (fun x hx => hsp x (by simp [hx]))
  · intro sp hsp
    rw [List.append_nil, hfn, hv]
    rfl
  · exact ok_one hr (v := .bool true) (by simp [Value.resultList]) (okWide_bool_mk Tryd.underlying4 _)

/-- a tag's fields, as the program's types have them -/
def tagFields : Array Field := #[⟨ "Lang", 9, 0, false, "", "", 0⟩, ⟨ "Script", 9, 1, false, "", "", 16⟩, ⟨ "Region", 9, 2, false, "", "", 32⟩, ⟨ "Variants", 27, 3, false, "", "", 48⟩]
theorem tagOne : Deep.oneCellFields Tryd.prog tagFields = true := by kernel_rfl
theorem tagCells : Tryd.prog.cellsOf 29 = 4 := by kernel_rfl
theorem strCells : Tryd.prog.cellsOf 9 = 1 := by kernel_rfl
theorem strBytes : Tryd.prog.bytesOf 9 = 16 := by kernel_rfl
theorem tagUnder : Tryd.prog.underlying 29 = some (.struct tagFields) := Tryd.underlying29

/-- what a tag among the arguments is -/
structure TagArg (W : World) (v : Value) (L S R : ByteArray) (A : Option Addr) (n c : Nat) (vs : List ByteArray) : Prop where
  eq : v = .agg #[.string L, .string S, .string R, .slice A n c]
  reads : Reads W W.heap.size 1 A n (sv vs)
  lang : L.size ≤ maxLen
  script : S.size ≤ maxLen
  region : R.size ≤ maxLen
  vars : ∀ v ∈ vs, v.size ≤ maxLen
/-- what a tag among the arguments reads as -/
def TagData (d : DataW H) (L S R : ByteArray) (n c : Nat) (vs : List ByteArray) : Prop :=
  ∃ dv : DataW H, d = .agg [.lit (.string L.data.toList), .lit (.string S.data.toList), .lit (.string R.data.toList), dv] ∧
    ((dv = .nil ∧ n = 0 ∧ c = 0 ∧ vs = []) ∨ ∃ rest : List ByteArray, dv = .slice (strs vs) (strs rest) ∧ vs.length = n ∧ n + rest.length = c)

set_option maxRecDepth 100000 in
theorem open_tag {W : World} {b0 : Nat} {v : Value} {d : DataW H} {p : List MemPlace} (hv : Value.okWide Tryd.prog W .any b0 29 v) (h : DataW.Trod enc Tryd.prog W 0 (fun _ => true) true 29 v d p) :
    ∃ L S R A n c vs, TagArg W v L S R A n c vs ∧ TagData d L S R n c vs := by
  obtain ⟨v0, v1, v2, v3, y0, y1, y2, y3, m, rfl, rfl, rfl, h0, h1, h2, h3⟩ := Joins.open_agg4 tagUnder tagOne tagCells hv h
  obtain ⟨L, e0, rfl, hL⟩ := DataW.trod_string Tryd.underlying9 h0
  obtain ⟨S, e1, rfl, hS⟩ := DataW.trod_string Tryd.underlying9 h1
  obtain ⟨R, e2, rfl, hR⟩ := DataW.trod_string Tryd.underlying9 h2
  injection e0 with e0 _; injection e1 with e1 _; injection e2 with e2 _
  subst e0; subst e1; subst e2
  rcases open_strings Tryd.underlying27 Tryd.underlying9 strCells h3 with ⟨hcs, hx⟩ | ⟨a, len, cap, ss, hcs, hb, hl, hm, hz, hx, hcell, hsz⟩
  · injection hcs with hcs _
    subst hcs; subst hx
    exact ⟨L, S, R, none, 0, 0, [], ⟨rfl, Reads.none_, hL, hS, hR, by simp⟩, .nil, rfl, .inl ⟨rfl, rfl, rfl, rfl⟩⟩
  · injection hcs with hcs _
    subst hcs; subst hx
    have hz' : ss.length = cap := by simpa using hz
    refine ⟨L, S, R, some a, len, cap, ss.take len, ⟨rfl, ⟨by simp [sv, hz']; omega, fun hn => ⟨a, rfl, ?_, ?_⟩⟩, hL, hS, hR, fun v hv => hsz v (List.mem_of_mem_take hv)⟩, _, rfl, .inr ⟨ss.drop len, rfl, by simp [hz']; omega, by simp [hz']; omega⟩⟩
    · have := World.block_lt_of_cell? W _ (hcell 0 (by omega))
      rwa [block_of_add] at this
    · intro j u hj
      have hjl : j < (sv (ss.take len)).length := (List.getElem?_eq_some_iff.1 hj).1
      simp only [sv, List.length_map, List.length_take] at hjl
      have hjs : j < ss.length := by omega
      rw [hcell j hjs]
      simp only [sv, List.getElem?_map, List.getElem?_take, show j < len by omega, if_true] at hj
      rw [List.getElem?_eq_getElem hjs] at hj
      simp only [Option.map_some, Option.some.injEq] at hj
      rw [← hj, List.getD_eq_getElem?_getD, List.getElem?_eq_getElem hjs]
      rfl
theorem tag_few {ts : List TypeId} {ds : List (DataW H)} (h : (DataW.weightsEach Tryd.prog ts ds).all (· ≤ reachBytes) = true) {j : Nat} {d : DataW H} (ht : ts[j]? = some 29) (hd : ds[j]? = some d)
    {L S R : ByteArray} {n c : Nat} {vs : List ByteArray} (hT : TagData d L S R n c vs) : n < maxLen := by
  obtain ⟨dv, rfl, hdv⟩ := hT
  rcases hdv with ⟨_, rfl, _, _⟩ | ⟨rest, rfl, hn, hc⟩
  · decide
  · have hm : (n + rest.length) * 16 ∈ DataW.weights Tryd.prog 29 (.agg [.lit (.string L.data.toList), .lit (.string S.data.toList), .lit (.string R.data.toList), .slice (strs vs) (strs rest)] : DataW H) := by
      simp [DataW.weights, DataW.weightsEach, Tryd.underlying27, strBytes, strs, hn]
    have := List.all_eq_true.1 h _ (DataW.weights_mem_each ht hd _ hm)
    have := reachBytes_lt
    simp at *
    unfold maxLen
    omega
set_option maxRecDepth 100000 in
theorem maxLen_shape {W : World} (h : W.ShapedOpen Tryd.prog) : ∃ mx : Int, W.cell? ⟨1, 0, none⟩ = some (.int .i64 mx) := by
  obtain ⟨cs, hh, hs, hr⟩ := h.1 1 #[.int .i64 0] 3 (by decide +kernel) (by kernel_rfl)
  obtain ⟨ts, hts, _, hall⟩ := hr (by kernel_rfl)
  obtain rfl : [3] = ts := Option.some.inj ((show Tryd.prog.cellTypes Tryd.prog.depth 3 = some [3] by kernel_rfl).symm.trans hts)
  have h1 : 0 < cs.size := by rw [hs]; decide
  obtain ⟨u, hu', hok⟩ := hall 0 cs[0] (by simp [h1])
  obtain rfl : 3 = u := by simpa using hu'
  have hcell : W.cell? ⟨1, 0, none⟩ = some cs[0] := by simp [World.cell?, hh, h1]
  rw [hcell]
  unfold Cell.ok at hok
  rw [Tryd.underlying3] at hok
  cases hv : cs[0] <;> rw [hv] at hok <;> simp at hok
  obtain ⟨rfl, _⟩ := hok
  exact ⟨_, rfl⟩
/-- the numbers of a table -/
def u8s (l : List Int) : Array Value := (l.map fun n => Value.int .u8 n).toArray
def acceptCells : List Int := [128, 191, 160, 191, 128, 159, 144, 191, 128, 143] ++ List.replicate 22 0
def refill (cs : Array Value) : Obj → Obj
  | .cells _ t frozen => .cells cs t frozen
  | o => o
/-- a world for the witness: the settled one, the listed variables holding what their initialisers lay -/
noncomputable def laidWorld (os : Os) : World :=
  { World.holding Tryd.prog os ⟨#[], #[], []⟩ with heap := ((World.holding Tryd.prog os ⟨#[], #[], []⟩).heap.modify 2 (refill (u8s (Pinned.utf8FirstZ.map Int.ofNat)))).modify 3 (refill (u8s acceptCells)) }
end
end Go.Proofs.YtdckmekfggigjaaDoor
