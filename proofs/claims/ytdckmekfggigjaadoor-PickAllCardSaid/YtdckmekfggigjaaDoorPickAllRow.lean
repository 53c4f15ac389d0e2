/- The statement on PickAll: whatever the arguments, it returns true, and they read behind the call as they did. -/
import Derived.Test.YtdckmekfggigjaaDoorRow
import Derived.Test.YtdckmekfggigjaaDoorRoom
import Derived.Test.YtdckmekfggigjaaDoorRowTags
import Derived.Test.YtdckmekfggigjaaDoorPickAllWalk
import Derived.LaidHandle
namespace Go.Proofs.YtdckmekfggigjaaDoor.PickAll
open Go.ChangeShapes Go.WideShapes Go.ChangeAt Go.RowKit

theorem errGlobal : Tryd.prog.globalNamed "errors.errorType" = some 0 := by kernel_rfl
theorem rtypeNo : (Tryd.prog.cutTypes.find? (·.1 == "internal/reflectlite.rtype")).map (·.2) = some 108 := by kernel_rfl
theorem errorRows : ((List.range Tryd.prog.types.size).filter fun t => Tryd.prog.rowNamed t [101, 114, 114, 111, 114]) = [32] := by kernel_rfl
theorem errorHandle : typeHandle Tryd.prog 32 = .pointer (some ⟨4, 32, none⟩) := by kernel_rfl
/-- what the row's list gives: errors.errorType holds error's own type -/
theorem errType_of_laid {W : World} (h : laidMetH Tryd.prog Rows.pickAllRow.laid W) : ErrType W := by
  have h' : laidMet Tryd.prog (Rows.pickAllRow.laid.filter fun x => x.2.handleName?.isNone) W ∧ handlesMet Tryd.prog [("errors.errorType", Rows.laid_errors_errorType)] W := h
  obtain ⟨name, u, ty, e1, e2, e3, e4, e5⟩ := h'.2 _ (List.mem_singleton.2 rfl)
  have en : name = [101, 114, 114, 111, 114] := (Option.some.inj e1).symm
  subst en
  obtain rfl := Option.some.inj (rtypeNo.symm.trans e2)
  have hm : ty ∈ (List.range Tryd.prog.types.size).filter fun t => Tryd.prog.rowNamed t [101, 114, 114, 111, 114] := List.mem_filter.2 ⟨List.mem_range.2 e3, e4⟩
  rw [errorRows] at hm
  obtain rfl := List.mem_singleton.1 hm
  rw [errorHandle] at e5
  have := World.var?_cell errGlobal e5 0
  unfold ErrType
  simpa using this
/-- a world for the witness: the settled one, the three listed variables holding what their initialisers lay -/
noncomputable def errWorld (os : Os) : World :=
  { laidWorld os with heap := (laidWorld os).heap.modify 0 (refill #[.iface 108 (.agg #[.pointer (some ⟨4, 32, none⟩)])]) }

theorem own : ownKnob Tryd.prog.godebug = none := by kernel_rfl
/-- the empty tag -/
def noTag : Value := .agg #[.string ⟨#[]⟩, .string ⟨#[]⟩, .string ⟨#[]⟩, .slice none 0 0]
def noData {H : Type} : DataW H := .agg [.lit (.string []), .lit (.string []), .lit (.string []), .nil]
theorem tag_cap {H : Type} {d : DataW H} {L S R : ByteArray} {n c : Nat} {vs : List ByteArray} (h : TagData d L S R n c vs) : n ≤ c := by
  obtain ⟨dv, _, h | ⟨rest, _, h1, h2⟩⟩ := h
  · omega
  · omega

set_option maxRecDepth 100000 in
theorem contract (H : Type) (enc : TypeId × Value → H) (W : World) (base : Nat) (args : Array Value) (ds gs : List (DataW H)) (before : List MemPlace)
    (hval : ∀ (j : Nat) t v, Tryd.f4.params[j]? = some t → args[j]? = some v → Value.okWide Tryd.prog W .any base t v)
    (hW : DataW.Whole enc Tryd.prog Tryd.f4.params.toList Rows.pickAllSpec.vars false W args.toList ds gs before)
    (hz : (DataW.weightsEach Tryd.prog (Tryd.f4.params.toList ++ (OpenSpec.ofChange Rows.pickAllSpec).bare.plain.varTypes Tryd.prog) (ds ++ gs)).all (· ≤ reachBytes) = true)
    (_ : W.ShapedOpen Tryd.prog) (hLD : laidMetH Tryd.prog Rows.pickAllRow.laid W) :
    Calls Tryd.prog 4 args W fun e W' => ∃ v, e = .returned v ∧ Rows.pickAllSpec.post enc Tryd.prog Tryd.f4 false true false false W args v W' := by
  have hW' := hW
  obtain ⟨p, q, hA0, hV, rfl, hfz, hnd⟩ := hW
  have hA : DataW.TrodAll enc Tryd.prog W 0 (fun _ => true) true Tryd.f4.params.toList args.toList ds p := hA0
  rw [Tryd.params4] at hA hval hz
  obtain ⟨v0, vs0, d0, ds0, p0, q0, hargs, rfl, rfl, h0, r0⟩ := trodAll_cons hA
  obtain ⟨v1, vs1, d1, ds1, p1, q1, rfl, rfl, rfl, h1, r1⟩ := trodAll_cons r0
  obtain ⟨rfl, rfl, rfl⟩ := trodAll_nil r1
  obtain rfl : args = #[v0, v1] := by cases args; simp_all
  obtain ⟨La, Sa, Ra, A_a, n_a, c_a, vsa, ha, hda⟩ := open_tag (hval 0 _ v0 rfl rfl) h0
  obtain ⟨A_b, n_b, c_b, xs_b, rfl, nc_b, at_b, szs_b, hdb⟩ := open_tags (hval 1 _ v1 rfl rfl) h1
  have room_b := tags_room hz (j := 1) rfl rfl hdb
  have fwa := tag_few hz (j := 0) rfl rfl hda
  have nc_a : n_a ≤ c_a := tag_cap hda
  obtain rfl := ha.eq
  refine (pickAll_arg ⟨La, Sa, Ra, vsa⟩ A_a n_a c_a A_b n_b c_b xs_b W ha.reads nc_a ⟨fwa, ha.lang, ha.script, ha.region, ha.vars⟩ at_b room_b.1 (sized_all szs_b room_b.2) (errType_of_laid hLD)).mono fun e W' ⟨he, hbl⟩ => ⟨_, he, ?_⟩
  exact post_true hW' rfl (by kernel_rfl) (by rw [Tryd.params4]; intro t ht; simp at ht; rcases ht with rfl | rfl <;> exact ⟨by kernel_rfl, by decide +kernel⟩) rfl hbl

theorem laid_met (os : Os) : laidMetH Tryd.prog Rows.pickAllRow.laid ((errWorld os).forCall (fun _ _ => 0) ⟨#[], #[noTag, .slice none 0 0], []⟩).memory :=
  laidMetH_of_parts (laidMet_of_run' 8 (by kernel_rfl) (by kernel_rfl)) (by kernel_rfl)
theorem reads (os : Os) {H : Type} (enc : TypeId × Value → H) : ∃ places, DataW.whole enc Tryd.prog ((errWorld os).forCall (fun _ _ => 0) ⟨#[], #[noTag, .slice none 0 0], []⟩).memory Tryd.f4.params.toList Rows.pickAllSpec.vars false #[noTag, .slice none 0 0].toList 8 = some ([noData, .nil], [], places) :=
  ⟨[], by kernel_rfl⟩

set_option maxRecDepth 100000 in
theorem lifted (os : Os) (started : os.Started) (H : Type) (enc : TypeId × Value → H) (F : Stop.Interp) :
    ReturnsInHanded {} Tryd.checked os 4 .any ((OpenSpec.ofChange Rows.pickAllSpec).preRow enc Tryd.prog Tryd.f4 Rows.pickAllRow.domain false Rows.pickAllRow.laid) (((OpenSpec.ofChange Rows.pickAllSpec).at F).post enc Tryd.prog Tryd.f4 false true false false) := by
  obtain ⟨places, hx⟩ := reads os enc
  refine returnsInHanded_of_row (C := Tryd.checked) (s := (OpenSpec.ofChange Rows.pickAllSpec)) own started (by kernel_rfl) Tryd.func4
    (witness_row_at (enc := enc) (C := Tryd.checked) false (errWorld os) #[noTag, .slice none 0 0] rfl (by kernel_rfl) (by kernel_rfl) (by kernel_rfl)
      (OpenSpec.preRow_of_cond 8 hx (by kernel_rfl) (fun k hk => by cases hk) (by kernel_rfl) (laid_met os))) ?_
  intro W base args ds gs before hval hW _ _ hz hLD hS _
  exact contract H enc W base args ds gs before hval hW hz hS hLD

theorem said : Rows.PickAllSaid :=
  OpenClaim.holds_of_cond 4 Tryd.f4 rfl rfl rfl rfl rfl rfl rfl ⟨rfl, rfl, rfl, rfl, rfl⟩ rfl rfl rfl rfl rfl (by kernel_rfl) Tryd.func4 (by kernel_rfl)
    (of_decide_eq_true (by kernel_rfl)) (by unfold Func.isWrapper; first | (rw [if_pos (by decide +kernel)]; kernel_rfl) | (rw [if_neg (by decide +kernel)]; exact ⟨rfl, rfl⟩))
    (fun os started H enc _ F => by rw [OpenClaim.pre_eq_preRow]; exact lifted os started H enc F)

theorem plain (f : FuncId) (fn : Func) (hf : Tryd.pinned.checked.prog.funcNamed "linguister/linguisterlaw1.PickAll" = some f) (hfn : Tryd.pinned.checked.prog.funcs[f]? = some fn) :
    Rows.pickAllCard.stood.looks = Tryd.pinned.checked.prog.looks [] ∧ ∀ (j : Nat) t, fn.params[j]? = some t → Tryd.pinned.checked.prog.wantsStandIn t = false := by
  obtain rfl : f = 4 := Option.some.inj ((show Tryd.prog.funcNamed "linguister/linguisterlaw1.PickAll" = some 4 by kernel_rfl).symm.trans hf) |>.symm
  obtain rfl : fn = Tryd.f4 := (Option.some.inj (Tryd.func4.symm.trans hfn)).symm
  refine ⟨by kernel_rfl, fun j t ht => ?_⟩
  rw [Tryd.params4] at ht
  have ht' := Array.mem_of_getElem? ht
  simp at ht'
  rcases ht' with rfl | rfl
  · exact (show Tryd.prog.wantsStandIn 29 = false by kernel_rfl)
  · exact (show Tryd.prog.wantsStandIn 22 = false by kernel_rfl)

theorem card : Rows.PickAllCardSaid :=
  Claim7.holds_tied_plain_at .later [] _ _ _ _ said (fun _ h => by cases h) (by kernel_rfl) (fun _ h => by cases h) pickAll_row_tie rfl ⟨rfl, rfl⟩ (by kernel_rfl) rfl plain (by kernel_rfl)
end Go.Proofs.YtdckmekfggigjaaDoor.PickAll
