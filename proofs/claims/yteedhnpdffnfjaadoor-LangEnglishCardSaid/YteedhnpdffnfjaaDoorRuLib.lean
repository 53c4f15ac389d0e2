/- The library's functions that the program's rules call: strings.Split, Cut, Join, strconv.Itoa, Atoi; what lay in memory stays as it was. -/
import Derived.Test.YteedhnpdffnfjaaDoorStrc
import Derived.Test.YteedhnpdffnfjaaDoorRuGround
import Derived.Test.YteedhnpdffnfjaaDoorRuPlain
import Derived.Lib.SplitLaws
namespace Go.Proofs.YteedhnpdffnfjaaDoor
namespace Ru
open Go.RowKit D

/-- what strings' and strconv's functions read -/
structure Env (w : World) : Prop where
  strc : Strc w
  maxl : ∃ m : Int, w.cell? ⟨2, 0, none⟩ = some (.int .i64 m)
theorem Env.later {w W : World} (h : Env w) (hb : Below w.heap.size w W) : Env W := ⟨h.strc.later hb, by
  obtain ⟨m, hm⟩ := h.maxl
  exact ⟨m, (hb.cell (World.block_lt_of_cell? w _ hm)).trans hm⟩⟩

theorem join_lib (sep : List UInt8) : ∀ ps : List (List UInt8), Lib.join ps sep = joinL sep ps
  | [] => rfl
  | [p] => Lib.join_one p sep
  | p :: q :: l => by
    have ih := join_lib sep (q :: l)
    rw [Lib.join_cons] at ih ⊢
    show p ++ ((q :: l).map (sep ++ ·)).flatten = p ++ (sep ++ joinL sep (q :: l))
    rw [← ih]
    simp [Lib.joinTail]
/-- texts as cells -/
def strC (ps : List (List UInt8)) : List Value := ps.map fun p => .string (str p)
theorem strC_get (ps : List (List UInt8)) (i : Nat) : (strC ps)[i]? = ps[i]?.map fun p => .string (str p) := by simp [strC]
theorem splitB_list (sep s : ByteArray) : Lib.splitB sep 0 (Lib.countB s sep) s = (splitL sep.data.toList s.data.toList).map str := by
  have h := Lib.splitB_data sep 0 (Lib.countB s sep) s
  have h2 : (splitL sep.data.toList s.data.toList) = (Lib.splitB sep 0 (Lib.countB s sep) s).map (·.data.toList) := h.symm
  rw [h2, List.map_map]
  have : (Lib.splitB sep 0 (Lib.countB s sep) s).map (str ∘ (·.data.toList)) = (Lib.splitB sep 0 (Lib.countB s sep) s).map id := List.map_congr_left fun b _ => by
    show str b.data.toList = b
    exact (str_eq rfl).symm
  rw [this, List.map_id]
/-- what Split tells: a row of its own -/
def SplitPost (w : World) (ps : List (List UInt8)) (e : Ending) (w' : World) : Prop := e = .returned (.slice (some ⟨w.heap.size, 0, none⟩) ps.length ps.length) ∧ Reads w' w'.heap.size 1 (some ⟨w.heap.size, 0, none⟩) ps.length (strC ps) ∧ Below w.heap.size w w'
theorem split_any (sep : List UInt8) (s : ByteArray) (w : World) (hs : s.size < 4294967281) (h1 : sep ≠ []) (hE : Env w) : Calls Tryd.prog 43 #[.string s, .string (str sep)] w (SplitPost w (splitL sep s.data.toList)) := by
  obtain ⟨m, hm⟩ := hE.maxl
  have hl : 1 ≤ (str sep).size := by rw [ba_size, str_data]; exact List.length_pos_iff.2 h1
  refine (Tryd.strings_Split s (str sep) m w hs hm hl).mono fun e w' ⟨he, hw⟩ => ?_
  have hsp := splitB_list (str sep) s
  rw [str_data] at hsp
  have hlen : Lib.countB s (str sep) + 1 = (splitL sep s.data.toList).length := by
    have := Lib.splitB_all (str sep) hl 0 _ s rfl
    rw [hsp, List.length_map] at this
    exact this.symm
  rw [hsp, List.map_map] at hw
  rw [hlen] at he
  refine ⟨he, ?_, hw ▸ (Below.refl _ _).alloc (Nat.le_refl _) _⟩
  refine ⟨by simp [strC], fun _ => ⟨_, rfl, by rw [hw, World.size_alloc]; exact Nat.lt_succ_self _, fun j u hu => ?_⟩⟩
  have hz : (⟨w.heap.size, 0, none⟩ : Addr).add j = ⟨w.heap.size, j, none⟩ := by unfold Addr.add; split <;> simp_all
  rw [hz, hw, World.cell?_alloc_new]
  simpa [strC] using hu
theorem cut_any (sep : List UInt8) (s : ByteArray) (w : World) (hs : s.size < 4294967281) (hE : Env w) :
    Calls Tryd.prog 44 #[.string s, .string (str sep)] w (Gives w (.tuple #[.string (str (Lib.cut s.data.toList sep).1), .string (str (Lib.cut s.data.toList sep).2.1), .bool (Lib.cut s.data.toList sep).2.2])) := by
  obtain ⟨m, hm⟩ := hE.maxl
  refine (Tryd.strings_Cut s (str sep) m w hs hm).mono fun e w' ⟨he, n, hw⟩ => ⟨?_, hw ▸ up_drewN (Below.refl _ _) n⟩
  rw [str_data] at he
  exact he
theorem join_any (sep : List UInt8) (ps : List (List UInt8)) (g n : Nat) (w : World) (hn : n = ps.length) (hc : ∀ (j : Nat) p, ps[j]? = some p → w.cell? ⟨g, j, none⟩ = some (.string (str p))) (hg : g < w.heap.size) (hl : n ≤ 140737488355328) (hj : (joinL sep ps).length ≤ 140737488355328) :
    Calls Tryd.prog 60 #[.slice (some ⟨g, 0, none⟩) n n, .string (str sep)] w (Gives w (.string (str (joinL sep ps)))) := by
  have hm : (ps.map str).map (·.data.toList) = ps := by
    rw [List.map_map]
    have : ps.map ((·.data.toList) ∘ str) = ps.map id := List.map_congr_left fun p _ => str_data p
    rw [this, List.map_id]
  have h := Tryd.strings_Join g 0 n (ps.map str) (str sep) w (fun j x hx => by
    rw [List.getElem?_map] at hx
    cases hp : ps[j]? with
    | none => rw [hp] at hx; cases hx
    | some p =>
      rw [hp] at hx
      injection hx with hx
      rw [Nat.zero_add, ← hx]
      exact hc j p hp) hg (by rw [List.length_map]; omega) (by rw [List.length_map]; omega) (by rw [hm, str_data, join_lib]; exact hj)
  rw [hm, str_data, join_lib, List.length_map, ← hn] at h
  exact h
/-- the number's digits -/
theorem itoa_dg (n : Int) (w : World) (h0 : 0 ≤ n) (h1 : n ≤ 1000000) (hE : Env w) : Calls Tryd.prog 61 #[.int .i64 n] w (Gives w (.string (str (dg n)))) := by
  have h := itoa_any n w (by omega) (by omega) hE.strc
  rwa [show Lib.itoa n = dg n from by unfold Lib.itoa; rw [if_neg (by omega)]; rfl] at h
/-- what Atoi tells of a text -/
def AtoiPost (w : World) (o : Option Int) (e : Ending) (w' : World) : Prop := ∃ (v : Int) (ev : Value), e = .returned (.tuple #[.int .i64 v, ev]) ∧ ((o = some v ∧ ev = .nilIface) ∨ (o = none ∧ ∃ p, ev = .iface 144 p)) ∧ Below w.heap.size w w'
theorem atoi_any (s : ByteArray) (w : World) (hs : s.size < 4294967281) (hE : Env w) : Calls Tryd.prog 45 #[.string s] w (AtoiPost w (atoiO s.data.toList)) := by
  cases ha : atoiO s.data.toList with
  | none =>
    refine (atoi_bad s w hE.strc (by omega) (fun v hv => by unfold atoiO at ha; rw [hv] at ha; cases ha)).mono fun e w' ⟨v, N, he, hb⟩ => ⟨v, _, he, .inr ⟨rfl, _, rfl⟩, hb⟩
  | some v =>
    have hv : Lib.atoiAll s.data.toList = .ok v := by
      unfold atoiO at ha
      split at ha
      · rename_i hx; rw [hx]; injection ha with ha; rw [ha]
      · cases ha
    exact (atoi_good s w (by omega) v hv).mono fun e w' ⟨he, hb⟩ => ⟨v, _, he, .inl ⟨rfl, rfl⟩, hb⟩
end Ru
end Go.Proofs.YteedhnpdffnfjaaDoor
