/- The program's Parse, said of lists of bytes: its plain twin over byte arrays finds what the plain function on lists finds. -/
import Derived.Test.YtdckmekfggigjaaDoorParse
import Derived.Test.YtdckmekfggigjaaDoorMathTag
namespace Go.Proofs.YtdckmekfggigjaaDoor
open Go.RowKit

theorem ba_ext {a b : ByteArray} (h : a.data.toList = b.data.toList) : a = b := ByteArray.ext (Array.ext' h)
theorem size_list (a : ByteArray) : a.data.toList.length = a.size := by simp
theorem loB_data (p : ByteArray) : (loB p).data.toList = p.data.toList.map P.lowc := by simp [loB]
theorem upB_data (p : ByteArray) : (upB p).data.toList = p.data.toList.map P.uppc := by simp [upB]
theorem bs_cons (x : ByteArray) (r : List ByteArray) : bs (x :: r) = x.data.toList :: bs r := rfl
theorem isScr_data (r : List ByteArray) : P.isScr (bs r) = isScr r := by
  cases r with
  | nil => rfl
  | cons x r => show decide (x.data.toList.length = 4) = decide (x.size = 4); rw [size_list]
theorem isReg_data (r : List ByteArray) : P.isReg (bs r) = isReg r := by
  cases r with
  | nil => rfl
  | cons x r => show (decide (x.data.toList.length = 2) || decide (x.data.toList.length = 3)) = (decide (x.size = 2) || decide (x.size = 3)); rw [size_list]
theorem scrOf_data (r : List ByteArray) : (scrOf r).data.toList = P.scrOf (bs r) := by
  cases r with
  | nil => rfl
  | cons x r =>
    show (if x.size = 4 then upB (x.extract 0 1) ++ loB (x.extract 1 x.size) else (⟨#[]⟩ : ByteArray)).data.toList = if x.data.toList.length = 4 then (x.data.toList.take 1).map P.uppc ++ (x.data.toList.drop 1).map P.lowc else []
    rw [size_list]
    by_cases h : x.size = 4
    · rw [if_pos h, if_pos h, ByteArray.data_append, Array.toList_append, upB_data, loB_data, Lib.extract_from_zero, extract1]
    · rw [if_neg h, if_neg h]
theorem regOf_data (r : List ByteArray) : (regOf r).data.toList = P.regOf (bs r) := by
  cases h : isReg r
  · rw [reg_no h]
    have h' : P.isReg (bs r) = false := by rw [isReg_data, h]
    rw [P.regOf_no h']
  · cases r with
    | nil => simp [isReg] at h
    | cons x r =>
      rw [reg_yes h, upB_data]
      have h' : P.isReg [x.data.toList] = true := by
        have := isReg_data (x :: r); rw [h] at this; exact this
      show _ = if P.isReg [x.data.toList] then x.data.toList.map P.uppc else []
      rw [if_pos h']
theorem offIf_data (b : Bool) (r : List ByteArray) : bs (offIf b r) = P.offIf b (bs r) := by
  cases b
  · rfl
  · show bs (r.drop 1) = (bs r).drop 1
    unfold bs; rw [List.map_drop]
theorem restS_data (r : List ByteArray) : bs (restS r) = P.restS (bs r) := by unfold restS P.restS; rw [offIf_data, isScr_data]
theorem restR_data (r : List ByteArray) : bs (restR r) = P.restR (bs r) := by unfold restR P.restR; rw [offIf_data, restS_data, ← isReg_data, restS_data]
theorem assign_data (x : ByteArray) (r : List ByteArray) : (assignB x r).plain = P.asg x.data.toList (bs r) := by
  show (⟨(loB x).data.toList, (scrOf r).data.toList, (regOf (restS r)).data.toList, bs ((restR r).map loB)⟩ : P.Tg) = ⟨x.data.toList.map P.lowc, P.scrOf (bs r), P.regOf (P.restS (bs r)), (P.restR (bs r)).map (List.map P.lowc)⟩
  rw [loB_data, scrOf_data, regOf_data, restS_data, ← restR_data]
  congr 1
  unfold bs
  rw [List.map_map, List.map_map]
  exact List.map_congr_left fun p _ => loB_data p

theorem parts_data (s : ByteArray) {q : P.Bs} {r : List P.Bs} (hp : P.pieces s.data.toList = q :: r) : (r.length ≤ 5 → bs (partsB s) = q :: r) ∧ (5 < r.length → 6 < (partsB s).length) := by
  obtain ⟨q', r', e, hd, hg⟩ := P.pieces_spec s.data.toList
  rw [e] at hp
  injection hp with h1 h2
  subst h1; subst h2
  have hdata : bs (partsB s) = Lib.splitK [45] 0 (min 7 (s.size + 1) - 1) (P.glue (q' :: r')) := by
    rw [hg]; exact Lib.splitB_data dash 0 (min 7 (s.size + 1) - 1) s
  have hsz : r'.length ≤ s.size := by
    rw [← size_list, ← hg, P.glue_length]; omega
  refine ⟨fun h => ?_, fun h => ?_⟩
  · rw [hdata, P.splitK_glue r' q' _ hd (by omega)]
  · rcases Nat.lt_or_ge 6 r'.length with h7 | h7
    · have := P.splitK_many (min 7 (s.size + 1) - 1) r' q' hd (by omega)
      rw [← hdata, bs_length] at this
      omega
    · have := congrArg List.length (hdata.trans (P.splitK_glue r' q' _ hd (by omega)))
      rw [bs_length, List.length_cons] at this
      omega
theorem parse_data (s : ByteArray) : (parseB s).map TagB.plain = P.parse s.data.toList := by
  obtain ⟨q, r, hp, _, _⟩ := P.pieces_spec s.data.toList
  obtain ⟨h1, h2⟩ := parts_data s hp
  have hr : P.parse s.data.toList = if 5 < r.length then none else if P.fault (P.asg q r) = 0 then some (P.asg q r) else none := by
    unfold P.parse; rw [hp]
  rw [hr]
  unfold parseB
  rcases Nat.lt_or_ge 5 r.length with h5 | h5
  · have h6 := h2 h5
    rw [if_pos h5]
    cases hps : partsB s with
    | nil => rfl
    | cons x r' =>
      rw [hps] at h6
      show (if 6 < r'.length + 1 then none else _ : Option TagB).map _ = _
      rw [if_pos (by simpa using h6)]; rfl
  · have h6 := h1 h5
    rw [if_neg (by omega)]
    cases hps : partsB s with
    | nil => rw [hps] at h6; cases h6
    | cons x r' =>
      rw [hps, bs_cons] at h6
      injection h6 with e1 e2
      have hl : r'.length = r.length := by rw [← e2, bs_length]
      show (if 6 < r'.length + 1 then none else if P.fault (assignB x r').plain = 0 then some (assignB x r') else none : Option TagB).map _ = _
      rw [if_neg (by omega), assign_data, e1, e2]
      by_cases h0 : P.fault (P.asg q r) = 0
      · rw [if_pos h0, if_pos h0, Option.map_some, assign_data, e1, e2]
      · rw [if_neg h0, if_neg h0]; rfl
theorem plain_inj {t u : TagB} (h : t.plain = u.plain) : t = u := by
  obtain ⟨a, b, c, d⟩ := t
  obtain ⟨a', b', c', d'⟩ := u
  have h' : (⟨a.data.toList, b.data.toList, c.data.toList, bs d⟩ : P.Tg) = ⟨a'.data.toList, b'.data.toList, c'.data.toList, bs d'⟩ := h
  injection h' with h1 h2 h3 h4
  have hd : d = d' := by
    have hinj : ∀ (l m : List ByteArray), bs l = bs m → l = m := by
      intro l
      induction l with
      | nil => intro m hm; cases m with
        | nil => rfl
        | cons y m => cases hm
      | cons x l ih => intro m hm; cases m with
        | nil => cases hm
        | cons y m =>
          rw [bs_cons, bs_cons] at hm
          injection hm with h1 h2
          rw [ba_ext h1, ih m h2]
    exact hinj d d' h4
  rw [ba_ext h1, ba_ext h2, ba_ext h3, hd]
end Go.Proofs.YtdckmekfggigjaaDoor
