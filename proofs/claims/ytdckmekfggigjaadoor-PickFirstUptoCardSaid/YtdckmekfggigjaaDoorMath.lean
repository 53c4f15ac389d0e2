/- Plain facts on names of languages: a text is cut at its dashes and joined again; the tag that is found of a text is the one whose text it is, but for the case of letters. Nothing of the program stands here. -/
import Derived.Test.YtdckmekfggigjaaDoorPlain
import Derived.Lib.Join
import Derived.Lib.SplitLaws
import Derived.Lib.IndexLaws
namespace Go.Proofs.YtdckmekfggigjaaDoor
namespace P

def Dashless (p : Bs) : Prop := ∀ c ∈ p, c ≠ 45
def glue (ps : List Bs) : Bs := Lib.join ps [45]

theorem glue_one (p : Bs) : glue [p] = p := Lib.join_one p [45]
theorem glue_cons (p q : Bs) (r : List Bs) : glue (p :: q :: r) = p ++ 45 :: glue (q :: r) := by
  unfold glue
  rw [Lib.join_cons, Lib.join_cons]
  simp [Lib.joinTail]
theorem idx_none {p : Bs} (h : Dashless p) : Lib.index p [45] = -1 := Lib.index_none fun j hj => by
  unfold Lib.occAt
  rcases Nat.lt_or_ge j p.length with hl | hl
  · rw [List.drop_eq_getElem_cons hl]
    have := h p[j] (List.getElem_mem hl)
    simp [List.isPrefixOf, this.symm]
  · rw [List.drop_eq_nil_of_le hl]; rfl
theorem idx_dash {p : Bs} (h : Dashless p) (l : Bs) : Lib.index (p ++ 45 :: l) [45] = p.length := Lib.index_first (by simp) (by
    unfold Lib.occAt
    rw [List.drop_left]; simp [List.isPrefixOf]) fun j hj => by
  unfold Lib.occAt
  have hl : j < (p ++ 45 :: l).length := by simp; omega
  rw [List.drop_eq_getElem_cons hl, List.getElem_append_left hj]
  have := h p[j] (List.getElem_mem hj)
  simp [List.isPrefixOf, this.symm]

theorem splitK_glue : ∀ (r : List Bs) (q : Bs) (k : Nat), (∀ p ∈ q :: r, Dashless p) → r.length ≤ k → Lib.splitK [45] 0 k (glue (q :: r)) = q :: r
  | [], q, k, h, _ => by
    rw [glue_one]
    cases k with
    | zero => rfl
    | succ k => rw [Lib.splitK, idx_none (h q (by simp))]; rfl
  | q2 :: r, q, 0, _, hk => by simp at hk
  | q2 :: r, q, k + 1, h, hk => by
    rw [glue_cons, Lib.splitK, idx_dash (h q (by simp))]
    have hne : ((q.length : Int) == -1) = false := by simp
    rw [if_neg (by rw [hne]; exact Bool.false_ne_true)]
    have e1 : (q ++ 45 :: glue (q2 :: r)).take ((q.length : Int).toNat + 0) = q := by simp
    have e2 : (q ++ 45 :: glue (q2 :: r)).drop ((q.length : Int).toNat + [(45 : UInt8)].length) = glue (q2 :: r) := by
      rw [Int.toNat_natCast, ← List.drop_drop, List.drop_left]; rfl
    rw [e1, e2, splitK_glue r q2 k (fun p hp => h p (List.mem_cons_of_mem _ hp)) (by simpa using hk)]
theorem splitK_many : ∀ (k : Nat) (r : List Bs) (q : Bs), (∀ p ∈ q :: r, Dashless p) → k < r.length → (Lib.splitK [45] 0 k (glue (q :: r))).length = k + 1
  | 0, _, _, _, _ => rfl
  | k + 1, [], q, _, hk => by simp at hk
  | k + 1, q2 :: r, q, h, hk => by
    rw [glue_cons, Lib.splitK, idx_dash (h q (by simp))]
    have hne : ((q.length : Int) == -1) = false := by simp
    rw [if_neg (by rw [hne]; exact Bool.false_ne_true)]
    have e2 : (q ++ 45 :: glue (q2 :: r)).drop ((q.length : Int).toNat + [(45 : UInt8)].length) = glue (q2 :: r) := by
      rw [Int.toNat_natCast, ← List.drop_drop, List.drop_left]; rfl
    rw [e2, List.length_cons, splitK_many k r q2 (fun p hp => h p (List.mem_cons_of_mem _ hp)) (by simpa using hk)]

/-- the pieces between dashes -/
def pieces : Bs → List Bs
  | [] => [[]]
  | c :: l => if c = 45 then [] :: pieces l else match pieces l with
    | [] => [[c]]
    | p :: r => (c :: p) :: r
theorem pieces_spec : ∀ l : Bs, ∃ q r, pieces l = q :: r ∧ (∀ p ∈ q :: r, Dashless p) ∧ glue (q :: r) = l
  | [] => ⟨[], [], rfl, by simp [Dashless], glue_one []⟩
  | c :: l => by
    obtain ⟨q, r, e, hd, hg⟩ := pieces_spec l
    unfold pieces
    by_cases hc : c = 45
    · subst hc
      rw [if_pos rfl, e]
      refine ⟨[], q :: r, rfl, ?_, ?_⟩
      · intro p hp
        rcases List.mem_cons.1 hp with rfl | hp
        · simp [Dashless]
        · exact hd p hp
      · rw [glue_cons, hg]; rfl
    · rw [if_neg hc, e]
      refine ⟨c :: q, r, rfl, ?_, ?_⟩
      · intro p hp
        rcases List.mem_cons.1 hp with rfl | hp
        · intro x hx
          rcases List.mem_cons.1 hx with rfl | hx
          · exact hc
          · exact hd q (by simp) x hx
        · exact hd p (List.mem_cons_of_mem _ hp)
      · rw [← hg]
        cases r with
        | nil => rw [glue_one, glue_one]
        | cons q2 r => rw [glue_cons, glue_cons]; rfl
theorem glue_inj {q q' : Bs} {r r' : List Bs} (h : ∀ p ∈ q :: r, Dashless p) (h' : ∀ p ∈ q' :: r', Dashless p) (e : glue (q :: r) = glue (q' :: r')) : q :: r = q' :: r' := by
  have h1 := splitK_glue r q (max r.length r'.length) h (Nat.le_max_left _ _)
  have h2 := splitK_glue r' q' (max r.length r'.length) h' (Nat.le_max_right _ _)
  rw [e] at h1
  rw [← h1, h2]
theorem pieces_glue {q : Bs} {r : List Bs} (h : ∀ p ∈ q :: r, Dashless p) : pieces (glue (q :: r)) = q :: r := by
  obtain ⟨q', r', e, hd, hg⟩ := pieces_spec (glue (q :: r))
  rw [e]
  exact (glue_inj h hd hg.symm).symm
theorem glue_length (q : Bs) (r : List Bs) : (glue (q :: r)).length = r.length + Lib.lens (q :: r) := by
  unfold glue; rw [Lib.join_length]; simp
theorem glue_map (f : UInt8 → UInt8) (hf : f 45 = 45) : ∀ (r : List Bs) (q : Bs), glue ((q :: r).map (List.map f)) = (glue (q :: r)).map f
  | [], q => by rw [List.map_cons, List.map_nil, glue_one, glue_one]
  | q2 :: r, q => by
    rw [List.map_cons, List.map_cons, glue_cons, glue_cons, List.map_append, List.map_cons, hf, ← glue_map f hf r q2, List.map_cons]

/-- where each part goes -/
def isScr : List Bs → Bool
  | [] => false
  | x :: _ => decide (x.length = 4)
def isReg : List Bs → Bool
  | [] => false
  | x :: _ => decide (x.length = 2) || decide (x.length = 3)
def scrOf (r : List Bs) : Bs := match r with
  | [] => []
  | x :: _ => if x.length = 4 then (x.take 1).map uppc ++ (x.drop 1).map lowc else []
def regOf (r : List Bs) : Bs := match r with
  | [] => []
  | x :: _ => if isReg [x] then x.map uppc else []
def offIf (b : Bool) (r : List Bs) : List Bs := if b then r.drop 1 else r
def restS (r : List Bs) : List Bs := offIf (isScr r) r
def restR (r : List Bs) : List Bs := offIf (isReg (restS r)) (restS r)
def asg (x : Bs) (r : List Bs) : Tg := ⟨x.map lowc, scrOf r, regOf (restS r), (restR r).map (List.map lowc)⟩
def parse (l : Bs) : Option Tg := match pieces l with
  | [] => none
  | x :: r => if 5 < r.length then none else if fault (asg x r) = 0 then some (asg x r) else none
end P
end Go.Proofs.YtdckmekfggigjaaDoor
