/- Bytes that a call makes of a text, turns in place and makes a text of again: the words and the laws for the walk. Nothing of the program stands here. -/
import Derived.Test.YtdckmekfggigjaaDoorWords
import Derived.Test.YtdckmekfggigjaaDoorPlain
import Derived.WalkKit
import Derived.Laws.IdiomStrings
namespace Go.Proofs.YtdckmekfggigjaaDoor
open Go.RowKit

/-- block g holds these bytes, and each may be written -/
def OwnBytes (w : World) (g : Nat) (l : List UInt8) : Prop := ∀ j (h : j < l.length), w.cell? ⟨g, j, none⟩ = some (.int .u8 (l[j].toNat : Int)) ∧ w.frozen? ⟨g, j, none⟩ = false

theorem add_zero_at (g j : Nat) : (⟨g, 0, none⟩ : Addr).add j = ⟨g, j, none⟩ := by unfold Addr.add; split <;> simp_all
theorem OwnBytes.set_ {w : World} {g : Nat} {l : List UInt8} (h : OwnBytes w g l) {k : Nat} (hk : k < l.length) (x : UInt8) (v : Int) (hv : v = (x.toNat : Int)) : OwnBytes (w.setCell ⟨g, k, none⟩ (.int .u8 v)) g (l.set k x) := by
  subst hv
  intro j hj
  have hj' : j < l.length := by simpa using hj
  refine ⟨?_, by rw [World.frozen?_setCell]; exact (h j hj').2⟩
  rw [List.getElem_set]
  split
  · rename_i e
    subst e
    exact World.cell?_setCell_same _ _ _ (h k hk).1
  · rename_i e
    rw [World.cell?_setCell_other _ _ _ _ (by simp)]
    exact (h j hj').1
theorem OwnBytes.back {P : Program} {w : World} {g cap : Nat} {l : List UInt8} (h : OwnBytes w g l) (src dst e : TypeId) (hs : P.underlying src = some (.slice e)) (he : P.underlying e = some (.int .u8)) (hd : P.underlying dst = some .string) :
    (convert src dst (.slice (some ⟨g, 0, none⟩) l.length cap)).run P w = .ok (.string ⟨l.toArray⟩) w :=
  run_convert_bytes_back w src dst e ⟨g, 0, none⟩ cap l hs he hd fun j hj => by rw [add_zero_at]; exact (h j hj).1

theorem wpList_bytes_of_string {P : Program} (w : World) {ops : Array Oper} {rest : List Oper} {o : Oper} {a : Act} {Q : Exit → Act → World → Prop}
    (hg : o.guard = none) (x : Operand) (src dst e : TypeId) (hop : o.op = Op.convert src dst x) (s : ByteArray) (hx : a.eval x = .string s)
    (hs : P.underlying src = some .string) (hd : P.underlying dst = some (.slice e)) (he : P.underlying e = some (.int .u8))
    (hK : ∀ cap w1, OwnBytes w1 w.heap.size s.data.toList → Below w.heap.size w w1 → w.heap.size < w1.heap.size → wpList P ops Q rest (a.put o.dst (.slice (some ⟨w.heap.size, 0, none⟩) s.size cap)) w1) :
    wpList P ops Q (o :: rest) a w := by
  refine wpList_plain hg fun K' hK' => ?_
  have hrun := run_bytes_of_string (P := P) w src dst e s hs hd he
  unfold Oper.wp
  simp [execOp, hop, hx, hrun, Result.andThen]
  have hsz : (bytesRow s (grownCap w s.size 0 e)).size = s.size + (grownCap w s.size 0 e - s.size) := by simp [bytesRow]
  refine hK' _ _ (hK _ _ (fun j hj => ?_) ?_ ?_)
  · have hj' : j < s.data.size := by simpa using hj
    refine ⟨?_, ?_⟩
    · have := World.cell?_alloc_mark w.drew (bytesRow s (grownCap w s.size 0 e)) e ((bytesRow s (grownCap w s.size 0 e)).size, (bytesRow s (grownCap w s.size 0 e)).size + 1) j
      rw [bytesRow_at s _ j hj'] at this
      exact this
    · have := World.frozen?_alloc_mark w.drew (bytesRow s (grownCap w s.size 0 e)) e (bytesRow s (grownCap w s.size 0 e)).size ((bytesRow s (grownCap w s.size 0 e)).size + 1) j
      have hj2 : j < s.size := hj'
      rw [decide_eq_false (by omega)] at this
      exact this
  · exact (Below.refl w.heap.size w).drew.alloc (Nat.le_refl _) _
  · simp
end Go.Proofs.YtdckmekfggigjaaDoor
