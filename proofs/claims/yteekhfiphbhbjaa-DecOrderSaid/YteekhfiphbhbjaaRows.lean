/-
  No cell of these rows narrows 'for every input' (looked for: loops, veiled, ifaces, maps, wideKeys, modest, calm, conditions, laid).
  DERIVED. THE GIVEN ROWS OF THIS SEAT. 5 by the template 'for every input the law returns true; each argument reads behind the call as it read before'; 0 by the template 'total and deterministic' (their statements: YteekhfiphbhbjaaTotals.lean).
  GIVEN WITH THE SEED: the statements are not yours to turn. If you find one false, say at which input.
  Laid BY PROGRAM, IN A SANDBOX (cutbox-rows.mjs): the forced cells as the released guide's own fill.sh prints them over the translation 5f0857d6929bf104… (all of the seat's roots in one cut). By AI agents, Wed Nov 11 2026. No macro, syntax, notation, axiom, sorry.
-/
import Derived.Test.YteekhfiphbhbjaaChecked
import GoSem.Claim
import GoSem.ClaimJoined
import GoSem.ClaimMapViews
import Derived.JoinedTies
import Derived.KernelRfl
namespace Go.Proofs.Yteekhfiphbhbjaa
/- THE CELL 'sum', in the pinned program and in every row, IS THE sha256 OF THE DUMP (.gsa) THAT YteekhfiphbhbjaaProg.lean LOADS. Nothing in Lean hashes anything: it is a label: what it is worth is what the hold of that sum in a sandbox is worth. -/
noncomputable def Try.pinned : Pinned := { name := "yteekhfiphbhbjaa", sum := "5f0857d6929bf104ff49d25cabc80ad0e5ece81c1e58056ab8886503934d6977", checked := Try.checked }
namespace Rows
def none {H : Type} : Left H := { results := [], args := [] }

/-- 'linguisterlaw1.DecOrder': WHATEVER THE INPUT: true; the input reads as it did. -/
def decOrderSpec : ChangeSpec := { name := "decOrder", fn := fun _ => fun
  | [d1, d2, d3] => { results := [.lit (.bool true)], args := [d1, d2, d3] }
  | _ => none }
def decOrderRow : OpenClaim := { program := "yteekhfiphbhbjaa", sum := "5f0857d6929bf104ff49d25cabc80ad0e5ece81c1e58056ab8886503934d6977", func := "linguister/linguisterlaw1.DecOrder", spec := "decOrder", apart := false }
def DecOrderSaid : Prop := decOrderRow.holds Try.pinned (OpenSpec.ofChange decOrderSpec)

/-- ITS FALSE NEIGHBOUR: 'it returns false'. Refute it at one input. -/
def decOrderWrong : ChangeSpec := { name := "decOrder", fn := fun _ => fun
  | [d1, d2, d3] => { results := [.lit (.bool false)], args := [d1, d2, d3] }
  | _ => none }
def DecOrderWrongFalsely : Prop := decOrderRow.holds Try.pinned (OpenSpec.ofChange decOrderWrong)

/-- 'linguisterlaw1.DecNear': WHATEVER THE INPUT: true; the input reads as it did. -/
def decNearSpec : ChangeSpec := { name := "decNear", fn := fun _ => fun
  | [d1, d2, d3] => { results := [.lit (.bool true)], args := [d1, d2, d3] }
  | _ => none }
def decNearRow : OpenClaim := { program := "yteekhfiphbhbjaa", sum := "5f0857d6929bf104ff49d25cabc80ad0e5ece81c1e58056ab8886503934d6977", func := "linguister/linguisterlaw1.DecNear", spec := "decNear", apart := false }
def DecNearSaid : Prop := decNearRow.holds Try.pinned (OpenSpec.ofChange decNearSpec)

/-- ITS FALSE NEIGHBOUR: 'it returns false'. Refute it at one input. -/
def decNearWrong : ChangeSpec := { name := "decNear", fn := fun _ => fun
  | [d1, d2, d3] => { results := [.lit (.bool false)], args := [d1, d2, d3] }
  | _ => none }
def DecNearWrongFalsely : Prop := decNearRow.holds Try.pinned (OpenSpec.ofChange decNearWrong)

/-- 'linguisterlaw1.DecRises': WHATEVER THE INPUT: true; the input reads as it did. -/
def decRisesSpec : ChangeSpec := { name := "decRises", fn := fun _ => fun
  | [d1, d2, d3, d4] => { results := [.lit (.bool true)], args := [d1, d2, d3, d4] }
  | _ => none }
def decRisesRow : OpenClaim := { program := "yteekhfiphbhbjaa", sum := "5f0857d6929bf104ff49d25cabc80ad0e5ece81c1e58056ab8886503934d6977", func := "linguister/linguisterlaw1.DecRises", spec := "decRises", apart := false }
def DecRisesSaid : Prop := decRisesRow.holds Try.pinned (OpenSpec.ofChange decRisesSpec)

/-- ITS FALSE NEIGHBOUR: 'it returns false'. Refute it at one input. -/
def decRisesWrong : ChangeSpec := { name := "decRises", fn := fun _ => fun
  | [d1, d2, d3, d4] => { results := [.lit (.bool false)], args := [d1, d2, d3, d4] }
  | _ => none }
def DecRisesWrongFalsely : Prop := decRisesRow.holds Try.pinned (OpenSpec.ofChange decRisesWrong)

/-- 'linguisterlaw1.DecAdds': WHATEVER THE INPUT: true; the input reads as it did. -/
def decAddsSpec : ChangeSpec := { name := "decAdds", fn := fun _ => fun
  | [d1, d2, d3] => { results := [.lit (.bool true)], args := [d1, d2, d3] }
  | _ => none }
def decAddsRow : OpenClaim := { program := "yteekhfiphbhbjaa", sum := "5f0857d6929bf104ff49d25cabc80ad0e5ece81c1e58056ab8886503934d6977", func := "linguister/linguisterlaw1.DecAdds", spec := "decAdds", apart := false }
def DecAddsSaid : Prop := decAddsRow.holds Try.pinned (OpenSpec.ofChange decAddsSpec)

/-- ITS FALSE NEIGHBOUR: 'it returns false'. Refute it at one input. -/
def decAddsWrong : ChangeSpec := { name := "decAdds", fn := fun _ => fun
  | [d1, d2, d3] => { results := [.lit (.bool false)], args := [d1, d2, d3] }
  | _ => none }
def DecAddsWrongFalsely : Prop := decAddsRow.holds Try.pinned (OpenSpec.ofChange decAddsWrong)

/-- 'linguisterlaw6.DecTwice': WHATEVER THE INPUT: true; the input reads as it did. -/
def decTwiceSpec : ChangeSpec := { name := "decTwice", fn := fun _ => fun
  | [d1, d2, d3, d4] => { results := [.lit (.bool true)], args := [d1, d2, d3, d4] }
  | _ => none }
def decTwiceRow : OpenClaim := { program := "yteekhfiphbhbjaa", sum := "5f0857d6929bf104ff49d25cabc80ad0e5ece81c1e58056ab8886503934d6977", func := "linguister/linguisterlaw6.DecTwice", spec := "decTwice", apart := false }
def DecTwiceSaid : Prop := decTwiceRow.holds Try.pinned (OpenSpec.ofChange decTwiceSpec)

/-- ITS FALSE NEIGHBOUR: 'it returns false'. Refute it at one input. -/
def decTwiceWrong : ChangeSpec := { name := "decTwice", fn := fun _ => fun
  | [d1, d2, d3, d4] => { results := [.lit (.bool false)], args := [d1, d2, d3, d4] }
  | _ => none }
def DecTwiceWrongFalsely : Prop := decTwiceRow.holds Try.pinned (OpenSpec.ofChange decTwiceWrong)

/- THE SECOND FORM. 'bulk': how many values and letters a reading holds, each counted each time it is reached (what is shared counts as often as it is met; a slice's spare places count too). A statement '..UptoSaid' is the law's where the arguments, and the package variables that the reading takes, are together of bulk at most 1048576: NARROWER than '..Said'. Prove '..Said' where nothing that the law and all that it calls make is longer than what came in: it says more and counts as full. Else prove '..UptoSaid'. A law counts once. -/
mutual
def uptoBulk {H : Type} : DataW H → Nat
  | .lit (.string bytes) => bytes.length + 1
  | .lit _ => 1
  | .nil => 1
  | .ptr d => uptoBulk d + 1
  | .slice elems spare => uptoBulkAll elems + uptoBulkAll spare + 1
  | .agg parts => uptoBulkAll parts + 1
  | .iface _ d => uptoBulk d + 1
  | .map entries => uptoBulkEntries entries + 1
  | .held _ => 1
def uptoBulkAll {H : Type} : List (DataW H) → Nat
  | [] => 0
  | d :: r => uptoBulk d + uptoBulkAll r
def uptoBulkEntries {H : Type} : List (Lit × DataW H) → Nat
  | [] => 0
  | x :: r => uptoBulkEntry x + uptoBulkEntries r
def uptoBulkEntry {H : Type} : Lit × DataW H → Nat
  | (.string bytes, d) => bytes.length + uptoBulk d + 1
  | (_, d) => uptoBulk d + 1
 end
def uptoSmall : (H : Type) → List (DataW H) → Bool := fun _ ds => decide (uptoBulkAll ds ≤ 1048576)
def OpenSpec.upto (s : _root_.Go.ChangeSpec) : _root_.Go.OpenSpec := { _root_.Go.OpenSpec.ofChange s with cond := some uptoSmall }

/-- 'linguisterlaw1.DecOrder', WHERE WHAT IT READS IS OF BULK AT MOST 1048576: true; the input reads as it did. -/
def decOrderUptoRow : OpenClaim := { program := "yteekhfiphbhbjaa", sum := "5f0857d6929bf104ff49d25cabc80ad0e5ece81c1e58056ab8886503934d6977", func := "linguister/linguisterlaw1.DecOrder", spec := "decOrder", apart := false, narrowed := true }
def DecOrderUptoSaid : Prop := decOrderUptoRow.holds Try.pinned (OpenSpec.upto decOrderSpec)

/-- 'linguisterlaw1.DecNear', WHERE WHAT IT READS IS OF BULK AT MOST 1048576: true; the input reads as it did. -/
def decNearUptoRow : OpenClaim := { program := "yteekhfiphbhbjaa", sum := "5f0857d6929bf104ff49d25cabc80ad0e5ece81c1e58056ab8886503934d6977", func := "linguister/linguisterlaw1.DecNear", spec := "decNear", apart := false, narrowed := true }
def DecNearUptoSaid : Prop := decNearUptoRow.holds Try.pinned (OpenSpec.upto decNearSpec)

/-- 'linguisterlaw1.DecRises', WHERE WHAT IT READS IS OF BULK AT MOST 1048576: true; the input reads as it did. -/
def decRisesUptoRow : OpenClaim := { program := "yteekhfiphbhbjaa", sum := "5f0857d6929bf104ff49d25cabc80ad0e5ece81c1e58056ab8886503934d6977", func := "linguister/linguisterlaw1.DecRises", spec := "decRises", apart := false, narrowed := true }
def DecRisesUptoSaid : Prop := decRisesUptoRow.holds Try.pinned (OpenSpec.upto decRisesSpec)

/-- 'linguisterlaw1.DecAdds', WHERE WHAT IT READS IS OF BULK AT MOST 1048576: true; the input reads as it did. -/
def decAddsUptoRow : OpenClaim := { program := "yteekhfiphbhbjaa", sum := "5f0857d6929bf104ff49d25cabc80ad0e5ece81c1e58056ab8886503934d6977", func := "linguister/linguisterlaw1.DecAdds", spec := "decAdds", apart := false, narrowed := true }
def DecAddsUptoSaid : Prop := decAddsUptoRow.holds Try.pinned (OpenSpec.upto decAddsSpec)

/-- 'linguisterlaw6.DecTwice', WHERE WHAT IT READS IS OF BULK AT MOST 1048576: true; the input reads as it did. -/
def decTwiceUptoRow : OpenClaim := { program := "yteekhfiphbhbjaa", sum := "5f0857d6929bf104ff49d25cabc80ad0e5ece81c1e58056ab8886503934d6977", func := "linguister/linguisterlaw6.DecTwice", spec := "decTwice", apart := false, narrowed := true }
def DecTwiceUptoSaid : Prop := decTwiceUptoRow.holds Try.pinned (OpenSpec.upto decTwiceSpec)

end Rows
end Go.Proofs.Yteekhfiphbhbjaa
