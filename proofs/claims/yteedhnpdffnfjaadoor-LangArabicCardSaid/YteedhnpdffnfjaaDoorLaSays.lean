/- What the laws on languages ask of the program's table; what is told of numbers by it. -/
import Derived.Test.YteedhnpdffnfjaaDoorLaFacts
import Derived.Test.YteedhnpdffnfjaaDoorPlLaw
namespace Go.Proofs.YteedhnpdffnfjaaDoor
namespace Ru
open Go.RowKit Go.Maps D

def Says (w : World) (z o t f m : List UInt8) (e : Ending) (w' : World) : Prop := e = .returned (.tuple #[.agg #[.string (str z), .string (str o), .string (str t), .string (str f), .string (str m)], .nilIface]) ∧ Below w.heap.size w w'
def SaysNo (w : World) (e : Ending) (w' : World) : Prop := e = .returned (.tuple #[.agg #[.string (str []), .string (str []), .string (str []), .string (str []), .string (str [])], .iface 30 (.int .i64 2)]) ∧ Below w.heap.size w w'
def codes : List (List UInt8) := [[101, 110], [100, 101], [102, 114], [106, 97], [112, 108], [114, 117], [97, 114], [108, 118]]
/-- the table, behind whatever call of a law's own -/
structure RulesOk (w : World) : Prop where
  en : ∀ W, Below w.heap.size w W → Calls Tryd.prog 8 #[.string (str [101, 110])] W (Says W [] enOneB [] [] [])
  de : ∀ W, Below w.heap.size w W → Calls Tryd.prog 8 #[.string (str [100, 101])] W (Says W [] enOneB [] [] [])
  fr : ∀ W, Below w.heap.size w W → Calls Tryd.prog 8 #[.string (str [102, 114])] W (Says W [] frOneB [] [] [])
  ja : ∀ W, Below w.heap.size w W → Calls Tryd.prog 8 #[.string (str [106, 97])] W (Says W [] [] [] [] [])
  pl : ∀ W, Below w.heap.size w W → Calls Tryd.prog 8 #[.string (str [112, 108])] W (Says W [] enOneB [] plFewB plManyB)
  ru : ∀ W, Below w.heap.size w W → Calls Tryd.prog 8 #[.string (str [114, 117])] W (Says W [] ruOneB [] plFewB ruManyB)
  ar : ∀ W, Below w.heap.size w W → Calls Tryd.prog 8 #[.string (str [97, 114])] W (Says W arZeroB arOneB arTwoB arFewB arManyB)
  lv : ∀ W, Below w.heap.size w W → Calls Tryd.prog 8 #[.string (str [108, 118])] W (Says W lvZeroB lvOneB [] [] [])
  no : ∀ (x : List UInt8) W, x ∉ codes → Below w.heap.size w W → Calls Tryd.prog 8 #[.string (str x)] W (SaysNo W)
theorem RulesOk.later {w W : World} (h : RulesOk w) (hb : Below w.heap.size w W) : RulesOk W :=
  ⟨fun U hU => h.en U (bel_call hb hU), fun U hU => h.de U (bel_call hb hU), fun U hU => h.fr U (bel_call hb hU), fun U hU => h.ja U (bel_call hb hU), fun U hU => h.pl U (bel_call hb hU), fun U hU => h.ru U (bel_call hb hU), fun U hU => h.ar U (bel_call hb hU), fun U hU => h.lv U (bel_call hb hU), fun x U hx hU => h.no x U hx (bel_call hb hU)⟩
/-- whole numbers in Russian, in Polish -/
def ruK (m : Int) : List UInt8 := if (2 ≤ m % 10 ∧ m % 10 ≤ 4) ∧ ¬ (11 ≤ m % 100 ∧ m % 100 ≤ 14) then [102, 101, 119] else if m % 10 = 1 ∧ ¬ (11 ≤ m % 100 ∧ m % 100 ≤ 14) then [111, 110, 101] else [109, 97, 110, 121]
def plK (m : Int) : List UInt8 := if m = 1 then [111, 110, 101] else if (2 ≤ m % 10 ∧ m % 10 ≤ 4) ∧ ¬ (11 ≤ m % 100 ∧ m % 100 ≤ 14) then [102, 101, 119] else [109, 97, 110, 121]
theorem ru_tells {n : Int} (h : Right n 0) (W : World) (hE : Env W) (hN : Names W) : Calls Tryd.prog 11 #[.agg #[.string (str []), .string (str ruOneB), .string (str []), .string (str plFewB), .string (str ruManyB)], .agg #[.int .i64 n, .int .i64 0]] W (KindYes W (str (ruK n.natAbs))) := by
  have hk := kind_good [] ruOneB [] plFewB ruManyB n 0 W ruLen hE hN ruRight h
  obtain ⟨e1, _, _, _⟩ := ops_nought n
  rw [ru_kind (by rw [e1]; omega), e1] at hk
  exact hk
theorem pl_tells {n : Int} (h : Right n 0) (W : World) (hE : Env W) (hN : Names W) : Calls Tryd.prog 11 #[.agg #[.string (str []), .string (str enOneB), .string (str []), .string (str plFewB), .string (str plManyB)], .agg #[.int .i64 n, .int .i64 0]] W (KindYes W (str (plK n.natAbs))) := by
  have hk := kind_good [] enOneB [] plFewB plManyB n 0 W plLen hE hN plRight h
  obtain ⟨e1, _, _, _⟩ := ops_nought n
  rw [pl_kind (by rw [e1]; omega), e1] at hk
  exact hk
def arK (I T : Int) : List UInt8 := if T = 0 then (if I = 0 then [122, 101, 114, 111] else if I = 1 then [111, 110, 101] else if I = 2 then [116, 119, 111] else if 3 ≤ I % 100 ∧ I % 100 ≤ 10 then [102, 101, 119] else if 11 ≤ I % 100 then [109, 97, 110, 121] else [111, 116, 104, 101, 114]) else [111, 116, 104, 101, 114]
theorem ar_tells {c s : Int} (h : Right c s) (W : World) (hE : Env W) (hN : Names W) : Calls Tryd.prog 11 #[.agg #[.string (str arZeroB), .string (str arOneB), .string (str arTwoB), .string (str arFewB), .string (str arManyB)], .agg #[.int .i64 c, .int .i64 s]] W (KindYes W (str (arK (opsI c s) (opsT c s)))) := by
  have hk := kind_good arZeroB arOneB arTwoB arFewB arManyB c s W arLen hE hN arRight h
  rw [ar_kind (ops_bounds h).1.1] at hk
  exact hk
def enK (I V : Int) : List UInt8 := if I = 1 ∧ V = 0 then [111, 110, 101] else [111, 116, 104, 101, 114]
theorem en_tells {c s : Int} (h : Right c s) (W : World) (hE : Env W) (hN : Names W) : Calls Tryd.prog 11 #[.agg #[.string (str []), .string (str enOneB), .string (str []), .string (str []), .string (str [])], .agg #[.int .i64 c, .int .i64 s]] W (KindYes W (str (enK (opsI c s) s))) := by
  have hk := kind_good [] enOneB [] [] [] c s W enLen hE hN enRight h
  rw [en_kind] at hk
  exact hk
def frK (I : Int) : List UInt8 := if I = 0 ∨ I = 1 then [111, 110, 101] else [111, 116, 104, 101, 114]
theorem fr_tells {c s : Int} (h : Right c s) (W : World) (hE : Env W) (hN : Names W) : Calls Tryd.prog 11 #[.agg #[.string (str []), .string (str frOneB), .string (str []), .string (str []), .string (str [])], .agg #[.int .i64 c, .int .i64 s]] W (KindYes W (str (frK (opsI c s)))) := by
  have hk := kind_good [] frOneB [] [] [] c s W frLen hE hN frRight h
  rw [fr_kind] at hk
  exact hk
theorem ja_tells {c s : Int} (h : Right c s) (W : World) (hE : Env W) (hN : Names W) : Calls Tryd.prog 11 #[.agg #[.string (str []), .string (str []), .string (str []), .string (str []), .string (str [])], .agg #[.int .i64 c, .int .i64 s]] W (KindYes W (str [111, 116, 104, 101, 114])) :=
  kind_good [] [] [] [] [] c s W jaLen hE hN jaRight h
end Ru
end Go.Proofs.YteedhnpdffnfjaaDoor
