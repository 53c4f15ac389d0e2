/- The law LangTells returns true. -/
import Derived.Test.YteedhnpdffnfjaaDoorLaRef
import Derived.Test.YteedhnpdffnfjaaDoorErrorSame
namespace Go.Proofs.YteedhnpdffnfjaaDoor
namespace Ru
open Go.RowKit Go.Maps D

set_option maxRecDepth 100000 in
theorem eql_none (w : World) : (binOp .eql 23 (.agg #[.string (str []), .string (str []), .string (str []), .string (str []), .string (str [])]) (.agg #[.string ⟨#[]⟩, .string ⟨#[]⟩, .string ⟨#[]⟩, .string ⟨#[]⟩, .string ⟨#[]⟩])).run Tryd.prog w = .ok (.bool true) w := by kernel_rfl
set_option maxHeartbeats 8000000 in
set_option maxRecDepth 100000 in
/-- of a text and what both sides tell of it -/
theorem lang_tells_one (x z o t f m : List UInt8) (b : Bool) (k : Nat) (w : World) (hR : RulesOk w) (hg : ErrType w) (hk : (b = true ∧ k = 0) ∨ (b = false ∧ k = 2))
    (h1 : ∀ W, Below w.heap.size w W → Calls Tryd.prog 9 #[.string (str x)] W (Gives W (.tuple #[.agg #[.string (str z), .string (str o), .string (str t), .string (str f), .string (str m)], .bool b])))
    (h2 : ∀ W, Below w.heap.size w W → Calls Tryd.prog 8 #[.string (str x)] W (Gives W (.tuple #[.agg #[.string (str z), .string (str o), .string (str t), .string (str f), .string (str m)], errV k])))
    (he : ∀ W, (binOp .eql 23 (.agg #[.string (str z), .string (str o), .string (str t), .string (str f), .string (str m)]) (.agg #[.string (str z), .string (str o), .string (str t), .string (str f), .string (str m)])).run Tryd.prog W = .ok (.bool true) W) :
    Calls Tryd.prog 3 #[.string (str x)] w (TrueB w) := by
  have hb0 := Below.refl w.heap.size w
  have CJ := Lib.hid (show ∀ W, Below w.heap.size w W → Calls Tryd.prog 8 #[.string ⟨#[106, 97]⟩] W (Says W [] [] [] [] []) from hR.ja)
  have CN := Lib.hid (show ∀ W, Below w.heap.size w W → Calls Tryd.prog 8 #[.string ⟨#[101, 110]⟩] W (Says W [] enOneB [] [] []) from hR.en)
  have C1 := Lib.hid h1
  have C2 := Lib.hid h2
  have CE := Lib.hid fun (W : World) (hW : Below w.heap.size w W) => errorSame_any k W (errType_later hg hW)
  have hne := eql_none
  have hen : (enOneB == []) = false := rfl
  have hen2 : (enOneB != []) = true := rfl
  clear h1 h2 hR hg
  obtain ⟨ev, hev⟩ : ∃ v, errV k = v := ⟨_, rfl⟩
  rw [hev] at C2 CE
  rcases hk with ⟨rfl, rfl⟩ | ⟨rfl, rfl⟩
  all_goals
    clear hev
    first
      | (have CX := Lib.hid (show ∀ W, Below w.heap.size w W → Calls Tryd.prog 10 #[ev, .int .i64 0] W (TrueB W) from CE.out))
      | (have CX := Lib.hid (show ∀ W, Below w.heap.size w W → Calls Tryd.prog 10 #[ev, .int .i64 2] W (TrueB W) from CE.out))
    go_enter Tryd.func3, Tryd.ntmps3
    go_upto_region 2 with (go_at_call 8; (with_reducible refine (CJ.out _ hb0).mono ?_); rintro e w1 ⟨rfl, hb1⟩; dsimp only)
    have HB1 := Lib.hid (((Bs.start w).call hb1).alloc [.string (str []), .string (str []), .string (str []), .string (str []), .string (str [])] 23)
    have hB1 := HB1.out.below
    go_upto_region 3 with (go_at_call 9; (with_reducible refine (C1.out _ hB1).mono ?_); rintro e w2 ⟨rfl, hb2⟩; dsimp only)
    have HB2 := Lib.hid ((HB1.out.call hb2).alloc [.string (str z), .string (str o), .string (str t), .string (str f), .string (str m)] 23)
    have hB2 := HB2.out.below
    go_upto_region 7 with (go_at_call 8; (with_reducible refine (C2.out _ hB2).mono ?_); rintro e w3 ⟨rfl, hb3⟩; dsimp only)
    have HB3 := Lib.hid ((HB2.out.call hb3).alloc [.string (str z), .string (str o), .string (str t), .string (str f), .string (str m)] 23)
    have hB3 := HB3.out.below
    go_upto_region 8 with (go_at_call 10; (with_reducible refine (CX.out _ hB3).mono ?_); rintro e w4 ⟨rfl, hb4⟩)
    have HB4 := Lib.hid (HB3.out.call hb4)
    have hB4 := HB4.out.below
    go_upto_region 9 with (go_at_call 8; (with_reducible refine (CN.out _ hB4).mono ?_); rintro e w5 ⟨rfl, hb5⟩; dsimp only)
    have HB5 := Lib.hid ((HB4.out.call hb5).alloc [.string (str []), .string (str enOneB), .string (str []), .string (str []), .string (str [])] 23)
    have hB5 := HB5.out.below
    obtain ⟨a0, a1, a2, a3, a4, y0, y1, y2, y3, y4, z0, z1, z2, z3, z4, x0, x1, x2, x3, x4, -⟩ := HB5.out.cells
    clear CJ CN C1 C2 CE CX
    go_wp2_with fail
    go_ret
    exact ⟨rfl, hB5⟩
set_option maxRecDepth 100000 in
theorem eql_en (w : World) : (binOp .eql 23 (.agg #[.string (str []), .string (str enOneB), .string (str []), .string (str []), .string (str [])]) (.agg #[.string (str []), .string (str enOneB), .string (str []), .string (str []), .string (str [])])).run Tryd.prog w = .ok (.bool true) w := by kernel_rfl
set_option maxRecDepth 100000 in
theorem eql_fr (w : World) : (binOp .eql 23 (.agg #[.string (str []), .string (str frOneB), .string (str []), .string (str []), .string (str [])]) (.agg #[.string (str []), .string (str frOneB), .string (str []), .string (str []), .string (str [])])).run Tryd.prog w = .ok (.bool true) w := by kernel_rfl
set_option maxRecDepth 100000 in
theorem eql_ja (w : World) : (binOp .eql 23 (.agg #[.string (str []), .string (str []), .string (str []), .string (str []), .string (str [])]) (.agg #[.string (str []), .string (str []), .string (str []), .string (str []), .string (str [])])).run Tryd.prog w = .ok (.bool true) w := by kernel_rfl
set_option maxRecDepth 100000 in
theorem eql_pl (w : World) : (binOp .eql 23 (.agg #[.string (str []), .string (str enOneB), .string (str []), .string (str plFewB), .string (str plManyB)]) (.agg #[.string (str []), .string (str enOneB), .string (str []), .string (str plFewB), .string (str plManyB)])).run Tryd.prog w = .ok (.bool true) w := by kernel_rfl
set_option maxRecDepth 100000 in
theorem eql_ru (w : World) : (binOp .eql 23 (.agg #[.string (str []), .string (str ruOneB), .string (str []), .string (str plFewB), .string (str ruManyB)]) (.agg #[.string (str []), .string (str ruOneB), .string (str []), .string (str plFewB), .string (str ruManyB)])).run Tryd.prog w = .ok (.bool true) w := by kernel_rfl
set_option maxRecDepth 100000 in
theorem eql_ar (w : World) : (binOp .eql 23 (.agg #[.string (str arZeroB), .string (str arOneB), .string (str arTwoB), .string (str arFewB), .string (str arManyB)]) (.agg #[.string (str arZeroB), .string (str arOneB), .string (str arTwoB), .string (str arFewB), .string (str arManyB)])).run Tryd.prog w = .ok (.bool true) w := by kernel_rfl
set_option maxRecDepth 100000 in
theorem eql_lv (w : World) : (binOp .eql 23 (.agg #[.string (str lvZeroB), .string (str lvOneB), .string (str []), .string (str []), .string (str [])]) (.agg #[.string (str lvZeroB), .string (str lvOneB), .string (str []), .string (str []), .string (str [])])).run Tryd.prog w = .ok (.bool true) w := by kernel_rfl
theorem lang_tells_any (x : List UInt8) (w : World) (hR : RulesOk w) (hg : ErrType w) : Calls Tryd.prog 3 #[.string (str x)] w (TrueB w) := by
  by_cases hx : x ∈ codes
  · unfold codes at hx
    simp only [List.mem_cons, List.not_mem_nil, or_false] at hx
    rcases hx with rfl | rfl | rfl | rfl | rfl | rfl | rfl | rfl
    · exact lang_tells_one [101, 110] [] enOneB [] [] [] true 0 w hR hg (.inl ⟨rfl, rfl⟩) (fun W _ => ref_en W) (fun W hW => hR.en W hW) eql_en
    · exact lang_tells_one [100, 101] [] enOneB [] [] [] true 0 w hR hg (.inl ⟨rfl, rfl⟩) (fun W _ => ref_de W) (fun W hW => hR.de W hW) eql_en
    · exact lang_tells_one [102, 114] [] frOneB [] [] [] true 0 w hR hg (.inl ⟨rfl, rfl⟩) (fun W _ => ref_fr W) (fun W hW => hR.fr W hW) eql_fr
    · exact lang_tells_one [106, 97] [] [] [] [] [] true 0 w hR hg (.inl ⟨rfl, rfl⟩) (fun W _ => ref_ja W) (fun W hW => hR.ja W hW) eql_ja
    · exact lang_tells_one [112, 108] [] enOneB [] plFewB plManyB true 0 w hR hg (.inl ⟨rfl, rfl⟩) (fun W _ => ref_pl W) (fun W hW => hR.pl W hW) eql_pl
    · exact lang_tells_one [114, 117] [] ruOneB [] plFewB ruManyB true 0 w hR hg (.inl ⟨rfl, rfl⟩) (fun W _ => ref_ru W) (fun W hW => hR.ru W hW) eql_ru
    · exact lang_tells_one [97, 114] arZeroB arOneB arTwoB arFewB arManyB true 0 w hR hg (.inl ⟨rfl, rfl⟩) (fun W _ => ref_ar W) (fun W hW => hR.ar W hW) eql_ar
    · exact lang_tells_one [108, 118] lvZeroB lvOneB [] [] [] true 0 w hR hg (.inl ⟨rfl, rfl⟩) (fun W _ => ref_lv W) (fun W hW => hR.lv W hW) eql_lv
  · exact lang_tells_one x [] [] [] [] [] false 2 w hR hg (.inr ⟨rfl, rfl⟩) (fun W _ => ref_no x W hx) (fun W hW => hR.no x W hx hW) eql_ja
end Ru
end Go.Proofs.YteedhnpdffnfjaaDoor
