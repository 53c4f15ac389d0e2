/- The law ChainOrder, walked: it returns true for every three tags; what lay in memory stays as it was. -/
import Derived.Test.YtlmldcjgjogoiaaDoorWithin
import Derived.Deep.RegionHeld3
import Derived.Deep.DrawnRows
namespace Go.Proofs.YtlmldcjgjogoiaaDoor
open Go.RowKit Go.Maps
attribute [local go_sem ↓] Go.wp_at_zero Go.wp_at_succ

/-- three boxes of tags that lie above what lay in memory -/
structure Three (w wx : World) (cs cs' cs'' : Array Value) : Prop where
  below : Below w.heap.size w wx
  one : Blk wx w.heap.size 24 cs
  two : Blk wx (w.heap.size + 1) 24 cs'
  tri : Blk wx (w.heap.size + 2) 24 cs''
section
variable {w wx wy : World} {cs cs' cs'' : Array Value}
theorem Three.start (w : World) (cs cs' cs'' : Array Value) : Three w (((w.alloc (.cells cs 24)).alloc (.cells cs' 24)).alloc (.cells cs'' 24)) cs cs' cs'' :=
  ⟨up_alloc (up_alloc (up_alloc (Below.refl _ _) _) _) _, ((Blk.new _ _ _).alloc _).alloc _, by have := (Blk.new (w.alloc (.cells cs 24)) 24 cs').alloc (.cells cs'' 24); simpa using this,
    by have := Blk.new ((w.alloc (.cells cs 24)).alloc (.cells cs' 24)) 24 cs''; simpa using this⟩
theorem Three.later (h : Three w wx cs cs' cs'') (hb : Below wx.heap.size wx wy) : Three w wy cs cs' cs'' := ⟨up_call h.below hb, h.one.below hb h.one.lt, h.two.below hb h.two.lt, h.tri.below hb h.tri.lt⟩
theorem Three.drew (h : Three w wx cs cs' cs'') : Three w wx.drew cs cs' cs'' := ⟨below_drewN h.below 1, h.one, h.two, h.tri⟩
theorem Three.all {a0 a1 a2 a3 b0 b1 b2 b3 : Value} (h : Three w wx #[a0, a1, a2, a3] #[b0, b1, b2, b3] cs'') : Three w wx #[a0, a1, a2, a3] #[b0, b1, b2, b3] cs'' ∧
    wx.cell? ⟨w.heap.size, 0, none⟩ = some a0 ∧ wx.cell? ⟨w.heap.size, 1, none⟩ = some a1 ∧ wx.cell? ⟨w.heap.size, 2, none⟩ = some a2 ∧ wx.cell? ⟨w.heap.size, 3, none⟩ = some a3 ∧
    wx.cell? ⟨w.heap.size + 1, 0, none⟩ = some b0 ∧ wx.cell? ⟨w.heap.size + 1, 1, none⟩ = some b1 ∧ wx.cell? ⟨w.heap.size + 1, 2, none⟩ = some b2 ∧ wx.cell? ⟨w.heap.size + 1, 3, none⟩ = some b3 :=
  ⟨h, h.one.cell 0, h.one.cell 1, h.one.cell 2, h.one.cell 3, h.two.cell 0, h.two.cell 1, h.two.cell 2, h.two.cell 3⟩
theorem Three.cells {a0 a1 a2 a3 b0 b1 b2 b3 c0 c1 c2 c3 : Value} (h : Three w wx #[a0, a1, a2, a3] #[b0, b1, b2, b3] #[c0, c1, c2, c3]) :
    wx.cell? ⟨w.heap.size, 0, none⟩ = some a0 ∧ wx.cell? ⟨w.heap.size, 1, none⟩ = some a1 ∧ wx.cell? ⟨w.heap.size, 2, none⟩ = some a2 ∧ wx.cell? ⟨w.heap.size, 3, none⟩ = some a3 ∧
    wx.cell? ⟨w.heap.size + 1, 0, none⟩ = some b0 ∧ wx.cell? ⟨w.heap.size + 1, 1, none⟩ = some b1 ∧ wx.cell? ⟨w.heap.size + 1, 2, none⟩ = some b2 ∧ wx.cell? ⟨w.heap.size + 1, 3, none⟩ = some b3 ∧
    wx.cell? ⟨w.heap.size + 2, 0, none⟩ = some c0 ∧ wx.cell? ⟨w.heap.size + 2, 1, none⟩ = some c1 ∧ wx.cell? ⟨w.heap.size + 2, 2, none⟩ = some c2 ∧ wx.cell? ⟨w.heap.size + 2, 3, none⟩ = some c3 :=
  ⟨h.one.cell 0, h.one.cell 1, h.one.cell 2, h.one.cell 3, h.two.cell 0, h.two.cell 1, h.two.cell 2, h.two.cell 3, h.tri.cell 0, h.tri.cell 1, h.tri.cell 2, h.tri.cell 3⟩
end

abbrev WithinCall (t u : TagB) (A : Option Addr) (n c : Nat) (A' : Option Addr) (n' c' : Nat) (b : Bool) (ev : Value) (W : World) : Prop :=
  Calls Tryd.prog 14 #[.agg #[.string t.lang, .string t.script, .string t.region, .slice A n c], .agg #[.string u.lang, .string u.script, .string u.region, .slice A' n' c']] W fun e w' => e = .returned (.tuple #[.bool b, ev]) ∧ Below W.heap.size W w'
theorem err_two (k : Nat) : (k = 0 ∧ errV k = .nilIface) ∨ (k ≠ 0 ∧ ∃ m : Int, errV k = .iface 26 (.int .i64 m)) := by
  cases k with
  | zero => exact .inl ⟨rfl, rfl⟩
  | succ k => exact .inr ⟨by omega, _, errV_succ k⟩
theorem within_two {t u : TagB} (h : within1 t u = 0) : RightB t ∧ RightB u := by
  unfold within1 at h
  split at h
  · rename_i h1; exact ⟨h1, h⟩
  · rename_i h1; exact absurd h h1
theorem within_is {t u : TagB} (h : within1 t u = 0) : withinB t u = decide (u ∈ chainB t) := by unfold withinB; rw [h]; simp
/-- what the law says of the five answers -/
theorem order_facts {a b c : TagB} (h : within1 a b = 0) (h' : within1 b c = 0) (h2 : within1 a c = 0) (h3 : within1 b a = 0) (h4 : within1 a a = 0) :
    withinB a a = true ∧ (withinB a b = true → withinB b c = true → withinB a c = true) ∧ (withinB a b = true → withinB b a = true → a = b) := by
  rw [within_is h, within_is h', within_is h2, within_is h3, within_is h4]
  simp only [decide_eq_true_eq]
  exact ⟨chain_self a, chain_trans, fun h1 h2 => chain_anti h1 h2⟩

set_option maxHeartbeats 8000000 in
set_option maxRecDepth 100000 in
theorem order_any (a b c : TagB) (A : Option Addr) (n k : Nat) (A' : Option Addr) (n' k' : Nat) (A'' : Option Addr) (n'' k'' : Nat) (w : World)
    (h : Reads w w.heap.size 1 A n (sv a.vars)) (h' : Reads w w.heap.size 1 A' n' (sv b.vars)) (h'' : Reads w w.heap.size 1 A'' n'' (sv c.vars)) (hz : Sized a n) (hz' : Sized b n') (hz'' : Sized c n'')
    (mx : Int) (hmx : w.cell? ⟨1, 0, none⟩ = some (.int .i64 mx)) :
    Calls Tryd.prog 5 #[.agg #[.string a.lang, .string a.script, .string a.region, .slice A n k], .agg #[.string b.lang, .string b.script, .string b.region, .slice A' n' k'], .agg #[.string c.lang, .string c.script, .string c.region, .slice A'' n'' k'']] w (TrueBelow w) := by
  have hlt0 := World.block_lt_of_cell? w _ hmx
  have hm : ∀ W, Below w.heap.size w W → W.cell? ⟨1, 0, none⟩ = some (.int .i64 mx) := fun W hb => by rw [hb.cell hlt0]; exact hmx
  have ra : ∀ W, Below w.heap.size w W → Reads W W.heap.size 1 A n (sv a.vars) := fun W hb => (h.below hb).more hb.size
  have rb : ∀ W, Below w.heap.size w W → Reads W W.heap.size 1 A' n' (sv b.vars) := fun W hb => (h'.below hb).more hb.size
  have rc : ∀ W, Below w.heap.size w W → Reads W W.heap.size 1 A'' n'' (sv c.vars) := fun W hb => (h''.below hb).more hb.size
  have CF := Lib.hid (fun (W : World) (hb : Below w.heap.size w W) => tagged_any W mx (hm W hb))
  have Cab : Hid (∀ W, Below w.heap.size w W → WithinCall a b A n k A' n' k' (withinB a b) (errV (within1 a b)) W) := Lib.hid (fun W hb => within_any a b A n k A' n' k' W (ra W hb) (rb W hb) hz hz')
  have Cbc : Hid (∀ W, Below w.heap.size w W → WithinCall b c A' n' k' A'' n'' k'' (withinB b c) (errV (within1 b c)) W) := Lib.hid (fun W hb => within_any b c A' n' k' A'' n'' k'' W (rb W hb) (rc W hb) hz' hz'')
  have Cac : Hid (∀ W, Below w.heap.size w W → WithinCall a c A n k A'' n'' k'' (withinB a c) (errV (within1 a c)) W) := Lib.hid (fun W hb => within_any a c A n k A'' n'' k'' W (ra W hb) (rc W hb) hz hz'')
  have Cba : Hid (∀ W, Below w.heap.size w W → WithinCall b a A' n' k' A n k (withinB b a) (errV (within1 b a)) W) := Lib.hid (fun W hb => within_any b a A' n' k' A n k W (rb W hb) (ra W hb) hz' hz)
  have Caa : Hid (∀ W, Below w.heap.size w W → WithinCall a a A n k A n k (withinB a a) (errV (within1 a a)) W) := Lib.hid (fun W hb => within_any a a A n k A n k W (ra W hb) (ra W hb) hz hz)
  have KT : Hid (within1 a b = 0 → a = b → (∀ W : World, Below w.heap.size w W → TextCall a.lang a.script a.region A n k (textT a) W) ∧ (∀ W : World, Below w.heap.size w W → TextCall b.lang b.script b.region A' n' k' (textT a) W)) := Lib.hid (fun h0 he => by
    have hr := (within_two h0).1
    have hk := known (n := n) hr (ra w (Below.refl _ _)).len
    subst he
    have hk' := known (n := n') hr (rb w (Below.refl _ _)).len
    exact ⟨fun W hb => text_any _ _ _ A n k _ W (ra W hb) hk.few hk.short, fun W hb => text_any _ _ _ A' n' k' _ W (rb W hb) hk'.few hk'.short⟩)
  have KO := Lib.hid (order_facts (a := a) (b := b) (c := c))
  have hH0 := Three.start w (tagCs a.lang a.script a.region A n k) (tagCs b.lang b.script b.region A' n' k') (tagCs c.lang c.script c.region A'' n'' k'')
  have E1 := Lib.hid (err_two (within1 a b))
  have E2 := Lib.hid (err_two (within1 b c))
  have E3 := Lib.hid (err_two (within1 a c))
  have E4 := Lib.hid (err_two (within1 b a))
  have E5 := Lib.hid (err_two (within1 a a))
  clear h h' h'' hz hz' hz'' hmx hlt0 hm ra rb rc
  generalize errV (within1 a b) = e1 at *
  generalize errV (within1 b c) = e2 at *
  generalize errV (within1 a c) = e3 at *
  generalize errV (within1 b a) = e4 at *
  generalize errV (within1 a a) = e5 at *
  generalize withinB a b = x at *
  generalize withinB b c = y at *
  generalize withinB a c = z at *
  generalize withinB b a = v at *
  generalize withinB a a = o at *
  generalize textT a = T at *
  go_enter Tryd.func5, Tryd.ntmps5
  go_upto_region 2 with (go_at_call 8; (with_reducible refine (CF.out _ hH0.below).mono ?_); rintro e w1 ⟨rfl, hb1⟩)
  have hH1 := hH0.later hb1
  obtain ⟨t0, t1, t2, t3, s0, s1, s2, s3, r0, r1, r2, r3⟩ := hH1.cells
  clear hb1 hH0 CF
  go_upto_region 3 with (go_at_call 14; (with_reducible refine (Cab.out _ hH1.below).mono ?_); rintro e w2 ⟨rfl, hb2⟩; dsimp only)
  have hH2 := hH1.later hb2
  clear t0 t1 t2 t3 s0 s1 s2 s3 r0 r1 r2 r3
  obtain ⟨t0, t1, t2, t3, s0, s1, s2, s3, r0, r1, r2, r3⟩ := hH2.cells
  clear hb2 hH1 Cab
  go_upto_region 4 with (go_at_call 14; (with_reducible refine (Cbc.out _ hH2.below).mono ?_); rintro e w3 ⟨rfl, hb3⟩; dsimp only)
  have hH3 := hH2.later hb3
  clear t0 t1 t2 t3 s0 s1 s2 s3 r0 r1 r2 r3
  obtain ⟨t0, t1, t2, t3, s0, s1, s2, s3, r0, r1, r2, r3⟩ := hH3.cells
  clear hb3 hH2 Cbc
  go_upto_region 5 with (go_at_call 14; (with_reducible refine (Cac.out _ hH3.below).mono ?_); rintro e w4 ⟨rfl, hb4⟩; dsimp only)
  have hH4 := hH3.later hb4
  clear t0 t1 t2 t3 s0 s1 s2 s3 r0 r1 r2 r3
  obtain ⟨t0, t1, t2, t3, s0, s1, s2, s3, r0, r1, r2, r3⟩ := hH4.cells
  clear hb4 hH3 Cac
  go_upto_region 6 with (go_at_call 14; (with_reducible refine (Cba.out _ hH4.below).mono ?_); rintro e w5 ⟨rfl, hb5⟩; dsimp only)
  have hH5 := hH4.later hb5
  clear t0 t1 t2 t3 s0 s1 s2 s3 r0 r1 r2 r3
  obtain ⟨t0, t1, t2, t3, s0, s1, s2, s3, r0, r1, r2, r3⟩ := hH5.cells
  clear hb5 hH4 Cba
  go_upto_region 9 with (go_at_call 14; (with_reducible refine (Caa.out _ hH5.below).mono ?_); rintro e w6 ⟨rfl, hb6⟩; dsimp only)
  have hH6 := hH5.later hb6
  clear t0 t1 t2 t3 s0 s1 s2 s3 r0 r1 r2 r3
  clear hb6 hH5 Caa
  rcases E1.out with ⟨k1, rfl⟩ | ⟨_, m, rfl⟩
  · rcases E2.out with ⟨k2, rfl⟩ | ⟨_, m, rfl⟩
    · rcases E3.out with ⟨k3, rfl⟩ | ⟨_, m, rfl⟩
      · rcases E4.out with ⟨k4, rfl⟩ | ⟨_, m, rfl⟩
        · rcases E5.out with ⟨k5, rfl⟩ | ⟨_, m, rfl⟩
          · obtain ⟨q1, q2, q3⟩ := KO.out k1 k2 k3 k4 k5
            subst q1
            have KX := fun he => KT.out k1 he
            clear E1 E2 E3 E4 E5 KO KT k1 k2 k3 k4 k5
            obtain ⟨t0, t1, t2, t3, s0, s1, s2, s3, -, -, -, -⟩ := hH6.cells
            cases x <;> cases v
            · clear q2 q3 KX
              go_wp2_with fail
              go_quiet (fail)
              go_wp2_with fail
              go_ret
              exact ⟨rfl, below_drewN hH6.below _⟩
            · clear q2 q3 KX
              go_wp2_with fail
              go_quiet (fail)
              go_wp2_with fail
              go_ret
              exact ⟨rfl, below_drewN hH6.below _⟩
            · cases y
              · clear q2 q3 KX
                go_wp2_with fail
                go_quiet (fail)
                go_wp2_with fail
                go_ret
                exact ⟨rfl, below_drewN hH6.below _⟩
              · obtain rfl := q2 rfl rfl
                clear q2 q3 KX
                go_wp2_with fail
                go_quiet (fail)
                go_wp2_with fail
                go_ret
                exact ⟨rfl, below_drewN hH6.below _⟩
            · obtain ⟨HX, HY⟩ := KX (q3 rfl rfl)
              have HXh := Lib.hid HX; have HYh := Lib.hid HY
              clear KX q3 HX HY
              have HX := HXh; have HY := HYh
              clear HXh HYh
              cases y
              · clear q2
                go_wp2_with fail
                refine wp_region_held_drew (S := (fun wx => Three w wx (tagCs a.lang a.script a.region A n k) (tagCs b.lang b.script b.region A' n' k') (tagCs c.lang c.script c.region A'' n'' k'') ∧
                    wx.cell? ⟨w.heap.size, 0, none⟩ = some (.string a.lang) ∧ wx.cell? ⟨w.heap.size, 1, none⟩ = some (.string a.script) ∧ wx.cell? ⟨w.heap.size, 2, none⟩ = some (.string a.region) ∧ wx.cell? ⟨w.heap.size, 3, none⟩ = some (.slice A n k) ∧
                    wx.cell? ⟨w.heap.size + 1, 0, none⟩ = some (.string b.lang) ∧ wx.cell? ⟨w.heap.size + 1, 1, none⟩ = some (.string b.script) ∧ wx.cell? ⟨w.heap.size + 1, 2, none⟩ = some (.string b.region) ∧ wx.cell? ⟨w.heap.size + 1, 3, none⟩ = some (.slice A' n' k'))) (by kernel_rfl) (Three.all (Three.drew hH6)) (fun hHeld => ?_)
                have hT6 := hHeld.1
                refine wpAnyH_take (i := 0) (oi := { dst := some 69, op := Op.move (Operand.tmp 16), type := 4, pos := "words.go:119", after := #[], guard := none }) (v := ?_) rfl (by kernel_rfl) (by kernel_rfl) (by kernel_rfl) (fun _ _ _ h => h) (Or.inl ⟨by rfl, ?_⟩) (by assumption) ?_
                rotate_left
                · intro w0 hSw; (try dsimp only at hSw); go_simp; (try with_reducible rfl)
                simp only [Act.put, List.setIfInBounds_toArray, List.set_cons_zero, List.set_cons_succ]
                refine wpAnyH_take (i := 1) (oi := { dst := some 70, op := Op.move (Operand.tmp 69), type := 4, pos := "words.go:119", after := #[{ on := 0, ground := Ground.data }], guard := none }) (v := ?_) rfl (by kernel_rfl) (by kernel_rfl) (by kernel_rfl) (fun _ _ _ h => h) (Or.inl ⟨by rfl, ?_⟩) (by assumption) ?_
                rotate_left
                · intro w0 hSw; (try dsimp only at hSw); go_simp; (try with_reducible rfl)
                simp only [Act.put, List.setIfInBounds_toArray, List.set_cons_zero, List.set_cons_succ]
                refine wpAnyH_take (i := 2) (oi := { dst := some 71, op := Op.move (Operand.tmp 8), type := 4, pos := "words.go:119", after := #[{ on := 1, ground := Ground.guard }], guard := some (1, true) }) (v := ?_) rfl (by kernel_rfl) (by kernel_rfl) (by kernel_rfl) (fun _ _ _ h => h) (Or.inl ⟨by rfl, ?_⟩) (by assumption) ?_
                rotate_left
                · intro w0 hSw; (try dsimp only at hSw); go_simp; (try with_reducible rfl)
                simp only [Act.put, List.setIfInBounds_toArray, List.set_cons_zero, List.set_cons_succ]
                refine wpAnyH_take (i := 3) (oi := { dst := some 72, op := Op.unOp UnOp.not 4 (Operand.tmp 71), type := 4, pos := "words.go:119", after := #[{ on := 2, ground := Ground.data }, { on := 1, ground := Ground.guard }], guard := some (1, true) }) (v := ?_) rfl (by kernel_rfl) (by kernel_rfl) (by kernel_rfl) (fun _ _ _ h => h) (Or.inl ⟨by rfl, ?_⟩) (by assumption) ?_
                rotate_left
                · intro w0 hSw; (try dsimp only at hSw); go_simp; (try with_reducible rfl)
                simp only [Act.put, List.setIfInBounds_toArray, List.set_cons_zero, List.set_cons_succ]
                refine wpAnyH_take (i := 4) (oi := { dst := some 73, op := Op.move (Operand.tmp 72), type := 4, pos := "words.go:119", after := #[{ on := 3, ground := Ground.data }, { on := 1, ground := Ground.chain }, { on := 1, ground := Ground.guard }], guard := some (1, true) }) (v := ?_) rfl (by kernel_rfl) (by kernel_rfl) (by kernel_rfl) (fun _ _ _ h => h) (Or.inl ⟨by rfl, ?_⟩) (by assumption) ?_
                rotate_left
                · intro w0 hSw; (try dsimp only at hSw); go_simp; (try with_reducible rfl)
                simp only [Act.put, List.setIfInBounds_toArray, List.set_cons_zero, List.set_cons_succ]
                refine wpAnyH_take (i := 5) (oi := { dst := some 74, op := Op.move (Operand.tmp 10), type := 4, pos := "words.go:119", after := #[{ on := 4, ground := Ground.guard }], guard := some (4, false) }) (v := ?_) rfl (by kernel_rfl) (by kernel_rfl) (by kernel_rfl) (fun _ _ _ h => h) (Or.inl ⟨by rfl, ?_⟩) (by assumption) ?_
                rotate_left
                · intro w0 hSw; (try dsimp only at hSw); go_simp; (try with_reducible rfl)
                simp only [Act.put, List.setIfInBounds_toArray, List.set_cons_zero, List.set_cons_succ]
                refine wpAnyH_take (i := 6) (oi := { dst := some 75, op := Op.unOp UnOp.not 4 (Operand.tmp 74), type := 4, pos := "words.go:119", after := #[{ on := 5, ground := Ground.data }, { on := 4, ground := Ground.guard }], guard := some (4, false) }) (v := ?_) rfl (by kernel_rfl) (by kernel_rfl) (by kernel_rfl) (fun _ _ _ h => h) (Or.inl ⟨by rfl, ?_⟩) (by assumption) ?_
                rotate_left
                · intro w0 hSw; (try dsimp only at hSw); go_simp; (try with_reducible rfl)
                simp only [Act.put, List.setIfInBounds_toArray, List.set_cons_zero, List.set_cons_succ]
                refine wpAnyH_take (i := 7) (oi := { dst := some 76, op := Op.pick (Operand.tmp 73) (Operand.const (Value.bool true)) (Operand.tmp 75), type := 4, pos := "words.go:119", after := #[{ on := 4, ground := Ground.data }, { on := 6, ground := Ground.data }, { on := 1, ground := Ground.guard }], guard := some (1, true) }) (v := ?_) rfl (by kernel_rfl) (by kernel_rfl) (by kernel_rfl) (fun _ _ _ h => h) (Or.inl ⟨by rfl, ?_⟩) (by assumption) ?_
                rotate_left
                · intro w0 hSw; (try dsimp only at hSw); go_simp; (try with_reducible rfl)
                simp only [Act.put, List.setIfInBounds_toArray, List.set_cons_zero, List.set_cons_succ]
                refine wpAnyH_take (i := 8) (oi := { dst := some 77, op := Op.move (Operand.tmp 76), type := 4, pos := "words.go:119", after := #[{ on := 7, ground := Ground.data }, { on := 4, ground := Ground.chain }, { on := 1, ground := Ground.guard }], guard := some (1, true) }) (v := ?_) rfl (by kernel_rfl) (by kernel_rfl) (by kernel_rfl) (fun _ _ _ h => h) (Or.inl ⟨by rfl, ?_⟩) (by assumption) ?_
                rotate_left
                · intro w0 hSw; (try dsimp only at hSw); go_simp; (try with_reducible rfl)
                simp only [Act.put, List.setIfInBounds_toArray, List.set_cons_zero, List.set_cons_succ]
                refine wpAnyH_take (i := 9) (oi := { dst := some 78, op := Op.move (Operand.tmp 12), type := 4, pos := "words.go:119", after := #[{ on := 8, ground := Ground.guard }], guard := some (8, false) }) (v := undef) rfl (by kernel_rfl) (by kernel_rfl) (by kernel_rfl) (fun _ _ _ h => h) (Or.inr ⟨by rfl, rfl⟩) (by assumption) ?_
                simp only [Act.put, List.setIfInBounds_toArray, List.set_cons_zero, List.set_cons_succ]
                refine wpAnyH_take (i := 10) (oi := { dst := some 79, op := Op.pick (Operand.tmp 77) (Operand.const (Value.bool true)) (Operand.tmp 78), type := 4, pos := "words.go:119", after := #[{ on := 8, ground := Ground.data }, { on := 9, ground := Ground.data }, { on := 1, ground := Ground.guard }], guard := some (1, true) }) (v := ?_) rfl (by kernel_rfl) (by kernel_rfl) (by kernel_rfl) (fun _ _ _ h => h) (Or.inl ⟨by rfl, ?_⟩) (by assumption) ?_
                rotate_left
                · intro w0 hSw; (try dsimp only at hSw); go_simp; (try with_reducible rfl)
                simp only [Act.put, List.setIfInBounds_toArray, List.set_cons_zero, List.set_cons_succ]
                refine wpAnyH_take (i := 11) (oi := { dst := some 80, op := Op.pick (Operand.tmp 70) (Operand.tmp 79) (Operand.const (Value.bool false)), type := 4, pos := "words.go:119", after := #[{ on := 1, ground := Ground.data }, { on := 10, ground := Ground.data }], guard := none }) (v := ?_) rfl (by kernel_rfl) (by kernel_rfl) (by kernel_rfl) (fun _ _ _ h => h) (Or.inl ⟨by rfl, ?_⟩) (by assumption) ?_
                rotate_left
                · intro w0 hSw; (try dsimp only at hSw); go_simp; (try with_reducible rfl)
                simp only [Act.put, List.setIfInBounds_toArray, List.set_cons_zero, List.set_cons_succ]
                refine wpAnyH_take (i := 12) (oi := { dst := some 81, op := Op.move (Operand.tmp 80), type := 4, pos := "words.go:119", after := #[{ on := 11, ground := Ground.data }, { on := 8, ground := Ground.chain }], guard := none }) (v := ?_) rfl (by kernel_rfl) (by kernel_rfl) (by kernel_rfl) (fun _ _ _ h => h) (Or.inl ⟨by rfl, ?_⟩) (by assumption) ?_
                rotate_left
                · intro w0 hSw; (try dsimp only at hSw); go_simp; (try with_reducible rfl)
                simp only [Act.put, List.setIfInBounds_toArray, List.set_cons_zero, List.set_cons_succ]
                refine wpAnyH_take (i := 13) (oi := { dst := some 82, op := Op.move (Operand.tmp 8), type := 4, pos := "words.go:119", after := #[{ on := 12, ground := Ground.guard }], guard := some (12, true) }) (v := ?_) rfl (by kernel_rfl) (by kernel_rfl) (by kernel_rfl) (fun _ _ _ h => h) (Or.inl ⟨by rfl, ?_⟩) (by assumption) ?_
                rotate_left
                · intro w0 hSw; (try dsimp only at hSw); go_simp; (try with_reducible rfl)
                simp only [Act.put, List.setIfInBounds_toArray, List.set_cons_zero, List.set_cons_succ]
                refine wpAnyH_take (i := 14) (oi := { dst := some 83, op := Op.unOp UnOp.not 4 (Operand.tmp 82), type := 4, pos := "words.go:119", after := #[{ on := 13, ground := Ground.data }, { on := 12, ground := Ground.guard }], guard := some (12, true) }) (v := ?_) rfl (by kernel_rfl) (by kernel_rfl) (by kernel_rfl) (fun _ _ _ h => h) (Or.inl ⟨by rfl, ?_⟩) (by assumption) ?_
                rotate_left
                · intro w0 hSw; (try dsimp only at hSw); go_simp; (try with_reducible rfl)
                simp only [Act.put, List.setIfInBounds_toArray, List.set_cons_zero, List.set_cons_succ]
                refine wpAnyH_take (i := 15) (oi := { dst := some 84, op := Op.move (Operand.tmp 83), type := 4, pos := "words.go:119", after := #[{ on := 14, ground := Ground.data }, { on := 12, ground := Ground.chain }, { on := 12, ground := Ground.guard }], guard := some (12, true) }) (v := ?_) rfl (by kernel_rfl) (by kernel_rfl) (by kernel_rfl) (fun _ _ _ h => h) (Or.inl ⟨by rfl, ?_⟩) (by assumption) ?_
                rotate_left
                · intro w0 hSw; (try dsimp only at hSw); go_simp; (try with_reducible rfl)
                simp only [Act.put, List.setIfInBounds_toArray, List.set_cons_zero, List.set_cons_succ]
                refine wpAnyH_take (i := 16) (oi := { dst := some 85, op := Op.move (Operand.tmp 14), type := 4, pos := "words.go:119", after := #[{ on := 15, ground := Ground.guard }], guard := some (15, false) }) (v := ?_) rfl (by kernel_rfl) (by kernel_rfl) (by kernel_rfl) (fun _ _ _ h => h) (Or.inl ⟨by rfl, ?_⟩) (by assumption) ?_
                rotate_left
                · intro w0 hSw; (try dsimp only at hSw); go_simp; (try with_reducible rfl)
                simp only [Act.put, List.setIfInBounds_toArray, List.set_cons_zero, List.set_cons_succ]
                refine wpAnyH_take (i := 17) (oi := { dst := some 86, op := Op.unOp UnOp.not 4 (Operand.tmp 85), type := 4, pos := "words.go:119", after := #[{ on := 16, ground := Ground.data }, { on := 15, ground := Ground.guard }], guard := some (15, false) }) (v := ?_) rfl (by kernel_rfl) (by kernel_rfl) (by kernel_rfl) (fun _ _ _ h => h) (Or.inl ⟨by rfl, ?_⟩) (by assumption) ?_
                rotate_left
                · intro w0 hSw; (try dsimp only at hSw); go_simp; (try with_reducible rfl)
                simp only [Act.put, List.setIfInBounds_toArray, List.set_cons_zero, List.set_cons_succ]
                refine wpAnyH_take (i := 18) (oi := { dst := some 87, op := Op.pick (Operand.tmp 84) (Operand.const (Value.bool true)) (Operand.tmp 86), type := 4, pos := "words.go:119", after := #[{ on := 15, ground := Ground.data }, { on := 17, ground := Ground.data }, { on := 12, ground := Ground.guard }], guard := some (12, true) }) (v := ?_) rfl (by kernel_rfl) (by kernel_rfl) (by kernel_rfl) (fun _ _ _ h => h) (Or.inl ⟨by rfl, ?_⟩) (by assumption) ?_
                rotate_left
                · intro w0 hSw; (try dsimp only at hSw); go_simp; (try with_reducible rfl)
                simp only [Act.put, List.setIfInBounds_toArray, List.set_cons_zero, List.set_cons_succ]
                refine wpAnyH_take (i := 19) (oi := { dst := some 88, op := Op.move (Operand.tmp 87), type := 4, pos := "words.go:119", after := #[{ on := 18, ground := Ground.data }, { on := 15, ground := Ground.chain }, { on := 12, ground := Ground.guard }], guard := some (12, true) }) (v := ?_) rfl (by kernel_rfl) (by kernel_rfl) (by kernel_rfl) (fun _ _ _ h => h) (Or.inl ⟨by rfl, ?_⟩) (by assumption) ?_
                rotate_left
                · intro w0 hSw; (try dsimp only at hSw); go_simp; (try with_reducible rfl)
                simp only [Act.put, List.setIfInBounds_toArray, List.set_cons_zero, List.set_cons_succ]
                refine wpAnyH_take (i := 20) (oi := { dst := some 89, op := Op.load 24 (Operand.tmp 3), type := 24, pos := "words.go:119", after := #[{ on := 19, ground := Ground.guard }], guard := some (19, false) }) (v := ?_) rfl (by kernel_rfl) (by kernel_rfl) (by kernel_rfl) (fun _ _ _ h => h) (Or.inl ⟨by rfl, ?_⟩) (by assumption) ?_
                rotate_left
                · intro w0 hSw; (try dsimp only at hSw); go_simp; (try with_reducible rfl)
                simp only [Act.put, List.setIfInBounds_toArray, List.set_cons_zero, List.set_cons_succ]
                refine wpAnyH_take (i := 22) (oi := { dst := some 91, op := Op.load 24 (Operand.tmp 4), type := 24, pos := "words.go:119", after := #[{ on := 19, ground := Ground.guard }], guard := some (19, false) }) (v := ?_) rfl (by kernel_rfl) (by kernel_rfl) (by kernel_rfl) (fun _ _ _ h => h) (Or.inl ⟨by rfl, ?_⟩) (by assumption) ?_
                rotate_left
                · intro w0 hSw; (try dsimp only at hSw); go_simp; (try with_reducible rfl)
                simp only [Act.put, List.setIfInBounds_toArray, List.set_cons_zero, List.set_cons_succ]
                refine wpAnyH_ready (rs := [21]) (by kernel_rfl) (by simp) ?_
                refine AllReadyH.cons (o := { dst := some 90, op := Op.call { callee := Callee.value (Operand.func 17), args := #[Operand.tmp 89], argTypes := #[24] }, type := 9, pos := "words.go:119", after := #[{ on := 20, ground := Ground.data }, { on := 19, ground := Ground.chain }, { on := 19, ground := Ground.guard }], guard := some (19, false) }) rfl (fun K hK => ?_) AllReadyH.nil
                · rw [if_pos (by rfl)]
                  go_simp
                  (go_at_call 17; (with_reducible refine (HX.out _ ?_).mono ?_); (first | exact Three.below (by assumption) | exact Three.below (Three.drew (by assumption))); rintro e wy ⟨rfl, hbwy⟩; (have hTwy : Three w wy (tagCs a.lang a.script a.region A n k) (tagCs b.lang b.script b.region A' n' k') (tagCs c.lang c.script c.region A'' n'' k'') := by first | exact Three.later (by assumption) hbwy | exact Three.later (Three.drew (by assumption)) hbwy))
                  refine hK.out _ _ ?_ (fun hHeld => ?_)
                  · (try dsimp only); exact Three.all hTwy
                  clear hK K
                  try simp only [Act.put, List.setIfInBounds_toArray, List.set_cons_zero, List.set_cons_succ]
                  refine wpAnyH_ready (rs := [23]) (by kernel_rfl) (by simp) ?_
                  refine AllReadyH.cons (o := { dst := some 92, op := Op.call { callee := Callee.value (Operand.func 17), args := #[Operand.tmp 91], argTypes := #[24] }, type := 9, pos := "words.go:119", after := #[{ on := 22, ground := Ground.data }, { on := 21, ground := Ground.chain }, { on := 19, ground := Ground.guard }], guard := some (19, false) }) rfl (fun K hK => ?_) AllReadyH.nil
                  rw [if_pos (by rfl)]
                  go_simp
                  (go_at_call 17; (with_reducible refine (HY.out _ ?_).mono ?_); (first | exact Three.below (by assumption) | exact Three.below (Three.drew (by assumption))); rintro e wz ⟨rfl, hbwz⟩; (have hTwz : Three w wz (tagCs a.lang a.script a.region A n k) (tagCs b.lang b.script b.region A' n' k') (tagCs c.lang c.script c.region A'' n'' k'') := by first | exact Three.later (by assumption) hbwz | exact Three.later (Three.drew (by assumption)) hbwz))
                  refine hK.out _ _ ?_ (fun hHeld => ?_)
                  · (try dsimp only); exact Three.all hTwz
                  clear hK K
                  try simp only [Act.put, List.setIfInBounds_toArray, List.set_cons_zero, List.set_cons_succ]
                  refine wpAnyH_take (i := 24) (oi := { dst := some 93, op := Op.binOp BinOp.eql 9 (Operand.tmp 90) (Operand.tmp 92) 9, type := 4, pos := "words.go:119", after := #[{ on := 21, ground := Ground.data }, { on := 23, ground := Ground.data }, { on := 19, ground := Ground.guard }], guard := some (19, false) }) (v := ?_) rfl (by kernel_rfl) (by kernel_rfl) (by kernel_rfl) (fun _ _ _ h => h) (Or.inl ⟨by rfl, ?_⟩) (by assumption) ?_
                  rotate_left
                  · intro w0 hSw; (try dsimp only at hSw); go_simp; (try with_reducible rfl)
                  simp only [Act.put, List.setIfInBounds_toArray, List.set_cons_zero, List.set_cons_succ]
                  refine wpAnyH_take (i := 25) (oi := { dst := some 94, op := Op.pick (Operand.tmp 88) (Operand.const (Value.bool true)) (Operand.tmp 93), type := 4, pos := "words.go:119", after := #[{ on := 19, ground := Ground.data }, { on := 24, ground := Ground.data }, { on := 12, ground := Ground.guard }], guard := some (12, true) }) (v := ?_) rfl (by kernel_rfl) (by kernel_rfl) (by kernel_rfl) (fun _ _ _ h => h) (Or.inl ⟨by rfl, ?_⟩) (by assumption) ?_
                  rotate_left
                  · intro w0 hSw; (try dsimp only at hSw); go_simp; (try with_reducible rfl)
                  simp only [Act.put, List.setIfInBounds_toArray, List.set_cons_zero, List.set_cons_succ]
                  refine wpAnyH_take (i := 26) (oi := { dst := some 95, op := Op.pick (Operand.tmp 81) (Operand.tmp 94) (Operand.const (Value.bool false)), type := 4, pos := "words.go:119", after := #[{ on := 12, ground := Ground.data }, { on := 25, ground := Ground.data }], guard := none }) (v := ?_) rfl (by kernel_rfl) (by kernel_rfl) (by kernel_rfl) (fun _ _ _ h => h) (Or.inl ⟨by rfl, ?_⟩) (by assumption) ?_
                  rotate_left
                  · intro w0 hSw; (try dsimp only at hSw); go_simp; (try with_reducible rfl)
                  simp only [Act.put, List.setIfInBounds_toArray, List.set_cons_zero, List.set_cons_succ]
                  refine wpAnyH_take (i := 27) (oi := { dst := some 6, op := Op.assign (Operand.tmp 95), type := 4, pos := "words.go:119", after := #[{ on := 26, ground := Ground.data }, { on := 23, ground := Ground.chain }, { on := 0, ground := Ground.phase }, { on := 1, ground := Ground.phase }, { on := 2, ground := Ground.phase }, { on := 3, ground := Ground.phase }, { on := 4, ground := Ground.phase }, { on := 5, ground := Ground.phase }, { on := 6, ground := Ground.phase }, { on := 7, ground := Ground.phase }, { on := 8, ground := Ground.phase }, { on := 9, ground := Ground.phase }, { on := 10, ground := Ground.phase }, { on := 11, ground := Ground.phase }, { on := 12, ground := Ground.phase }, { on := 13, ground := Ground.phase }, { on := 14, ground := Ground.phase }, { on := 15, ground := Ground.phase }, { on := 16, ground := Ground.phase }, { on := 17, ground := Ground.phase }, { on := 18, ground := Ground.phase }, { on := 19, ground := Ground.phase }, { on := 20, ground := Ground.phase }, { on := 21, ground := Ground.phase }, { on := 22, ground := Ground.phase }, { on := 23, ground := Ground.phase }, { on := 24, ground := Ground.phase }, { on := 25, ground := Ground.phase }, { on := 26, ground := Ground.phase }], guard := none }) (v := ?_) rfl (by kernel_rfl) (by kernel_rfl) (by kernel_rfl) (fun _ _ _ h => h) (Or.inl ⟨by rfl, ?_⟩) (by assumption) ?_
                  rotate_left
                  · intro w0 hSw; (try dsimp only at hSw); go_simp; (try with_reducible rfl)
                  simp only [Act.put, List.setIfInBounds_toArray, List.set_cons_zero, List.set_cons_succ]
                  refine wpAnyH_done (by kernel_rfl) ?_ _
                  go_wp2_with fail
                  go_ret
                  exact ⟨rfl, hTwz.below⟩
              · obtain rfl := q2 rfl rfl
                clear q2
                go_wp2_with fail
                first | (go_region_held3 (fun wx => Three w wx (tagCs a.lang a.script a.region A n k) (tagCs b.lang b.script b.region A' n' k') (tagCs c.lang c.script c.region A'' n'' k'') ∧
                        wx.cell? ⟨w.heap.size, 0, none⟩ = some (.string a.lang) ∧ wx.cell? ⟨w.heap.size, 1, none⟩ = some (.string a.script) ∧ wx.cell? ⟨w.heap.size, 2, none⟩ = some (.string a.region) ∧ wx.cell? ⟨w.heap.size, 3, none⟩ = some (.slice A n k) ∧
                        wx.cell? ⟨w.heap.size + 1, 0, none⟩ = some (.string b.lang) ∧ wx.cell? ⟨w.heap.size + 1, 1, none⟩ = some (.string b.script) ∧ wx.cell? ⟨w.heap.size + 1, 2, none⟩ = some (.string b.region) ∧ wx.cell? ⟨w.heap.size + 1, 3, none⟩ = some (.slice A' n' k'))
                      (first | exact Three.all (by assumption) | exact Three.all (Three.drew (by assumption)))
                      (first
                        | (go_at_call 17; (with_reducible refine (HX.out _ ?_).mono ?_); (first | exact Three.below (by assumption) | exact Three.below (Three.drew (by assumption))); rintro e wy ⟨rfl, hby⟩; (have hTy : Three w wy (tagCs a.lang a.script a.region A n k) (tagCs b.lang b.script b.region A' n' k') (tagCs c.lang c.script c.region A'' n'' k'') := by first | exact Three.later (by assumption) hby | exact Three.later (Three.drew (by assumption)) hby))
                        | (go_at_call 17; (with_reducible refine (HY.out _ ?_).mono ?_); (first | exact Three.below (by assumption) | exact Three.below (Three.drew (by assumption))); rintro e wz ⟨rfl, hbz⟩; (have hTz : Three w wz (tagCs a.lang a.script a.region A n k) (tagCs b.lang b.script b.region A' n' k') (tagCs c.lang c.script c.region A'' n'' k'') := by first | exact Three.later (by assumption) hbz | exact Three.later (Three.drew (by assumption)) hbz)))) | fail
                all_goals
                  go_wp2_with fail
                  go_ret
                  exact ⟨rfl, Three.below (by first | assumption | exact Three.drew (by assumption))⟩
          · clear E1 E2 E3 E4 E5 KO KT
            go_wp2_with fail
            go_ret
            exact ⟨rfl, hH6.below⟩
        · clear E1 E2 E3 E4 E5 KO KT
          go_wp2_with fail
          go_ret
          exact ⟨rfl, hH6.below⟩
      · clear E1 E2 E3 E4 E5 KO KT
        go_wp2_with fail
        go_ret
        exact ⟨rfl, hH6.below⟩
    · clear E1 E2 E3 E4 E5 KO KT
      go_wp2_with fail
      go_ret
      exact ⟨rfl, hH6.below⟩
  · clear E1 E2 E3 E4 E5 KO KT
    go_wp2_with fail
    go_ret
    exact ⟨rfl, hH6.below⟩
end Go.Proofs.YtlmldcjgjogoiaaDoor
