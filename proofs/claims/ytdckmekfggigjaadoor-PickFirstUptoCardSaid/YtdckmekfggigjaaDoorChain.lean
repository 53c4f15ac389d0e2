/- The program's own and shorter: the same tag with variants of its own; the tag without its last part. -/
import Derived.Test.YtdckmekfggigjaaDoorSEqual
namespace Go.Proofs.YtdckmekfggigjaaDoor
open Go.RowKit Go.Maps
attribute [local go_sem ↓] Go.wp_at_zero Go.wp_at_succ

/-- four cells of a box are written -/
def put4 (w : World) (g : Nat) (v0 v1 v2 v3 : Value) : World := (((w.setCell ⟨g, 0, none⟩ v0).setCell ⟨g, 1, none⟩ v1).setCell ⟨g, 2, none⟩ v2).setCell ⟨g, 3, none⟩ v3
theorem grown_set (w : World) (g i : Nat) (u : Value) : w.grownBy (w.setCell ⟨g, i, none⟩ u) (some g) :=
  ⟨rfl, rfl, rfl, by simp, fun k _ hk => heap_setCell_other w ⟨g, i, none⟩ k u (fun e => hk (by simp [e]))⟩
section
variable {w : World} {g : Nat} {v0 v1 v2 v3 : Value}
theorem put4_blk {t : TypeId} {a b c d : Value} (h : Blk w g t #[a, b, c, d]) : Blk (put4 w g v0 v1 v2 v3) g t #[v0, v1, v2, v3] := by
  have := (((h.set_ 0 v0).set_ 1 v1).set_ 2 v2).set_ 3 v3
  simpa [put4] using this
theorem put4_below {B : Nat} (h : B ≤ g) : Below B w (put4 w g v0 v1 v2 v3) := ((((Below.refl _ _).setCell h _).setCell h _).setCell h _).setCell h _
theorem own_set {base : Nat} {e : TypeId} {size n i : Nat} {v u : Value} {xs : List Value} (h : w.ownsRow base e size v n xs) (hg : v.ownBlock ≠ some g) : (w.setCell ⟨g, i, none⟩ u).ownsRow base e size v n xs := h.kept (grown_set w g i u) (.inr hg)
theorem put4_own {base : Nat} {e : TypeId} {size n : Nat} {v : Value} {xs : List Value} (h : w.ownsRow base e size v n xs) (hg : v.ownBlock ≠ some g) : (put4 w g v0 v1 v2 v3).ownsRow base e size v n xs :=
  own_set (own_set (own_set (own_set h hg) hg) hg) hg
end

def OwnPost (w : World) (t : TagB) (e : Ending) (w' : World) : Prop :=
  ∃ (A : Option Addr) (c : Nat), e = .returned (tagV t.lang t.script t.region A t.vars.length c) ∧ t.vars.length ≤ c ∧ w'.ownsRow w.heap.size 9 1 (.slice A t.vars.length c) t.vars.length (sv t.vars) ∧ Below w.heap.size w w'

set_option maxHeartbeats 4000000 in
set_option maxRecDepth 100000 in
theorem own_any (t : TagB) (A : Option Addr) (n c : Nat) (w : World) (h : Reads w w.heap.size 1 A n (sv t.vars)) (hn : Few n) :
    Calls Tryd.prog 41 #[tagV t.lang t.script t.region A n c] w (OwnPost w t) := by
  obtain ⟨i0, hi0, hz0, hz1, hz2⟩ := info_parts str_info
  obtain ⟨L, S, R, vs⟩ := t
  unfold OwnPost
  dsimp only at *
  unfold tagV
  have hl := h.len
  have ha := (h.alloc (Nat.le_refl _) (.cells #[.string L, .string S, .string R, .slice A n c] 29)).alloc (by simp) (.cells #[.string ⟨#[]⟩, .string ⟨#[]⟩, .string ⟨#[]⟩, .slice none 0 0] 29)
  have hb : Below w.heap.size w ((w.alloc (.cells #[.string L, .string S, .string R, .slice A n c] 29)).alloc (.cells #[.string ⟨#[]⟩, .string ⟨#[]⟩, .string ⟨#[]⟩, .slice none 0 0] 29)) := ((Below.refl _ _).alloc (Nat.le_refl _) _).alloc (by simp) _
  have h1 : Blk ((w.alloc (.cells #[.string L, .string S, .string R, .slice A n c] 29)).alloc (.cells #[.string ⟨#[]⟩, .string ⟨#[]⟩, .string ⟨#[]⟩, .slice none 0 0] 29)) w.heap.size 29 #[.string L, .string S, .string R, .slice A n c] := (Blk.new _ _ _).alloc _
  have h2 : Blk ((w.alloc (.cells #[.string L, .string S, .string R, .slice A n c] 29)).alloc (.cells #[.string ⟨#[]⟩, .string ⟨#[]⟩, .string ⟨#[]⟩, .slice none 0 0] 29)) (w.heap.size + 1) 29 #[.string ⟨#[]⟩, .string ⟨#[]⟩, .string ⟨#[]⟩, .slice none 0 0] := by
    have := Blk.new (w.alloc (.cells #[.string L, .string S, .string R, .slice A n c] 29)) 29 #[.string ⟨#[]⟩, .string ⟨#[]⟩, .string ⟨#[]⟩, .slice none 0 0]
    simpa using this
  have HN := Lib.hid hn
  have HL := Lib.hid hl
  clear hl hn h
  go_enter Tryd.func41, Tryd.ntmps41
  go_wp2_with (at_builtin; refine wpList_append_any _ rfl (.const (.slice none 0 0)) (.tmp 4) _ rfl w.heap.size 9 i0 _ 1 16 Tryd.underlying27 hi0 hz0 hz1 hz2 rfl (by omega) (.slice none 0 0) 0 [] rfl (World.ownsRow_nil _ _ _ _) w.heap.size A n c (sv vs) rfl ha (sv_one _) (by have := HN.out; unfold maxLen Few at *; omega) (by have := HN.out; unfold Few at *; omega) (by simp; omega) ?_; intro v1 w1 hown1 hg1 hat1; obtain ⟨A1, cx, rfl, hcx, hr1⟩ := own_form hown1; (have hB1 := h1.grown hg1 (by simp [Value.ownBlock])); (have hB2 := h2.grown hg1 (by simp [Value.ownBlock])); (have c0 := hB1.cell 0); (have c1 := hB1.cell 1); (have c2 := hB1.cell 2); (have c3 := hB1.cell 3); (have f3 := hB1.frozen 3); (have d0 := hB2.cell 0); (have d1 := hB2.cell 1); (have d2 := hB2.cell 2); (have d3 := hB2.cell 3); (have f0 := hB2.frozen 0); (have f1 := hB2.frozen 1); (have f2 := hB2.frozen 2); (have f33 := hB2.frozen 3); simp at c0 c1 c2 c3 d0 d1 d2 d3)
  have hne := own_blk_ne hown1 hB1 (by decide)
  have hne2 := own_blk_ne hown1 hB2 (by decide)
  change bodyPost _ _ _ _ _ (put4 (w1.setCell ⟨w.heap.size, 3, none⟩ (.slice A1 n cx)) (w.heap.size + 1) (.string L) (.string S) (.string R) (.slice A1 n cx))
  have hres := put4_blk (v0 := .string L) (v1 := .string S) (v2 := .string R) (v3 := .slice A1 n cx) (hB2.far (p := ⟨w.heap.size, 3, none⟩) (by simp) (.slice A1 n cx))
  have hbl : Below w.heap.size w (put4 (w1.setCell ⟨w.heap.size, 3, none⟩ (.slice A1 n cx)) (w.heap.size + 1) (.string L) (.string S) (.string R) (.slice A1 n cx)) :=
    ((hb.grown hg1 (by simp; omega) (fun j hj => by simp [Value.ownBlock] at hj)).setCell (Nat.le_refl _) _).trans (put4_below (by omega))
  have hown2 := put4_own (v0 := .string L) (v1 := .string S) (v2 := .string R) (v3 := .slice A1 n cx) (own_set (i := 3) (u := .slice A1 n cx) hown1 hne) hne2
  have z0 := hres.cell 0
  have z1 := hres.cell 1
  have z2 := hres.cell 2
  have z3 := hres.cell 3
  simp at z0 z1 z2 z3
  have e : n = vs.length := HL.out.symm
  subst e
  refine bodyPost_ret (v := .agg #[.string L, .string S, .string R, .slice A1 vs.length cx]) (by simp [results, Tryd.results41, go_sem, z0, z1, z2, z3]) rfl ⟨A1, cx, rfl, by omega, by simpa using hown2, hbl⟩

theorem Reads.take {w : World} {B n k : Nat} {A : Option Addr} {xs : List Value} (h : Reads w B 1 A n xs) (hk : k ≤ n) : Reads w B 1 A k (xs.take k) :=
  ⟨by have := h.1; simp; omega, fun hk0 => by
    obtain ⟨ad, e, hb, hc⟩ := h.2 (by omega)
    refine ⟨ad, e, hb, fun j u hu => hc j u ?_⟩
    rw [List.getElem?_take] at hu
    split at hu
    · exact hu
    · cases hu⟩
theorem sv_take (vs : List ByteArray) (k : Nat) : (sv vs).take k = sv (vs.take k) := by simp [sv]

/-- two boxes of tags that the call makes -/
abbrev boxed (w : World) (L S R : ByteArray) (A : Option Addr) (n c : Nat) : World :=
  (w.alloc (.cells #[.string L, .string S, .string R, .slice A n c] 29)).alloc (.cells #[.string ⟨#[]⟩, .string ⟨#[]⟩, .string ⟨#[]⟩, .slice none 0 0] 29)
section
variable (w : World) (L S R : ByteArray) (A : Option Addr) (n c : Nat)
theorem boxed_below : Below w.heap.size w (boxed w L S R A n c) := ((Below.refl _ _).alloc (Nat.le_refl _) _).alloc (by simp) _
theorem boxed_one : Blk (boxed w L S R A n c) w.heap.size 29 #[.string L, .string S, .string R, .slice A n c] := (Blk.new _ _ _).alloc _
theorem boxed_two : Blk (boxed w L S R A n c) (w.heap.size + 1) 29 #[.string ⟨#[]⟩, .string ⟨#[]⟩, .string ⟨#[]⟩, .slice none 0 0] := by
  have := Blk.new (w.alloc (.cells #[.string L, .string S, .string R, .slice A n c] 29)) 29 #[.string ⟨#[]⟩, .string ⟨#[]⟩, .string ⟨#[]⟩, .slice none 0 0]
  simpa using this
theorem boxed_reads {vs : List ByteArray} (h : Reads w w.heap.size 1 A n (sv vs)) : Reads (boxed w L S R A n c) w.heap.size 1 A n (sv vs) := (h.alloc (Nat.le_refl _) _).alloc (by simp) _
theorem boxed_size : (boxed w L S R A n c).heap.size = w.heap.size + 2 := by simp
end

def ShortPost (w : World) (u : TagB) (e : Ending) (w' : World) : Prop :=
  ∃ (A : Option Addr) (c : Nat), e = .returned (.tuple #[tagV u.lang u.script u.region A u.vars.length c, .bool true]) ∧ u.vars.length ≤ c ∧ w'.ownsRow w.heap.size 9 1 (.slice A u.vars.length c) u.vars.length (sv u.vars) ∧ Below w.heap.size w w'

theorem own_base {w : World} {base base' : Nat} {e : TypeId} {size n : Nat} {v : Value} {xs : List Value} (h : w.ownsRow base e size v n xs) (hb : base' ≤ base) : w.ownsRow base' e size v n xs := by
  refine ⟨h.1, ?_⟩
  rcases h.2 with hn | ⟨g, cap, cur, rfl, hg, rest⟩
  · exact .inl hn
  · exact .inr ⟨g, cap, cur, rfl, by omega, rest⟩
theorem short_done {w w2 : World} {L S R : ByteArray} {A A1 : Option Addr} {k c k1 c1 : Nat} {xs : List Value} (hb2 : Below (boxed w L S R A k c).heap.size (boxed w L S R A k c) w2)
    (hown : w2.ownsRow (boxed w L S R A k c).heap.size 9 1 (.slice A1 k1 c1) k1 xs) :
    Blk (put4 w2 (w.heap.size + 1) (.string L) (.string S) (.string R) (.slice A1 k1 c1)) (w.heap.size + 1) 29 #[.string L, .string S, .string R, .slice A1 k1 c1] ∧
    (put4 w2 (w.heap.size + 1) (.string L) (.string S) (.string R) (.slice A1 k1 c1)).ownsRow w.heap.size 9 1 (.slice A1 k1 c1) k1 xs ∧
    Below w.heap.size w (put4 w2 (w.heap.size + 1) (.string L) (.string S) (.string R) (.slice A1 k1 c1)) := by
  have hs := boxed_size w L S R A k c
  have h2 := (boxed_two w L S R A k c).below hb2 (by omega)
  refine ⟨put4_blk h2, put4_own (own_base hown (by omega)) (own_blk_ne hown h2 (by decide)), ((boxed_below w L S R A k c).trans (hb2.mono (by omega))).trans (put4_below (by omega))⟩
/-- the call of own within shorter -/
theorem short_call (u : TagB) (w : World) (A : Option Addr) (k c : Nat) (h : Reads w w.heap.size 1 A k (sv u.vars)) (hn : Few k) :
    Calls Tryd.prog 41 #[.agg #[.string u.lang, .string u.script, .string u.region, .slice A k c]] (boxed w u.lang u.script u.region A k c)
      fun e w2 => ∃ (A1 : Option Addr) (c1 : Nat), e = .returned (.agg #[.string u.lang, .string u.script, .string u.region, .slice A1 u.vars.length c1]) ∧ u.vars.length ≤ c1 ∧
        Blk w2 (w.heap.size + 1) 29 #[.string ⟨#[]⟩, .string ⟨#[]⟩, .string ⟨#[]⟩, .slice none 0 0] ∧
        Blk (put4 w2 (w.heap.size + 1) (.string u.lang) (.string u.script) (.string u.region) (.slice A1 u.vars.length c1)) (w.heap.size + 1) 29 #[.string u.lang, .string u.script, .string u.region, .slice A1 u.vars.length c1] ∧
        (put4 w2 (w.heap.size + 1) (.string u.lang) (.string u.script) (.string u.region) (.slice A1 u.vars.length c1)).ownsRow w.heap.size 9 1 (.slice A1 u.vars.length c1) u.vars.length (sv u.vars) ∧
        Below w.heap.size w (put4 w2 (w.heap.size + 1) (.string u.lang) (.string u.script) (.string u.region) (.slice A1 u.vars.length c1)) :=
  (own_any u A k c (boxed w u.lang u.script u.region A k c) ((boxed_reads w _ _ _ A k c h).more (by simp; omega)) hn).mono fun e w2 ⟨A1, c1, he, hc1, hown, hb2⟩ => by
    obtain ⟨d1, d2, d3⟩ := short_done hb2 hown
    exact ⟨A1, c1, he, hc1, (boxed_two w _ _ _ A k c).below hb2 (by simp), d1, d2, d3⟩

set_option maxHeartbeats 4000000 in
set_option maxRecDepth 100000 in
theorem shorter_some (t u : TagB) (hs : shortB t = some u) (A : Option Addr) (n c : Nat) (w : World) (h : Reads w w.heap.size 1 A n (sv t.vars)) (hn : Few n) (hnc : n ≤ c) :
    Calls Tryd.prog 42 #[tagV t.lang t.script t.region A n c] w (ShortPost w u) := by
  have hl := h.len
  have hc := short_cases t
  obtain ⟨L, S, R, vs⟩ := t
  dsimp only at *
  rcases hc with ⟨k1, k2⟩ | ⟨k1, k2, k3⟩ | ⟨k1, k2, k3, k4⟩ | ⟨k1, k2, k3, k4⟩
  · rw [k2] at hs; injection hs with hs; subst hs
    obtain ⟨m, rfl⟩ : ∃ m, n = m + 1 := ⟨n - 1, by have := List.length_pos_iff.2 k1; omega⟩
    obtain ⟨ad, rfl, hadb, _⟩ := h.2 (by omega)
    have hr1 := h.take (k := m) (by omega)
    rw [sv_take, show vs.take m = vs.dropLast from by rw [List.dropLast_eq_take]; congr 1; omega] at hr1
    have HC := short_call ⟨L, S, R, vs.dropLast⟩ w (some ad) m c hr1 (by unfold Few at *; omega)
    have hm6 : m ≤ 1000000 := by unfold Few at hn; omega
    have hmc : m ≤ c := by omega
    have HX := Lib.hid HC; clear HC hr1 h k1 k2 hn hnc hl
    unfold ShortPost tagV
    dsimp only at *
    generalize vs.dropLast = ys at *
    go_enter Tryd.func42, Tryd.ntmps42
    go_wp2_with (go_at_call 41; refine HX.out.mono ?_; rintro e w2 ⟨A1, c1, rfl, hc1, b1, b2, b3, b4⟩; (have d0 := b1.cell 0); (have d1 := b1.cell 1); (have d2 := b1.cell 2); (have d3 := b1.cell 3); (have f0 := b1.frozen 0); (have f1 := b1.frozen 1); (have f2 := b1.frozen 2); (have f3 := b1.frozen 3); simp at d0 d1 d2 d3)
    change bodyPost _ _ _ _ _ (put4 w2 (w.heap.size + 1) (.string L) (.string S) (.string R) (.slice A1 ys.length c1))
    have z0 := b2.cell 0
    have z1 := b2.cell 1
    have z2 := b2.cell 2
    have z3 := b2.cell 3
    simp at z0 z1 z2 z3
    exact bodyPost_ret (v := .tuple #[.agg #[.string L, .string S, .string R, .slice A1 ys.length c1], .bool true]) (by simp [results, Tryd.results42, go_sem, z0, z1, z2, z3]) rfl ⟨A1, c1, rfl, hc1, b3, b4⟩
  · rw [k3] at hs; injection hs with hs; subst hs
    have hn0 : n = 0 := by rw [← hl, k1]; rfl
    subst hn0
    have HC := short_call ⟨L, S, empB, []⟩ w A 0 c ⟨rfl, fun h => absurd h (by omega)⟩ (by unfold Few; omega)
    have hR : ¬ R.toList = [] := fun h' => k2 (ba_ext (by rw [← toList_data, h']; rfl))
    have hRe : R.toList.isEmpty = false := by simpa using hR
    have HX := Lib.hid HC; clear HC h k1 k2 k3 hn hnc hl
    unfold ShortPost tagV
    unfold empB at *
    dsimp only at *
    go_enter Tryd.func42, Tryd.ntmps42
    go_wp2_with (go_at_call 41; refine HX.out.mono ?_; rintro e w2 ⟨A1, c1, rfl, hc1, b1, b2, b3, b4⟩; (have d0 := b1.cell 0); (have d1 := b1.cell 1); (have d2 := b1.cell 2); (have d3 := b1.cell 3); (have f0 := b1.frozen 0); (have f1 := b1.frozen 1); (have f2 := b1.frozen 2); (have f3 := b1.frozen 3); simp at d0 d1 d2 d3; simp only [List.length_nil] at *)
    change bodyPost _ _ _ _ _ (put4 w2 (w.heap.size + 1) (.string L) (.string S) (.string ⟨#[]⟩) (.slice A1 0 c1))
    have z0 := b2.cell 0
    have z1 := b2.cell 1
    have z2 := b2.cell 2
    have z3 := b2.cell 3
    simp at z0 z1 z2 z3
    exact bodyPost_ret (v := .tuple #[.agg #[.string L, .string S, .string ⟨#[]⟩, .slice A1 0 c1], .bool true]) (by simp [results, Tryd.results42, go_sem, z0, z1, z2, z3]) rfl ⟨A1, c1, rfl, hc1, b3, b4⟩
  · rw [k4] at hs; injection hs with hs; subst hs
    have hn0 : n = 0 := by rw [← hl, k1]; rfl
    subst hn0
    have HC := short_call ⟨L, empB, empB, []⟩ w A 0 c ⟨rfl, fun h => absurd h (by omega)⟩ (by unfold Few; omega)
    have hR : ¬ S.toList = [] := fun h' => k3 (ba_ext (by rw [← toList_data, h']; rfl))
    have hRe : S.toList.isEmpty = false := by simpa using hR
    have HX := Lib.hid HC; clear HC h k1 k3 k4 hn hnc hl
    subst k2
    unfold ShortPost tagV
    unfold empB at *
    dsimp only at *
    go_enter Tryd.func42, Tryd.ntmps42
    go_wp2_with (go_at_call 41; refine HX.out.mono ?_; rintro e w2 ⟨A1, c1, rfl, hc1, b1, b2, b3, b4⟩; (have d0 := b1.cell 0); (have d1 := b1.cell 1); (have d2 := b1.cell 2); (have d3 := b1.cell 3); (have f0 := b1.frozen 0); (have f1 := b1.frozen 1); (have f2 := b1.frozen 2); (have f3 := b1.frozen 3); simp at d0 d1 d2 d3; simp only [List.length_nil] at *)
    change bodyPost _ _ _ _ _ (put4 w2 (w.heap.size + 1) (.string L) (.string ⟨#[]⟩) (.string ⟨#[]⟩) (.slice A1 0 c1))
    have z0 := b2.cell 0
    have z1 := b2.cell 1
    have z2 := b2.cell 2
    have z3 := b2.cell 3
    simp at z0 z1 z2 z3
    exact bodyPost_ret (v := .tuple #[.agg #[.string L, .string ⟨#[]⟩, .string ⟨#[]⟩, .slice A1 0 c1], .bool true]) (by simp [results, Tryd.results42, go_sem, z0, z1, z2, z3]) rfl ⟨A1, c1, rfl, hc1, b3, b4⟩
  · rw [k4] at hs; cases hs

set_option maxHeartbeats 4000000 in
set_option maxRecDepth 100000 in
theorem shorter_none (t : TagB) (hs : shortB t = none) (A : Option Addr) (n c : Nat) (w : World) (h : Reads w w.heap.size 1 A n (sv t.vars)) :
    Calls Tryd.prog 42 #[tagV t.lang t.script t.region A n c] w fun e w' => e = .returned (.tuple #[zeroTag, .bool false]) ∧ Below w.heap.size w w' := by
  have hl := h.len
  have hc := short_cases t
  obtain ⟨L, S, R, vs⟩ := t
  dsimp only at *
  rcases hc with ⟨k1, k2⟩ | ⟨k1, k2, k3⟩ | ⟨k1, k2, k3, k4⟩ | ⟨k1, k2, k3, k4⟩
  · rw [k2] at hs; cases hs
  · rw [k3] at hs; cases hs
  · rw [k4] at hs; cases hs
  · have hn0 : n = 0 := by rw [← hl, k1]; rfl
    subst hn0; subst k2; subst k3
    have hbl := boxed_below w L ⟨#[]⟩ ⟨#[]⟩ A 0 c
    have hB := boxed_two w L ⟨#[]⟩ ⟨#[]⟩ A 0 c
    clear h hs k1 k4 hl
    unfold tagV zeroTag
    unfold empB at *
    go_enter Tryd.func42, Tryd.ntmps42
    go_wp2_with fail
    have z0 := hB.cell 0
    have z1 := hB.cell 1
    have z2 := hB.cell 2
    have z3 := hB.cell 3
    simp at z0 z1 z2 z3
    exact bodyPost_ret (v := .tuple #[.agg #[.string ⟨#[]⟩, .string ⟨#[]⟩, .string ⟨#[]⟩, .slice none 0 0], .bool false]) (by simp [results, Tryd.results42, go_sem]) rfl ⟨rfl, hbl⟩
end Go.Proofs.YtdckmekfggigjaaDoor
