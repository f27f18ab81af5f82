/-
  Texts that a law leans on, one behind the other; no statement is proved here.
-/
import Derived.Test.YtddnncndcmnnjaaPk2
import Derived.Test.YtddnncndcmnnjaaPk7
import Derived.Deep.Cut
import Derived.Deep.MidRow
/-
  toEnv: five values copied.
-/
namespace Go.Proofs.Ytddnncndcmnnjaa
open Go.RowKit
set_option linter.unusedVariables false
set_option linter.unusedSimpArgs false

/-- What toEnv has laid: the argument's box, the answer's, the variable's. -/
def EnSt (w : World) (arg cur : Array Value) (wx : World) : Prop :=
  Below w.heap.size w wx ∧ wx.heap[w.heap.size]? = some (.cells arg 28 (0, 0)) ∧ wx.heap[w.heap.size + 1]? = some (.cells #[.int .i64 0, .int .i64 0, .slice none 0 0, .slice none 0 0, .slice none 0 0, .int .i64 0, .int .i64 0, .slice none 0 0, .slice none 0 0, .slice none 0 0, .int .i64 0, .int .i64 0, .slice none 0 0, .slice none 0 0, .slice none 0 0, .int .i64 0, .int .i64 0, .slice none 0 0, .slice none 0 0, .slice none 0 0, .int .i64 0, .int .i64 0, .slice none 0 0, .slice none 0 0, .slice none 0 0] 35 (0, 0)) ∧ wx.heap[w.heap.size + 1 + 1]? = some (.cells cur 35 (0, 0)) ∧ w.heap.size + 3 ≤ wx.heap.size

theorem ens_below {w wx w1 : World} {arg cur : Array Value} (h : EnSt w arg cur wx) (b : Below wx.heap.size wx w1) : EnSt w arg cur w1 := by
  obtain ⟨h1, h2, h3, h4, h5⟩ := h
  have hz := b.size
  exact ⟨Below.on h1 b, (b.block _ (by omega)).trans h2, (b.block _ (by omega)).trans h3, (b.block _ (by omega)).trans h4, by omega⟩

theorem ens_set {w w1 : World} {arg cur cur' : Array Value} (h : EnSt w arg cur w1) (j : Nat) (c0 c1 c2 c3 c4 : Value) (hc : ((((cur.setIfInBounds j c0).setIfInBounds (j + 1) c1).setIfInBounds (j + 2) c2).setIfInBounds (j + 3) c3).setIfInBounds (j + 4) c4 = cur') : EnSt w arg cur' (set5 w1 (w.heap.size + 1 + 1) j c0 c1 c2 c3 c4) := by
  obtain ⟨h1, h2, h3, h4, h5⟩ := h
  subst hc
  refine ⟨h1.grown (set5_grown _ _ _ _ _ _ _ _) (by omega) (by intro k hk; simp at hk; omega), ?_, ?_, set5_heap _ _ _ _ _ h4, by rw [set5_size]; exact h5⟩
  · rw [set5_other _ _ _ _ _ _ _ _ _ (by omega)]; exact h2
  · rw [set5_other _ _ _ _ _ _ _ _ _ (by omega)]; exact h3

/-- A value of the call's own lies behind the boxes. -/
def EnV (w : World) (d : Nat) (c : Value × Value × Value × Value × Value) (v : Vl d) (wx : World) : Prop := VSeg (fun b => w.heap.size + 3 ≤ b ∧ b < wx.heap.size) wx d c v
theorem EnV.below {w wx w1 : World} {d : Nat} {c : Value × Value × Value × Value × Value} {v : Vl d} (h : EnV w d c v wx) (b : Below wx.heap.size wx w1) : EnV w d c v w1 :=
  VSeg.mono (fun _ hb => ⟨hb.1, Nat.lt_of_lt_of_le hb.2 b.size⟩) d (VSeg.agree (R := fun b => w.heap.size + 3 ≤ b ∧ b < wx.heap.size) (fun k hk => b.block k hk.2) d h)
theorem EnV.set {w wx : World} {d : Nat} {c : Value × Value × Value × Value × Value} {v : Vl d} (h : EnV w d c v wx) (j : Nat) (c0 c1 c2 c3 c4 : Value) : EnV w d c v (set5 wx (w.heap.size + 1 + 1) j c0 c1 c2 c3 c4) := by
  have h2 := VSeg.agree (R := fun b => w.heap.size + 3 ≤ b ∧ b < wx.heap.size) (w' := set5 wx (w.heap.size + 1 + 1) j c0 c1 c2 c3 c4) (fun k hk => set5_other _ _ _ _ _ _ _ _ _ (by have := hk.1; omega)) d h
  unfold EnV
  rw [set5_size]
  exact h2
theorem EnV.new {w wx w1 : World} {d : Nat} {c : Value × Value × Value × Value × Value} {v : Vl d} {B : List Nat} (h : VOwn w1 d c v B) (hB : ∀ b ∈ B, wx.heap.size ≤ b ∧ b < w1.heap.size) (hw : w.heap.size + 3 ≤ wx.heap.size) : EnV w d c v w1 :=
  VSeg.mono (fun b hb => by have := hB b hb; exact ⟨by omega, this.2⟩) d (VOwn.seg d h)

theorem range_of_row {w : World} {g : Nat} {cs : List Value} {T : TypeId} {fr : Nat × Nat} (h : w.heap[g]? = some (.cells cs.toArray T fr)) : w.rangeAt g 0 cs := fun j v hv => by
  rw [Nat.zero_add, cell_of_row w g j _ _ _ h]
  simpa using hv
theorem there_of_row {w : World} {g : Nat} {cs : Array Value} {T : TypeId} (h : w.heap[g]? = some (.cells cs T (0, 0))) : w.there g 0 cs.size := fun j hj => by
  rw [Nat.zero_add, cell_of_row w g j _ _ _ h]
  exact ⟨by simp [hj], frozen_of_row _ _ _ _ _ h⟩

theorem results_cell {P : Program} {fn : Func} {tmps : Array Value} {w : World} {v : Value} {ad : Addr} (s : Nat) (t : TypeId) (hr : fn.results = #[.cell s t]) (hp : tmps.getD s undef = .pointer (some ad)) (hl : (loadVar t ad).run P w = .ok v w) : (results fn tmps).run P w = .ok v w := by
  unfold results
  rw [hr]
  simp only [Array.mapM_eq_mapM_toList, List.mapM_cons, List.mapM_nil, Sem.run_bind, Sem.run_pure, Result.andThen_ok, hp]
  simp [asAddr, hl]

theorem grown_setCells (g : Nat) : ∀ (vs : List Value) (o : Nat) (w : World), w.grownBy (w.setCells g o vs) (some g)
  | [], _, w => World.grownBy.refl w _
  | v :: r, o, w => grownBy_trans (grown1 w g o v) (grown_setCells g r (o + 1) (w.setCell ⟨g, o, none⟩ v))
theorem EnV.kept {w wx w1 : World} {d : Nat} {c : Value × Value × Value × Value × Value} {v : Vl d} (h : EnV w d c v wx) (hg : wx.grownBy w1 (some (w.heap.size + 1))) : VSeg (fun b => b < w1.heap.size) w1 d c v :=
  VSeg.mono (fun _ hb => Nat.lt_of_lt_of_le hb.2 hg.size) d (VSeg.agree (R := fun b => w.heap.size + 3 ≤ b ∧ b < wx.heap.size) (fun k hk => hg.block k hk.2 (by have := hk.1; simp; omega)) d h)

/-- What toEnv leaves. -/
def EnEnd (d : Nat) (v0 v1 v2 v3 v4 : Vl d) (w : World) (e : Ending) (w' : World) : Prop :=
  ∃ u00 u01 u02 u03 u04 u10 u11 u12 u13 u14 u20 u21 u22 u23 u24 u30 u31 u32 u33 u34 u40 u41 u42 u43 u44, e = .returned (.agg #[u00, u01, u02, u03, u04, u10, u11, u12, u13, u14, u20, u21, u22, u23, u24, u30, u31, u32, u33, u34, u40, u41, u42, u43, u44]) ∧ Below w.heap.size w w' ∧ VSeg (fun b => b < w'.heap.size) w' d (u00, u01, u02, u03, u04) v0 ∧ VSeg (fun b => b < w'.heap.size) w' d (u10, u11, u12, u13, u14) v1 ∧ VSeg (fun b => b < w'.heap.size) w' d (u20, u21, u22, u23, u24) v2 ∧ VSeg (fun b => b < w'.heap.size) w' d (u30, u31, u32, u33, u34) v3 ∧ VSeg (fun b => b < w'.heap.size) w' d (u40, u41, u42, u43, u44) v4

set_option maxHeartbeats 12800000 in
set_option maxRecDepth 100000 in
theorem toEnv_any (d N : Nat) (c00 c01 c02 c03 c04 c10 c11 c12 c13 c14 c20 c21 c22 c23 c24 c30 c31 c32 c33 c34 c40 c41 c42 c43 c44 : Value) (v0 v1 v2 v3 v4 : Vl d) (w : World) (hv0 : VSeg (fun b => b < N) w d (c00, c01, c02, c03, c04) v0) (hv1 : VSeg (fun b => b < N) w d (c10, c11, c12, c13, c14) v1) (hv2 : VSeg (fun b => b < N) w d (c20, c21, c22, c23, c24) v2) (hv3 : VSeg (fun b => b < N) w d (c30, c31, c32, c33, c34) v3) (hv4 : VSeg (fun b => b < N) w d (c40, c41, c42, c43, c44) v4) (hN : N ≤ w.heap.size) (hz : AllSz d v0 v1 v2 v3 v4) :
    Calls Try.prog 6 #[.agg #[c00, c01, c02, c03, c04, c10, c11, c12, c13, c14, c20, c21, c22, c23, c24, c30, c31, c32, c33, c34, c40, c41, c42, c43, c44]] w (EnEnd d v0 v1 v2 v3 v4 w) := by
  obtain ⟨z0, z1, z2, z3, z4⟩ := hz
  have HT0 : Hid (∀ wx, Below w.heap.size w wx → Calls Try.prog 11 #[.agg #[c00, c01, c02, c03, c04]] wx fun e w' => ∃ c0 c1 c2 c3 c4, e = .returned (.agg #[c0, c1, c2, c3, c4]) ∧ ∃ B, VOwn w' d (c0, c1, c2, c3, c4) v0 B ∧ (∀ b ∈ B, wx.heap.size ≤ b ∧ b < w'.heap.size) ∧ Below wx.heap.size wx w') := fun wx hb =>
    toValue_any d N (c00, c01, c02, c03, c04) v0 wx (VSeg.agree (agree_below (hb.mono hN)) d hv0) (by have := hb.size; omega) z0
  have HT1 : Hid (∀ wx, Below w.heap.size w wx → Calls Try.prog 11 #[.agg #[c10, c11, c12, c13, c14]] wx fun e w' => ∃ c0 c1 c2 c3 c4, e = .returned (.agg #[c0, c1, c2, c3, c4]) ∧ ∃ B, VOwn w' d (c0, c1, c2, c3, c4) v1 B ∧ (∀ b ∈ B, wx.heap.size ≤ b ∧ b < w'.heap.size) ∧ Below wx.heap.size wx w') := fun wx hb =>
    toValue_any d N (c10, c11, c12, c13, c14) v1 wx (VSeg.agree (agree_below (hb.mono hN)) d hv1) (by have := hb.size; omega) z1
  have HT2 : Hid (∀ wx, Below w.heap.size w wx → Calls Try.prog 11 #[.agg #[c20, c21, c22, c23, c24]] wx fun e w' => ∃ c0 c1 c2 c3 c4, e = .returned (.agg #[c0, c1, c2, c3, c4]) ∧ ∃ B, VOwn w' d (c0, c1, c2, c3, c4) v2 B ∧ (∀ b ∈ B, wx.heap.size ≤ b ∧ b < w'.heap.size) ∧ Below wx.heap.size wx w') := fun wx hb =>
    toValue_any d N (c20, c21, c22, c23, c24) v2 wx (VSeg.agree (agree_below (hb.mono hN)) d hv2) (by have := hb.size; omega) z2
  have HT3 : Hid (∀ wx, Below w.heap.size w wx → Calls Try.prog 11 #[.agg #[c30, c31, c32, c33, c34]] wx fun e w' => ∃ c0 c1 c2 c3 c4, e = .returned (.agg #[c0, c1, c2, c3, c4]) ∧ ∃ B, VOwn w' d (c0, c1, c2, c3, c4) v3 B ∧ (∀ b ∈ B, wx.heap.size ≤ b ∧ b < w'.heap.size) ∧ Below wx.heap.size wx w') := fun wx hb =>
    toValue_any d N (c30, c31, c32, c33, c34) v3 wx (VSeg.agree (agree_below (hb.mono hN)) d hv3) (by have := hb.size; omega) z3
  have HT4 : Hid (∀ wx, Below w.heap.size w wx → Calls Try.prog 11 #[.agg #[c40, c41, c42, c43, c44]] wx fun e w' => ∃ c0 c1 c2 c3 c4, e = .returned (.agg #[c0, c1, c2, c3, c4]) ∧ ∃ B, VOwn w' d (c0, c1, c2, c3, c4) v4 B ∧ (∀ b ∈ B, wx.heap.size ≤ b ∧ b < w'.heap.size) ∧ Below wx.heap.size wx w') := fun wx hb =>
    toValue_any d N (c40, c41, c42, c43, c44) v4 wx (VSeg.agree (agree_below (hb.mono hN)) d hv4) (by have := hb.size; omega) z4
  obtain ⟨ck0, cn0, ca0, cl0, cp0, cb0, cm0, cq0, cd0, co0, cr0, rfl, rfl, rfl, rfl, rfl⟩ := VSeg.form d hv0
  obtain ⟨ck1, cn1, ca1, cl1, cp1, cb1, cm1, cq1, cd1, co1, cr1, rfl, rfl, rfl, rfl, rfl⟩ := VSeg.form d hv1
  obtain ⟨ck2, cn2, ca2, cl2, cp2, cb2, cm2, cq2, cd2, co2, cr2, rfl, rfl, rfl, rfl, rfl⟩ := VSeg.form d hv2
  obtain ⟨ck3, cn3, ca3, cl3, cp3, cb3, cm3, cq3, cd3, co3, cr3, rfl, rfl, rfl, rfl, rfl⟩ := VSeg.form d hv3
  obtain ⟨ck4, cn4, ca4, cl4, cp4, cb4, cm4, cq4, cd4, co4, cr4, rfl, rfl, rfl, rfl, rfl⟩ := VSeg.form d hv4
  clear hv0 z0 hv1 z1 hv2 z2 hv3 z3 hv4 z4
  have hst0 : Hid (EnSt w #[.int .i64 ck0, .int .i64 cn0, .slice ca0 cl0 cp0, .slice cb0 cm0 cq0, .slice cd0 co0 cr0, .int .i64 ck1, .int .i64 cn1, .slice ca1 cl1 cp1, .slice cb1 cm1 cq1, .slice cd1 co1 cr1, .int .i64 ck2, .int .i64 cn2, .slice ca2 cl2 cp2, .slice cb2 cm2 cq2, .slice cd2 co2 cr2, .int .i64 ck3, .int .i64 cn3, .slice ca3 cl3 cp3, .slice cb3 cm3 cq3, .slice cd3 co3 cr3, .int .i64 ck4, .int .i64 cn4, .slice ca4 cl4 cp4, .slice cb4 cm4 cq4, .slice cd4 co4 cr4] #[.int .i64 0, .int .i64 0, .slice none 0 0, .slice none 0 0, .slice none 0 0, .int .i64 0, .int .i64 0, .slice none 0 0, .slice none 0 0, .slice none 0 0, .int .i64 0, .int .i64 0, .slice none 0 0, .slice none 0 0, .slice none 0 0, .int .i64 0, .int .i64 0, .slice none 0 0, .slice none 0 0, .slice none 0 0, .int .i64 0, .int .i64 0, .slice none 0 0, .slice none 0 0, .slice none 0 0] (((w.alloc (.cells #[.int .i64 ck0, .int .i64 cn0, .slice ca0 cl0 cp0, .slice cb0 cm0 cq0, .slice cd0 co0 cr0, .int .i64 ck1, .int .i64 cn1, .slice ca1 cl1 cp1, .slice cb1 cm1 cq1, .slice cd1 co1 cr1, .int .i64 ck2, .int .i64 cn2, .slice ca2 cl2 cp2, .slice cb2 cm2 cq2, .slice cd2 co2 cr2, .int .i64 ck3, .int .i64 cn3, .slice ca3 cl3 cp3, .slice cb3 cm3 cq3, .slice cd3 co3 cr3, .int .i64 ck4, .int .i64 cn4, .slice ca4 cl4 cp4, .slice cb4 cm4 cq4, .slice cd4 co4 cr4] 28)).alloc (.cells #[.int .i64 0, .int .i64 0, .slice none 0 0, .slice none 0 0, .slice none 0 0, .int .i64 0, .int .i64 0, .slice none 0 0, .slice none 0 0, .slice none 0 0, .int .i64 0, .int .i64 0, .slice none 0 0, .slice none 0 0, .slice none 0 0, .int .i64 0, .int .i64 0, .slice none 0 0, .slice none 0 0, .slice none 0 0, .int .i64 0, .int .i64 0, .slice none 0 0, .slice none 0 0, .slice none 0 0] 35)).alloc (.cells #[.int .i64 0, .int .i64 0, .slice none 0 0, .slice none 0 0, .slice none 0 0, .int .i64 0, .int .i64 0, .slice none 0 0, .slice none 0 0, .slice none 0 0, .int .i64 0, .int .i64 0, .slice none 0 0, .slice none 0 0, .slice none 0 0, .int .i64 0, .int .i64 0, .slice none 0 0, .slice none 0 0, .slice none 0 0, .int .i64 0, .int .i64 0, .slice none 0 0, .slice none 0 0, .slice none 0 0] 35))) := by
    refine ⟨(((Below.refl _ _).alloc (Nat.le_refl _) _).alloc (by simp) _).alloc (by simp; omega) _, ?_, ?_, ?_, by simp⟩
    · rw [Below.heap_alloc _ _ _ (by simp; omega), Below.heap_alloc _ _ _ (by simp)]
      exact (MapKept.heap_alloc w _).1
    · rw [Below.heap_alloc _ _ _ (by simp)]
      have := (MapKept.heap_alloc (w.alloc (.cells #[.int .i64 ck0, .int .i64 cn0, .slice ca0 cl0 cp0, .slice cb0 cm0 cq0, .slice cd0 co0 cr0, .int .i64 ck1, .int .i64 cn1, .slice ca1 cl1 cp1, .slice cb1 cm1 cq1, .slice cd1 co1 cr1, .int .i64 ck2, .int .i64 cn2, .slice ca2 cl2 cp2, .slice cb2 cm2 cq2, .slice cd2 co2 cr2, .int .i64 ck3, .int .i64 cn3, .slice ca3 cl3 cp3, .slice cb3 cm3 cq3, .slice cd3 co3 cr3, .int .i64 ck4, .int .i64 cn4, .slice ca4 cl4 cp4, .slice cb4 cm4 cq4, .slice cd4 co4 cr4] 28)) (.cells #[.int .i64 0, .int .i64 0, .slice none 0 0, .slice none 0 0, .slice none 0 0, .int .i64 0, .int .i64 0, .slice none 0 0, .slice none 0 0, .slice none 0 0, .int .i64 0, .int .i64 0, .slice none 0 0, .slice none 0 0, .slice none 0 0, .int .i64 0, .int .i64 0, .slice none 0 0, .slice none 0 0, .slice none 0 0, .int .i64 0, .int .i64 0, .slice none 0 0, .slice none 0 0, .slice none 0 0] 35)).1
      simpa using this
    · have := (MapKept.heap_alloc ((w.alloc (.cells #[.int .i64 ck0, .int .i64 cn0, .slice ca0 cl0 cp0, .slice cb0 cm0 cq0, .slice cd0 co0 cr0, .int .i64 ck1, .int .i64 cn1, .slice ca1 cl1 cp1, .slice cb1 cm1 cq1, .slice cd1 co1 cr1, .int .i64 ck2, .int .i64 cn2, .slice ca2 cl2 cp2, .slice cb2 cm2 cq2, .slice cd2 co2 cr2, .int .i64 ck3, .int .i64 cn3, .slice ca3 cl3 cp3, .slice cb3 cm3 cq3, .slice cd3 co3 cr3, .int .i64 ck4, .int .i64 cn4, .slice ca4 cl4 cp4, .slice cb4 cm4 cq4, .slice cd4 co4 cr4] 28)).alloc (.cells #[.int .i64 0, .int .i64 0, .slice none 0 0, .slice none 0 0, .slice none 0 0, .int .i64 0, .int .i64 0, .slice none 0 0, .slice none 0 0, .slice none 0 0, .int .i64 0, .int .i64 0, .slice none 0 0, .slice none 0 0, .slice none 0 0, .int .i64 0, .int .i64 0, .slice none 0 0, .slice none 0 0, .slice none 0 0, .int .i64 0, .int .i64 0, .slice none 0 0, .slice none 0 0, .slice none 0 0] 35)) (.cells #[.int .i64 0, .int .i64 0, .slice none 0 0, .slice none 0 0, .slice none 0 0, .int .i64 0, .int .i64 0, .slice none 0 0, .slice none 0 0, .slice none 0 0, .int .i64 0, .int .i64 0, .slice none 0 0, .slice none 0 0, .slice none 0 0, .int .i64 0, .int .i64 0, .slice none 0 0, .slice none 0 0, .slice none 0 0, .int .i64 0, .int .i64 0, .slice none 0 0, .slice none 0 0, .slice none 0 0] 35)).1
      simpa using this
  go_enter Try.func6, Try.ntmps6
  go_wp2_with fail
  refine (HT0.out _ hst0.out.1).mono ?_
  rintro e w1 ⟨u00, u01, u02, u03, u04, rfl, B, hO, hB, b⟩
  obtain ⟨uk0, un0, ua0, ul0, up0, ub0, um0, uq0, ud0, uo0, ur0, rfl, rfl, rfl, rfl, rfl⟩ := VOwn.form d hO
  have hq := ens_below hst0.out b
  have hst1 := hide' (ens_set hq 0 (.int .i64 uk0) (.int .i64 un0) (.slice ua0 ul0 up0) (.slice ub0 um0 uq0) (.slice ud0 uo0 ur0) (cur' := #[.int .i64 uk0, .int .i64 un0, .slice ua0 ul0 up0, .slice ub0 um0 uq0, .slice ud0 uo0 ur0, .int .i64 0, .int .i64 0, .slice none 0 0, .slice none 0 0, .slice none 0 0, .int .i64 0, .int .i64 0, .slice none 0 0, .slice none 0 0, .slice none 0 0, .int .i64 0, .int .i64 0, .slice none 0 0, .slice none 0 0, .slice none 0 0, .int .i64 0, .int .i64 0, .slice none 0 0, .slice none 0 0, .slice none 0 0]) rfl)
  have hV0 := hide' ((EnV.new hO hB hst0.out.2.2.2.2).set 0 (.int .i64 uk0) (.int .i64 un0) (.slice ua0 ul0 up0) (.slice ub0 um0 uq0) (.slice ud0 uo0 ur0))
  have y10 : w1.cell? ⟨w.heap.size, 5, none⟩ = some (.int .i64 ck1) := by rw [cell_of_row w1 w.heap.size 5 _ _ _ hq.2.1]; rfl
  have y11 : w1.cell? ⟨w.heap.size, 6, none⟩ = some (.int .i64 cn1) := by rw [cell_of_row w1 w.heap.size 6 _ _ _ hq.2.1]; rfl
  have y12 : w1.cell? ⟨w.heap.size, 7, none⟩ = some (.slice ca1 cl1 cp1) := by rw [cell_of_row w1 w.heap.size 7 _ _ _ hq.2.1]; rfl
  have y13 : w1.cell? ⟨w.heap.size, 8, none⟩ = some (.slice cb1 cm1 cq1) := by rw [cell_of_row w1 w.heap.size 8 _ _ _ hq.2.1]; rfl
  have y14 : w1.cell? ⟨w.heap.size, 9, none⟩ = some (.slice cd1 co1 cr1) := by rw [cell_of_row w1 w.heap.size 9 _ _ _ hq.2.1]; rfl
  have p0 : w1.cell? ⟨w.heap.size + 1 + 1, 0, none⟩ = some (.int .i64 0) := by rw [cell_of_row _ _ 0 _ _ _ hq.2.2.2.1]; rfl
  have p1 : w1.cell? ⟨w.heap.size + 1 + 1, 1, none⟩ = some (.int .i64 0) := by rw [cell_of_row _ _ 1 _ _ _ hq.2.2.2.1]; rfl
  have p2 : w1.cell? ⟨w.heap.size + 1 + 1, 2, none⟩ = some (.slice none 0 0) := by rw [cell_of_row _ _ 2 _ _ _ hq.2.2.2.1]; rfl
  have p3 : w1.cell? ⟨w.heap.size + 1 + 1, 3, none⟩ = some (.slice none 0 0) := by rw [cell_of_row _ _ 3 _ _ _ hq.2.2.2.1]; rfl
  have p4 : w1.cell? ⟨w.heap.size + 1 + 1, 4, none⟩ = some (.slice none 0 0) := by rw [cell_of_row _ _ 4 _ _ _ hq.2.2.2.1]; rfl
  have f0 : w1.frozen? ⟨w.heap.size + 1 + 1, 0, none⟩ = false := frozen_of_row _ _ _ _ _ hq.2.2.2.1
  have f1 : w1.frozen? ⟨w.heap.size + 1 + 1, 1, none⟩ = false := frozen_of_row _ _ _ _ _ hq.2.2.2.1
  have f2 : w1.frozen? ⟨w.heap.size + 1 + 1, 2, none⟩ = false := frozen_of_row _ _ _ _ _ hq.2.2.2.1
  have f3 : w1.frozen? ⟨w.heap.size + 1 + 1, 3, none⟩ = false := frozen_of_row _ _ _ _ _ hq.2.2.2.1
  have f4 : w1.frozen? ⟨w.heap.size + 1 + 1, 4, none⟩ = false := frozen_of_row _ _ _ _ _ hq.2.2.2.1
  clear hO hB b hq hst0 HT0
  go_wp2_with fail
  refine (HT1.out _ hst1.out.1).mono ?_
  rintro e w2 ⟨u10, u11, u12, u13, u14, rfl, B, hO, hB, b⟩
  obtain ⟨uk1, un1, ua1, ul1, up1, ub1, um1, uq1, ud1, uo1, ur1, rfl, rfl, rfl, rfl, rfl⟩ := VOwn.form d hO
  have hq := ens_below hst1.out b
  have hst2 := hide' (ens_set hq 5 (.int .i64 uk1) (.int .i64 un1) (.slice ua1 ul1 up1) (.slice ub1 um1 uq1) (.slice ud1 uo1 ur1) (cur' := #[.int .i64 uk0, .int .i64 un0, .slice ua0 ul0 up0, .slice ub0 um0 uq0, .slice ud0 uo0 ur0, .int .i64 uk1, .int .i64 un1, .slice ua1 ul1 up1, .slice ub1 um1 uq1, .slice ud1 uo1 ur1, .int .i64 0, .int .i64 0, .slice none 0 0, .slice none 0 0, .slice none 0 0, .int .i64 0, .int .i64 0, .slice none 0 0, .slice none 0 0, .slice none 0 0, .int .i64 0, .int .i64 0, .slice none 0 0, .slice none 0 0, .slice none 0 0]) rfl)
  have hV0 := hide' ((hV0.out.below b).set 5 (.int .i64 uk1) (.int .i64 un1) (.slice ua1 ul1 up1) (.slice ub1 um1 uq1) (.slice ud1 uo1 ur1))
  have hV1 := hide' ((EnV.new hO hB hst1.out.2.2.2.2).set 5 (.int .i64 uk1) (.int .i64 un1) (.slice ua1 ul1 up1) (.slice ub1 um1 uq1) (.slice ud1 uo1 ur1))
  have y20 : w2.cell? ⟨w.heap.size, 10, none⟩ = some (.int .i64 ck2) := by rw [cell_of_row w2 w.heap.size 10 _ _ _ hq.2.1]; rfl
  have y21 : w2.cell? ⟨w.heap.size, 11, none⟩ = some (.int .i64 cn2) := by rw [cell_of_row w2 w.heap.size 11 _ _ _ hq.2.1]; rfl
  have y22 : w2.cell? ⟨w.heap.size, 12, none⟩ = some (.slice ca2 cl2 cp2) := by rw [cell_of_row w2 w.heap.size 12 _ _ _ hq.2.1]; rfl
  have y23 : w2.cell? ⟨w.heap.size, 13, none⟩ = some (.slice cb2 cm2 cq2) := by rw [cell_of_row w2 w.heap.size 13 _ _ _ hq.2.1]; rfl
  have y24 : w2.cell? ⟨w.heap.size, 14, none⟩ = some (.slice cd2 co2 cr2) := by rw [cell_of_row w2 w.heap.size 14 _ _ _ hq.2.1]; rfl
  have p5 : w2.cell? ⟨w.heap.size + 1 + 1, 5, none⟩ = some (.int .i64 0) := by rw [cell_of_row _ _ 5 _ _ _ hq.2.2.2.1]; rfl
  have p6 : w2.cell? ⟨w.heap.size + 1 + 1, 6, none⟩ = some (.int .i64 0) := by rw [cell_of_row _ _ 6 _ _ _ hq.2.2.2.1]; rfl
  have p7 : w2.cell? ⟨w.heap.size + 1 + 1, 7, none⟩ = some (.slice none 0 0) := by rw [cell_of_row _ _ 7 _ _ _ hq.2.2.2.1]; rfl
  have p8 : w2.cell? ⟨w.heap.size + 1 + 1, 8, none⟩ = some (.slice none 0 0) := by rw [cell_of_row _ _ 8 _ _ _ hq.2.2.2.1]; rfl
  have p9 : w2.cell? ⟨w.heap.size + 1 + 1, 9, none⟩ = some (.slice none 0 0) := by rw [cell_of_row _ _ 9 _ _ _ hq.2.2.2.1]; rfl
  have f5 : w2.frozen? ⟨w.heap.size + 1 + 1, 5, none⟩ = false := frozen_of_row _ _ _ _ _ hq.2.2.2.1
  have f6 : w2.frozen? ⟨w.heap.size + 1 + 1, 6, none⟩ = false := frozen_of_row _ _ _ _ _ hq.2.2.2.1
  have f7 : w2.frozen? ⟨w.heap.size + 1 + 1, 7, none⟩ = false := frozen_of_row _ _ _ _ _ hq.2.2.2.1
  have f8 : w2.frozen? ⟨w.heap.size + 1 + 1, 8, none⟩ = false := frozen_of_row _ _ _ _ _ hq.2.2.2.1
  have f9 : w2.frozen? ⟨w.heap.size + 1 + 1, 9, none⟩ = false := frozen_of_row _ _ _ _ _ hq.2.2.2.1
  clear hO hB b hq hst1 HT1
  go_wp2_with fail
  refine (HT2.out _ hst2.out.1).mono ?_
  rintro e w3 ⟨u20, u21, u22, u23, u24, rfl, B, hO, hB, b⟩
  obtain ⟨uk2, un2, ua2, ul2, up2, ub2, um2, uq2, ud2, uo2, ur2, rfl, rfl, rfl, rfl, rfl⟩ := VOwn.form d hO
  have hq := ens_below hst2.out b
  have hst3 := hide' (ens_set hq 10 (.int .i64 uk2) (.int .i64 un2) (.slice ua2 ul2 up2) (.slice ub2 um2 uq2) (.slice ud2 uo2 ur2) (cur' := #[.int .i64 uk0, .int .i64 un0, .slice ua0 ul0 up0, .slice ub0 um0 uq0, .slice ud0 uo0 ur0, .int .i64 uk1, .int .i64 un1, .slice ua1 ul1 up1, .slice ub1 um1 uq1, .slice ud1 uo1 ur1, .int .i64 uk2, .int .i64 un2, .slice ua2 ul2 up2, .slice ub2 um2 uq2, .slice ud2 uo2 ur2, .int .i64 0, .int .i64 0, .slice none 0 0, .slice none 0 0, .slice none 0 0, .int .i64 0, .int .i64 0, .slice none 0 0, .slice none 0 0, .slice none 0 0]) rfl)
  have hV0 := hide' ((hV0.out.below b).set 10 (.int .i64 uk2) (.int .i64 un2) (.slice ua2 ul2 up2) (.slice ub2 um2 uq2) (.slice ud2 uo2 ur2))
  have hV1 := hide' ((hV1.out.below b).set 10 (.int .i64 uk2) (.int .i64 un2) (.slice ua2 ul2 up2) (.slice ub2 um2 uq2) (.slice ud2 uo2 ur2))
  have hV2 := hide' ((EnV.new hO hB hst2.out.2.2.2.2).set 10 (.int .i64 uk2) (.int .i64 un2) (.slice ua2 ul2 up2) (.slice ub2 um2 uq2) (.slice ud2 uo2 ur2))
  have y30 : w3.cell? ⟨w.heap.size, 15, none⟩ = some (.int .i64 ck3) := by rw [cell_of_row w3 w.heap.size 15 _ _ _ hq.2.1]; rfl
  have y31 : w3.cell? ⟨w.heap.size, 16, none⟩ = some (.int .i64 cn3) := by rw [cell_of_row w3 w.heap.size 16 _ _ _ hq.2.1]; rfl
  have y32 : w3.cell? ⟨w.heap.size, 17, none⟩ = some (.slice ca3 cl3 cp3) := by rw [cell_of_row w3 w.heap.size 17 _ _ _ hq.2.1]; rfl
  have y33 : w3.cell? ⟨w.heap.size, 18, none⟩ = some (.slice cb3 cm3 cq3) := by rw [cell_of_row w3 w.heap.size 18 _ _ _ hq.2.1]; rfl
  have y34 : w3.cell? ⟨w.heap.size, 19, none⟩ = some (.slice cd3 co3 cr3) := by rw [cell_of_row w3 w.heap.size 19 _ _ _ hq.2.1]; rfl
  have p10 : w3.cell? ⟨w.heap.size + 1 + 1, 10, none⟩ = some (.int .i64 0) := by rw [cell_of_row _ _ 10 _ _ _ hq.2.2.2.1]; rfl
  have p11 : w3.cell? ⟨w.heap.size + 1 + 1, 11, none⟩ = some (.int .i64 0) := by rw [cell_of_row _ _ 11 _ _ _ hq.2.2.2.1]; rfl
  have p12 : w3.cell? ⟨w.heap.size + 1 + 1, 12, none⟩ = some (.slice none 0 0) := by rw [cell_of_row _ _ 12 _ _ _ hq.2.2.2.1]; rfl
  have p13 : w3.cell? ⟨w.heap.size + 1 + 1, 13, none⟩ = some (.slice none 0 0) := by rw [cell_of_row _ _ 13 _ _ _ hq.2.2.2.1]; rfl
  have p14 : w3.cell? ⟨w.heap.size + 1 + 1, 14, none⟩ = some (.slice none 0 0) := by rw [cell_of_row _ _ 14 _ _ _ hq.2.2.2.1]; rfl
  have f10 : w3.frozen? ⟨w.heap.size + 1 + 1, 10, none⟩ = false := frozen_of_row _ _ _ _ _ hq.2.2.2.1
  have f11 : w3.frozen? ⟨w.heap.size + 1 + 1, 11, none⟩ = false := frozen_of_row _ _ _ _ _ hq.2.2.2.1
  have f12 : w3.frozen? ⟨w.heap.size + 1 + 1, 12, none⟩ = false := frozen_of_row _ _ _ _ _ hq.2.2.2.1
  have f13 : w3.frozen? ⟨w.heap.size + 1 + 1, 13, none⟩ = false := frozen_of_row _ _ _ _ _ hq.2.2.2.1
  have f14 : w3.frozen? ⟨w.heap.size + 1 + 1, 14, none⟩ = false := frozen_of_row _ _ _ _ _ hq.2.2.2.1
  clear hO hB b hq hst2 HT2
  go_wp2_with fail
  refine (HT3.out _ hst3.out.1).mono ?_
  rintro e w4 ⟨u30, u31, u32, u33, u34, rfl, B, hO, hB, b⟩
  obtain ⟨uk3, un3, ua3, ul3, up3, ub3, um3, uq3, ud3, uo3, ur3, rfl, rfl, rfl, rfl, rfl⟩ := VOwn.form d hO
  have hq := ens_below hst3.out b
  have hst4 := hide' (ens_set hq 15 (.int .i64 uk3) (.int .i64 un3) (.slice ua3 ul3 up3) (.slice ub3 um3 uq3) (.slice ud3 uo3 ur3) (cur' := #[.int .i64 uk0, .int .i64 un0, .slice ua0 ul0 up0, .slice ub0 um0 uq0, .slice ud0 uo0 ur0, .int .i64 uk1, .int .i64 un1, .slice ua1 ul1 up1, .slice ub1 um1 uq1, .slice ud1 uo1 ur1, .int .i64 uk2, .int .i64 un2, .slice ua2 ul2 up2, .slice ub2 um2 uq2, .slice ud2 uo2 ur2, .int .i64 uk3, .int .i64 un3, .slice ua3 ul3 up3, .slice ub3 um3 uq3, .slice ud3 uo3 ur3, .int .i64 0, .int .i64 0, .slice none 0 0, .slice none 0 0, .slice none 0 0]) rfl)
  have hV0 := hide' ((hV0.out.below b).set 15 (.int .i64 uk3) (.int .i64 un3) (.slice ua3 ul3 up3) (.slice ub3 um3 uq3) (.slice ud3 uo3 ur3))
  have hV1 := hide' ((hV1.out.below b).set 15 (.int .i64 uk3) (.int .i64 un3) (.slice ua3 ul3 up3) (.slice ub3 um3 uq3) (.slice ud3 uo3 ur3))
  have hV2 := hide' ((hV2.out.below b).set 15 (.int .i64 uk3) (.int .i64 un3) (.slice ua3 ul3 up3) (.slice ub3 um3 uq3) (.slice ud3 uo3 ur3))
  have hV3 := hide' ((EnV.new hO hB hst3.out.2.2.2.2).set 15 (.int .i64 uk3) (.int .i64 un3) (.slice ua3 ul3 up3) (.slice ub3 um3 uq3) (.slice ud3 uo3 ur3))
  have y40 : w4.cell? ⟨w.heap.size, 20, none⟩ = some (.int .i64 ck4) := by rw [cell_of_row w4 w.heap.size 20 _ _ _ hq.2.1]; rfl
  have y41 : w4.cell? ⟨w.heap.size, 21, none⟩ = some (.int .i64 cn4) := by rw [cell_of_row w4 w.heap.size 21 _ _ _ hq.2.1]; rfl
  have y42 : w4.cell? ⟨w.heap.size, 22, none⟩ = some (.slice ca4 cl4 cp4) := by rw [cell_of_row w4 w.heap.size 22 _ _ _ hq.2.1]; rfl
  have y43 : w4.cell? ⟨w.heap.size, 23, none⟩ = some (.slice cb4 cm4 cq4) := by rw [cell_of_row w4 w.heap.size 23 _ _ _ hq.2.1]; rfl
  have y44 : w4.cell? ⟨w.heap.size, 24, none⟩ = some (.slice cd4 co4 cr4) := by rw [cell_of_row w4 w.heap.size 24 _ _ _ hq.2.1]; rfl
  have p15 : w4.cell? ⟨w.heap.size + 1 + 1, 15, none⟩ = some (.int .i64 0) := by rw [cell_of_row _ _ 15 _ _ _ hq.2.2.2.1]; rfl
  have p16 : w4.cell? ⟨w.heap.size + 1 + 1, 16, none⟩ = some (.int .i64 0) := by rw [cell_of_row _ _ 16 _ _ _ hq.2.2.2.1]; rfl
  have p17 : w4.cell? ⟨w.heap.size + 1 + 1, 17, none⟩ = some (.slice none 0 0) := by rw [cell_of_row _ _ 17 _ _ _ hq.2.2.2.1]; rfl
  have p18 : w4.cell? ⟨w.heap.size + 1 + 1, 18, none⟩ = some (.slice none 0 0) := by rw [cell_of_row _ _ 18 _ _ _ hq.2.2.2.1]; rfl
  have p19 : w4.cell? ⟨w.heap.size + 1 + 1, 19, none⟩ = some (.slice none 0 0) := by rw [cell_of_row _ _ 19 _ _ _ hq.2.2.2.1]; rfl
  have f15 : w4.frozen? ⟨w.heap.size + 1 + 1, 15, none⟩ = false := frozen_of_row _ _ _ _ _ hq.2.2.2.1
  have f16 : w4.frozen? ⟨w.heap.size + 1 + 1, 16, none⟩ = false := frozen_of_row _ _ _ _ _ hq.2.2.2.1
  have f17 : w4.frozen? ⟨w.heap.size + 1 + 1, 17, none⟩ = false := frozen_of_row _ _ _ _ _ hq.2.2.2.1
  have f18 : w4.frozen? ⟨w.heap.size + 1 + 1, 18, none⟩ = false := frozen_of_row _ _ _ _ _ hq.2.2.2.1
  have f19 : w4.frozen? ⟨w.heap.size + 1 + 1, 19, none⟩ = false := frozen_of_row _ _ _ _ _ hq.2.2.2.1
  clear hO hB b hq hst3 HT3
  go_wp2_with fail
  refine (HT4.out _ hst4.out.1).mono ?_
  rintro e w5 ⟨u40, u41, u42, u43, u44, rfl, B, hO, hB, b⟩
  obtain ⟨uk4, un4, ua4, ul4, up4, ub4, um4, uq4, ud4, uo4, ur4, rfl, rfl, rfl, rfl, rfl⟩ := VOwn.form d hO
  have hq := ens_below hst4.out b
  have hst5 := hide' (ens_set hq 20 (.int .i64 uk4) (.int .i64 un4) (.slice ua4 ul4 up4) (.slice ub4 um4 uq4) (.slice ud4 uo4 ur4) (cur' := #[.int .i64 uk0, .int .i64 un0, .slice ua0 ul0 up0, .slice ub0 um0 uq0, .slice ud0 uo0 ur0, .int .i64 uk1, .int .i64 un1, .slice ua1 ul1 up1, .slice ub1 um1 uq1, .slice ud1 uo1 ur1, .int .i64 uk2, .int .i64 un2, .slice ua2 ul2 up2, .slice ub2 um2 uq2, .slice ud2 uo2 ur2, .int .i64 uk3, .int .i64 un3, .slice ua3 ul3 up3, .slice ub3 um3 uq3, .slice ud3 uo3 ur3, .int .i64 uk4, .int .i64 un4, .slice ua4 ul4 up4, .slice ub4 um4 uq4, .slice ud4 uo4 ur4]) rfl)
  have hV0 := hide' ((hV0.out.below b).set 20 (.int .i64 uk4) (.int .i64 un4) (.slice ua4 ul4 up4) (.slice ub4 um4 uq4) (.slice ud4 uo4 ur4))
  have hV1 := hide' ((hV1.out.below b).set 20 (.int .i64 uk4) (.int .i64 un4) (.slice ua4 ul4 up4) (.slice ub4 um4 uq4) (.slice ud4 uo4 ur4))
  have hV2 := hide' ((hV2.out.below b).set 20 (.int .i64 uk4) (.int .i64 un4) (.slice ua4 ul4 up4) (.slice ub4 um4 uq4) (.slice ud4 uo4 ur4))
  have hV3 := hide' ((hV3.out.below b).set 20 (.int .i64 uk4) (.int .i64 un4) (.slice ua4 ul4 up4) (.slice ub4 um4 uq4) (.slice ud4 uo4 ur4))
  have hV4 := hide' ((EnV.new hO hB hst4.out.2.2.2.2).set 20 (.int .i64 uk4) (.int .i64 un4) (.slice ua4 ul4 up4) (.slice ub4 um4 uq4) (.slice ud4 uo4 ur4))
  have p20 : w5.cell? ⟨w.heap.size + 1 + 1, 20, none⟩ = some (.int .i64 0) := by rw [cell_of_row _ _ 20 _ _ _ hq.2.2.2.1]; rfl
  have p21 : w5.cell? ⟨w.heap.size + 1 + 1, 21, none⟩ = some (.int .i64 0) := by rw [cell_of_row _ _ 21 _ _ _ hq.2.2.2.1]; rfl
  have p22 : w5.cell? ⟨w.heap.size + 1 + 1, 22, none⟩ = some (.slice none 0 0) := by rw [cell_of_row _ _ 22 _ _ _ hq.2.2.2.1]; rfl
  have p23 : w5.cell? ⟨w.heap.size + 1 + 1, 23, none⟩ = some (.slice none 0 0) := by rw [cell_of_row _ _ 23 _ _ _ hq.2.2.2.1]; rfl
  have p24 : w5.cell? ⟨w.heap.size + 1 + 1, 24, none⟩ = some (.slice none 0 0) := by rw [cell_of_row _ _ 24 _ _ _ hq.2.2.2.1]; rfl
  have f20 : w5.frozen? ⟨w.heap.size + 1 + 1, 20, none⟩ = false := frozen_of_row _ _ _ _ _ hq.2.2.2.1
  have f21 : w5.frozen? ⟨w.heap.size + 1 + 1, 21, none⟩ = false := frozen_of_row _ _ _ _ _ hq.2.2.2.1
  have f22 : w5.frozen? ⟨w.heap.size + 1 + 1, 22, none⟩ = false := frozen_of_row _ _ _ _ _ hq.2.2.2.1
  have f23 : w5.frozen? ⟨w.heap.size + 1 + 1, 23, none⟩ = false := frozen_of_row _ _ _ _ _ hq.2.2.2.1
  have f24 : w5.frozen? ⟨w.heap.size + 1 + 1, 24, none⟩ = false := frozen_of_row _ _ _ _ _ hq.2.2.2.1
  clear hO hB b hq hst4 HT4
  go_upto_region 7 with fail
  obtain ⟨wA, hA⟩ : ∃ wA, wA = set5 w5 (w.heap.size + 1 + 1) 20 (.int .i64 uk4) (.int .i64 un4) (.slice ua4 ul4 up4) (.slice ub4 um4 uq4) (.slice ud4 uo4 ur4) := ⟨_, rfl⟩
  rw [← hA] at hV0 hV1 hV2 hV3 hV4 hst5
  simp only [set5, Nat.reduceAdd] at hA
  rw [← hA]
  clear hA p20 f20 p21 f21 p22 f22 p23 f23 p24 f24
  have hr1 := range_of_row hst5.out.2.2.2.1
  have ht1 : wA.there (w.heap.size + 1) 0 25 := there_of_row hst5.out.2.2.1
  go_wp2_with (first | (refine wpList_load_mid rfl 35 (.tmp 3) (by rfl) (w.heap.size + 1 + 1) 0 (by rfl) [.int .i64 uk0, .int .i64 un0, .slice ua0 ul0 up0, .slice ub0 um0 uq0, .slice ud0 uo0 ur0, .int .i64 uk1, .int .i64 un1, .slice ua1 ul1 up1, .slice ub1 um1 uq1, .slice ud1 uo1 ur1, .int .i64 uk2, .int .i64 un2, .slice ua2 ul2 up2, .slice ub2 um2 uq2, .slice ud2 uo2 ur2, .int .i64 uk3, .int .i64 un3, .slice ua3 ul3 up3, .slice ub3 um3 uq3, .slice ud3 uo3 ur3, .int .i64 uk4, .int .i64 un4, .slice ua4 ul4 up4, .slice ub4 um4 uq4, .slice ud4 uo4 ur4] _ hr1 Try.underlying35 rfl (by kernel_rfl) ?_) | (refine wpList_store_mid rfl 35 (.tmp 2) (.tmp 24) (by rfl) (w.heap.size + 1) 0 #[.int .i64 uk0, .int .i64 un0, .slice ua0 ul0 up0, .slice ub0 um0 uq0, .slice ud0 uo0 ur0, .int .i64 uk1, .int .i64 un1, .slice ua1 ul1 up1, .slice ub1 um1 uq1, .slice ud1 uo1 ur1, .int .i64 uk2, .int .i64 un2, .slice ua2 ul2 up2, .slice ub2 um2 uq2, .slice ud2 uo2 ur2, .int .i64 uk3, .int .i64 un3, .slice ua3 ul3 up3, .slice ub3 um3 uq3, .slice ud3 uo3 ur3, .int .i64 uk4, .int .i64 un4, .slice ua4 ul4 up4, .slice ub4 um4 uq4, .slice ud4 uo4 ur4] (by rfl) (by rfl) ht1 (by kernel_rfl) (all_oneCell_toArray (by simp [Value.oneCell'])) ?_))
  have hld := run_loadVar_mid (P := Try.prog) _ _ _ 35 _ _ (World.rangeAt_setCells_same wA (w.heap.size + 1) 0 [.int .i64 uk0, .int .i64 un0, .slice ua0 ul0 up0, .slice ub0 um0 uq0, .slice ud0 uo0 ur0, .int .i64 uk1, .int .i64 un1, .slice ua1 ul1 up1, .slice ub1 um1 uq1, .slice ud1 uo1 ur1, .int .i64 uk2, .int .i64 un2, .slice ua2 ul2 up2, .slice ub2 um2 uq2, .slice ud2 uo2 ur2, .int .i64 uk3, .int .i64 un3, .slice ua3 ul3 up3, .slice ub3 um3 uq3, .slice ud3 uo3 ur3, .int .i64 uk4, .int .i64 un4, .slice ua4 ul4 up4, .slice ub4 um4 uq4, .slice ud4 uo4 ur4] ht1) Try.underlying35 rfl (by kernel_rfl)
  refine bodyPost_ret (v := .agg #[.int .i64 uk0, .int .i64 un0, .slice ua0 ul0 up0, .slice ub0 um0 uq0, .slice ud0 uo0 ur0, .int .i64 uk1, .int .i64 un1, .slice ua1 ul1 up1, .slice ub1 um1 uq1, .slice ud1 uo1 ur1, .int .i64 uk2, .int .i64 un2, .slice ua2 ul2 up2, .slice ub2 um2 uq2, .slice ud2 uo2 ur2, .int .i64 uk3, .int .i64 un3, .slice ua3 ul3 up3, .slice ub3 um3 uq3, .slice ud3 uo3 ur3, .int .i64 uk4, .int .i64 un4, .slice ua4 ul4 up4, .slice ub4 um4 uq4, .slice ud4 uo4 ur4]) (results_cell 2 35 Try.results6 (by rfl) hld) rfl ?_
  have hg := grown_setCells (w.heap.size + 1) [.int .i64 uk0, .int .i64 un0, .slice ua0 ul0 up0, .slice ub0 um0 uq0, .slice ud0 uo0 ur0, .int .i64 uk1, .int .i64 un1, .slice ua1 ul1 up1, .slice ub1 um1 uq1, .slice ud1 uo1 ur1, .int .i64 uk2, .int .i64 un2, .slice ua2 ul2 up2, .slice ub2 um2 uq2, .slice ud2 uo2 ur2, .int .i64 uk3, .int .i64 un3, .slice ua3 ul3 up3, .slice ub3 um3 uq3, .slice ud3 uo3 ur3, .int .i64 uk4, .int .i64 un4, .slice ua4 ul4 up4, .slice ub4 um4 uq4, .slice ud4 uo4 ur4] 0 wA
  exact ⟨_, _, _, _, _, _, _, _, _, _, _, _, _, _, _, _, _, _, _, _, _, _, _, _, _, rfl, hst5.out.1.grown hg (by have := hst5.out.2.2.2.2; omega) (by intro k hk; simp at hk; omega), hV0.out.kept hg, hV1.out.kept hg, hV2.out.kept hg, hV3.out.kept hg, hV4.out.kept hg⟩
end Go.Proofs.Ytddnncndcmnnjaa
/-
  What scopeOf and what it calls leave.
-/
namespace Go.Proofs.Ytddnncndcmnnjaa
open Go.RowKit
set_option linter.unusedVariables false
set_option linter.unusedSimpArgs false

/-- A value of one cell, as a part is. -/
def One (p : Value) : Prop := p = .nilIface ∨ ∃ t x, p = .iface t x
theorem One.cells {p : Value} (h : One p) : p.cells = #[p] := by rcases h with rfl | ⟨t, x, rfl⟩ <;> rfl
theorem One.one {p : Value} (h : One p) : p.oneCell' = true := by rcases h with rfl | ⟨t, x, rfl⟩ <;> rfl

theorem mapOf_tell {d : Nat} {v : Vl d} {w w' : World} {e : Ending} (h : MapOf d v w e w') : ∃ mo f, e = .returned (.tuple #[.agg #[.map mo], .bool f]) ∧ f = (okB d v && decide (kindV d v = 5)) ∧ Below w.heap.size w w' := by
  obtain ⟨hb, ⟨b, rfl, h1, h2, _⟩ | ⟨rfl, h1⟩⟩ := h
  · exact ⟨_, _, rfl, by simp [h1, h2], hb⟩
  · refine ⟨_, _, rfl, ?_, hb⟩
    cases hq : okB d v with
    | false => rfl
    | true => simp only [hq, true_and] at h1; simp [h1]
theorem partOf_tell {d : Nat} {v : Vl d} {w w' : World} {e : Ending} (h : PartEnd d v w e w') : ∃ p f, e = .returned (.tuple #[p, .bool f]) ∧ f = okB d v ∧ One p ∧ Below w.heap.size w w' := by
  obtain ⟨hb, ⟨p, rfl, h1, h2⟩ | ⟨rfl, h1⟩⟩ := h
  · exact ⟨_, _, rfl, h1.symm, .inr h2.shape, hb⟩
  · exact ⟨_, _, rfl, h1.symm, .inl rfl, hb⟩

/-- What scopeOf leaves, as far as it is asked whether. -/
def ScEnd (b : Bool) (w : World) (e : Ending) (w' : World) : Prop := ∃ m0 m1 p2 p3 p4, e = .returned (.tuple #[.agg #[.map m0, .map m1, p2, p3, p4], .bool b]) ∧ One p2 ∧ One p3 ∧ One p4 ∧ Below w.heap.size w w'

theorem five_one (m0 m1 : Option Nat) {p2 p3 p4 : Value} (h2 : One p2) (h3 : One p3) (h4 : One p4) : ∀ v ∈ [Value.map m0, Value.map m1, p2, p3, p4], v.oneCell' = true := by
  intro v hv
  simp only [List.mem_cons, List.not_mem_nil, or_false] at hv
  rcases hv with rfl | rfl | rfl | rfl | rfl
  · rfl
  · rfl
  · exact h2.one
  · exact h3.one
  · exact h4.one

theorem ret_tup {x : Value} {a b : Bool} (h : a = b) : Ending.returned (.tuple #[x, .bool a]) = .returned (.tuple #[x, .bool b]) := by rw [h]

theorem results_cell2 {P : Program} {fn : Func} {tmps : Array Value} {w : World} {v : Value} {ad : Addr} (s : Nat) (t : TypeId) (s2 : Nat) (v2 : Value) (hr : fn.results = #[.cell s t, .tmp s2]) (hp : tmps.getD s undef = .pointer (some ad)) (hl : (loadVar t ad).run P w = .ok v w) (h2 : tmps.getD s2 undef = v2) : (results fn tmps).run P w = .ok (.tuple #[v, v2]) w := by
  unfold results
  rw [hr]
  simp only [Array.mapM_eq_mapM_toList, List.mapM_cons, List.mapM_nil, Sem.run_bind, Sem.run_pure, Result.andThen_ok, hp]
  simp [asAddr, hl, ← h2]

theorem sc_end (b : Bool) {B : Bool} {w w5 : World} {m0 m1 : Option Nat} {p2 p3 p4 : Value} {a : Act} (hB : Below w.heap.size w w5) (hr : w5.heap[w.heap.size + 1]? = some (.cells #[.map none, .map none, .nilIface, .nilIface, .nilIface] 48 (0, 0))) (h2 : One p2) (h3 : One p3) (h4 : One p4)
    (hp : a.tmps.getD 2 undef = .pointer (some ⟨w.heap.size + 1, 0, none⟩)) (hb : a.tmps.getD 3 undef = .bool b) (hd : a.defers = []) (hE : b = B) : bodyPost Try.prog Try.f12 (ScEnd B w) .ret a (set5 w5 (w.heap.size + 1) 0 (.map m0) (.map m1) p2 p3 p4) := by
  have hrow : (set5 w5 (w.heap.size + 1) 0 (.map m0) (.map m1) p2 p3 p4).heap[w.heap.size + 1]? = some (.cells [.map m0, .map m1, p2, p3, p4].toArray 48 (0, 0)) := set5_heap (.map m0) (.map m1) p2 p3 p4 hr
  have hld := run_loadVar_mid (P := Try.prog) _ _ _ 48 _ _ (range_of_row hrow) Try.underlying48 rfl (by kernel_rfl)
  have hg := set5_grown w5 (w.heap.size + 1) 0 (.map m0) (.map m1) p2 p3 p4
  subst hE
  exact bodyPost_ret (v := .tuple #[.agg #[.map m0, .map m1, p2, p3, p4], .bool b]) (results_cell2 2 48 3 _ Try.results12 hp hld hb) hd ⟨m0, m1, p2, p3, p4, rfl, h2, h3, h4, hB.grown hg hB.size (by intro k hk; simp at hk; omega)⟩

end Go.Proofs.Ytddnncndcmnnjaa
