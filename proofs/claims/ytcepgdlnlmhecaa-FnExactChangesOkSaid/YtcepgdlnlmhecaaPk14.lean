/-
  Texts that a law leans on, one behind the other; no statement is proved here.
-/
import Derived.Test.YtcepgdlnlmhecaaPk2
import Derived.Deep.MidRow
import Derived.Test.YtcepgdlnlmhecaaPk12
import Derived.Test.YtcepgdlnlmhecaaPk3
import Derived.Deep.Cut
import Derived.Test.YtcepgdlnlmhecaaPk13
import Derived.Test.YtcepgdlnlmhecaaPk0
import Derived.WalkKit
import Derived.ProofKit
import Derived.ChangeSlices
import Derived.ChangeArms
/-
  A function that copies a struct: the argument's box, the answer's, the variable's; and rows of cells by ranges.
-/
namespace Go.Proofs.Ytcepgdlnlmhecaa
open Go.RowKit
set_option linter.unusedVariables false
set_option linter.unusedSimpArgs false

theorem range_of_row {w : World} {g : Nat} {cs : List Value} {T : TypeId} {fr : Nat × Nat} (h : w.heap[g]? = some (.cells cs.toArray T fr)) : w.rangeAt g 0 cs := fun j v hv => by
  rw [Nat.zero_add, cell_of_row w g j _ _ _ h]
  simpa using hv
theorem there_of_row {w : World} {g : Nat} {cs : Array Value} {T : TypeId} (h : w.heap[g]? = some (.cells cs T (0, 0))) : w.there g 0 cs.size := fun j hj => by
  rw [Nat.zero_add, cell_of_row w g j _ _ _ h]
  exact ⟨by simp [hj], frozen_of_row _ _ _ _ _ h⟩
theorem results_cell {P : Program} {fn : Func} {tmps : Array Value} {w : World} {v : Value} {ad : Addr} (s : Nat) (t : TypeId) (hr : fn.results = #[.cell s t]) (hp : tmps.getD s undef = .pointer (some ad)) (hl : (loadVar t ad).run P w = .ok v w) : (results fn tmps).run P w = .ok v w := by
  unfold results
  rw [hr]
  simp only [Array.mapM_eq_mapM_toList, List.mapM_cons, List.mapM_nil, Sem.run_bind, Sem.run_pure, Result.andThen_ok, hp]
  simp [asAddr, hl]
theorem grown_setCells (g : Nat) : ∀ (vs : List Value) (o : Nat) (w : World), w.grownBy (w.setCells g o vs) (some g)
  | [], _, w => World.grownBy.refl w _
  | v :: r, o, w => grownBy_trans (grown1 w g o v) (grown_setCells g r (o + 1) (w.setCell ⟨g, o, none⟩ v))

/-- The three boxes. -/
def BxSt (w : World) (T1 T2 : TypeId) (arg zer cur : Array Value) (wx : World) : Prop :=
  Below w.heap.size w wx ∧ wx.heap[w.heap.size]? = some (.cells arg T1 (0, 0)) ∧ wx.heap[w.heap.size + 1]? = some (.cells zer T2 (0, 0)) ∧ wx.heap[w.heap.size + 1 + 1]? = some (.cells cur T2 (0, 0)) ∧ w.heap.size + 3 ≤ wx.heap.size

theorem bx_start (w : World) (T1 T2 : TypeId) (arg zer cur : Array Value) : BxSt w T1 T2 arg zer cur (((w.alloc (.cells arg T1)).alloc (.cells zer T2)).alloc (.cells cur T2)) := by
  refine ⟨(((Below.refl _ _).alloc (Nat.le_refl _) _).alloc (by simp) _).alloc (by simp; omega) _, ?_, ?_, ?_, by simp⟩
  · rw [Below.heap_alloc _ _ _ (by simp; omega), Below.heap_alloc _ _ _ (by simp)]
    exact (MapKept.heap_alloc w _).1
  · rw [Below.heap_alloc _ _ _ (by simp)]
    have := (MapKept.heap_alloc (w.alloc (.cells arg T1)) (.cells zer T2)).1
    simpa using this
  · have := (MapKept.heap_alloc ((w.alloc (.cells arg T1)).alloc (.cells zer T2)) (.cells cur T2)).1
    simpa using this
theorem bx_below {w wx w1 : World} {T1 T2 : TypeId} {arg zer cur : Array Value} (h : BxSt w T1 T2 arg zer cur wx) (b : Below wx.heap.size wx w1) : BxSt w T1 T2 arg zer cur w1 := by
  obtain ⟨h1, h2, h3, h4, h5⟩ := h
  have hz := b.size
  exact ⟨Below.on h1 b, (b.block _ (by omega)).trans h2, (b.block _ (by omega)).trans h3, (b.block _ (by omega)).trans h4, by omega⟩
theorem bx_turn {w w1 w2 : World} {T1 T2 : TypeId} {arg zer cur cur' : Array Value} (h : BxSt w T1 T2 arg zer cur w1) (hg : w1.grownBy w2 (some (w.heap.size + 1 + 1))) (hr : w2.heap[w.heap.size + 1 + 1]? = some (.cells cur' T2 (0, 0))) : BxSt w T1 T2 arg zer cur' w2 := by
  obtain ⟨h1, h2, h3, h4, h5⟩ := h
  refine ⟨h1.grown hg (by omega) (by intro k hk; simp at hk; omega), (hg.block _ (by omega) (by simp; omega)).trans h2, (hg.block _ (by omega) (by simp)).trans h3, hr, by have := hg.size; omega⟩
theorem bx_set {w w1 : World} {T1 T2 : TypeId} {arg zer cur cur' : Array Value} (h : BxSt w T1 T2 arg zer cur w1) (j : Nat) (v : Value) (hc : cur.setIfInBounds j v = cur') : BxSt w T1 T2 arg zer cur' (w1.setCell ⟨w.heap.size + 1 + 1, j, none⟩ v) := by
  subst hc
  exact bx_turn h (grown1 _ _ _ _) (heap_setCell_same _ _ _ _ _ _ h.2.2.2.1)
theorem bx_set5 {w w1 : World} {T1 T2 : TypeId} {arg zer cur cur' : Array Value} (h : BxSt w T1 T2 arg zer cur w1) (j : Nat) (c0 c1 c2 c3 c4 : Value) (hc : ((((cur.setIfInBounds j c0).setIfInBounds (j + 1) c1).setIfInBounds (j + 2) c2).setIfInBounds (j + 3) c3).setIfInBounds (j + 4) c4 = cur') : BxSt w T1 T2 arg zer cur' (set5 w1 (w.heap.size + 1 + 1) j c0 c1 c2 c3 c4) := by
  subst hc
  exact bx_turn h (set5_grown _ _ _ _ _ _ _ _) (set5_heap _ _ _ _ _ h.2.2.2.1)

/-- Behind the boxes. -/
def Beh (w wx : World) (b : Nat) : Prop := w.heap.size + 3 ≤ b ∧ b < wx.heap.size
theorem beh_below {w wx w1 : World} (b : Below wx.heap.size wx w1) : Agree (Beh w wx) wx w1 := fun k hk => b.block k hk.2
theorem beh_turn {w wx w1 : World} (hg : wx.grownBy w1 (some (w.heap.size + 1 + 1))) : Agree (Beh w wx) wx w1 := fun k hk => hg.block k hk.2 (by have := hk.1; simp; omega)
theorem beh_mono {w wx w1 : World} (h : wx.heap.size ≤ w1.heap.size) : ∀ b, Beh w wx b → Beh w w1 b := fun b hb => ⟨hb.1, Nat.lt_of_lt_of_le hb.2 h⟩
end Go.Proofs.Ytcepgdlnlmhecaa
/-
  toChange: a change copied.
-/
namespace Go.Proofs.Ytcepgdlnlmhecaa
open Go.RowKit
set_option linter.unusedVariables false
set_option linter.unusedSimpArgs false

/-- What toChange leaves. -/
def CgEnd (d : Nat) (x : Chg d) (w : World) (e : Ending) (w' : World) : Prop := ∃ cs, e = .returned (.agg cs.toArray) ∧ CSg (fun b => w.heap.size ≤ b ∧ b < w'.heap.size) w' d cs x ∧ Below w.heap.size w w'

set_option maxHeartbeats 6400000 in
set_option maxRecDepth 100000 in
theorem toChange_any (d N : Nat) (cs : List Value) (x : Chg d) (w : World) (h : CSg (fun b => b < N) w d cs x) (hN : N ≤ w.heap.size) (hz : CSz d x) :
    Calls Try.prog 15 #[.agg cs.toArray] w (CgEnd d x w) := by
  obtain ⟨pa, pc, ok, on, o2, ol2, op2, o3, ol3, op3, o4, ol4, op4, nk, nn, n2, nl2, np2, n3, nl3, np3, n4, nl4, np4, rfl, ht, hv, hu⟩ := h.form
  obtain ⟨pth, had, old, has, new⟩ := x
  obtain ⟨z0, z1, z2⟩ := hz
  simp only at ht hv hu z0 z1 z2 ⊢
  have hA : ∀ wx, Below w.heap.size w wx → Agree (fun b => b < N) w wx := fun wx hb => agree_below (hb.mono hN)
  have HT : Hid (∀ wx, Below w.heap.size w wx → w.heap.size + 3 ≤ wx.heap.size → Calls Try.prog 25 #[.slice pa pth.length pc] wx fun e w' => ∃ ga gc, e = .returned (.slice ga pth.length gc) ∧ PthSeg (Beh w w') w' (.slice ga pth.length gc) pth ∧ Below wx.heap.size wx w') := fun wx hb hs => by
    refine (toStepS_any N _ pth wx (ht.agree (hA wx hb)) (by have := hb.size; omega) z0).mono ?_
    rintro e w' ⟨u, rfl, B, hO, hB, b⟩
    have hq := hO.seg.mono (R' := Beh w w') fun b' hb' => by have := hB b' hb'; exact ⟨by omega, this.2⟩
    obtain ⟨ga, gc, rfl⟩ := hq.sl
    exact ⟨ga, gc, rfl, hq, b⟩
  have HV : Hid (∀ wx, Below w.heap.size w wx → w.heap.size + 3 ≤ wx.heap.size → Calls Try.prog 26 #[.agg #[.int .i64 ok, .int .i64 on, .slice o2 ol2 op2, .slice o3 ol3 op3, .slice o4 ol4 op4]] wx fun e w' => ∃ c0 c1 c2 c3 c4, e = .returned (.agg #[c0, c1, c2, c3, c4]) ∧ VSeg (Beh w w') w' d (c0, c1, c2, c3, c4) old ∧ Below wx.heap.size wx w') := fun wx hb hs => by
    refine (toValue_any d N (.int .i64 ok, .int .i64 on, .slice o2 ol2 op2, .slice o3 ol3 op3, .slice o4 ol4 op4) old wx (VSeg.agree (hA wx hb) d hv) (by have := hb.size; omega) z1).mono ?_
    rintro e w' ⟨c0, c1, c2, c3, c4, rfl, B, hO, hB, b⟩
    exact ⟨_, _, _, _, _, rfl, VSeg.mono (fun b' hb' => by have := hB b' hb'; exact ⟨by omega, this.2⟩) d (VOwn.seg d hO), b⟩
  have HU : Hid (∀ wx, Below w.heap.size w wx → w.heap.size + 3 ≤ wx.heap.size → Calls Try.prog 26 #[.agg #[.int .i64 nk, .int .i64 nn, .slice n2 nl2 np2, .slice n3 nl3 np3, .slice n4 nl4 np4]] wx fun e w' => ∃ c0 c1 c2 c3 c4, e = .returned (.agg #[c0, c1, c2, c3, c4]) ∧ VSeg (Beh w w') w' d (c0, c1, c2, c3, c4) new ∧ Below wx.heap.size wx w') := fun wx hb hs => by
    refine (toValue_any d N (.int .i64 nk, .int .i64 nn, .slice n2 nl2 np2, .slice n3 nl3 np3, .slice n4 nl4 np4) new wx (VSeg.agree (hA wx hb) d hu) (by have := hb.size; omega) z2).mono ?_
    rintro e w' ⟨c0, c1, c2, c3, c4, rfl, B, hO, hB, b⟩
    exact ⟨_, _, _, _, _, rfl, VSeg.mono (fun b' hb' => by have := hB b' hb'; exact ⟨by omega, this.2⟩) d (VOwn.seg d hO), b⟩
  clear ht hv hu h hA
  have hst0 := hide' (bx_start w 37 43 #[.slice pa pth.length pc, .bool had, .int .i64 ok, .int .i64 on, .slice o2 ol2 op2, .slice o3 ol3 op3, .slice o4 ol4 op4, .bool has, .int .i64 nk, .int .i64 nn, .slice n2 nl2 np2, .slice n3 nl3 np3, .slice n4 nl4 np4] #[.slice none 0 0, .bool false, .int .i64 0, .int .i64 0, .slice none 0 0, .slice none 0 0, .slice none 0 0, .bool false, .int .i64 0, .int .i64 0, .slice none 0 0, .slice none 0 0, .slice none 0 0] #[.slice none 0 0, .bool false, .int .i64 0, .int .i64 0, .slice none 0 0, .slice none 0 0, .slice none 0 0, .bool false, .int .i64 0, .int .i64 0, .slice none 0 0, .slice none 0 0, .slice none 0 0])
  generalize hn0 : pth.length = pl at *
  have Hn0 := hide' hn0
  clear hn0 z0 z1 z2
  go_enter Try.func15, Try.ntmps15
  go_wp2_with fail
  refine (HT.out _ hst0.out.1 hst0.out.2.2.2.2).mono ?_
  rintro e w1 ⟨ga, gc, rfl, hT1, b1⟩
  have hq := bx_below hst0.out b1
  have hs1 := bx_set hq 0 (.slice ga pl gc) rfl
  have hs1' := hide' (bx_set hs1 1 (.bool had) rfl)
  have hg1 := grownBy_trans (grown1 w1 (w.heap.size + 1 + 1) 0 (.slice ga pl gc)) (grown1 _ (w.heap.size + 1 + 1) 1 (.bool had))
  have HT1 := hide' ((hT1.agree (beh_turn hg1)).mono (beh_mono hg1.size))
  have u1 := cell_of_row _ _ 1 _ _ _ hq.2.1
  have u2 := cell_of_row _ _ 2 _ _ _ hq.2.1
  have u3 := cell_of_row _ _ 3 _ _ _ hq.2.1
  have u4 := cell_of_row _ _ 4 _ _ _ hq.2.1
  have u5 := cell_of_row _ _ 5 _ _ _ hq.2.1
  have u6 := cell_of_row _ _ 6 _ _ _ hq.2.1
  have t0 := cell_of_row _ _ 0 _ _ _ hq.2.2.2.1
  have t1 := cell_of_row _ _ 1 _ _ _ hq.2.2.2.1
  have f0 := frozen_of_row _ _ 0 _ _ hq.2.2.2.1
  have f1 := frozen_of_row _ _ 1 _ _ hq.2.2.2.1
  simp at u1 u2 u3 u4 u5 u6 t0 t1 hs1'
  clear hT1 b1 hq hs1 hg1 hst0 HT
  go_wp2_with fail
  refine (HV.out _ hs1'.out.1 hs1'.out.2.2.2.2).mono ?_
  rintro e w2 ⟨v0, v1, v2, v3, v4, rfl, hV2, b2⟩
  obtain ⟨vk, vn, e2, m2, q2, e3, m3, q3, e4, m4, q4, rfl, rfl, rfl, rfl, rfl⟩ := VSeg.form d hV2
  have hq := bx_below hs1'.out b2
  have hs2 := bx_set5 hq 2 (.int .i64 vk) (.int .i64 vn) (.slice e2 m2 q2) (.slice e3 m3 q3) (.slice e4 m4 q4) rfl
  have hs2' := hide' (bx_set hs2 7 (.bool has) rfl)
  have hg2 := grownBy_trans (set5_grown w2 (w.heap.size + 1 + 1) 2 (.int .i64 vk) (.int .i64 vn) (.slice e2 m2 q2) (.slice e3 m3 q3) (.slice e4 m4 q4)) (grown1 _ (w.heap.size + 1 + 1) 7 (.bool has))
  have HT2 := hide' ((((HT1.out.agree (beh_below b2)).mono (beh_mono b2.size)).agree (beh_turn hg2)).mono (beh_mono hg2.size))
  have HV2 := hide' (VSeg.mono (beh_mono hg2.size) d (VSeg.agree (beh_turn hg2) d hV2))
  have x7 := cell_of_row _ _ 7 _ _ _ hq.2.1
  have x8 := cell_of_row _ _ 8 _ _ _ hq.2.1
  have x9 := cell_of_row _ _ 9 _ _ _ hq.2.1
  have x10 := cell_of_row _ _ 10 _ _ _ hq.2.1
  have x11 := cell_of_row _ _ 11 _ _ _ hq.2.1
  have x12 := cell_of_row _ _ 12 _ _ _ hq.2.1
  have r2 := cell_of_row _ _ 2 _ _ _ hq.2.2.2.1
  have k2 := frozen_of_row _ _ 2 _ _ hq.2.2.2.1
  have r3 := cell_of_row _ _ 3 _ _ _ hq.2.2.2.1
  have k3 := frozen_of_row _ _ 3 _ _ hq.2.2.2.1
  have r4 := cell_of_row _ _ 4 _ _ _ hq.2.2.2.1
  have k4 := frozen_of_row _ _ 4 _ _ hq.2.2.2.1
  have r5 := cell_of_row _ _ 5 _ _ _ hq.2.2.2.1
  have k5 := frozen_of_row _ _ 5 _ _ hq.2.2.2.1
  have r6 := cell_of_row _ _ 6 _ _ _ hq.2.2.2.1
  have k6 := frozen_of_row _ _ 6 _ _ hq.2.2.2.1
  have r7 := cell_of_row _ _ 7 _ _ _ hq.2.2.2.1
  have k7 := frozen_of_row _ _ 7 _ _ hq.2.2.2.1
  simp at x7 x8 x9 x10 x11 x12 r2 r3 r4 r5 r6 r7 hs2'
  clear hV2 b2 hq hg2 hs2 hs1' HV HT1 u1 u2 u3 u4 u5 u6 t0 t1 f0 f1
  go_wp2_with fail
  refine (HU.out _ hs2'.out.1 hs2'.out.2.2.2.2).mono ?_
  rintro e w3 ⟨v0, v1, v2, v3, v4, rfl, hU3, b3⟩
  obtain ⟨xk, xn, f2, r2', t2, f3, r3', t3, f4, r4', t4, rfl, rfl, rfl, rfl, rfl⟩ := VSeg.form d hU3
  have hq := bx_below hs2'.out b3
  have hs3 := hide' (bx_set5 hq 8 (.int .i64 xk) (.int .i64 xn) (.slice f2 r2' t2) (.slice f3 r3' t3) (.slice f4 r4' t4) rfl)
  have hg3 := set5_grown w3 (w.heap.size + 1 + 1) 8 (.int .i64 xk) (.int .i64 xn) (.slice f2 r2' t2) (.slice f3 r3' t3) (.slice f4 r4' t4)
  have HT3 := hide' ((((HT2.out.agree (beh_below b3)).mono (beh_mono b3.size)).agree (beh_turn hg3)).mono (beh_mono hg3.size))
  have HV3 := hide' (VSeg.mono (beh_mono hg3.size) d (VSeg.agree (beh_turn hg3) d (VSeg.mono (beh_mono b3.size) d (VSeg.agree (beh_below b3) d HV2.out))))
  have HU3 := hide' (VSeg.mono (beh_mono hg3.size) d (VSeg.agree (beh_turn hg3) d hU3))
  clear r2 r3 r4 r5 r6 r7 k2 k3 k4 k5 k6 k7 x7 x8 x9 x10 x11 x12
  have r8 := cell_of_row _ _ 8 _ _ _ hq.2.2.2.1
  have k8 := frozen_of_row _ _ 8 _ _ hq.2.2.2.1
  have r9 := cell_of_row _ _ 9 _ _ _ hq.2.2.2.1
  have k9 := frozen_of_row _ _ 9 _ _ hq.2.2.2.1
  have r10 := cell_of_row _ _ 10 _ _ _ hq.2.2.2.1
  have k10 := frozen_of_row _ _ 10 _ _ hq.2.2.2.1
  have r11 := cell_of_row _ _ 11 _ _ _ hq.2.2.2.1
  have k11 := frozen_of_row _ _ 11 _ _ hq.2.2.2.1
  have r12 := cell_of_row _ _ 12 _ _ _ hq.2.2.2.1
  have k12 := frozen_of_row _ _ 12 _ _ hq.2.2.2.1
  simp at r8 r9 r10 r11 r12 hs3
  clear hU3 b3 hq hg3 hs2' HU HT2 HV2
  go_upto_region 7 with fail
  have hset : Hid (BxSt w 37 43 #[.slice pa pl pc, .bool had, .int .i64 ok, .int .i64 on, .slice o2 ol2 op2, .slice o3 ol3 op3, .slice o4 ol4 op4, .bool has, .int .i64 nk, .int .i64 nn, .slice n2 nl2 np2, .slice n3 nl3 np3, .slice n4 nl4 np4] #[.slice none 0 0, .bool false, .int .i64 0, .int .i64 0, .slice none 0 0, .slice none 0 0, .slice none 0 0, .bool false, .int .i64 0, .int .i64 0, .slice none 0 0, .slice none 0 0, .slice none 0 0] #[.slice ga pl gc, .bool had, .int .i64 vk, .int .i64 vn, .slice e2 m2 q2, .slice e3 m3 q3, .slice e4 m4 q4, .bool has, .int .i64 xk, .int .i64 xn, .slice f2 r2' t2, .slice f3 r3' t3, .slice f4 r4' t4] (set5 w3 (w.heap.size + 1 + 1) 8 (.int .i64 xk) (.int .i64 xn) (.slice f2 r2' t2) (.slice f3 r3' t3) (.slice f4 r4' t4))) := hs3.out
  clear hs3
  simp only [set5] at hset HT3 HV3 HU3
  generalize ((((w3.setCell ⟨w.heap.size + 1 + 1, 8, none⟩ (.int .i64 xk)).setCell ⟨w.heap.size + 1 + 1, 9, none⟩ (.int .i64 xn)).setCell ⟨w.heap.size + 1 + 1, 10, none⟩ (.slice f2 r2' t2)).setCell ⟨w.heap.size + 1 + 1, 11, none⟩ (.slice f3 r3' t3)).setCell ⟨w.heap.size + 1 + 1, 12, none⟩ (.slice f4 r4' t4) = wA at *
  clear r8 r9 r10 r11 r12 k8 k9 k10 k11 k12
  have hr := range_of_row (cs := [.slice ga pl gc, .bool had, .int .i64 vk, .int .i64 vn, .slice e2 m2 q2, .slice e3 m3 q3, .slice e4 m4 q4, .bool has, .int .i64 xk, .int .i64 xn, .slice f2 r2' t2, .slice f3 r3' t3, .slice f4 r4' t4]) hset.out.2.2.2.1
  have hth : wA.there (w.heap.size + 1) 0 13 := there_of_row hset.out.2.2.1
  have hone : ∀ v ∈ [Value.slice ga pl gc, .bool had, .int .i64 vk, .int .i64 vn, .slice e2 m2 q2, .slice e3 m3 q3, .slice e4 m4 q4, .bool has, .int .i64 xk, .int .i64 xn, .slice f2 r2' t2, .slice f3 r3' t3, .slice f4 r4' t4], v.oneCell' = true := by
    intro v hv
    simp only [List.mem_cons, List.not_mem_nil, or_false] at hv
    rcases hv with rfl | rfl | rfl | rfl | rfl | rfl | rfl | rfl | rfl | rfl | rfl | rfl | rfl <;> rfl
  have hld := run_loadVar_mid (P := Try.prog) _ _ _ 43 _ _ (World.rangeAt_setCells_same wA (w.heap.size + 1) 0 [.slice ga pl gc, .bool had, .int .i64 vk, .int .i64 vn, .slice e2 m2 q2, .slice e3 m3 q3, .slice e4 m4 q4, .bool has, .int .i64 xk, .int .i64 xn, .slice f2 r2' t2, .slice f3 r3' t3, .slice f4 r4' t4] hth) Try.underlying43 rfl (by kernel_rfl)
  have hg := grown_setCells (w.heap.size + 1) [.slice ga pl gc, .bool had, .int .i64 vk, .int .i64 vn, .slice e2 m2 q2, .slice e3 m3 q3, .slice e4 m4 q4, .bool has, .int .i64 xk, .int .i64 xn, .slice f2 r2' t2, .slice f3 r3' t3, .slice f4 r4' t4] 0 wA
  go_wp2_with (first | (refine wpList_load_mid rfl 43 (.tmp 3) (by rfl) (w.heap.size + 1 + 1) 0 (by rfl) _ _ hr Try.underlying43 rfl (by kernel_rfl) ?_) | (refine wpList_store_mid rfl 43 (.tmp 2) (.tmp 22) (by rfl) (w.heap.size + 1) 0 #[.slice ga pl gc, .bool had, .int .i64 vk, .int .i64 vn, .slice e2 m2 q2, .slice e3 m3 q3, .slice e4 m4 q4, .bool has, .int .i64 xk, .int .i64 xn, .slice f2 r2' t2, .slice f3 r3' t3, .slice f4 r4' t4] (by rfl) (by rfl) hth (by kernel_rfl) (all_oneCell_toArray hone) ?_))
  refine bodyPost_ret (v := .agg #[.slice ga pl gc, .bool had, .int .i64 vk, .int .i64 vn, .slice e2 m2 q2, .slice e3 m3 q3, .slice e4 m4 q4, .bool has, .int .i64 xk, .int .i64 xn, .slice f2 r2' t2, .slice f3 r3' t3, .slice f4 r4' t4]) (results_cell 2 43 Try.results15 (by rfl) hld) rfl ?_
  have hAg : Agree (Beh w wA) wA _ := fun b hb => hg.block b hb.2 (by have := hb.1; simp; omega)
  have hMo : ∀ b, Beh w wA b → (w.heap.size ≤ b ∧ b < (wA.setCells (w.heap.size + 1) 0 [.slice ga pl gc, .bool had, .int .i64 vk, .int .i64 vn, .slice e2 m2 q2, .slice e3 m3 q3, .slice e4 m4 q4, .bool has, .int .i64 xk, .int .i64 xn, .slice f2 r2' t2, .slice f3 r3' t3, .slice f4 r4' t4]).heap.size) := fun b hb => ⟨by have := hb.1; omega, Nat.lt_of_lt_of_le hb.2 hg.size⟩
  exact ⟨_, rfl, ⟨_, _, _, _, _, _, _, _, _, _, _, rfl, by rw [Hn0.out] at *; exact (HT3.out.agree hAg).mono hMo, VSeg.mono hMo d (VSeg.agree hAg d HV3.out), VSeg.mono hMo d (VSeg.agree hAg d HU3.out)⟩, hset.out.1.grown hg (by have := hset.out.2.2.2.2; omega) (by intro j hj; simp at hj; omega)⟩
end Go.Proofs.Ytcepgdlnlmhecaa
/-
  toChangeS: a list of changes copied.
-/
namespace Go.Proofs.Ytcepgdlnlmhecaa
open Go.RowKit
set_option linter.unusedVariables false
set_option linter.unusedSimpArgs false

theorem infoCg : (Try.prog.info? 43).map (fun i => (i.zero, i.size, i.bytes)) = some (some (.agg #[.slice none 0 0, .bool false, .int .i64 0, .int .i64 0, .slice none 0 0, .slice none 0 0, .slice none 0 0, .bool false, .int .i64 0, .int .i64 0, .slice none 0 0, .slice none 0 0, .slice none 0 0]), 13, 216) := by kernel_rfl

/-- The first k changes are laid. -/
def CPart (wr : World) (g n d : Nat) (l : List (Chg d)) (k : Nat) : Prop :=
  wr.there g 0 (n * 13) ∧ g < wr.heap.size ∧ ∀ i (h : i < l.length), i < k → ∃ cs, wr.rangeAt g (i * 13) cs ∧ CSg (fun b => g < b ∧ b < wr.heap.size) wr d cs l[i]

theorem there_cut {w : World} {g n : Nat} (h : w.there g 0 n) (o m : Nat) (hm : o + m ≤ n) : w.there g o m := fun j hj => by
  have := h (o + j) (by omega)
  rw [Nat.zero_add] at this
  exact this
theorem there_below {w w' : World} {g o n : Nat} (h : w.there g o n) (hg : g < w.heap.size) (hb : Below w.heap.size w w') : w'.there g o n := fun j hj => by
  obtain ⟨h1, h2⟩ := h j hj
  exact ⟨by rw [World.cell?_of_block (w := w) (w' := w') (hb.block g hg)]; exact h1, by rw [World.frozen?_of_block (w := w) (w' := w') (hb.block g hg)]; exact h2⟩
theorem range_keep {w w' : World} {g o : Nat} {cs : List Value} (h : w.rangeAt g o cs) (hg : g < w.heap.size) (hb : Below w.heap.size w w') : w'.rangeAt g o cs := fun j v hv => (World.cell?_of_block (hb.block g hg)).trans (h j v hv)

theorem cPart_next {wr w2 : World} {g n d : Nat} {l : List (Chg d)} {k : Nat} {cs : List Value} (h : CPart wr g n d l k) (hk : k < l.length) (hn : l.length ≤ n) (b2 : Below wr.heap.size wr w2) (hs : CSg (fun b => wr.heap.size ≤ b ∧ b < w2.heap.size) w2 d cs l[k]) :
    w2.there g (k * 13) 13 ∧ CPart (w2.setCells g (k * 13) cs) g n d l (k + 1) := by
  obtain ⟨h1, h2, h3⟩ := h
  have hlen := hs.len
  have hth := there_below h1 h2 b2
  have hg := grown_setCells g cs (k * 13) w2
  have hz := b2.size
  have hz2 := hg.size
  have htk := there_cut hth (k * 13) 13 (by omega)
  refine ⟨htk, World.there_setCells hth _ _ _, by omega, fun i hi hik => ?_⟩
  by_cases e : i = k
  · subst e
    refine ⟨cs, World.rangeAt_setCells_same _ _ _ _ (by rw [hlen]; exact htk), ?_⟩
    have ha : Agree (fun b => wr.heap.size ≤ b ∧ b < w2.heap.size) w2 (w2.setCells g (i * 13) cs) := fun b hb => hg.block b hb.2 (by have := hb.1; simp; omega)
    exact (hs.agree ha).mono fun b hb => ⟨by omega, by omega⟩
  · obtain ⟨cs', hr, hv⟩ := h3 i hi (by omega)
    have hl' := hv.len
    refine ⟨cs', World.rangeAt_setCells_apart (range_keep hr h2 b2) _ _ _ (by omega), ?_⟩
    have ha : Agree (fun b => g < b ∧ b < wr.heap.size) wr (w2.setCells g (k * 13) cs) := fun b hb => (hg.block b (by omega) (by have := hb.1; simp; omega)).trans (b2.block b hb.2)
    exact (hv.agree ha).mono fun b hb => ⟨hb.1, by omega⟩

/-- What toChangeS leaves. -/
def CgSEnd (d : Nat) (l : List (Chg d)) (w : World) (e : Ending) (w' : World) : Prop := ∃ a c, e = .returned (.slice a l.length c) ∧ CLSg (fun b => w.heap.size ≤ b ∧ b < w'.heap.size) w' d (.slice a l.length c) l ∧ Below w.heap.size w w'

set_option maxHeartbeats 3200000 in
set_option maxRecDepth 100000 in
theorem toChangeS_any (d N : Nat) (x : Value) (l : List (Chg d)) (w : World) (hx : CLSg (fun b => b < N) w d x l) (hN : N ≤ w.heap.size) (hn : l.length ≤ 1048576) (hz : ∀ i (h : i < l.length), CSz d l[i]) :
    Calls Try.prog 6 #[x] w (CgSEnd d l w) := by
  have HX := hide' hx
  have HZ := hide' hz
  obtain ⟨a, cap, rfl, _, _, _, _⟩ := hx
  obtain ⟨i0, hi, hz0, hz1, hz2⟩ := info_parts infoCg
  clear hz
  go_enter Try.func6, Try.ntmps6
  go_wp2_with (refine wpList_make_full _ rfl _ _ 25 rfl w.heap.size 43 i0 (.agg #[.slice none 0 0, .bool false, .int .i64 0, .int .i64 0, .slice none 0 0, .slice none 0 0, .slice none 0 0, .bool false, .int .i64 0, .int .i64 0, .slice none 0 0, .slice none 0 0, .slice none 0 0]) 13 Try.underlying25 hi hz0 hz1 .i64 .i64 _ _ l.length rfl rfl rfl rfl (by rw [hz2]; omega) (by unfold maxLen; omega) (Nat.le_refl _) ?_; intro w1 hown hgrow)
  have hK0 : Hid (CPart w1 w.heap.size l.length d l 0) := by
    rcases hown.2 with ⟨h1, _⟩ | ⟨g, cp, cur, h1, _, h3, _, _, h6, _⟩
    · simp at h1
    · simp only [Value.slice.injEq, Option.some.injEq, Addr.mk.injEq, and_true, true_and] at h1
      obtain ⟨e1, e2⟩ := h1
      subst e1
      refine ⟨?_, (Array.getElem?_eq_some_iff.1 h3).1, fun i hi h => by omega⟩
      have := there_of_row h3
      rw [h6, ← e2] at this
      exact this
  have hb1 : Below w.heap.size w w1 := (Below.refl _ _).grown hgrow (Nat.le_refl _) (by simp)
  clear hown hgrow
  go_loopw [4] (fun i wr => ∃ k : Nat, k ≤ l.length ∧ i = .int .i64 k ∧ Hid (CPart wr w.heap.size l.length d l k) ∧ Below w.heap.size w wr) (fun i _ => l.length - (intOf i).toNat)
  case atStart => exact ⟨0, Nat.zero_le _, rfl, hK0, hb1⟩
  case round =>
    obtain ⟨k, hk, rfl, hK, hbel⟩ := hrel
    clear hK0 hb1
    have hzz := hbel.size
    by_cases hlt : k < l.length
    · have hlt' : (k : Int) < (l.length : Int) := by omega
      have hXr := HX.out.agree (agree_below (hbel.mono hN))
      obtain ⟨b, off, rfl, hbN, hat⟩ := hXr.at hlt
      obtain ⟨cs, hr, hs⟩ := hat k hlt
      have HC := hide' (toChange_any d N cs l[k] wr hs (by omega) (HZ.out k hlt))
      have hlen := hs.len
      clear hs hXr hat
      go_wp2_with (refine wpList_load_mid rfl 37 (.tmp 18) (by rfl) b (off + k * 13) (by rfl) cs _ hr Try.underlying37 rfl (info_laws_chg hlen) ?_)
      refine HC.out.mono ?_
      rintro e w2 ⟨cs2, rfl, hs2, b2⟩
      obtain ⟨hth, hP⟩ := cPart_next hK.out hlt (Nat.le_refl _) b2 hs2
      have hl2 := hs2.len
      have HP := hide' hP
      have hone := all_oneCell_toArray hs2.one
      have hsz2 : cs2.toArray.size = 13 := by simpa using hl2
      have hth' : w2.there w.heap.size (k * 13) cs2.toArray.size := by rw [hsz2]; exact hth
      have hB := hide' ((Below.on hbel b2).grown (grown_setCells w.heap.size cs2 (k * 13) w2) (Below.on hbel b2).size (by intro j hj; simp at hj; omega))
      clear hP hs2 b2 hbel hr HC
      go_wp2_with (refine wpList_store_mid rfl 43 (.tmp 21) (.tmp 20) (by rfl) w.heap.size (k * 13) cs2.toArray (by rfl) (by rfl) hth' (info_chg hsz2) hone ?_)
      go_roundw
      case rel => exact ⟨k + 1, by omega, by go_num, HP, hB.out⟩
      case measure => simp [intOf]; omega
    · have hkn : k = l.length := by omega
      have hkn' : ¬ (k : Int) < (l.length : Int) := by omega
      have HF : Hid (CLSg (fun b => w.heap.size ≤ b ∧ b < wr.heap.size) wr d (.slice (some ⟨w.heap.size, 0, none⟩) l.length l.length) l) := by
        refine ⟨_, _, rfl, Nat.le_refl _, by unfold maxLen; omega, by simp, .inr ⟨w.heap.size, 0, rfl, ⟨Nat.le_refl _, hK.out.2.1⟩, fun i hi => ?_⟩⟩
        obtain ⟨cs, hr, hv⟩ := hK.out.2.2 i hi (by omega)
        exact ⟨cs, by rw [Nat.zero_add]; exact hr, hv.mono fun b hb => ⟨by omega, hb.2⟩⟩
      clear hkn hK
      go_wp2
      go_ret
      exact ⟨_, _, rfl, HF.out, hbel⟩
end Go.Proofs.Ytcepgdlnlmhecaa
/-
  FnExactChangesOk answers true, whatever changes it is handed; it makes new memory and turns nothing old.
-/
namespace Go.Proofs.Ytcepgdlnlmhecaa
open Go.RowKit
set_option linter.unusedVariables false

set_option maxHeartbeats 3200000 in
theorem walk_FnExactChangesOk (d : Nat) (a : Option Addr) (n cap : Nat) (l : List (Chg d)) (w : World) (hx : CLSg (fun b => b < w.heap.size) w d (.slice a n cap) l) :
    Calls Try.prog 3 #[.slice a n cap] w fun e w' => e = .returned (.bool true) ∧ Below w.heap.size w w' := by
  have HV : Hid (∀ wx, Below w.heap.size w wx → CLSg (fun b => b < w.heap.size) wx d (.slice a n cap) l) := fun wx hb => hx.agree (agree_below hb)
  have HS : Hid (Calls Try.prog 4 #[.slice a n cap, .int .i64 1048576] w (SzCEnd d l w)) := szChangeS_any d w.heap.size _ l w hx (Nat.le_refl _)
  unfold SzCEnd at HS
  have HT : Hid (l.length ≤ 1048576 → (∀ i (h : i < l.length), CSz d l[i]) → ∀ wx, Below w.heap.size w wx → Calls Try.prog 6 #[.slice a n cap] wx (CgSEnd d l wx)) := fun h1 h2 wx hb => toChangeS_any d w.heap.size _ l wx (HV.out wx hb) hb.size h1 h2
  unfold CgSEnd at HT
  have HEq : Hid (l.length ≤ 1048576 → (∀ i (h : i < l.length), CSz d l[i]) → ∀ (y z : Value) (wx : World), CLSg (fun b => b < wx.heap.size) wx d y l → CLSg (fun b => b < wx.heap.size) wx d z l → Calls Try.prog 8 #[y, z] wx fun e w' => e = .returned (.bool true) ∧ Below wx.heap.size wx w') := fun h1 h2 y z wx k1 k2 => eqChangeS_any d wx.heap.size y z l wx k1 k2 (Nat.le_refl _) h1 h2
  have HSp : Hid (l.length ≤ 1048576 → ∀ u c wx, CLSg (fun b => b < wx.heap.size) wx d (.slice u l.length c) l → Calls Try.prog 5 #[.slice u l.length c] wx fun e w' => e = .returned (.bool (chB d l)) ∧ Below wx.heap.size wx w') := fun h1 u c wx h => spec_ChangesOk_any d wx.heap.size u c l wx h (Nat.le_refl _) h1
  have HIm : Hid (l.length ≤ 1048576 → ∀ u c wx, CLSg (fun b => b < wx.heap.size) wx d (.slice u l.length c) l → Calls Try.prog 7 #[.slice u l.length c] wx fun e w' => e = .returned (.bool (chB d l)) ∧ Below wx.heap.size wx w') := fun h1 u c wx h => impl_ChangesOk_any d wx.heap.size u c l wx h (Nat.le_refl _) h1
  clear hx HV
  generalize chB d l = ok at *
  go_enter Try.func3, Try.ntmps3
  go_wp2_with fail
  refine HS.out.mono ?_
  rintro e w1 ⟨h1 | ⟨m, hm0, hm1, h1, hl1, hz1⟩, B1⟩
  · subst h1
    go_wp2
    go_ret
    exact ⟨rfl, B1⟩
  subst h1
  have HT' := hide' (HT.out hl1 hz1)
  have HEq' := hide' (HEq.out hl1 hz1)
  have HSp' := hide' (HSp.out hl1)
  have HIm' := hide' (HIm.out hl1)
  have HT1 := hide' (HT'.out w1 B1)
  have HB1 := hide' B1
  clear B1 HS HT HEq HSp HIm hz1
  generalize hll : l.length = ll at *
  go_wp2_with fail
  refine HT1.out.mono ?_
  rintro e w2 ⟨ua, uc, rfl, hO2, b2⟩
  have hS2 := hide' (HSp'.out ua uc w2 (hO2.mono fun b hb => hb.2))
  have B2 := hide' (Below.on HB1.out b2)
  clear HT1 HB1 hO2 b2
  go_wp2_with fail
  refine hS2.out.mono ?_
  rintro e w3 ⟨rfl, b3⟩
  have B3 := hide' (Below.on B2.out b3)
  have HT3 := hide' (HT'.out w3 B3.out)
  clear b3 B2 hS2
  go_wp2_with fail
  refine HT3.out.mono ?_
  rintro e w4 ⟨va, vc, rfl, hO4, b4⟩
  have hI4 := hide' (HIm'.out va vc w4 (hO4.mono fun b hb => hb.2))
  have B4 := hide' (Below.on B3.out b4)
  have HO4 : Hid (CLSg (fun b => b < w4.heap.size) w4 d (.slice va ll vc) l) := hO4.mono fun b hb => hb.2
  clear HT3 b4 hO4 B3
  go_wp2_with fail
  refine hI4.out.mono ?_
  rintro e w5 ⟨rfl, b5⟩
  have B5 := Below.on B4.out b5
  have HT5 := hide' (HT'.out w5 B5)
  have Hb5 := hide' b5
  have HB5 := hide' B5
  clear hI4 b5 B5 B4
  go_wp2_with fail
  refine HT5.out.mono ?_
  rintro e w6 ⟨za, zc, rfl, hO6, b6⟩
  have b46 := Below.on Hb5.out b6
  have B6' := Below.on HB5.out b6
  have hE := hide' (HEq'.out (.slice va ll vc) (.slice za ll zc) w6 ((HO4.out.agree (agree_below b46)).mono fun b hb => Nat.lt_of_lt_of_le hb b46.size) (hO6.mono fun b hb => hb.2))
  clear hO6 b6 b46 HT5 Hb5 HB5
  go_wp2_with fail
  refine hE.out.mono ?_
  rintro e w7 ⟨rfl, b7⟩
  have B7 := Below.on B6' b7
  go_wp2
  go_ret
  exact ⟨rfl, B7⟩
end Go.Proofs.Ytcepgdlnlmhecaa
/-
  A text that came in, as its reading has it, can be read: 'TSeg'.
-/
namespace Go.Proofs.Ytcepgdlnlmhecaa
open Go.ChangeShapes Go.WideShapes Go.ChangeAt Go.RowKit
set_option linter.unusedVariables false
set_option linter.unusedSimpArgs false
set_option maxRecDepth 100000

theorem cellsT : Try.prog.cellsOf 31 = 1 := by kernel_rfl
theorem cellsI : Try.prog.cellsOf 3 = 1 := by kernel_rfl

theorem list_of {α : Type} {Q : Nat → α → Prop} : ∀ n, (∀ i, i < n → ∃ x, Q i x) → ∃ l : List α, l.length = n ∧ ∀ i (h : i < l.length), Q i l[i]
  | 0, _ => ⟨[], rfl, fun i h => by simp at h⟩
  | n + 1, hq => by
    obtain ⟨l, hl, hi⟩ := list_of n (fun i hi => hq i (by omega))
    obtain ⟨x, hx⟩ := hq n (by omega)
    refine ⟨l ++ [x], by simp [hl], fun i h => ?_⟩
    by_cases e : i < l.length
    · rw [List.getElem_append_left e]; exact hi i e
    · have : i = n := by simp at h; omega
      subst this
      rw [List.getElem_append_right (by omega)]
      simpa using hx

variable {H : Type} {enc : TypeId × Value → H} {w : World}

theorem read_text {fuel : Nat} {cs : List Value} {x : DataW H × List MemPlace} (h : DataW.trod enc Try.prog w 0 (fun _ => true) true fuel 31 cs = some x) : ∃ u xs, cs = [u] ∧ TSeg (fun b => b < w.heap.size) w u xs := by
  rcases open_ints Try.underlying31 Try.underlying5 (by kernel_rfl) h with ⟨rfl, _⟩ | ⟨a, len, cap, zs, rfl, _, hl, hm, hz, _, hcell, hwz⟩
  · exact ⟨_, [], rfl, none, 0, rfl, ⟨by simp, .inl rfl⟩, Nat.le_refl _, Nat.zero_le _, fun _ => rfl, by simp⟩
  · obtain ⟨xs, e, hs, h1, h2, h3⟩ := seg_of_row (w := w) (a := some a) (len := len) (cap := cap) (zs := zs) (.inr ⟨a, rfl, hl, hm, by simpa using hz, hcell, hwz⟩)
    subst e
    exact ⟨_, xs, rfl, some a, cap, rfl, hs, h1, h2, h3, hs.lt⟩

end Go.Proofs.Ytcepgdlnlmhecaa
/-
  A value that came in, as its reading has it, can be read: 'VSeg'.
-/
namespace Go.Proofs.Ytcepgdlnlmhecaa
open Go.ChangeShapes Go.WideShapes Go.ChangeAt Go.RowKit
set_option linter.unusedVariables false
set_option linter.unusedSimpArgs false
set_option maxRecDepth 100000

theorem cellsK : Try.prog.cellsOf 32 = 1 := by kernel_rfl
theorem cellsL : Try.prog.cellsOf 33 = 1 := by kernel_rfl
theorem cellsV : Try.prog.cellsOf 35 = 5 := by kernel_rfl
variable {H : Type} {enc : TypeId × Value → H} {w : World}

theorem read_keys {fuel : Nat} {cs : List Value} {x : DataW H × List MemPlace} (h : DataW.trod enc Try.prog w 0 (fun _ => true) true fuel 32 cs = some x) : ∃ u ks, cs = [u] ∧ KSeg (fun b => b < w.heap.size) w u ks := by
  rcases DataW.trod_slice Try.underlying32 h with ⟨rfl, _⟩ | ⟨a, len, cap, elems, rest, n, _, rfl, _, hb, hl, hm, hlen, hel, hsp, hns⟩
  · exact ⟨_, [], rfl, none, 0, rfl, Nat.le_refl _, Nat.zero_le _, fun _ => rfl, .inl rfl⟩
  · have hq : ∀ i, i < len → ∃ xs : List Int, ∃ u, w.cell? (a.add i) = some u ∧ TSeg (fun b => b < w.heap.size) w u xs := by
      intro i hi
      have h1 := hel i hi
      rw [cellsT, Nat.mul_one, List.getElem?_eq_getElem (by omega)] at h1
      obtain ⟨cs', hc, ht⟩ := Option.bind_eq_some_iff.1 h1
      obtain ⟨u, xs, rfl, hT⟩ := read_text ht
      exact ⟨xs, u, cell_of_cells?_one hc, hT⟩
    obtain ⟨ks, hkl, hks⟩ := list_of len hq
    subst hkl
    refine ⟨_, ks, rfl, some a, cap, rfl, hl, hm, by simp, ?_⟩
    by_cases he : ks = []
    · exact .inl he
    · have hp : 0 < ks.length := List.length_pos_iff.2 he
      obtain ⟨b, off, spot⟩ := a
      obtain ⟨u0, hu0, _⟩ := hks 0 hp
      have hspot : spot = none := by simpa [Addr.add] using World.cell?_spot hu0
      subst hspot
      refine .inr ⟨b, off, rfl, ?_, fun i hi => ?_⟩
      · have := World.block_lt_of_cell? w _ hu0
        simpa [Addr.add] using this
      · obtain ⟨u, hu, hT⟩ := hks i hi
        rw [Addr.add_lit] at hu
        exact ⟨u, hu, by simpa [List.getD_eq_getElem?_getD, hi] using hT⟩

theorem read_five {fuel : Nat} {cs : List Value} {x : DataW H × List MemPlace} (h : DataW.trod enc Try.prog w 0 (fun _ => true) true (fuel + 1) 35 cs = some x) :
    ∃ c0 c1 c2 c3 c4 y0 y1 y2 y3 y4, cs = [c0, c1, c2, c3, c4] ∧ DataW.trod enc Try.prog w 0 (fun _ => true) true fuel 3 [c0] = some y0 ∧ DataW.trod enc Try.prog w 0 (fun _ => true) true fuel 3 [c1] = some y1 ∧
      DataW.trod enc Try.prog w 0 (fun _ => true) true fuel 31 [c2] = some y2 ∧ DataW.trod enc Try.prog w 0 (fun _ => true) true fuel 32 [c3] = some y3 ∧ DataW.trod enc Try.prog w 0 (fun _ => true) true fuel 33 [c4] = some y4 := by
  unfold DataW.trod at h
  rw [Try.underlying35] at h
  simp only [cellsV] at h
  split at h
  · next hlen =>
    match cs, hlen with
    | [c0, c1, c2, c3, c4], _ =>
      simp [cellsT, cellsK, cellsL, cellsI, List.mapM_cons, Option.bind_eq_some_iff] at h
      obtain ⟨a0, b0, h0, _, ⟨a1, b1, h1, _, ⟨a2, b2, h2, _, ⟨a3, b3, h3, _, ⟨a4, b4, h4, _⟩, _⟩, _⟩, _⟩, _⟩ := h
      exact ⟨c0, c1, c2, c3, c4, _, _, _, _, _, rfl, h0, h1, h2, h3, h4⟩
  · simp at h

/-- How deep what is read with that fuel is at most. -/
def dep : Nat → Nat
  | 0 => 0
  | 1 => 0
  | f + 2 => dep f + 1

def ReadAt (enc : TypeId × Value → H) (w : World) (f : Nat) : Prop := ∀ (cs : List Value) (x : DataW H × List MemPlace), DataW.trod enc Try.prog w 0 (fun _ => true) true f 35 cs = some x →
  ∃ (c0 c1 c2 c3 c4 : Value) (v : Vl (dep f)), cs = [c0, c1, c2, c3, c4] ∧ VSeg (fun b => b < w.heap.size) w (dep f) (c0, c1, c2, c3, c4) v

theorem read_step (f : Nat) (ih : ReadAt enc w f) : ReadAt enc w (f + 2) := by
  intro cs x h
  obtain ⟨c0, c1, c2, c3, c4, y0, y1, y2, y3, y4, rfl, h0, h1, h2, h3, h4⟩ := read_five h
  obtain ⟨n0, e0, _, _⟩ := DataW.trod_int Try.underlying3 h0
  obtain ⟨n1, e1, _, _⟩ := DataW.trod_int Try.underlying3 h1
  obtain ⟨u2, xs, e2, hT⟩ := read_text h2
  obtain ⟨u3, ks, e3, hK⟩ := read_keys h3
  simp at e0 e1 e2 e3
  subst e0 e1 e2 e3
  have hL : ∃ l : List (Vl (dep f)), LSeg (fun b => b < w.heap.size) w (dep f) c4 l := by
    rcases DataW.trod_slice Try.underlying33 h4 with ⟨e, _⟩ | ⟨a, len, cap, elems, rest, n, hn, e, _, hb, hl, hm, hlen, hel, hsp, hns⟩
    · simp at e
      subst e
      exact ⟨[], none, 0, rfl, Nat.le_refl _, Nat.zero_le _, fun _ => rfl, .inl rfl⟩
    · simp at e
      subst e
      obtain rfl : n = f := by omega
      have hq : ∀ i, i < len → ∃ v : Vl (dep n), ∃ c0 c1 c2 c3 c4, (∀ j, j < 5 → w.cell? ((a.add (i * 5)).add j) = [c0, c1, c2, c3, c4][j]?) ∧ VSeg (fun b => b < w.heap.size) w (dep n) (c0, c1, c2, c3, c4) v := by
        intro i hi
        have h1 := hel i hi
        rw [cellsV, List.getElem?_eq_getElem (by omega)] at h1
        obtain ⟨cs', hc, ht⟩ := Option.bind_eq_some_iff.1 h1
        obtain ⟨d0, d1, d2, d3, d4, v, rfl, hv⟩ := ih cs' _ ht
        exact ⟨v, d0, d1, d2, d3, d4, (World.cells?_some hc).2.2, hv⟩
      obtain ⟨l, hll, hls⟩ := list_of len hq
      subst hll
      refine ⟨l, some a, cap, rfl, hl, hm, by simp, ?_⟩
      by_cases he : l = []
      · exact .inl he
      · have hp : 0 < l.length := List.length_pos_iff.2 he
        obtain ⟨b, off, spot⟩ := a
        obtain ⟨d0, d1, d2, d3, d4, hu0, _⟩ := hls 0 hp
        have hu := hu0 0 (by omega)
        simp [Addr.add] at hu
        have hspot : spot = none := by simpa using World.cell?_spot hu
        subst hspot
        refine .inr ⟨b, off, rfl, World.block_lt_of_cell? w _ hu, fun i hi => ?_⟩
        obtain ⟨d0, d1, d2, d3, d4, hu, hv⟩ := hls i hi
        have e : ∀ j, j < 5 → w.cell? ⟨b, off + i * 5 + j, none⟩ = [d0, d1, d2, d3, d4][j]? := by
          intro j hj
          have := hu j hj
          rw [Addr.add_lit, Addr.add_lit] at this
          exact this
        exact ⟨(d0, d1, d2, d3, d4), ⟨e 0 (by omega), e 1 (by omega), e 2 (by omega), e 3 (by omega), e 4 (by omega)⟩, hv⟩
  obtain ⟨l, hL⟩ := hL
  exact ⟨_, _, _, _, _, (n0, n1, xs, ks, l), rfl, (VSeg_succ _ _ _ _ _).2 ⟨rfl, rfl, hT, hK, hL⟩⟩

theorem read_both (f : Nat) : ReadAt enc w f ∧ ReadAt enc w (f + 1) := by
  induction f with
  | zero =>
    refine ⟨fun cs x h => by simp [DataW.trod] at h, fun cs x h => ?_⟩
    obtain ⟨_, _, _, _, _, _, _, _, _, _, _, h0, _⟩ := read_five h
    simp [DataW.trod] at h0
  | succ f ih => exact ⟨ih.2, read_step f ih.1⟩

/-- A value that came in. -/
theorem read_value {v : Value} {d : DataW H} {ps : List MemPlace} (h : DataW.Trod enc Try.prog w 0 (fun _ => true) true 35 v d ps) :
    ∃ c0 c1 c2 c3 c4 n, v = .agg #[c0, c1, c2, c3, c4] ∧ ∃ x : Vl n, VSeg (fun b => b < w.heap.size) w n (c0, c1, c2, c3, c4) x := by
  obtain ⟨fuel, hf⟩ := h
  obtain ⟨c0, c1, c2, c3, c4, x, e, hx⟩ := (read_both fuel).1 _ _ hf
  refine ⟨c0, c1, c2, c3, c4, dep fuel, ?_, x, hx⟩
  cases v <;> simp [Value.cells] at e
  rename_i cs
  cases cs
  simp at e
  simp [e]
end Go.Proofs.Ytcepgdlnlmhecaa
/-
  A path that came in, as its reading has it, can be read: 'PthSeg'.
-/
namespace Go.Proofs.Ytcepgdlnlmhecaa
open Go.ChangeShapes Go.WideShapes Go.ChangeAt Go.RowKit
set_option linter.unusedVariables false
set_option linter.unusedSimpArgs false
set_option maxRecDepth 100000

theorem cellsS : Try.prog.cellsOf 72 = 3 := by kernel_rfl
variable {H : Type} {enc : TypeId × Value → H} {w : World}

theorem read_step3 {fuel : Nat} {cs : List Value} {x : DataW H × List MemPlace} (h : DataW.trod enc Try.prog w 0 (fun _ => true) true fuel 72 cs = some x) :
    ∃ c0 c1 c2, ∃ s : Stp, cs = [c0, c1, c2] ∧ StSeg (fun b => b < w.heap.size) w (c0, c1, c2) s := by
  cases fuel with
  | zero => simp [DataW.trod] at h
  | succ fuel =>
    unfold DataW.trod at h
    rw [Try.underlying72] at h
    simp only [cellsS] at h
    split at h
    · next hlen =>
      match cs, hlen with
      | [c0, c1, c2], _ =>
        simp [cellsT, cellsI, List.mapM_cons, Option.bind_eq_some_iff] at h
        obtain ⟨a0, b0, h0, _, ⟨a1, b1, h1, _, ⟨a2, b2, h2, _⟩, _⟩, _⟩ := h
        obtain ⟨n0, e0, _, _⟩ := DataW.trod_int Try.underlying3 h0
        obtain ⟨u1, xs, e1, hT⟩ := read_text h1
        obtain ⟨n2, e2, _, _⟩ := DataW.trod_int Try.underlying3 h2
        simp at e0 e1 e2
        subst e0 e1 e2
        exact ⟨_, _, _, (n0, xs, n2), rfl, rfl, hT, rfl⟩
    · simp at h

/-- A path that came in. -/
theorem read_path {fuel : Nat} {cs : List Value} {x : DataW H × List MemPlace} (h : DataW.trod enc Try.prog w 0 (fun _ => true) true fuel 30 cs = some x) : ∃ u l, cs = [u] ∧ PthSeg (fun b => b < w.heap.size) w u l := by
  rcases DataW.trod_slice Try.underlying30 h with ⟨rfl, _⟩ | ⟨a, len, cap, elems, rest, n, _, rfl, _, hb, hl, hm, hlen, hel, hsp, hns⟩
  · exact ⟨_, [], rfl, none, 0, rfl, Nat.le_refl _, Nat.zero_le _, fun _ => rfl, .inl rfl⟩
  · have hq : ∀ i, i < len → ∃ s : Stp, ∃ c0 c1 c2, (∀ j, j < 3 → w.cell? ((a.add (i * 3)).add j) = [c0, c1, c2][j]?) ∧ StSeg (fun b => b < w.heap.size) w (c0, c1, c2) s := by
      intro i hi
      have h1 := hel i hi
      rw [cellsS, List.getElem?_eq_getElem (by omega)] at h1
      obtain ⟨cs', hc, ht⟩ := Option.bind_eq_some_iff.1 h1
      obtain ⟨d0, d1, d2, s, rfl, hv⟩ := read_step3 ht
      exact ⟨s, d0, d1, d2, (World.cells?_some hc).2.2, hv⟩
    obtain ⟨l, hll, hls⟩ := list_of len hq
    subst hll
    refine ⟨_, l, rfl, some a, cap, rfl, hl, hm, by simp, ?_⟩
    by_cases he : l = []
    · exact .inl he
    · have hp : 0 < l.length := List.length_pos_iff.2 he
      obtain ⟨b, off, spot⟩ := a
      obtain ⟨d0, d1, d2, hu0, _⟩ := hls 0 hp
      have hu := hu0 0 (by omega)
      simp [Addr.add] at hu
      have hspot : spot = none := by simpa using World.cell?_spot hu
      subst hspot
      refine .inr ⟨b, off, rfl, World.block_lt_of_cell? w _ hu, fun i hi => ?_⟩
      obtain ⟨d0, d1, d2, hu, hv⟩ := hls i hi
      have e : ∀ j, j < 3 → w.cell? ⟨b, off + i * 3 + j, none⟩ = [d0, d1, d2][j]? := by
        intro j hj
        have := hu j hj
        rw [Addr.add_lit, Addr.add_lit] at this
        exact this
      exact ⟨(d0, d1, d2), ⟨e 0 (by omega), e 1 (by omega), e 2 (by omega)⟩, hv⟩

/-- As an argument. -/
theorem read_path_arg {a : Option Addr} {n c : Nat} {d : DataW H} {ps : List MemPlace} (h : DataW.Trod enc Try.prog w 0 (fun _ => true) true 30 (.slice a n c) d ps) : ∃ l, PthSeg (fun b => b < w.heap.size) w (.slice a n c) l := by
  obtain ⟨fuel, hf⟩ := h
  obtain ⟨u, l, e, hl⟩ := read_path hf
  simp [Value.cells] at e
  subst e
  exact ⟨l, hl⟩
end Go.Proofs.Ytcepgdlnlmhecaa
