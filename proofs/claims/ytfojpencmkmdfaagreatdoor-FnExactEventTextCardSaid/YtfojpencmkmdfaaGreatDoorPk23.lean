/-
  Texts that a law leans on, one behind the other; no statement is proved here.
-/
import Derived.Test.YtfojpencmkmdfaaGreatDoorPk7
import Derived.Deep.MidRow
import Derived.Test.YtfojpencmkmdfaaGreatDoorPk14
import Derived.Test.YtfojpencmkmdfaaGreatDoorPk5
import Derived.Deep.Cut
import Derived.Test.YtfojpencmkmdfaaGreatDoorPk0
import Derived.Test.YtfojpencmkmdfaaGreatDoorPk4
/-
  A function that copies a struct: the argument's box, the answer's, the variable's; and rows of cells by ranges.
-/
namespace Go.Proofs.YtfojpencmkmdfaaGreatDoor
open Go.RowKit
set_option linter.unusedVariables false
set_option linter.unusedSimpArgs false

theorem range_of_row {w : World} {g : Nat} {cs : List Value} {T : TypeId} {fr : Nat × Nat} (h : w.heap[g]? = some (.cells cs.toArray T fr)) : w.rangeAt g 0 cs := fun j v hv => by
  rw [Nat.zero_add, cell_of_row w g j _ _ _ h]
  simpa using hv
theorem there_of_row {w : World} {g : Nat} {cs : Array Value} {T : TypeId} (h : w.heap[g]? = some (.cells cs T (0, 0))) : w.there g 0 cs.size := fun j hj => by
  rw [Nat.zero_add, cell_of_row w g j _ _ _ h]
  exact ⟨by simp [hj], frozen_of_row _ _ _ _ _ h⟩
theorem results_cell {P : Program} {fn : Func} {tmps : Array Value} {w : World} {v : Value} {ad : Addr} (s : Nat) (t : TypeId) (hr : fn.results = #[.cell s t]) (hp : tmps.getD s undef = .pointer (some ad)) (hl : (loadVar t ad).run P w = .ok v w) : (results fn tmps).run P w = .ok v w := by
  unfold results
  rw [hr]
  simp only [Array.mapM_eq_mapM_toList, List.mapM_cons, List.mapM_nil, Sem.run_bind, Sem.run_pure, Result.andThen_ok, hp]
  simp [asAddr, hl]
theorem grown_setCells (g : Nat) : ∀ (vs : List Value) (o : Nat) (w : World), w.grownBy (w.setCells g o vs) (some g)
  | [], _, w => World.grownBy.refl w _
  | v :: r, o, w => grownBy_trans (grown1 w g o v) (grown_setCells g r (o + 1) (w.setCell ⟨g, o, none⟩ v))

/-- The three boxes. -/
def BxSt (w : World) (T1 T2 : TypeId) (arg zer cur : Array Value) (wx : World) : Prop :=
  Below w.heap.size w wx ∧ wx.heap[w.heap.size]? = some (.cells arg T1 (0, 0)) ∧ wx.heap[w.heap.size + 1]? = some (.cells zer T2 (0, 0)) ∧ wx.heap[w.heap.size + 1 + 1]? = some (.cells cur T2 (0, 0)) ∧ w.heap.size + 3 ≤ wx.heap.size

theorem bx_start (w : World) (T1 T2 : TypeId) (arg zer cur : Array Value) : BxSt w T1 T2 arg zer cur (((w.alloc (.cells arg T1)).alloc (.cells zer T2)).alloc (.cells cur T2)) := by
  refine ⟨(((Below.refl _ _).alloc (Nat.le_refl _) _).alloc (by simp) _).alloc (by simp; omega) _, ?_, ?_, ?_, by simp⟩
  · rw [Below.heap_alloc _ _ _ (by simp; omega), Below.heap_alloc _ _ _ (by simp)]
    exact (MapKept.heap_alloc w _).1
  · rw [Below.heap_alloc _ _ _ (by simp)]
    have := (MapKept.heap_alloc (w.alloc (.cells arg T1)) (.cells zer T2)).1
    simpa using this
  · have := (MapKept.heap_alloc ((w.alloc (.cells arg T1)).alloc (.cells zer T2)) (.cells cur T2)).1
    simpa using this
theorem bx_below {w wx w1 : World} {T1 T2 : TypeId} {arg zer cur : Array Value} (h : BxSt w T1 T2 arg zer cur wx) (b : Below wx.heap.size wx w1) : BxSt w T1 T2 arg zer cur w1 := by
  obtain ⟨h1, h2, h3, h4, h5⟩ := h
  have hz := b.size
  exact ⟨Below.on h1 b, (b.block _ (by omega)).trans h2, (b.block _ (by omega)).trans h3, (b.block _ (by omega)).trans h4, by omega⟩
theorem bx_turn {w w1 w2 : World} {T1 T2 : TypeId} {arg zer cur cur' : Array Value} (h : BxSt w T1 T2 arg zer cur w1) (hg : w1.grownBy w2 (some (w.heap.size + 1 + 1))) (hr : w2.heap[w.heap.size + 1 + 1]? = some (.cells cur' T2 (0, 0))) : BxSt w T1 T2 arg zer cur' w2 := by
  obtain ⟨h1, h2, h3, h4, h5⟩ := h
  refine ⟨h1.grown hg (by omega) (by intro k hk; simp at hk; omega), (hg.block _ (by omega) (by simp; omega)).trans h2, (hg.block _ (by omega) (by simp)).trans h3, hr, by have := hg.size; omega⟩
theorem bx_set {w w1 : World} {T1 T2 : TypeId} {arg zer cur cur' : Array Value} (h : BxSt w T1 T2 arg zer cur w1) (j : Nat) (v : Value) (hc : cur.setIfInBounds j v = cur') : BxSt w T1 T2 arg zer cur' (w1.setCell ⟨w.heap.size + 1 + 1, j, none⟩ v) := by
  subst hc
  exact bx_turn h (grown1 _ _ _ _) (heap_setCell_same _ _ _ _ _ _ h.2.2.2.1)
theorem bx_set5 {w w1 : World} {T1 T2 : TypeId} {arg zer cur cur' : Array Value} (h : BxSt w T1 T2 arg zer cur w1) (j : Nat) (c0 c1 c2 c3 c4 : Value) (hc : ((((cur.setIfInBounds j c0).setIfInBounds (j + 1) c1).setIfInBounds (j + 2) c2).setIfInBounds (j + 3) c3).setIfInBounds (j + 4) c4 = cur') : BxSt w T1 T2 arg zer cur' (set5 w1 (w.heap.size + 1 + 1) j c0 c1 c2 c3 c4) := by
  subst hc
  exact bx_turn h (set5_grown _ _ _ _ _ _ _ _) (set5_heap _ _ _ _ _ h.2.2.2.1)

/-- Behind the boxes. -/
def Beh (w wx : World) (b : Nat) : Prop := w.heap.size + 3 ≤ b ∧ b < wx.heap.size
theorem beh_below {w wx w1 : World} (b : Below wx.heap.size wx w1) : Agree (Beh w wx) wx w1 := fun k hk => b.block k hk.2
theorem beh_turn {w wx w1 : World} (hg : wx.grownBy w1 (some (w.heap.size + 1 + 1))) : Agree (Beh w wx) wx w1 := fun k hk => hg.block k hk.2 (by have := hk.1; simp; omega)
theorem beh_mono {w wx w1 : World} (h : wx.heap.size ≤ w1.heap.size) : ∀ b, Beh w wx b → Beh w w1 b := fun b hb => ⟨hb.1, Nat.lt_of_lt_of_le hb.2 h⟩
end Go.Proofs.YtfojpencmkmdfaaGreatDoor
/-
  toItem: a record copied.
-/
namespace Go.Proofs.YtfojpencmkmdfaaGreatDoor
open Go.RowKit
set_option linter.unusedVariables false
set_option linter.unusedSimpArgs false

theorem keys_small {ks : List (List Int)} (h : szK ks ≤ 1048576) : ks.length ≤ 1048576 ∧ ∀ t ∈ ks, t.length ≤ 1048576 := by
  refine ⟨by unfold szK at h; omega, fun t ht => ?_⟩
  obtain ⟨i, hi, rfl⟩ := List.getElem_of_mem ht
  have h1 := pre_succ List.length ks i hi
  have h2 := pre_le List.length ks (i + 1)
  unfold szK at h
  omega

/-- What toItem leaves. -/
def RcEnd (d : Nat) (it : Rcd d) (w : World) (e : Ending) (w' : World) : Prop := ∃ cs, e = .returned (.agg cs.toArray) ∧ RSg (fun b => w.heap.size ≤ b ∧ b < w'.heap.size) w' d cs it ∧ Below w.heap.size w w'

set_option maxHeartbeats 3200000 in
set_option maxRecDepth 100000 in
theorem toEvent_any (d N : Nat) (cs : List Value) (it : Rcd d) (w : World) (h : RSg (fun b => b < N) w d cs it) (hN : N ≤ w.heap.size) (hz : RSz d it) :
    Calls Tryz.prog 6 #[.agg cs.toArray] w (RcEnd d it w) := by
  obtain ⟨na, np, bk, bn, a2, l2, p2, a3, l3, p3, a4, l4, p4, xa, xp, rfl, ht, hv, hk⟩ := h.form
  obtain ⟨k, nm, mn, by', ks⟩ := it
  obtain ⟨z0, z1, z2⟩ := hz
  simp only at ht hv hk z0 z1 z2 ⊢
  have hA : ∀ wx, Below w.heap.size w wx → Agree (fun b => b < N) w wx := fun wx hb => agree_below (hb.mono hN)
  have HT : Hid (∀ wx, Below w.heap.size w wx → w.heap.size + 3 ≤ wx.heap.size → Calls Tryz.prog 19 #[.slice na nm.length np] wx fun e w' => ∃ g c, e = .returned (.slice (some ⟨g, 0, none⟩) nm.length c) ∧ TSeg (Beh w w') w' (.slice (some ⟨g, 0, none⟩) nm.length c) nm ∧ Below wx.heap.size wx w') := fun wx hb hs => by
    obtain ⟨_, _, e1, s1, _⟩ := ht.agree (hA wx hb)
    simp at e1
    obtain ⟨rfl, _⟩ := e1
    refine (toByteS_any _ _ nm wx s1 (by omega)).mono ?_
    rintro e w' ⟨rfl, hB, b⟩
    refine ⟨_, _, rfl, (tOwn_new hB).seg.mono fun b' hb' => ?_, b⟩
    have h1 := (tOwn_new hB).lt b' hb'
    simp at hb'
    exact ⟨by omega, h1⟩
  have HV : Hid (∀ wx, Below w.heap.size w wx → w.heap.size + 3 ≤ wx.heap.size → Calls Tryz.prog 20 #[.agg #[.int .i64 bk, .int .i64 bn, .slice a2 l2 p2, .slice a3 l3 p3, .slice a4 l4 p4]] wx fun e w' => ∃ c0 c1 c2 c3 c4, e = .returned (.agg #[c0, c1, c2, c3, c4]) ∧ VSeg (Beh w w') w' d (c0, c1, c2, c3, c4) by' ∧ Below wx.heap.size wx w') := fun wx hb hs => by
    refine (toValue_any d N (.int .i64 bk, .int .i64 bn, .slice a2 l2 p2, .slice a3 l3 p3, .slice a4 l4 p4) by' wx (VSeg.agree (hA wx hb) d hv) (by have := hb.size; omega) z1).mono ?_
    rintro e w' ⟨c0, c1, c2, c3, c4, rfl, B, hO, hB, b⟩
    exact ⟨_, _, _, _, _, rfl, VSeg.mono (fun b' hb' => by have := hB b' hb'; exact ⟨by omega, this.2⟩) d (VOwn.seg d hO), b⟩
  have HK : Hid (∀ wx, Below w.heap.size w wx → w.heap.size + 3 ≤ wx.heap.size → Calls Tryz.prog 21 #[.slice xa ks.length xp] wx fun e w' => ∃ a c, e = .returned (.slice a ks.length c) ∧ KSeg (Beh w w') w' (.slice a ks.length c) ks ∧ Below wx.heap.size wx w') := fun wx hb hs => by
    obtain ⟨q1, q2⟩ := keys_small z2
    refine (toByteSS_any N _ ks wx (hk.agree (hA wx hb)) (by have := hb.size; omega) q1 q2).mono ?_
    rintro e w' ⟨u, rfl, B, hO, hB, b⟩
    have hs := hO.seg.mono (R' := Beh w w') fun b' hb' => by have := hB b' hb'; exact ⟨by omega, this.2⟩
    have hs' := hs
    obtain ⟨a, c, rfl, _⟩ := hs
    exact ⟨a, c, rfl, hs', b⟩

  clear ht hv hk h hA
  have hst0 := hide' (bx_start w 28 35 #[.int .i64 k, .slice na nm.length np, .int .i64 mn, .int .i64 bk, .int .i64 bn, .slice a2 l2 p2, .slice a3 l3 p3, .slice a4 l4 p4, .slice xa ks.length xp] #[.int .i64 0, .slice none 0 0, .int .i64 0, .int .i64 0, .int .i64 0, .slice none 0 0, .slice none 0 0, .slice none 0 0, .slice none 0 0] #[.int .i64 k, .slice none 0 0, .int .i64 0, .int .i64 0, .int .i64 0, .slice none 0 0, .slice none 0 0, .slice none 0 0, .slice none 0 0])
  have HNm : Hid (RcEnd d (k, nm, mn, by', ks) w = RcEnd d (k, nm, mn, by', ks) w) := rfl
  generalize hn0 : nm.length = s0 at *
  generalize hn1 : ks.length = kl at *
  have Hn0 := hide' hn0
  have Hn1 := hide' hn1
  clear hn0 hn1 z0 z1 z2
  go_enter Tryz.func6, Tryz.ntmps6
  go_wp2_with fail
  refine (HT.out _ hst0.out.1 hst0.out.2.2.2.2).mono ?_
  rintro e w1 ⟨g1, c1, rfl, hT1, b1⟩
  have hq := bx_below hst0.out b1
  have hs1 := bx_set hq 1 (.slice (some ⟨g1, 0, none⟩) s0 c1) rfl
  have hs1' := hide' (bx_set hs1 2 (.int .i64 mn) rfl)
  have hg1 := grownBy_trans (grown1 w1 (w.heap.size + 1 + 1) 1 (.slice (some ⟨g1, 0, none⟩) s0 c1)) (grown1 _ (w.heap.size + 1 + 1) 2 (.int .i64 mn))
  have HT1 := hide' ((hT1.agree (beh_turn hg1)).mono (beh_mono hg1.size))
  have u2 := cell_of_row _ _ 2 _ _ _ hq.2.1
  have u3 := cell_of_row _ _ 3 _ _ _ hq.2.1
  have u4 := cell_of_row _ _ 4 _ _ _ hq.2.1
  have u5 := cell_of_row _ _ 5 _ _ _ hq.2.1
  have u6 := cell_of_row _ _ 6 _ _ _ hq.2.1
  have u7 := cell_of_row _ _ 7 _ _ _ hq.2.1
  have t1 := cell_of_row _ _ 1 _ _ _ hq.2.2.2.1
  have t2 := cell_of_row _ _ 2 _ _ _ hq.2.2.2.1
  have f1 := frozen_of_row _ _ 1 _ _ hq.2.2.2.1
  have f2 := frozen_of_row _ _ 2 _ _ hq.2.2.2.1
  simp at u2 u3 u4 u5 u6 u7 t1 t2 hs1'
  clear hT1 b1 hq hs1 hg1 hst0 HT
  go_wp2_with fail
  refine (HV.out _ hs1'.out.1 hs1'.out.2.2.2.2).mono ?_
  rintro e w2 ⟨v0, v1, v2, v3, v4, rfl, hV2, b2⟩
  obtain ⟨vk, vn, e2, m2, q2, e3, m3, q3, e4, m4, q4, rfl, rfl, rfl, rfl, rfl⟩ := VSeg.form d hV2
  have hq := bx_below hs1'.out b2
  have hs2 := hide' (bx_set5 hq 3 (.int .i64 vk) (.int .i64 vn) (.slice e2 m2 q2) (.slice e3 m3 q3) (.slice e4 m4 q4) rfl)
  have hg2 := set5_grown w2 (w.heap.size + 1 + 1) 3 (.int .i64 vk) (.int .i64 vn) (.slice e2 m2 q2) (.slice e3 m3 q3) (.slice e4 m4 q4)
  have HT2 := hide' ((((HT1.out.agree (beh_below b2)).mono (beh_mono b2.size)).agree (beh_turn hg2)).mono (beh_mono hg2.size))
  have HV2 := hide' (VSeg.mono (beh_mono hg2.size) d (VSeg.agree (beh_turn hg2) d hV2))
  have x8 := cell_of_row _ _ 8 _ _ _ hq.2.1
  have r3 := cell_of_row _ _ 3 _ _ _ hq.2.2.2.1
  have r4 := cell_of_row _ _ 4 _ _ _ hq.2.2.2.1
  have r5 := cell_of_row _ _ 5 _ _ _ hq.2.2.2.1
  have r6 := cell_of_row _ _ 6 _ _ _ hq.2.2.2.1
  have r7 := cell_of_row _ _ 7 _ _ _ hq.2.2.2.1
  have k3 := frozen_of_row _ _ 3 _ _ hq.2.2.2.1
  have k4 := frozen_of_row _ _ 4 _ _ hq.2.2.2.1
  have k5 := frozen_of_row _ _ 5 _ _ hq.2.2.2.1
  have k6 := frozen_of_row _ _ 6 _ _ hq.2.2.2.1
  have k7 := frozen_of_row _ _ 7 _ _ hq.2.2.2.1
  simp at x8 r3 r4 r5 r6 r7 hs2
  clear hV2 b2 hq hg2 hs1' HV HT1 u2 u3 u4 u5 u6 u7 t1 t2 f1 f2
  go_wp2_with fail
  refine (HK.out _ hs2.out.1 hs2.out.2.2.2.2).mono ?_
  rintro e w3 ⟨ka, kc, rfl, hK3, b3⟩
  have hq := bx_below hs2.out b3
  have HQ3 := hide' hq
  have hs3 := hide' (bx_set hq 8 (.slice ka kl kc) rfl)
  have hg3 := grown1 w3 (w.heap.size + 1 + 1) 8 (.slice ka kl kc)
  have HT3 := hide' ((((HT2.out.agree (beh_below b3)).mono (beh_mono b3.size)).agree (beh_turn hg3)).mono (beh_mono hg3.size))
  have HV3 := hide' (VSeg.mono (beh_mono hg3.size) d (VSeg.agree (beh_turn hg3) d (VSeg.mono (beh_mono b3.size) d (VSeg.agree (beh_below b3) d HV2.out))))
  have HK3 := hide' ((hK3.agree (beh_turn hg3)).mono (beh_mono hg3.size))
  clear hK3 b3 hq hg3 HK HT2 HV2 x8 r3 r4 r5 r6 r7 k3 k4 k5 k6 k7
  have r8 := cell_of_row _ _ 8 _ _ _ HQ3.out.2.2.2.1
  have k8 := frozen_of_row _ _ 8 _ _ HQ3.out.2.2.2.1
  simp at r8 hs3
  go_upto_region 7 with fail
  generalize w3.setCell ⟨w.heap.size + 1 + 1, 8, none⟩ (.slice ka kl kc) = wA at *
  clear r8 k8 HQ3
  have hr := range_of_row (cs := [.int .i64 k, .slice (some ⟨g1, 0, none⟩) s0 c1, .int .i64 mn, .int .i64 vk, .int .i64 vn, .slice e2 m2 q2, .slice e3 m3 q3, .slice e4 m4 q4, .slice ka kl kc]) hs3.out.2.2.2.1
  have hth : wA.there (w.heap.size + 1) 0 9 := there_of_row hs3.out.2.2.1
  have hone : ∀ v ∈ [Value.int .i64 k, .slice (some ⟨g1, 0, none⟩) s0 c1, .int .i64 mn, .int .i64 vk, .int .i64 vn, .slice e2 m2 q2, .slice e3 m3 q3, .slice e4 m4 q4, .slice ka kl kc], v.oneCell' = true := by
    intro v hv
    simp only [List.mem_cons, List.not_mem_nil, or_false] at hv
    rcases hv with rfl | rfl | rfl | rfl | rfl | rfl | rfl | rfl | rfl <;> rfl
  have hld := run_loadVar_mid (P := Tryz.prog) _ _ _ 35 _ _ (World.rangeAt_setCells_same wA (w.heap.size + 1) 0 [.int .i64 k, .slice (some ⟨g1, 0, none⟩) s0 c1, .int .i64 mn, .int .i64 vk, .int .i64 vn, .slice e2 m2 q2, .slice e3 m3 q3, .slice e4 m4 q4, .slice ka kl kc] hth) Tryz.underlying35 rfl (by kernel_rfl)
  have hg := grown_setCells (w.heap.size + 1) [.int .i64 k, .slice (some ⟨g1, 0, none⟩) s0 c1, .int .i64 mn, .int .i64 vk, .int .i64 vn, .slice e2 m2 q2, .slice e3 m3 q3, .slice e4 m4 q4, .slice ka kl kc] 0 wA
  go_wp2_with (first | (refine wpList_load_mid rfl 35 (.tmp 3) (by rfl) (w.heap.size + 1 + 1) 0 (by rfl) _ _ hr Tryz.underlying35 rfl (by kernel_rfl) ?_) | (refine wpList_store_mid rfl 35 (.tmp 2) (.tmp 22) (by rfl) (w.heap.size + 1) 0 #[.int .i64 k, .slice (some ⟨g1, 0, none⟩) s0 c1, .int .i64 mn, .int .i64 vk, .int .i64 vn, .slice e2 m2 q2, .slice e3 m3 q3, .slice e4 m4 q4, .slice ka kl kc] (by rfl) (by rfl) hth (by kernel_rfl) (all_oneCell_toArray hone) ?_))
  refine bodyPost_ret (v := .agg #[.int .i64 k, .slice (some ⟨g1, 0, none⟩) s0 c1, .int .i64 mn, .int .i64 vk, .int .i64 vn, .slice e2 m2 q2, .slice e3 m3 q3, .slice e4 m4 q4, .slice ka kl kc]) (results_cell 2 35 Tryz.results6 (by rfl) hld) rfl ?_
  have hAg : Agree (Beh w wA) wA _ := fun b hb => hg.block b hb.2 (by have := hb.1; simp; omega)
  have hMo : ∀ b, Beh w wA b → (w.heap.size ≤ b ∧ b < (wA.setCells (w.heap.size + 1) 0 [.int .i64 k, .slice (some ⟨g1, 0, none⟩) s0 c1, .int .i64 mn, .int .i64 vk, .int .i64 vn, .slice e2 m2 q2, .slice e3 m3 q3, .slice e4 m4 q4, .slice ka kl kc]).heap.size) := fun b hb => ⟨by have := hb.1; omega, Nat.lt_of_lt_of_le hb.2 hg.size⟩
  exact ⟨_, rfl, ⟨_, _, _, _, _, _, _, rfl, (HT3.out.agree hAg).mono hMo, VSeg.mono hMo d (VSeg.agree hAg d HV3.out), (HK3.out.agree hAg).mono hMo⟩, hs3.out.1.grown hg (by have := hs3.out.2.2.2.2; omega) (by intro j hj; simp at hj; omega)⟩

end Go.Proofs.YtfojpencmkmdfaaGreatDoor
/-
  toEvent, toAct: a record copied, in blocks of its own.
-/
namespace Go.Proofs.YtfojpencmkmdfaaGreatDoor
open Go.RowKit
set_option linter.unusedVariables false
set_option linter.unusedSimpArgs false

/-- Nine cells that read as a record of the call's own, in the blocks B. -/
def ROwn (w : World) (d : Nat) (cs : List Value) (it : Rcd d) (B : List Nat) : Prop :=
  ∃ c1 c3 c4 c5 c6 c7 c8 B1 B2 B3, cs = [.int .i64 it.1, c1, .int .i64 it.2.2.1, c3, c4, c5, c6, c7, c8] ∧ TOwn w c1 it.2.1 B1 ∧ VOwn w d (c3, c4, c5, c6, c7) it.2.2.2.1 B2 ∧ KOwn w c8 it.2.2.2.2 B3 ∧ B = B1 ++ (B2 ++ B3) ∧
    ∃ s1 s2, (∀ b ∈ B1, b < s1) ∧ (∀ b ∈ B2, s1 ≤ b ∧ b < s2) ∧ (∀ b ∈ B3, s2 ≤ b) ∧ s1 ≤ s2

/-- Owned, in a window. -/
def TW (lo hi : Nat) (w : World) (u : Value) (xs : List Int) : Prop := ∃ B, TOwn w u xs B ∧ ∀ b ∈ B, lo ≤ b ∧ b < hi
def VW (lo hi : Nat) (w : World) (d : Nat) (c : Value × Value × Value × Value × Value) (v : Vl d) : Prop := ∃ B, VOwn w d c v B ∧ ∀ b ∈ B, lo ≤ b ∧ b < hi
def KW (lo hi : Nat) (w : World) (u : Value) (ks : List (List Int)) : Prop := ∃ B, KOwn w u ks B ∧ ∀ b ∈ B, lo ≤ b ∧ b < hi
variable {lo hi d : Nat} {w wx w1 w' : World}
theorem TW.agree {u : Value} {xs : List Int} (h : TW lo hi w u xs) (ha : Agree (fun b => lo ≤ b ∧ b < hi) w w') : TW lo hi w' u xs := by
  obtain ⟨B, h1, h2⟩ := h
  exact ⟨B, h1.agree fun b hb => ha b (h2 b hb), h2⟩
theorem VW.agree {c : Value × Value × Value × Value × Value} {v : Vl d} (h : VW lo hi w d c v) (ha : Agree (fun b => lo ≤ b ∧ b < hi) w w') : VW lo hi w' d c v := by
  obtain ⟨B, h1, h2⟩ := h
  exact ⟨B, VOwn.agree d h1 fun b hb => ha b (h2 b hb), h2⟩
theorem KW.agree {u : Value} {ks : List (List Int)} (h : KW lo hi w u ks) (ha : Agree (fun b => lo ≤ b ∧ b < hi) w w') : KW lo hi w' u ks := by
  obtain ⟨B, h1, h2⟩ := h
  exact ⟨B, h1.agree fun b hb => ha b (h2 b hb), h2⟩
theorem TW.mono {lo' : Nat} {u : Value} {xs : List Int} (h : TW lo hi w u xs) (hl : lo' ≤ lo) : TW lo' hi w u xs := by
  obtain ⟨B, h1, h2⟩ := h
  exact ⟨B, h1, fun b hb => by have := h2 b hb; omega⟩
theorem VW.mono {lo' : Nat} {c : Value × Value × Value × Value × Value} {v : Vl d} (h : VW lo hi w d c v) (hl : lo' ≤ lo) : VW lo' hi w d c v := by
  obtain ⟨B, h1, h2⟩ := h
  exact ⟨B, h1, fun b hb => by have := h2 b hb; omega⟩
theorem KW.mono {lo' : Nat} {u : Value} {ks : List (List Int)} (h : KW lo hi w u ks) (hl : lo' ≤ lo) : KW lo' hi w u ks := by
  obtain ⟨B, h1, h2⟩ := h
  exact ⟨B, h1, fun b hb => by have := h2 b hb; omega⟩
theorem win_turn (hg : wx.grownBy w1 (some (w.heap.size + 1 + 1))) (h1 : w.heap.size + 3 ≤ lo) (h2 : hi ≤ wx.heap.size) : Agree (fun b => lo ≤ b ∧ b < hi) wx w1 := fun k hk => hg.block k (by omega) (by simp; omega)
theorem win_below (b : Below wx.heap.size wx w1) (h2 : hi ≤ wx.heap.size) : Agree (fun b => lo ≤ b ∧ b < hi) wx w1 := fun k hk => b.block k (by omega)

theorem ROwn.agree {cs : List Value} {it : Rcd d} {B : List Nat} (h : ROwn w d cs it B) (ha : Agree (fun b => b ∈ B) w w') : ROwn w' d cs it B := by
  obtain ⟨c1, c3, c4, c5, c6, c7, c8, B1, B2, B3, e, h1, h2, h3, rfl, hs⟩ := h
  exact ⟨c1, c3, c4, c5, c6, c7, c8, B1, B2, B3, e, h1.agree fun b hb => ha b (by simp [hb]), VOwn.agree d h2 fun b hb => ha b (by simp [hb]), h3.agree fun b hb => ha b (by simp [hb]), rfl, hs⟩
theorem ROwn.lt {cs : List Value} {it : Rcd d} {B : List Nat} (h : ROwn w d cs it B) : ∀ b ∈ B, b < w.heap.size := by
  obtain ⟨c1, c3, c4, c5, c6, c7, c8, B1, B2, B3, e, h1, h2, h3, rfl, hs⟩ := h
  intro b hb
  simp only [List.mem_append] at hb
  rcases hb with hb | hb | hb
  · exact h1.lt b hb
  · exact VOwn.lt d h2 b hb
  · exact h3.lt b hb
theorem ROwn.on {cs : List Value} {it : Rcd d} {B : List Nat} (h : ROwn w d cs it B) (hb : Below w.heap.size w w') : ROwn w' d cs it B := h.agree fun b hb' => hb.block b (h.lt b hb')
theorem ROwn.read {cs : List Value} {it : Rcd d} {B : List Nat} (h : ROwn w d cs it B) : RSg (fun b => b < w.heap.size) w d cs it := by
  have hlt := h.lt
  obtain ⟨c1, c3, c4, c5, c6, c7, c8, B1, B2, B3, e, h1, h2, h3, rfl, hs⟩ := h
  exact ⟨c1, c3, c4, c5, c6, c7, c8, e, h1.seg.mono fun b hb => hlt b (by simp [hb]), VSeg.mono (fun b hb => hlt b (by simp [hb])) d (VOwn.seg d h2), h3.seg.mono fun b hb => hlt b (by simp [hb])⟩

/-- What toEvent, toAct leave. -/
def RcEndO (d : Nat) (it : Rcd d) (w : World) (e : Ending) (w' : World) : Prop := ∃ cs, e = .returned (.agg cs.toArray) ∧ ∃ B, ROwn w' d cs it B ∧ (∀ b ∈ B, w.heap.size ≤ b ∧ b < w'.heap.size) ∧ Below w.heap.size w w'

set_option maxHeartbeats 3200000 in
set_option maxRecDepth 100000 in
theorem toEventO_any (d N : Nat) (cs : List Value) (it : Rcd d) (w : World) (h : RSg (fun b => b < N) w d cs it) (hN : N ≤ w.heap.size) (hz : RSz d it) :
    Calls Tryz.prog 6 #[.agg cs.toArray] w (RcEndO d it w) := by
  obtain ⟨na, np, bk, bn, a2, l2, p2, a3, l3, p3, a4, l4, p4, xa, xp, rfl, ht, hv, hk⟩ := h.form
  obtain ⟨k, nm, mn, by', ks⟩ := it
  obtain ⟨z0, z1, z2⟩ := hz
  simp only at ht hv hk z0 z1 z2 ⊢
  have hA : ∀ wx, Below w.heap.size w wx → Agree (fun b => b < N) w wx := fun wx hb => agree_below (hb.mono hN)
  have HT : Hid (∀ wx, Below w.heap.size w wx → w.heap.size + 3 ≤ wx.heap.size → Calls Tryz.prog 19 #[.slice na nm.length np] wx fun e w' => ∃ g c, e = .returned (.slice (some ⟨g, 0, none⟩) nm.length c) ∧ TW wx.heap.size w'.heap.size w' (.slice (some ⟨g, 0, none⟩) nm.length c) nm ∧ Below wx.heap.size wx w') := fun wx hb hs => by
    obtain ⟨_, _, e1, s1, _⟩ := ht.agree (hA wx hb)
    simp at e1
    obtain ⟨rfl, _⟩ := e1
    refine (toByteS_any _ _ nm wx s1 (by omega)).mono ?_
    rintro e w' ⟨rfl, hB, b⟩
    refine ⟨_, _, rfl, ⟨_, tOwn_new hB, fun b' hb' => ?_⟩, b⟩
    have h1 := (tOwn_new hB).lt b' hb'
    simp at hb'
    exact ⟨by omega, h1⟩
  have HV : Hid (∀ wx, Below w.heap.size w wx → w.heap.size + 3 ≤ wx.heap.size → Calls Tryz.prog 20 #[.agg #[.int .i64 bk, .int .i64 bn, .slice a2 l2 p2, .slice a3 l3 p3, .slice a4 l4 p4]] wx fun e w' => ∃ c0 c1 c2 c3 c4, e = .returned (.agg #[c0, c1, c2, c3, c4]) ∧ VW wx.heap.size w'.heap.size w' d (c0, c1, c2, c3, c4) by' ∧ Below wx.heap.size wx w') := fun wx hb hs => by
    refine (toValue_any d N (.int .i64 bk, .int .i64 bn, .slice a2 l2 p2, .slice a3 l3 p3, .slice a4 l4 p4) by' wx (VSeg.agree (hA wx hb) d hv) (by have := hb.size; omega) z1).mono ?_
    rintro e w' ⟨c0, c1, c2, c3, c4, rfl, B, hO, hB, b⟩
    exact ⟨_, _, _, _, _, rfl, ⟨B, hO, hB⟩, b⟩
  have HK : Hid (∀ wx, Below w.heap.size w wx → w.heap.size + 3 ≤ wx.heap.size → Calls Tryz.prog 21 #[.slice xa ks.length xp] wx fun e w' => ∃ a c, e = .returned (.slice a ks.length c) ∧ KW wx.heap.size w'.heap.size w' (.slice a ks.length c) ks ∧ Below wx.heap.size wx w') := fun wx hb hs => by
    obtain ⟨q1, q2⟩ := keys_small z2
    refine (toByteSS_any N _ ks wx (hk.agree (hA wx hb)) (by have := hb.size; omega) q1 q2).mono ?_
    rintro e w' ⟨u, rfl, B, hO, hB, b⟩
    have hO' := hO
    obtain ⟨a, c, rfl, _⟩ := hO.seg
    exact ⟨a, c, rfl, ⟨B, hO', hB⟩, b⟩

  clear ht hv hk h hA
  have hst0 := hide' (bx_start w 28 35 #[.int .i64 k, .slice na nm.length np, .int .i64 mn, .int .i64 bk, .int .i64 bn, .slice a2 l2 p2, .slice a3 l3 p3, .slice a4 l4 p4, .slice xa ks.length xp] #[.int .i64 0, .slice none 0 0, .int .i64 0, .int .i64 0, .int .i64 0, .slice none 0 0, .slice none 0 0, .slice none 0 0, .slice none 0 0] #[.int .i64 k, .slice none 0 0, .int .i64 0, .int .i64 0, .int .i64 0, .slice none 0 0, .slice none 0 0, .slice none 0 0, .slice none 0 0])
  generalize hn0 : nm.length = s0 at *
  generalize hn1 : ks.length = kl at *
  have Hn0 := hide' hn0
  have Hn1 := hide' hn1
  clear hn0 hn1 z0 z1 z2
  go_enter Tryz.func6, Tryz.ntmps6
  go_wp2_with fail
  refine (HT.out _ hst0.out.1 hst0.out.2.2.2.2).mono ?_
  rintro e w1 ⟨g1, c1, rfl, hT1, b1⟩
  have hq := bx_below hst0.out b1
  have hs1 := bx_set hq 1 (.slice (some ⟨g1, 0, none⟩) s0 c1) rfl
  have hs1' := hide' (bx_set hs1 2 (.int .i64 mn) rfl)
  have hg1 := grownBy_trans (grown1 w1 (w.heap.size + 1 + 1) 1 (.slice (some ⟨g1, 0, none⟩) s0 c1)) (grown1 _ (w.heap.size + 1 + 1) 2 (.int .i64 mn))
  have hz1 := hst0.out.2.2.2.2
  have hy1 := b1.size
  have HT1 := hide' ((hT1.mono hz1).agree (win_turn hg1 (Nat.le_refl _) (Nat.le_refl _)))
  have hx1 := hg1.size
  have hb1 : w.heap.size + 3 ≤ w1.heap.size := Nat.le_trans hz1 hy1
  have u2 := cell_of_row _ _ 2 _ _ _ hq.2.1
  have u3 := cell_of_row _ _ 3 _ _ _ hq.2.1
  have u4 := cell_of_row _ _ 4 _ _ _ hq.2.1
  have u5 := cell_of_row _ _ 5 _ _ _ hq.2.1
  have u6 := cell_of_row _ _ 6 _ _ _ hq.2.1
  have u7 := cell_of_row _ _ 7 _ _ _ hq.2.1
  have t1 := cell_of_row _ _ 1 _ _ _ hq.2.2.2.1
  have t2 := cell_of_row _ _ 2 _ _ _ hq.2.2.2.1
  have f1 := frozen_of_row _ _ 1 _ _ hq.2.2.2.1
  have f2 := frozen_of_row _ _ 2 _ _ hq.2.2.2.1
  simp at u2 u3 u4 u5 u6 u7 t1 t2 hs1'
  clear hT1 b1 hq hs1 hg1 hst0 HT
  go_wp2_with fail
  refine (HV.out _ hs1'.out.1 hs1'.out.2.2.2.2).mono ?_
  rintro e w2 ⟨v0, v1, v2, v3, v4, rfl, hV2, b2⟩
  obtain ⟨BV, hBV, hBV'⟩ := hV2
  obtain ⟨vk, vn, e2, m2, q2, e3, m3, q3, e4, m4, q4, rfl, rfl, rfl, rfl, rfl⟩ := VOwn.form d hBV
  have hV2 : VW _ _ _ _ _ _ := ⟨BV, hBV, hBV'⟩
  have hq := bx_below hs1'.out b2
  have hs2 := hide' (bx_set5 hq 3 (.int .i64 vk) (.int .i64 vn) (.slice e2 m2 q2) (.slice e3 m3 q3) (.slice e4 m4 q4) rfl)
  have hg2 := set5_grown w2 (w.heap.size + 1 + 1) 3 (.int .i64 vk) (.int .i64 vn) (.slice e2 m2 q2) (.slice e3 m3 q3) (.slice e4 m4 q4)
  have hb2 : w1.heap.size ≤ w2.heap.size := Nat.le_trans hx1 b2.size
  have hx2 := hg2.size
  have HT2 := hide' ((HT1.out.agree (win_below b2 hx1)).agree (win_turn hg2 (Nat.le_refl _) hb2))
  have HV2 := hide' ((hV2.mono hx1).agree (win_turn hg2 hb1 (Nat.le_refl _)))
  have x8 := cell_of_row _ _ 8 _ _ _ hq.2.1
  have r3 := cell_of_row _ _ 3 _ _ _ hq.2.2.2.1
  have r4 := cell_of_row _ _ 4 _ _ _ hq.2.2.2.1
  have r5 := cell_of_row _ _ 5 _ _ _ hq.2.2.2.1
  have r6 := cell_of_row _ _ 6 _ _ _ hq.2.2.2.1
  have r7 := cell_of_row _ _ 7 _ _ _ hq.2.2.2.1
  have k3 := frozen_of_row _ _ 3 _ _ hq.2.2.2.1
  have k4 := frozen_of_row _ _ 4 _ _ hq.2.2.2.1
  have k5 := frozen_of_row _ _ 5 _ _ hq.2.2.2.1
  have k6 := frozen_of_row _ _ 6 _ _ hq.2.2.2.1
  have k7 := frozen_of_row _ _ 7 _ _ hq.2.2.2.1
  simp at x8 r3 r4 r5 r6 r7 hs2
  clear hV2 b2 hq hg2 hs1' HV HT1 u2 u3 u4 u5 u6 u7 t1 t2 f1 f2
  go_wp2_with fail
  refine (HK.out _ hs2.out.1 hs2.out.2.2.2.2).mono ?_
  rintro e w3 ⟨ka, kc, rfl, hK3, b3⟩
  have hq := bx_below hs2.out b3
  have hs3 := hide' (bx_set hq 8 (.slice ka kl kc) rfl)
  have hg3 := grown1 w3 (w.heap.size + 1 + 1) 8 (.slice ka kl kc)
  have hb3 : w2.heap.size ≤ w3.heap.size := Nat.le_trans hx2 b3.size
  have hx3 := hg3.size
  have HT3 := hide' ((HT2.out.agree (win_below b3 (Nat.le_trans hb2 hx2))).agree (win_turn hg3 (Nat.le_refl _) (Nat.le_trans hb2 hb3)))
  have HV3 := hide' ((HV2.out.agree (win_below b3 hx2)).agree (win_turn hg3 hb1 hb3))
  have HK3 := hide' ((hK3.mono hx2).agree (win_turn hg3 (Nat.le_trans hb1 hb2) (Nat.le_refl _)))
  have r8 := cell_of_row _ _ 8 _ _ _ hq.2.2.2.1
  have k8 := frozen_of_row _ _ 8 _ _ hq.2.2.2.1
  simp at r8 hs3
  clear hK3 b3 hq hg3 hs2 HK HT2 HV2 x8 r3 r4 r5 r6 r7 k3 k4 k5 k6 k7
  go_upto_region 7 with fail
  generalize w3.setCell ⟨w.heap.size + 1 + 1, 8, none⟩ (.slice ka kl kc) = wA at *
  clear r8 k8
  have hr := range_of_row (cs := [.int .i64 k, .slice (some ⟨g1, 0, none⟩) s0 c1, .int .i64 mn, .int .i64 vk, .int .i64 vn, .slice e2 m2 q2, .slice e3 m3 q3, .slice e4 m4 q4, .slice ka kl kc]) hs3.out.2.2.2.1
  have hth : wA.there (w.heap.size + 1) 0 9 := there_of_row hs3.out.2.2.1
  have hone : ∀ v ∈ [Value.int .i64 k, .slice (some ⟨g1, 0, none⟩) s0 c1, .int .i64 mn, .int .i64 vk, .int .i64 vn, .slice e2 m2 q2, .slice e3 m3 q3, .slice e4 m4 q4, .slice ka kl kc], v.oneCell' = true := by
    intro v hv
    simp only [List.mem_cons, List.not_mem_nil, or_false] at hv
    rcases hv with rfl | rfl | rfl | rfl | rfl | rfl | rfl | rfl | rfl <;> rfl
  have hld := run_loadVar_mid (P := Tryz.prog) _ _ _ 35 _ _ (World.rangeAt_setCells_same wA (w.heap.size + 1) 0 [.int .i64 k, .slice (some ⟨g1, 0, none⟩) s0 c1, .int .i64 mn, .int .i64 vk, .int .i64 vn, .slice e2 m2 q2, .slice e3 m3 q3, .slice e4 m4 q4, .slice ka kl kc] hth) Tryz.underlying35 rfl (by kernel_rfl)
  have hg := grown_setCells (w.heap.size + 1) [.int .i64 k, .slice (some ⟨g1, 0, none⟩) s0 c1, .int .i64 mn, .int .i64 vk, .int .i64 vn, .slice e2 m2 q2, .slice e3 m3 q3, .slice e4 m4 q4, .slice ka kl kc] 0 wA
  go_wp2_with (first | (refine wpList_load_mid rfl 35 (.tmp 3) (by rfl) (w.heap.size + 1 + 1) 0 (by rfl) _ _ hr Tryz.underlying35 rfl (by kernel_rfl) ?_) | (refine wpList_store_mid rfl 35 (.tmp 2) (.tmp 22) (by rfl) (w.heap.size + 1) 0 #[.int .i64 k, .slice (some ⟨g1, 0, none⟩) s0 c1, .int .i64 mn, .int .i64 vk, .int .i64 vn, .slice e2 m2 q2, .slice e3 m3 q3, .slice e4 m4 q4, .slice ka kl kc] (by rfl) (by rfl) hth (by kernel_rfl) (all_oneCell_toArray hone) ?_))
  refine bodyPost_ret (v := .agg #[.int .i64 k, .slice (some ⟨g1, 0, none⟩) s0 c1, .int .i64 mn, .int .i64 vk, .int .i64 vn, .slice e2 m2 q2, .slice e3 m3 q3, .slice e4 m4 q4, .slice ka kl kc]) (results_cell 2 35 Tryz.results6 (by rfl) hld) rfl ?_
  have hAg : ∀ lo hi, w.heap.size + 3 ≤ lo → hi ≤ wA.heap.size → Agree (fun b => lo ≤ b ∧ b < hi) wA (wA.setCells (w.heap.size + 1) 0 [.int .i64 k, .slice (some ⟨g1, 0, none⟩) s0 c1, .int .i64 mn, .int .i64 vk, .int .i64 vn, .slice e2 m2 q2, .slice e3 m3 q3, .slice e4 m4 q4, .slice ka kl kc]) := fun lo hi h1 h2 b hb => hg.block b (by omega) (by simp; omega)
  have hsz := hg.size
  obtain ⟨B1, o1, d1⟩ := HT3.out.agree (hAg _ _ (Nat.le_refl _) (by omega))
  obtain ⟨B2, o2, d2⟩ := HV3.out.agree (hAg _ _ (by omega) (by omega))
  obtain ⟨B3, o3, d3⟩ := HK3.out.agree (hAg _ _ (by omega) (by omega))
  refine ⟨_, rfl, B1 ++ (B2 ++ B3), ⟨_, _, _, _, _, _, _, B1, B2, B3, rfl, o1, o2, o3, rfl, w1.heap.size, w2.heap.size, fun b hb => (d1 b hb).2, fun b hb => d2 b hb, fun b hb => (d3 b hb).1, by omega⟩, fun b hb => ?_, hs3.out.1.grown hg (by have := hs3.out.2.2.2.2; omega) (by intro j hj; simp at hj; omega)⟩
  simp only [List.mem_append] at hb
  rcases hb with hb | hb | hb
  · have := d1 b hb
    omega
  · have := d2 b hb
    omega
  · have := d3 b hb
    omega

end Go.Proofs.YtfojpencmkmdfaaGreatDoor
/-
  The laws' own helpers markByteS and heldByteS: the one writes running numbers into a row that is the call's own, the other finds them there.
-/
namespace Go.Proofs.YtfojpencmkmdfaaGreatDoor
open Go.RowKit
set_option linter.unusedVariables false

/-- The running numbers, as bytes. -/
def marks (m n : Nat) : List Int := (List.range n).map fun i => (((m + i) % 256 : Nat) : Int)

theorem length_marks (m n : Nat) : (marks m n).length = n := by simp [marks]
theorem marks_byt (m n : Nat) : ∀ x ∈ marks m n, Byt x := by
  intro x hx
  simp only [marks, List.mem_map] at hx
  obtain ⟨i, _, rfl⟩ := hx
  unfold Byt
  omega
theorem marks_at (m n k : Nat) (h : k < n) : (marks m n).getD k 0 = (((m + k) % 256 : Nat) : Int) := by simp [marks, h]

/-- What a row holds after k of the marks. -/
def marked (xs : List Int) (m k : Nat) : List Value := cellsOf (marks m k) ++ cellsOf (xs.drop k)
theorem marked_zero (xs : List Int) (m : Nat) : marked xs m 0 = cellsOf xs := by simp [marked, marks, cellsOf]
theorem marked_all (xs : List Int) (m : Nat) : marked xs m xs.length = cellsOf (marks m xs.length) := by simp [marked, cellsOf]
theorem length_marked (xs : List Int) (m k : Nat) (h : k ≤ xs.length) : (marked xs m k).length = xs.length := by simp [marked, marks, cellsOf]; omega
theorem marked_set (xs : List Int) (m k : Nat) (h : k < xs.length) : (marked xs m k).set k (.int .u8 (((m + k) % 256 : Nat) : Int)) = marked xs m (k + 1) := by
  apply List.ext_getElem
  · simp [marked, marks, cellsOf]; omega
  · intro i h1 h2
    simp only [marked, marks, cellsOf, List.getElem_set, List.getElem_append, List.length_map, List.length_range]
    by_cases hik : k = i
    · subst hik
      simp
    · by_cases hlt : i < k
      · have e2 : i < k + 1 := by omega
        simp [hik, hlt, e2]
      · have e2 : ¬ i < k + 1 := by omega
        have e3 : k + 1 + (i - (k + 1)) = k + (i - k) := by omega
        simp [hik, hlt, e2, e3]



set_option maxHeartbeats 400000 in
theorem markByteS_any (base : Nat) (a : Option Addr) (cap : Nat) (xs : List Int) (m : Nat) (w : World) (hB : Bts w base (.slice a xs.length cap) xs) (hl : xs.length ≤ 2097152) (hm : m ≤ 16777216) :
    Calls Tryz.prog 11 #[.slice a xs.length cap, .int .i64 m] w fun e w' => e = .returned (.int .i64 ((m + xs.length : Nat) : Int)) ∧ Bts w' base (.slice a xs.length cap) (marks m xs.length) ∧ w.grownBy w' (Value.slice a xs.length cap).ownBlock := by
  have hown0 := hB.2
  generalize hn : xs.length = n at hown0
  have Hn : Hid (xs.length = n) := hn
  have hln : n ≤ 2097152 := by omega
  clear hn hl hB
  have hr : ∀ wr : World, ∀ k, k < n → wr.ownsRow base 5 1 (.slice a n cap) n (marked xs m k) → ∃ g, a = some ⟨g, 0, none⟩ := by
    intro wr k hk h
    rcases h.2 with ⟨h1, h2⟩ | ⟨g, cp, cur, h1, _⟩
    · omega
    · simp at h1
      exact ⟨g, h1.1⟩
  have Hr : Hid (∀ wr : World, ∀ k, k < n → wr.ownsRow base 5 1 (.slice a n cap) n (marked xs m k) → ∃ g, a = some ⟨g, 0, none⟩) := hr
  clear hr
  go_enter Tryz.func11, Tryz.ntmps11
  go_wp2
  go_loopw [1, 5] (fun m' i wr => ∃ k : Nat, k ≤ n ∧ i = .int .i64 k ∧ m' = .int .i64 ((m + k : Nat) : Int) ∧ wr.ownsRow base 5 1 (.slice a n cap) n (marked xs m k) ∧ w.grownBy wr (Value.slice a n cap).ownBlock) (fun _ i _ => n - (intOf i).toNat)
  case atStart => exact ⟨0, Nat.zero_le _, rfl, by simp, by rw [marked_zero]; exact hown0, World.grownBy.refl _ _⟩
  case round =>
    obtain ⟨k, hk, rfl, rfl, hown1, hbel⟩ := hrel
    by_cases hlt : k < n
    · obtain ⟨g, rfl⟩ := Hr.out wr k hlt hown1
      have hd : ∃ v, wr.cell? ⟨g, k, none⟩ = some v := by
        rw [hown1.cellAt k (by omega)]
        have := length_marked xs m k (by have := Hn.out; omega)
        have h2 := Hn.out
        exact ⟨_, List.getElem?_eq_getElem (by omega)⟩
      obtain ⟨v, hd⟩ := hd
      have hfz := hown1.frozenAt k
      have hst := hown1.stored k (.int .u8 (((m + k) % 256 : Nat) : Int))
      rw [marked_set xs m k (by have := Hn.out; omega)] at hst
      obtain ⟨hst1, hst2⟩ := hst
      have hbel2 := grownBy_trans hbel hst2
      clear hst2 hown1 hbel
      have e : ((((m + k) % 256 : Nat) : Int)) = ((m : Int) + k) % 256 := by omega
      rw [e] at hst1 hbel2
      clear e
      go_wp2
      go_roundw
      case rel => exact ⟨k + 1, by omega, by go_num, by go_num, hst1, hbel2⟩
      case measure => simp [intOf]; omega
    · obtain rfl : k = n := by omega
      have hB : Bts wr base (.slice a k cap) (marks m k) := by
        refine ⟨marks_byt _ _, ?_⟩
        have h2 := Hn.out
        have h3 := marked_all xs m
        rw [h2] at h3
        rw [length_marks, ← h3]
        exact hown1
      go_wp2
      go_ret
      exact ⟨rfl, hB, hbel⟩

set_option maxHeartbeats 400000 in
theorem heldByteS_any (a : Option Addr) (cap : Nat) (m n : Nat) (w : World) (hs : Seg w a (marks m n)) (hl : n ≤ 2097152) (hm : m ≤ 16777216) :
    Calls Tryz.prog 12 #[.slice a n cap, .int .i64 m] w fun e w' => e = .returned (.int .i64 ((m + n : Nat) : Int)) ∧ Below w.heap.size w w' := by
  go_enter Tryz.func12, Tryz.ntmps12
  go_wp2
  go_loopw [1, 5] (fun m' i wr => ∃ k : Nat, k ≤ n ∧ i = .int .i64 k ∧ m' = .int .i64 ((m + k : Nat) : Int) ∧ Below w.heap.size w wr) (fun _ i _ => n - (intOf i).toNat)
  case atStart => exact ⟨0, Nat.zero_le _, rfl, by simp, Below.refl _ _⟩
  case round =>
    obtain ⟨k, hk, rfl, rfl, hbel⟩ := hrel
    by_cases hlt : k < n
    · obtain ⟨b1, o1, rfl, hc1⟩ := (hs.grow hbel).at (k := k) (by rw [length_marks]; omega)
      rw [marks_at m n k hlt] at hc1
      have e : ((((m + k) % 256 : Nat) : Int)) = ((m : Int) + k) % 256 := by omega
      rw [e] at hc1
      clear e
      go_wp2
      go_roundw
      case rel => exact ⟨k + 1, by omega, by go_num, by go_num, hbel⟩
      case measure => simp [intOf]; omega
    · obtain rfl : k = n := by omega
      go_wp2
      go_ret
      exact ⟨rfl, hbel⟩
end Go.Proofs.YtfojpencmkmdfaaGreatDoor
/-
  markByteS over a row that may bear a mark of the run-time behind its last cell.
-/
namespace Go.Proofs.YtfojpencmkmdfaaGreatDoor
open Go.RowKit
set_option linter.unusedVariables false

set_option maxHeartbeats 400000 in
theorem markByteS_F (a : Option Addr) (cap : Nat) (xs : List Int) (m : Nat) (w : World) (hB : BtsF w (.slice a xs.length cap) xs) (hl : xs.length ≤ 2097152) (hm : m ≤ 16777216) :
    Calls Tryz.prog 11 #[.slice a xs.length cap, .int .i64 m] w fun e w' => e = .returned (.int .i64 ((m + xs.length : Nat) : Int)) ∧ BtsF w' (.slice a xs.length cap) (marks m xs.length) ∧ w.grownBy w' (Value.slice a xs.length cap).ownBlock := by
  have hown0 := hB.2
  generalize hn : xs.length = n at hown0
  have Hn : Hid (xs.length = n) := hn
  have hln : n ≤ 2097152 := by omega
  clear hn hl hB
  have hr : ∀ wr : World, ∀ k, k < n → RowF wr (.slice a n cap) n (marked xs m k) → ∃ g, a = some ⟨g, 0, none⟩ := by
    intro wr k hk h
    rcases h.2 with ⟨h1, h2⟩ | ⟨g, cp, cur, fr, h1, _⟩
    · omega
    · simp at h1
      exact ⟨g, h1.1⟩
  have Hr : Hid (∀ wr : World, ∀ k, k < n → RowF wr (.slice a n cap) n (marked xs m k) → ∃ g, a = some ⟨g, 0, none⟩) := hr
  clear hr
  go_enter Tryz.func11, Tryz.ntmps11
  go_wp2
  go_loopw [1, 5] (fun m' i wr => ∃ k : Nat, k ≤ n ∧ i = .int .i64 k ∧ m' = .int .i64 ((m + k : Nat) : Int) ∧ RowF wr (.slice a n cap) n (marked xs m k) ∧ w.grownBy wr (Value.slice a n cap).ownBlock) (fun _ i _ => n - (intOf i).toNat)
  case atStart => exact ⟨0, Nat.zero_le _, rfl, by simp, by rw [marked_zero]; exact hown0, World.grownBy.refl _ _⟩
  case round =>
    obtain ⟨k, hk, rfl, rfl, hown1, hbel⟩ := hrel
    by_cases hlt : k < n
    · obtain ⟨g, rfl⟩ := Hr.out wr k hlt hown1
      have hd : ∃ v, wr.cell? ⟨g, k, none⟩ = some v := by
        rw [hown1.cellAt k (by omega)]
        have := length_marked xs m k (by have := Hn.out; omega)
        have h2 := Hn.out
        exact ⟨_, List.getElem?_eq_getElem (by omega)⟩
      obtain ⟨v, hd⟩ := hd
      have hfz := hown1.frozenAt k hlt
      have hst := hown1.stored k (.int .u8 (((m + k) % 256 : Nat) : Int))
      rw [marked_set xs m k (by have := Hn.out; omega)] at hst
      obtain ⟨hst1, hst2⟩ := hst
      have hbel2 := grownBy_trans hbel hst2
      clear hst2 hown1 hbel
      have e : ((((m + k) % 256 : Nat) : Int)) = ((m : Int) + k) % 256 := by omega
      rw [e] at hst1 hbel2
      clear e
      go_wp2
      go_roundw
      case rel => exact ⟨k + 1, by omega, by go_num, by go_num, hst1, hbel2⟩
      case measure => simp [intOf]; omega
    · obtain rfl : k = n := by omega
      have hB : BtsF wr (.slice a k cap) (marks m k) := by
        refine ⟨marks_byt _ _, ?_⟩
        have h2 := Hn.out
        have h3 := marked_all xs m
        rw [h2] at h3
        rw [length_marks, ← h3]
        exact hown1
      go_wp2
      go_ret
      exact ⟨rfl, hB, hbel⟩

end Go.Proofs.YtfojpencmkmdfaaGreatDoor
