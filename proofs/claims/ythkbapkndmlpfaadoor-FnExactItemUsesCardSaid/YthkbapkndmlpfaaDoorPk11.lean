/-
  Texts that a law leans on, one behind the other; no statement is proved here.
-/
import Derived.Test.YthkbapkndmlpfaaDoorPk4
import Derived.Test.YthkbapkndmlpfaaDoorPk2
import Derived.Test.YthkbapkndmlpfaaDoorPk5
import Derived.Deep.Cut
import Derived.Test.YthkbapkndmlpfaaDoorPk10
import Derived.Test.YthkbapkndmlpfaaDoorRows
import Derived.Lib.LaidTab
import Derived.MakeChecks
import Derived.Test.YthkbapkndmlpfaaDoorPk0
import Derived.WalkKit
import Derived.ProofKit
import Derived.ChangeSlices
import Derived.ChangeArms
/-
  toItem: an item copied.
-/
namespace Go.Proofs.YthkbapkndmlpfaaDoor
open Go.RowKit
set_option linter.unusedVariables false
set_option linter.unusedSimpArgs false

theorem LOwn.seg {w : World} {d : Nat} {x : Value} {l : List (Vl d)} {B : List Nat} (h : LOwn w d x l B) : LSeg (fun b => b ∈ B) w d x l := by
  rcases h with ⟨h1, h2, rfl⟩ | ⟨g, cap, cur, Bi, h1, h2, h3, h4, h5, h6, h7, rfl, h9⟩
  · exact ⟨none, 0, by rw [h1, h2]; rfl, by rw [h2]; exact Nat.le_refl _, Nat.zero_le _, fun _ => rfl, .inl h2⟩
  · refine ⟨some ⟨g, 0, none⟩, cap, h1, h3, h4, by simp, .inr ⟨g, 0, rfl, by simp, fun i hi => ?_⟩⟩
    obtain ⟨e, he, hv⟩ := h7 i hi
    refine ⟨e, by rw [Nat.zero_add]; exact he.five h2, VSeg.mono (fun b hb => ?_) d (VOwn.seg d hv)⟩
    have := flatten_mem_getD (Bs := Bi) (by omega) hb
    simp only [List.mem_cons]
    exact .inr this

theorem keys_small {ks : List (List Int)} (h : szK ks ≤ 1048576) : ks.length ≤ 1048576 ∧ ∀ t ∈ ks, t.length ≤ 1048576 := by
  refine ⟨by unfold szK at h; omega, fun t ht => ?_⟩
  obtain ⟨i, hi, rfl⟩ := List.getElem_of_mem ht
  have h1 := pre_succ List.length ks i hi
  have h2 := pre_le List.length ks (i + 1)
  unfold szK at h
  omega

/-- What toItem leaves. -/
def ItEnd (d : Nat) (it : Itm d) (w : World) (e : Ending) (w' : World) : Prop := ∃ cs, e = .returned (.agg cs.toArray) ∧ ISeg (fun b => w.heap.size ≤ b ∧ b < w'.heap.size) w' d cs it ∧ Below w.heap.size w w'

set_option maxHeartbeats 3200000 in
set_option maxRecDepth 100000 in
theorem toItem_any (d N : Nat) (cs : List Value) (it : Itm d) (w : World) (h : ISeg (fun b => b < N) w d cs it) (hN : N ≤ w.heap.size) (hz : ISz d it) :
    Calls Tryd.prog 12 #[.agg cs.toArray] w (ItEnd d it w) := by
  obtain ⟨na, np, bk, bn, a2, l2, p2, a3, l3, p3, a4, l4, p4, xa, xp, ea, ep, rfl, ht, hv, hk, hl⟩ := h.form
  obtain ⟨k, nm, mn, by', ks, es⟩ := it
  obtain ⟨z0, z1, z2, z3⟩ := hz
  simp only at ht hv hk hl z0 z1 z2 z3 ⊢
  have hA : ∀ wx, Below w.heap.size w wx → Agree (fun b => b < N) w wx := fun wx hb => agree_below (hb.mono hN)
  have HT : Hid (∀ wx, Below w.heap.size w wx → w.heap.size + 3 ≤ wx.heap.size → Calls Tryd.prog 29 #[.slice na nm.length np] wx fun e w' => ∃ g c, e = .returned (.slice (some ⟨g, 0, none⟩) nm.length c) ∧ TSeg (Beh w w') w' (.slice (some ⟨g, 0, none⟩) nm.length c) nm ∧ Below wx.heap.size wx w') := fun wx hb hs => by
    obtain ⟨_, _, e1, s1, _⟩ := ht.agree (hA wx hb)
    simp at e1
    obtain ⟨rfl, _⟩ := e1
    refine (toByteS_any _ _ nm wx s1 (by omega)).mono ?_
    rintro e w' ⟨rfl, hB, b⟩
    refine ⟨_, _, rfl, (tOwn_new hB).seg.mono fun b' hb' => ?_, b⟩
    have h1 := (tOwn_new hB).lt b' hb'
    simp at hb'
    exact ⟨by omega, h1⟩
  have HV : Hid (∀ wx, Below w.heap.size w wx → w.heap.size + 3 ≤ wx.heap.size → Calls Tryd.prog 30 #[.agg #[.int .i64 bk, .int .i64 bn, .slice a2 l2 p2, .slice a3 l3 p3, .slice a4 l4 p4]] wx fun e w' => ∃ c0 c1 c2 c3 c4, e = .returned (.agg #[c0, c1, c2, c3, c4]) ∧ VSeg (Beh w w') w' d (c0, c1, c2, c3, c4) by' ∧ Below wx.heap.size wx w') := fun wx hb hs => by
    refine (toValue_any d N (.int .i64 bk, .int .i64 bn, .slice a2 l2 p2, .slice a3 l3 p3, .slice a4 l4 p4) by' wx (VSeg.agree (hA wx hb) d hv) (by have := hb.size; omega) z1).mono ?_
    rintro e w' ⟨c0, c1, c2, c3, c4, rfl, B, hO, hB, b⟩
    exact ⟨_, _, _, _, _, rfl, VSeg.mono (fun b' hb' => by have := hB b' hb'; exact ⟨by omega, this.2⟩) d (VOwn.seg d hO), b⟩
  have HK : Hid (∀ wx, Below w.heap.size w wx → w.heap.size + 3 ≤ wx.heap.size → Calls Tryd.prog 31 #[.slice xa ks.length xp] wx fun e w' => ∃ a c, e = .returned (.slice a ks.length c) ∧ KSeg (Beh w w') w' (.slice a ks.length c) ks ∧ Below wx.heap.size wx w') := fun wx hb hs => by
    obtain ⟨q1, q2⟩ := keys_small z2
    refine (toByteSS_any N _ ks wx (hk.agree (hA wx hb)) (by have := hb.size; omega) q1 q2).mono ?_
    rintro e w' ⟨u, rfl, B, hO, hB, b⟩
    have hs := hO.seg.mono (R' := Beh w w') fun b' hb' => by have := hB b' hb'; exact ⟨by omega, this.2⟩
    have hs' := hs
    obtain ⟨a, c, rfl, _⟩ := hs
    exact ⟨a, c, rfl, hs', b⟩
  have HL : Hid (∀ wx, Below w.heap.size w wx → w.heap.size + 3 ≤ wx.heap.size → Calls Tryd.prog 32 #[.slice ea es.length ep] wx fun e w' => ∃ a c, e = .returned (.slice a es.length c) ∧ LSeg (Beh w w') w' d (.slice a es.length c) es ∧ Below wx.heap.size wx w') := fun wx hb hs => by
    refine (toValueS_of d (toValue_any d) N _ es wx (hl.agree (hA wx hb)) (by have := hb.size; omega) z3).mono ?_
    rintro e w' ⟨u, rfl, B, hO, hB, b⟩
    have hs := hO.seg.mono (R' := Beh w w') fun b' hb' => by have := hB b' hb'; exact ⟨by omega, this.2⟩
    have hs' := hs
    obtain ⟨a, c, rfl, _⟩ := hs
    exact ⟨a, c, rfl, hs', b⟩
  clear ht hv hk hl h hA
  have hst0 := hide' (bx_start w 35 42 #[.int .i64 k, .slice na nm.length np, .int .i64 mn, .int .i64 bk, .int .i64 bn, .slice a2 l2 p2, .slice a3 l3 p3, .slice a4 l4 p4, .slice xa ks.length xp, .slice ea es.length ep] #[.int .i64 0, .slice none 0 0, .int .i64 0, .int .i64 0, .int .i64 0, .slice none 0 0, .slice none 0 0, .slice none 0 0, .slice none 0 0, .slice none 0 0] #[.int .i64 k, .slice none 0 0, .int .i64 0, .int .i64 0, .int .i64 0, .slice none 0 0, .slice none 0 0, .slice none 0 0, .slice none 0 0, .slice none 0 0])
  have HNm : Hid (ItEnd d (k, nm, mn, by', ks, es) w = ItEnd d (k, nm, mn, by', ks, es) w) := rfl
  generalize hn0 : nm.length = s0 at *
  generalize hn1 : ks.length = kl at *
  generalize hn2 : es.length = el at *
  have Hn0 := hide' hn0
  have Hn1 := hide' hn1
  have Hn2 := hide' hn2
  clear hn0 hn1 hn2 z0 z1 z2 z3
  go_enter Tryd.func12, Tryd.ntmps12
  go_wp2_with fail
  refine (HT.out _ hst0.out.1 hst0.out.2.2.2.2).mono ?_
  rintro e w1 ⟨g1, c1, rfl, hT1, b1⟩
  have hq := bx_below hst0.out b1
  have hs1 := bx_set hq 1 (.slice (some ⟨g1, 0, none⟩) s0 c1) rfl
  have hs1' := hide' (bx_set hs1 2 (.int .i64 mn) rfl)
  have hg1 := grownBy_trans (grown1 w1 (w.heap.size + 1 + 1) 1 (.slice (some ⟨g1, 0, none⟩) s0 c1)) (grown1 _ (w.heap.size + 1 + 1) 2 (.int .i64 mn))
  have HT1 := hide' ((hT1.agree (beh_turn hg1)).mono (beh_mono hg1.size))
  have u2 := cell_of_row _ _ 2 _ _ _ hq.2.1
  have u3 := cell_of_row _ _ 3 _ _ _ hq.2.1
  have u4 := cell_of_row _ _ 4 _ _ _ hq.2.1
  have u5 := cell_of_row _ _ 5 _ _ _ hq.2.1
  have u6 := cell_of_row _ _ 6 _ _ _ hq.2.1
  have u7 := cell_of_row _ _ 7 _ _ _ hq.2.1
  have t1 := cell_of_row _ _ 1 _ _ _ hq.2.2.2.1
  have t2 := cell_of_row _ _ 2 _ _ _ hq.2.2.2.1
  have f1 := frozen_of_row _ _ 1 _ _ hq.2.2.2.1
  have f2 := frozen_of_row _ _ 2 _ _ hq.2.2.2.1
  simp at u2 u3 u4 u5 u6 u7 t1 t2 hs1'
  clear hT1 b1 hq hs1 hg1 hst0 HT
  go_wp2_with fail
  refine (HV.out _ hs1'.out.1 hs1'.out.2.2.2.2).mono ?_
  rintro e w2 ⟨v0, v1, v2, v3, v4, rfl, hV2, b2⟩
  obtain ⟨vk, vn, e2, m2, q2, e3, m3, q3, e4, m4, q4, rfl, rfl, rfl, rfl, rfl⟩ := VSeg.form d hV2
  have hq := bx_below hs1'.out b2
  have hs2 := hide' (bx_set5 hq 3 (.int .i64 vk) (.int .i64 vn) (.slice e2 m2 q2) (.slice e3 m3 q3) (.slice e4 m4 q4) rfl)
  have hg2 := set5_grown w2 (w.heap.size + 1 + 1) 3 (.int .i64 vk) (.int .i64 vn) (.slice e2 m2 q2) (.slice e3 m3 q3) (.slice e4 m4 q4)
  have HT2 := hide' ((((HT1.out.agree (beh_below b2)).mono (beh_mono b2.size)).agree (beh_turn hg2)).mono (beh_mono hg2.size))
  have HV2 := hide' (VSeg.mono (beh_mono hg2.size) d (VSeg.agree (beh_turn hg2) d hV2))
  have x8 := cell_of_row _ _ 8 _ _ _ hq.2.1
  have r3 := cell_of_row _ _ 3 _ _ _ hq.2.2.2.1
  have r4 := cell_of_row _ _ 4 _ _ _ hq.2.2.2.1
  have r5 := cell_of_row _ _ 5 _ _ _ hq.2.2.2.1
  have r6 := cell_of_row _ _ 6 _ _ _ hq.2.2.2.1
  have r7 := cell_of_row _ _ 7 _ _ _ hq.2.2.2.1
  have k3 := frozen_of_row _ _ 3 _ _ hq.2.2.2.1
  have k4 := frozen_of_row _ _ 4 _ _ hq.2.2.2.1
  have k5 := frozen_of_row _ _ 5 _ _ hq.2.2.2.1
  have k6 := frozen_of_row _ _ 6 _ _ hq.2.2.2.1
  have k7 := frozen_of_row _ _ 7 _ _ hq.2.2.2.1
  simp at x8 r3 r4 r5 r6 r7 hs2
  clear hV2 b2 hq hg2 hs1' HV HT1 u2 u3 u4 u5 u6 u7 t1 t2 f1 f2
  go_wp2_with fail
  refine (HK.out _ hs2.out.1 hs2.out.2.2.2.2).mono ?_
  rintro e w3 ⟨ka, kc, rfl, hK3, b3⟩
  have hq := bx_below hs2.out b3
  have hs3 := hide' (bx_set hq 8 (.slice ka kl kc) rfl)
  have hg3 := grown1 w3 (w.heap.size + 1 + 1) 8 (.slice ka kl kc)
  have HT3 := hide' ((((HT2.out.agree (beh_below b3)).mono (beh_mono b3.size)).agree (beh_turn hg3)).mono (beh_mono hg3.size))
  have HV3 := hide' (VSeg.mono (beh_mono hg3.size) d (VSeg.agree (beh_turn hg3) d (VSeg.mono (beh_mono b3.size) d (VSeg.agree (beh_below b3) d HV2.out))))
  have HK3 := hide' ((hK3.agree (beh_turn hg3)).mono (beh_mono hg3.size))
  have x9 := cell_of_row _ _ 9 _ _ _ hq.2.1
  have r8 := cell_of_row _ _ 8 _ _ _ hq.2.2.2.1
  have k8 := frozen_of_row _ _ 8 _ _ hq.2.2.2.1
  simp at x9 r8 hs3
  clear hK3 b3 hq hg3 hs2 HK HT2 HV2 x8 r3 r4 r5 r6 r7 k3 k4 k5 k6 k7
  go_wp2_with fail
  refine (HL.out _ hs3.out.1 hs3.out.2.2.2.2).mono ?_
  rintro e w4 ⟨la, lc, rfl, hL4, b4⟩
  have hq := bx_below hs3.out b4
  have hs4 := hide' (bx_set hq 9 (.slice la el lc) rfl)
  have hg4 := grown1 w4 (w.heap.size + 1 + 1) 9 (.slice la el lc)
  have HT4 := hide' ((((HT3.out.agree (beh_below b4)).mono (beh_mono b4.size)).agree (beh_turn hg4)).mono (beh_mono hg4.size))
  have HV4 := hide' (VSeg.mono (beh_mono hg4.size) d (VSeg.agree (beh_turn hg4) d (VSeg.mono (beh_mono b4.size) d (VSeg.agree (beh_below b4) d HV3.out))))
  have HK4 := hide' ((((HK3.out.agree (beh_below b4)).mono (beh_mono b4.size)).agree (beh_turn hg4)).mono (beh_mono hg4.size))
  have HL4 := hide' ((hL4.agree (beh_turn hg4)).mono (beh_mono hg4.size))
  have r9 := cell_of_row _ _ 9 _ _ _ hq.2.2.2.1
  have k9 := frozen_of_row _ _ 9 _ _ hq.2.2.2.1
  simp at r9 hs4
  clear hL4 b4 hq hg4 hs3 HL HT3 HV3 HK3 x9 r8 k8
  go_upto_region 8 with fail
  generalize w4.setCell ⟨w.heap.size + 1 + 1, 9, none⟩ (.slice la el lc) = wA at *
  clear r9 k9
  have hr := range_of_row (cs := [.int .i64 k, .slice (some ⟨g1, 0, none⟩) s0 c1, .int .i64 mn, .int .i64 vk, .int .i64 vn, .slice e2 m2 q2, .slice e3 m3 q3, .slice e4 m4 q4, .slice ka kl kc, .slice la el lc]) hs4.out.2.2.2.1
  have hth : wA.there (w.heap.size + 1) 0 10 := there_of_row hs4.out.2.2.1
  have hone : ∀ v ∈ [Value.int .i64 k, .slice (some ⟨g1, 0, none⟩) s0 c1, .int .i64 mn, .int .i64 vk, .int .i64 vn, .slice e2 m2 q2, .slice e3 m3 q3, .slice e4 m4 q4, .slice ka kl kc, .slice la el lc], v.oneCell' = true := by
    intro v hv
    simp only [List.mem_cons, List.not_mem_nil, or_false] at hv
    rcases hv with rfl | rfl | rfl | rfl | rfl | rfl | rfl | rfl | rfl | rfl <;> rfl
  have hld := run_loadVar_mid (P := Tryd.prog) _ _ _ 42 _ _ (World.rangeAt_setCells_same wA (w.heap.size + 1) 0 [.int .i64 k, .slice (some ⟨g1, 0, none⟩) s0 c1, .int .i64 mn, .int .i64 vk, .int .i64 vn, .slice e2 m2 q2, .slice e3 m3 q3, .slice e4 m4 q4, .slice ka kl kc, .slice la el lc] hth) Tryd.underlying42 rfl (by kernel_rfl)
  have hg := grown_setCells (w.heap.size + 1) [.int .i64 k, .slice (some ⟨g1, 0, none⟩) s0 c1, .int .i64 mn, .int .i64 vk, .int .i64 vn, .slice e2 m2 q2, .slice e3 m3 q3, .slice e4 m4 q4, .slice ka kl kc, .slice la el lc] 0 wA
  go_wp2_with (first | (refine wpList_load_mid rfl 42 (.tmp 3) (by rfl) (w.heap.size + 1 + 1) 0 (by rfl) _ _ hr Tryd.underlying42 rfl (by kernel_rfl) ?_) | (refine wpList_store_mid rfl 42 (.tmp 2) (.tmp 26) (by rfl) (w.heap.size + 1) 0 #[.int .i64 k, .slice (some ⟨g1, 0, none⟩) s0 c1, .int .i64 mn, .int .i64 vk, .int .i64 vn, .slice e2 m2 q2, .slice e3 m3 q3, .slice e4 m4 q4, .slice ka kl kc, .slice la el lc] (by rfl) (by rfl) hth (by kernel_rfl) (all_oneCell_toArray hone) ?_))
  refine bodyPost_ret (v := .agg #[.int .i64 k, .slice (some ⟨g1, 0, none⟩) s0 c1, .int .i64 mn, .int .i64 vk, .int .i64 vn, .slice e2 m2 q2, .slice e3 m3 q3, .slice e4 m4 q4, .slice ka kl kc, .slice la el lc]) (results_cell 2 42 Tryd.results12 (by rfl) hld) rfl ?_
  have hAg : Agree (Beh w wA) wA _ := fun b hb => hg.block b hb.2 (by have := hb.1; simp; omega)
  have hMo : ∀ b, Beh w wA b → (w.heap.size ≤ b ∧ b < (wA.setCells (w.heap.size + 1) 0 [.int .i64 k, .slice (some ⟨g1, 0, none⟩) s0 c1, .int .i64 mn, .int .i64 vk, .int .i64 vn, .slice e2 m2 q2, .slice e3 m3 q3, .slice e4 m4 q4, .slice ka kl kc, .slice la el lc]).heap.size) := fun b hb => ⟨by have := hb.1; omega, Nat.lt_of_lt_of_le hb.2 hg.size⟩
  exact ⟨_, rfl, ⟨_, _, _, _, _, _, _, _, rfl, (HT4.out.agree hAg).mono hMo, VSeg.mono hMo d (VSeg.agree hAg d HV4.out), (HK4.out.agree hAg).mono hMo, (HL4.out.agree hAg).mono hMo⟩, hs4.out.1.grown hg (by have := hs4.out.2.2.2.2; omega) (by intro j hj; simp at hj; omega)⟩
end Go.Proofs.YthkbapkndmlpfaaDoor
/-
  toItemS: a list of items copied.
-/
namespace Go.Proofs.YthkbapkndmlpfaaDoor
open Go.RowKit
set_option linter.unusedVariables false
set_option linter.unusedSimpArgs false

theorem infoIt : (Tryd.prog.info? 42).map (fun i => (i.zero, i.size, i.bytes)) = some (some (.agg #[.int .i64 0, .slice none 0 0, .int .i64 0, .int .i64 0, .int .i64 0, .slice none 0 0, .slice none 0 0, .slice none 0 0, .slice none 0 0, .slice none 0 0]), 10, 176) := by kernel_rfl

/-- The first k items are laid. -/
def IPart (wr : World) (g n d : Nat) (l : List (Itm d)) (k : Nat) : Prop :=
  wr.there g 0 (n * 10) ∧ g < wr.heap.size ∧ ∀ i (h : i < l.length), i < k → ∃ cs, wr.rangeAt g (i * 10) cs ∧ ISeg (fun b => g < b ∧ b < wr.heap.size) wr d cs l[i]

theorem there_cut {w : World} {g n : Nat} (h : w.there g 0 n) (o m : Nat) (hm : o + m ≤ n) : w.there g o m := fun j hj => by
  have := h (o + j) (by omega)
  rw [Nat.zero_add] at this
  exact this
theorem there_below {w w' : World} {g o n : Nat} (h : w.there g o n) (hg : g < w.heap.size) (hb : Below w.heap.size w w') : w'.there g o n := fun j hj => by
  obtain ⟨h1, h2⟩ := h j hj
  exact ⟨by rw [World.cell?_of_block (w := w) (w' := w') (hb.block g hg)]; exact h1, by rw [World.frozen?_of_block (w := w) (w' := w') (hb.block g hg)]; exact h2⟩
theorem range_keep {w w' : World} {g o : Nat} {cs : List Value} (h : w.rangeAt g o cs) (hg : g < w.heap.size) (hb : Below w.heap.size w w') : w'.rangeAt g o cs := fun j v hv => (World.cell?_of_block (hb.block g hg)).trans (h j v hv)

theorem iPart_next {wr w2 : World} {g n d : Nat} {l : List (Itm d)} {k : Nat} {cs : List Value} (h : IPart wr g n d l k) (hk : k < l.length) (hn : l.length ≤ n) (b2 : Below wr.heap.size wr w2) (hs : ISeg (fun b => wr.heap.size ≤ b ∧ b < w2.heap.size) w2 d cs l[k]) :
    w2.there g (k * 10) 10 ∧ IPart (w2.setCells g (k * 10) cs) g n d l (k + 1) := by
  obtain ⟨h1, h2, h3⟩ := h
  have hlen := hs.len
  have hth := there_below h1 h2 b2
  have hg := grown_setCells g cs (k * 10) w2
  have hz := b2.size
  have hz2 := hg.size
  have htk := there_cut hth (k * 10) 10 (by omega)
  refine ⟨htk, World.there_setCells hth _ _ _, by omega, fun i hi hik => ?_⟩
  by_cases e : i = k
  · subst e
    refine ⟨cs, World.rangeAt_setCells_same _ _ _ _ (by rw [hlen]; exact htk), ?_⟩
    have ha : Agree (fun b => wr.heap.size ≤ b ∧ b < w2.heap.size) w2 (w2.setCells g (i * 10) cs) := fun b hb => hg.block b hb.2 (by have := hb.1; simp; omega)
    exact (hs.agree ha).mono fun b hb => ⟨by omega, by omega⟩
  · obtain ⟨cs', hr, hv⟩ := h3 i hi (by omega)
    have hl' := hv.len
    refine ⟨cs', World.rangeAt_setCells_apart (range_keep hr h2 b2) _ _ _ (by omega), ?_⟩
    have ha : Agree (fun b => g < b ∧ b < wr.heap.size) wr (w2.setCells g (k * 10) cs) := fun b hb => (hg.block b (by omega) (by have := hb.1; simp; omega)).trans (b2.block b hb.2)
    exact (hv.agree ha).mono fun b hb => ⟨hb.1, by omega⟩

/-- What toItemS leaves. -/
def ItSEnd (d : Nat) (l : List (Itm d)) (w : World) (e : Ending) (w' : World) : Prop := ∃ a c, e = .returned (.slice a l.length c) ∧ ILSeg (fun b => b < w'.heap.size) w' d (.slice a l.length c) l ∧ Below w.heap.size w w'

set_option maxHeartbeats 3200000 in
set_option maxRecDepth 100000 in
theorem toItemS_any (d N : Nat) (x : Value) (l : List (Itm d)) (w : World) (hx : ILSeg (fun b => b < N) w d x l) (hN : N ≤ w.heap.size) (hn : l.length ≤ 1048576) (hz : ∀ i (h : i < l.length), ISz d l[i]) :
    Calls Tryd.prog 7 #[x] w (ItSEnd d l w) := by
  have HX := hide' hx
  have HZ := hide' hz
  obtain ⟨a, cap, rfl, _, _, _, _⟩ := hx
  obtain ⟨i0, hi, hz0, hz1, hz2⟩ := info_parts infoIt
  clear hz
  go_enter Tryd.func7, Tryd.ntmps7
  go_wp2_with (refine wpList_make_full _ rfl _ _ 25 rfl w.heap.size 42 i0 (.agg #[.int .i64 0, .slice none 0 0, .int .i64 0, .int .i64 0, .int .i64 0, .slice none 0 0, .slice none 0 0, .slice none 0 0, .slice none 0 0, .slice none 0 0]) 10 Tryd.underlying25 hi hz0 hz1 .i64 .i64 _ _ l.length rfl rfl rfl rfl (by rw [hz2]; omega) (by unfold maxLen; omega) (Nat.le_refl _) ?_; intro w1 hown hgrow)
  have hK0 : Hid (IPart w1 w.heap.size l.length d l 0) := by
    rcases hown.2 with ⟨h1, _⟩ | ⟨g, cp, cur, h1, _, h3, _, _, h6, _⟩
    · simp at h1
    · simp only [Value.slice.injEq, Option.some.injEq, Addr.mk.injEq, and_true, true_and] at h1
      obtain ⟨e1, e2⟩ := h1
      subst e1
      refine ⟨?_, (Array.getElem?_eq_some_iff.1 h3).1, fun i hi h => by omega⟩
      have := there_of_row h3
      rw [h6, ← e2] at this
      exact this
  have hb1 : Below w.heap.size w w1 := (Below.refl _ _).grown hgrow (Nat.le_refl _) (by simp)
  clear hown hgrow
  go_loopw [4] (fun i wr => ∃ k : Nat, k ≤ l.length ∧ i = .int .i64 k ∧ Hid (IPart wr w.heap.size l.length d l k) ∧ Below w.heap.size w wr) (fun i _ => l.length - (intOf i).toNat)
  case atStart => exact ⟨0, Nat.zero_le _, rfl, hK0, hb1⟩
  case round =>
    obtain ⟨k, hk, rfl, hK, hbel⟩ := hrel
    clear hK0 hb1
    have hzz := hbel.size
    by_cases hlt : k < l.length
    · have hlt' : (k : Int) < (l.length : Int) := by omega
      have hXr := HX.out.agree (agree_below (hbel.mono hN))
      obtain ⟨b, off, cs, rfl, hbN, hr, hs⟩ := hXr.at hlt
      have HC := hide' (toItem_any d N cs l[k] wr hs (by omega) (HZ.out k hlt))
      have hlen := hs.len
      clear hs hXr
      go_wp2_with (refine wpList_load_mid rfl 35 (.tmp 18) (by rfl) b (off + k * 10) (by rfl) cs _ hr Tryd.underlying35 rfl (info_laws_item hlen) ?_)
      refine HC.out.mono ?_
      rintro e w2 ⟨cs2, rfl, hs2, b2⟩
      obtain ⟨hth, hP⟩ := iPart_next hK.out hlt (Nat.le_refl _) b2 hs2
      have hl2 := hs2.len
      have HP := hide' hP
      have hone := all_oneCell_toArray hs2.one
      have hsz2 : cs2.toArray.size = 10 := by simpa using hl2
      have hth' : w2.there w.heap.size (k * 10) cs2.toArray.size := by rw [hsz2]; exact hth
      have hB := hide' ((Below.on hbel b2).grown (grown_setCells w.heap.size cs2 (k * 10) w2) (Below.on hbel b2).size (by intro j hj; simp at hj; omega))
      clear hP hs2 b2 hbel hr HC
      go_wp2_with (refine wpList_store_mid rfl 42 (.tmp 21) (.tmp 20) (by rfl) w.heap.size (k * 10) cs2.toArray (by rfl) (by rfl) hth' (info_item hsz2) hone ?_)
      go_roundw
      case rel => exact ⟨k + 1, by omega, by go_num, HP, hB.out⟩
      case measure => simp [intOf]; omega
    · have hkn : k = l.length := by omega
      have hkn' : ¬ (k : Int) < (l.length : Int) := by omega
      have HF : Hid (ILSeg (fun b => b < wr.heap.size) wr d (.slice (some ⟨w.heap.size, 0, none⟩) l.length l.length) l) := by
        refine ⟨_, _, rfl, Nat.le_refl _, by unfold maxLen; omega, by simp, .inr ⟨w.heap.size, 0, rfl, hK.out.2.1, fun i hi => ?_⟩⟩
        obtain ⟨cs, hr, hv⟩ := hK.out.2.2 i hi (by omega)
        exact ⟨cs, by rw [Nat.zero_add]; exact hr, hv.mono fun b hb => hb.2⟩
      clear hkn hK
      go_wp2
      go_ret
      exact ⟨_, _, rfl, HF.out, hbel⟩
end Go.Proofs.YthkbapkndmlpfaaDoor
/-
  eqItem, eqItemS: two readings of one list of items.
-/
namespace Go.Proofs.YthkbapkndmlpfaaDoor
open Go.RowKit
set_option linter.unusedVariables false
set_option linter.unusedSimpArgs false

set_option maxHeartbeats 3200000 in
set_option maxRecDepth 100000 in
theorem eqItem_any (d N : Nat) (cs cs' : List Value) (it : Itm d) (w : World) (h : ISeg (fun b => b < N) w d cs it) (h' : ISeg (fun b => b < N) w d cs' it) (hN : N ≤ w.heap.size) (hz : ISz d it) :
    Calls Tryd.prog 15 #[.agg cs.toArray, .agg cs'.toArray] w fun e w' => e = .returned (.bool true) ∧ Below w.heap.size w w' := by
  obtain ⟨na, np, bk, bn, a2, l2, p2, a3, l3, p3, a4, l4, p4, xa, xp, ea, ep, rfl, ht, hv, hk, hl⟩ := h.form
  obtain ⟨na', np', bk', bn', a2', l2', p2', a3', l3', p3', a4', l4', p4', xa', xp', ea', ep', rfl, ht', hv', hk', hl'⟩ := h'.form
  obtain ⟨k, nm, mn, by', ks, es⟩ := it
  obtain ⟨z0, z1, z2, z3⟩ := hz
  simp only at ht hv hk hl ht' hv' hk' hl' z0 z1 z2 z3 ⊢
  have HB : Hid (∀ o o' : Obj, Below w.heap.size w ((w.alloc o).alloc o')) := fun o o' => ((Below.refl _ _).alloc (Nat.le_refl _) o).alloc (by simp) o'
  have Hbox : Hid (∀ o o' wx, Below ((w.alloc o).alloc o').heap.size ((w.alloc o).alloc o') wx → wx.heap[w.heap.size]? = some o ∧ wx.heap[w.heap.size + 1]? = some o') := fun o o' wx h => ⟨(h.block _ (by simp; omega)).trans (two_boxes w o o').1, (h.block _ (by simp)).trans (two_boxes w o o').2⟩
  have hA : ∀ wx, Below w.heap.size w wx → Agree (fun b => b < N) w wx := fun wx hb => agree_below (hb.mono hN)
  have HT : Hid (∀ wx, Below w.heap.size w wx → Calls Tryd.prog 35 #[.slice na nm.length np, .slice na' nm.length np'] wx fun e w' => e = .returned (.bool true) ∧ Below wx.heap.size wx w') := fun wx hb => by
    obtain ⟨_, _, e1, s1, _⟩ := ht.agree (hA wx hb)
    obtain ⟨_, _, e2, s2, _⟩ := ht'.agree (hA wx hb)
    simp at e1 e2
    obtain ⟨rfl, _⟩ := e1
    obtain ⟨rfl, _⟩ := e2
    exact eqByteS_same _ _ _ _ nm wx s1 s2 (by omega)
  have HV : Hid (∀ wx, Below w.heap.size w wx → Calls Tryd.prog 36 #[.agg #[.int .i64 bk, .int .i64 bn, .slice a2 l2 p2, .slice a3 l3 p3, .slice a4 l4 p4], .agg #[.int .i64 bk', .int .i64 bn', .slice a2' l2' p2', .slice a3' l3' p3', .slice a4' l4' p4']] wx fun e w' => e = .returned (.bool true) ∧ Below wx.heap.size wx w') := fun wx hb =>
    eqValue_any d N (.int .i64 bk, .int .i64 bn, .slice a2 l2 p2, .slice a3 l3 p3, .slice a4 l4 p4) (.int .i64 bk', .int .i64 bn', .slice a2' l2' p2', .slice a3' l3' p3', .slice a4' l4' p4') by' wx (VSeg.agree (hA wx hb) d hv) (VSeg.agree (hA wx hb) d hv') (by have := hb.size; omega) z1
  have HK : Hid (∀ wx, Below w.heap.size w wx → Calls Tryd.prog 14 #[.slice xa ks.length xp, .slice xa' ks.length xp'] wx fun e w' => e = .returned (.bool true) ∧ Below wx.heap.size wx w') := fun wx hb => eqByteSS_same N _ _ ks wx (hk.agree (hA wx hb)) (hk'.agree (hA wx hb)) (by have := hb.size; omega) z2
  have HL : Hid (∀ wx, Below w.heap.size w wx → Calls Tryd.prog 37 #[.slice ea es.length ep, .slice ea' es.length ep'] wx fun e w' => e = .returned (.bool true) ∧ Below wx.heap.size wx w') := fun wx hb => eqValueS_of d (eqValue_any d) N _ _ es wx (hl.agree (hA wx hb)) (hl'.agree (hA wx hb)) (by have := hb.size; omega) z3
  clear ht hv hk hl ht' hv' hk' hl' h h' hA
  generalize nm.length = s0 at *
  generalize ks.length = kl at *
  generalize es.length = el at *
  go_enter Tryd.func15, Tryd.ntmps15
  go_wp2_with fail
  refine (HT.out _ (HB.out _ _)).mono ?_
  rintro e w1 ⟨rfl, b1⟩
  obtain ⟨r1, r2⟩ := Hbox.out _ _ _ b1
  have u2 := cell_of_row _ _ 2 _ _ _ r1
  have t2 := cell_of_row _ _ 2 _ _ _ r2
  have u3 := cell_of_row _ _ 3 _ _ _ r1
  have t3 := cell_of_row _ _ 3 _ _ _ r2
  have u4 := cell_of_row _ _ 4 _ _ _ r1
  have t4 := cell_of_row _ _ 4 _ _ _ r2
  have u5 := cell_of_row _ _ 5 _ _ _ r1
  have t5 := cell_of_row _ _ 5 _ _ _ r2
  have u6 := cell_of_row _ _ 6 _ _ _ r1
  have t6 := cell_of_row _ _ 6 _ _ _ r2
  have u7 := cell_of_row _ _ 7 _ _ _ r1
  have t7 := cell_of_row _ _ 7 _ _ _ r2
  simp at u2 u3 u4 u5 u6 u7 t2 t3 t4 t5 t6 t7
  have B1 := hide' b1
  clear r1 r2 b1
  go_wp2_with fail
  refine (HV.out _ (Below.on (HB.out _ _) B1.out)).mono ?_
  rintro e w2 ⟨rfl, b2⟩
  have B2 := hide' (Below.on B1.out b2)
  obtain ⟨r1, r2⟩ := Hbox.out _ _ _ B2.out
  have u8 := cell_of_row _ _ 8 _ _ _ r1
  have t8 := cell_of_row _ _ 8 _ _ _ r2
  simp at u8 t8
  clear r1 r2 b2
  go_wp2_with fail
  refine (HK.out _ (Below.on (HB.out _ _) B2.out)).mono ?_
  rintro e w3 ⟨rfl, b3⟩
  have B3 := hide' (Below.on B2.out b3)
  obtain ⟨r1, r2⟩ := Hbox.out _ _ _ B3.out
  have u9 := cell_of_row _ _ 9 _ _ _ r1
  have t9 := cell_of_row _ _ 9 _ _ _ r2
  simp at u9 t9
  clear r1 r2 b3
  go_wp2_with fail
  refine (HL.out _ (Below.on (HB.out _ _) B3.out)).mono ?_
  rintro e w4 ⟨rfl, b4⟩
  have B4 := hide' (Below.on (HB.out _ _) (Below.on B3.out b4))
  clear b4
  go_wp2
  go_ret
  exact ⟨rfl, B4.out⟩

set_option maxHeartbeats 3200000 in
set_option maxRecDepth 100000 in
theorem eqItemS_any (d N : Nat) (x y : Value) (l : List (Itm d)) (w : World) (hx : ILSeg (fun b => b < N) w d x l) (hy : ILSeg (fun b => b < N) w d y l) (hN : N ≤ w.heap.size) (hll : l.length ≤ 1048576) (hz : ∀ i (h : i < l.length), ISz d l[i]) :
    Calls Tryd.prog 9 #[x, y] w fun e w' => e = .returned (.bool true) ∧ Below w.heap.size w w' := by
  have HX := hide' hx
  have HY := hide' hy
  have HZ := hide' hz
  obtain ⟨a, cap, rfl, _, _, _, _⟩ := hx
  obtain ⟨a', cap', rfl, _, _, _, _⟩ := hy
  clear hz
  go_enter Tryd.func9, Tryd.ntmps9
  go_wp2
  go_loopw [5] (fun i wr => ∃ k : Nat, k ≤ l.length ∧ i = .int .i64 k ∧ Below w.heap.size w wr) (fun i _ => l.length - (intOf i).toNat)
  case atStart => exact ⟨0, Nat.zero_le _, rfl, Below.refl _ _⟩
  case round =>
    obtain ⟨k, hk, rfl, hbel⟩ := hrel
    have hz := hbel.size
    by_cases hlt : k < l.length
    · have hlt' : (k : Int) < (l.length : Int) := by omega
      have hXr := HX.out.agree (agree_below (hbel.mono hN))
      have hYr := HY.out.agree (agree_below (hbel.mono hN))
      obtain ⟨b, off, cs, rfl, hbN, hr, hs⟩ := hXr.at hlt
      obtain ⟨b', off', cs', rfl, hbN', hr', hs'⟩ := hYr.at hlt
      have HC := hide' (eqItem_any d N cs cs' l[k] wr.drew (hs.agree (w' := wr.drew) (fun b _ => rfl)) (hs'.agree (w' := wr.drew) (fun b _ => rfl)) (by show N ≤ wr.heap.size; omega) (HZ.out k hlt))
      have hlen := hs.len
      have hlen' := hs'.len
      obtain ⟨na, np, bk, bn, a2, l2, p2, a3, l3, p3, a4, l4, p4, xa, xp, ea, ep, rfl, _⟩ := hs.form
      obtain ⟨na', np', bk', bn', a2', l2', p2', a3', l3', p3', a4', l4', p4', xa', xp', ea', ep', rfl, _⟩ := hs'.form
      have u0 := hr 0 _ rfl
      have t0 := hr' 0 _ rfl
      have u1 := hr 1 _ rfl
      have t1 := hr' 1 _ rfl
      have u2 := hr 2 _ rfl
      have t2 := hr' 2 _ rfl
      have u3 := hr 3 _ rfl
      have t3 := hr' 3 _ rfl
      have u4 := hr 4 _ rfl
      have t4 := hr' 4 _ rfl
      have u5 := hr 5 _ rfl
      have t5 := hr' 5 _ rfl
      have u6 := hr 6 _ rfl
      have t6 := hr' 6 _ rfl
      have u7 := hr 7 _ rfl
      have t7 := hr' 7 _ rfl
      have u8 := hr 8 _ rfl
      have t8 := hr' 8 _ rfl
      have u9 := hr 9 _ rfl
      have t9 := hr' 9 _ rfl
      simp only [Nat.add_zero] at u0 t0
      have HB := hide' hbel
      clear hs hXr hs' hYr hr hr' hlen hlen' hbel
      generalize l[k] = it at *
      obtain ⟨ik, inm, imn, iby, iks, ies⟩ := it
      simp only at u0 u1 u2 u3 u4 u5 u6 u7 u8 u9 t0 t1 t2 t3 t4 t5 t6 t7 t8 t9 HC
      go_wp2_with fail
      go_region_with (go_at_call 15; refine HC.out.mono ?_; rintro e w1 ⟨rfl, b1⟩)
      all_goals
        have B1 := Below.on HB.out.drew b1
        clear u0 u1 u2 u3 u4 u5 u6 u7 u8 u9 t0 t1 t2 t3 t4 t5 t6 t7 t8 t9
        go_wp2
        go_roundw
        case rel => exact ⟨k + 1, by omega, by go_num, B1⟩
        case measure => simp [intOf]; omega
    · have hlt' : ¬ (k : Int) < (l.length : Int) := by omega
      go_wp2
      go_ret
      exact ⟨rfl, hbel⟩
end Go.Proofs.YthkbapkndmlpfaaDoor
/-
  FnExactConfigOk answers true, whatever list of items it is handed; it makes new memory and turns nothing old.
-/
namespace Go.Proofs.YthkbapkndmlpfaaDoor
open Go.RowKit
set_option linter.unusedVariables false

theorem ILSeg.mono {R R' : Nat → Prop} {w : World} {d : Nat} {x : Value} {l : List (Itm d)} (h : ILSeg R w d x l) (hr : ∀ b, R b → R' b) : ILSeg R' w d x l := by
  obtain ⟨a, c, e, h1, h2, h3, h4⟩ := h
  refine ⟨a, c, e, h1, h2, h3, ?_⟩
  rcases h4 with h4 | ⟨b, off, ha, hb, hc⟩
  · exact .inl h4
  · refine .inr ⟨b, off, ha, hr _ hb, fun i hi => ?_⟩
    obtain ⟨cs, h5, h6⟩ := hc i hi
    exact ⟨cs, h5, h6.mono hr⟩

set_option maxHeartbeats 1600000 in
theorem walk_FnExactConfigOk (d : Nat) (x : Value) (l : List (Itm d)) (w : World) (hT : ShpT w) (hx : ILSeg (fun b => b < w.heap.size) w d x l) :
    Calls Tryd.prog 3 #[x] w fun e w' => e = .returned (.bool true) ∧ Below w.heap.size w w' := by
  have HTb := hide' hT
  have HV : Hid (∀ wx, Below w.heap.size w wx → ILSeg (fun b => b < w.heap.size) wx d x l) := fun wx hb => hx.agree (agree_below hb)
  have HS := hide' (szItemS_any d w.heap.size x l w hx (Nat.le_refl _))
  obtain ⟨a, p, rfl⟩ := hx.form
  clear hx hT
  generalize hn : l.length = n at *
  go_enter Tryd.func3, Tryd.ntmps3
  go_wp2_with fail
  refine HS.out.mono ?_
  rintro e w1 ⟨hcase, B1⟩
  clear HS
  rcases hcase with rfl | ⟨m, hm0, hm1, rfl, hlen, hsz⟩
  · go_wp2
    go_ret
    exact ⟨rfl, B1⟩
  have HZ := hide' hsz
  have HLn := hide' hlen
  have HT : Hid (∀ wx, Below w.heap.size w wx → Calls Tryd.prog 7 #[.slice a n p] wx (ItSEnd d l wx)) := fun wx hb => toItemS_any d w.heap.size _ l wx (HV.out wx hb) hb.size HLn.out HZ.out
  have HT1 := hide' (HT.out w1 B1)
  have HB1 := hide' B1
  clear B1 hsz hlen HV
  go_wp2_with fail
  refine HT1.out.mono ?_
  rintro e w2 ⟨ua, uc, rfl, hO2, b2⟩
  have hS2 := hide' (spec_ConfigOk_any d w2.heap.size _ l w2 hO2 (Nat.le_refl _))
  have B2 := hide' (Below.on HB1.out b2)
  rw [hn] at hS2 ⊢
  clear HT1 HB1 hO2 b2
  go_wp2_with fail
  refine hS2.out.mono ?_
  rintro e w3 ⟨rfl, b3⟩
  have B3 := hide' (Below.on B2.out b3)
  have HT3 := hide' (HT.out w3 B3.out)
  clear b3 B2 hS2
  go_wp2_with fail
  refine HT3.out.mono ?_
  rintro e w4 ⟨va, vc, rfl, hO4, b4⟩
  have B4 := hide' (Below.on B3.out b4)
  have hI4 := hide' (impl_ConfigOk_any d w4.heap.size _ l w4 hO4 (Nat.le_refl _) (HTb.out.below B4.out) (HTb.out.below B4.out).lt)
  have HO4 := hide' hO4
  rw [hn] at hI4 HO4 ⊢
  clear HT3 b4 hO4 B3
  go_wp2_with fail
  refine hI4.out.mono ?_
  rintro e w5 ⟨rfl, b5⟩
  have B5 := Below.on B4.out b5
  have HT5 := hide' (HT.out w5 B5)
  have Hb5 := hide' b5
  have HB5 := hide' B5
  clear hI4 b5 B5 B4
  generalize cfgB d l = ok at *
  go_wp2_with fail
  refine HT5.out.mono ?_
  rintro e w6 ⟨za, zc, rfl, hO6, b6⟩
  have b46 := Below.on Hb5.out b6
  have B6' := hide' (Below.on HB5.out b6)
  have hE := hide' (eqItemS_any d w6.heap.size (.slice va n vc) _ l w6 ((HO4.out.agree (agree_below b46)).mono fun b hb => Nat.lt_of_lt_of_le hb b46.size) hO6 (Nat.le_refl _) HLn.out HZ.out)
  rw [hn] at hE ⊢
  clear hO6 b6 b46 HT5 Hb5 HB5
  go_wp2_with fail
  refine hE.out.mono ?_
  rintro e w7 ⟨rfl, b7⟩
  have B7 := Below.on B6'.out b7
  go_wp2
  go_ret
  exact ⟨rfl, B7⟩
end Go.Proofs.YthkbapkndmlpfaaDoor
/-
  What the row lists of the table of shapes: its cells.
-/
namespace Go.Proofs.YthkbapkndmlpfaaDoor
open Go.RowKit
set_option linter.unusedVariables false
set_option linter.unusedSimpArgs false
set_option maxRecDepth 100000

/-- A shape as the row lists it. -/
def shpF {H : Type} (i : Nat) : DataW H := .agg [.lit (.int .i64 (mostI i)), .lit (.int .i64 (saysI i)), .lit (.bool (decide (i = 5))), .lit (.int .i64 (arI i))]

theorem shapes_eq : (Rows.laid_loop_example_g00407_impl_shapes : DataW Unit) = .agg ((List.range 24).map shpF) := by kernel_rfl

theorem cellsShp : Tryd.prog.cellsOf 82 = 4 := by kernel_rfl
theorem cellsShps : Tryd.prog.cellsOf 83 = 96 := by kernel_rfl
theorem cells3 : Tryd.prog.cellsOf 3 = 1 := by kernel_rfl
theorem cells4 : Tryd.prog.cellsOf 4 = 1 := by kernel_rfl

theorem shp_row {H : Type} {enc : TypeId × Value → H} {w : World} {base : Nat} {sp : Nat → Bool} {held : Bool} {fuel : Nat} {cs : List Value} {i : Nat} {p : List MemPlace} (h : DataW.trod enc Tryd.prog w base sp held fuel 82 cs = some (shpF i, p)) :
    cs = [.int .i64 (mostI i), .int .i64 (saysI i), .bool (decide (i = 5)), .int .i64 (arI i)] := by
  cases fuel with
  | zero => simp [DataW.trod] at h
  | succ fuel =>
    unfold DataW.trod at h
    rw [Tryd.underlying82] at h
    simp only [cellsShp] at h
    split at h
    · next hlen =>
      match cs, hlen with
      | [c0, c1, c2, c3], _ =>
        simp [cells3, cells4, List.mapM_cons, Option.bind_eq_some_iff] at h
        obtain ⟨a0, b0, h0, _, ⟨a1, b1, h1, _, ⟨a2, b2, h2, _, ⟨a3, b3, h3, rfl⟩, rfl⟩, rfl⟩, hE, _⟩ := h
        obtain ⟨n0, e0, x0, _⟩ := DataW.trod_int Tryd.underlying3 h0
        obtain ⟨n1, e1, x1, _⟩ := DataW.trod_int Tryd.underlying3 h1
        obtain ⟨n2, e2, x2⟩ := DataW.trod_bool Tryd.underlying4 h2
        obtain ⟨n3, e3, x3, _⟩ := DataW.trod_int Tryd.underlying3 h3
        simp at e0 e1 e2 e3 x0 x1 x2 x3
        obtain ⟨rfl, _⟩ := x0
        obtain ⟨rfl, _⟩ := x1
        obtain ⟨rfl, _⟩ := x2
        obtain ⟨rfl, _⟩ := x3
        simp [shpF] at hE
        obtain ⟨f0, f1, f2, f3⟩ := hE
        rw [e0, e1, e2, e3, f0, f1, f2, f3]
    · simp at h

theorem shpT_of_laid {r : List (String × DataW Unit)} {w : World} (h : laidMet Tryd.prog (("loop.example/g00407/impl.shapes", Rows.laid_loop_example_g00407_impl_shapes) :: r) w) : ShpT w := by
  obtain ⟨ps, ⟨g', t', cs, fuel, p, q, hg', ht', hvar, hd, _, _⟩, _⟩ := h
  have hg : Tryd.prog.globalNamed "loop.example/g00407/impl.shapes" = some 0 := by kernel_rfl
  have hty : (Tryd.prog.globals[0]?).map (·.type) = some 83 := by kernel_rfl
  obtain rfl := Option.some.inj (hg.symm.trans hg')
  obtain rfl := Option.some.inj (hty.symm.trans ht')
  rw [shapes_eq] at hd
  cases fuel with
  | zero => simp [DataW.trod] at hd
  | succ fuel =>
    unfold DataW.trod at hd
    rw [Tryd.underlying83] at hd
    simp only [cellsShp, cellsShps] at hd
    split at hd
    · rename_i hl
      obtain ⟨xs, hm, hx⟩ := Option.map_eq_some_iff.1 hd
      have hxs : xs.map (·.1) = (List.range 24).map shpF := by
        have := congrArg Prod.fst hx
        simpa using this
      intro k hk
      obtain ⟨b, hb, hf⟩ := Lib.mapM_at hm k k (by simp [hk])
      have h2 : (xs.map (·.1))[k]? = some (shpF k : DataW Unit) := by rw [hxs]; simp [hk]
      have h3 : b.1 = shpF k := by simpa [hb] using h2
      obtain ⟨b1, b2⟩ := b
      simp only at h3
      subst h3
      have hrow := shp_row hf
      have hc : ∀ j, j < 4 → w.cell? ⟨0, k * 4 + j, none⟩ = [.int .i64 (mostI k), .int .i64 (saysI k), .bool (decide (k = 5)), .int .i64 (arI k)][j]? := by
        intro j hj
        rw [World.var?_cell hg hvar, ← hrow]
        simp [List.getElem?_take, List.getElem?_drop, hj]
      exact ⟨hc 0 (by omega), hc 1 (by omega), hc 2 (by omega), hc 3 (by omega)⟩
    · simp at hd
end Go.Proofs.YthkbapkndmlpfaaDoor
/-
  A text that came in, as its reading has it, can be read: 'TSeg'.
-/
namespace Go.Proofs.YthkbapkndmlpfaaDoor
open Go.ChangeShapes Go.WideShapes Go.ChangeAt Go.RowKit
set_option linter.unusedVariables false
set_option linter.unusedSimpArgs false
set_option maxRecDepth 100000

theorem cellsT : Tryd.prog.cellsOf 29 = 1 := by kernel_rfl
theorem cellsI : Tryd.prog.cellsOf 3 = 1 := by kernel_rfl

theorem list_of {α : Type} {Q : Nat → α → Prop} : ∀ n, (∀ i, i < n → ∃ x, Q i x) → ∃ l : List α, l.length = n ∧ ∀ i (h : i < l.length), Q i l[i]
  | 0, _ => ⟨[], rfl, fun i h => by simp at h⟩
  | n + 1, hq => by
    obtain ⟨l, hl, hi⟩ := list_of n (fun i hi => hq i (by omega))
    obtain ⟨x, hx⟩ := hq n (by omega)
    refine ⟨l ++ [x], by simp [hl], fun i h => ?_⟩
    by_cases e : i < l.length
    · rw [List.getElem_append_left e]; exact hi i e
    · have : i = n := by simp at h; omega
      subst this
      rw [List.getElem_append_right (by omega)]
      simpa using hx

variable {H : Type} {enc : TypeId × Value → H} {w : World}

theorem read_text {fuel : Nat} {cs : List Value} {x : DataW H × List MemPlace} (h : DataW.trod enc Tryd.prog w 0 (fun _ => true) true fuel 29 cs = some x) : ∃ u xs, cs = [u] ∧ TSeg (fun b => b < w.heap.size) w u xs := by
  rcases open_ints Tryd.underlying29 Tryd.underlying5 (by kernel_rfl) h with ⟨rfl, _⟩ | ⟨a, len, cap, zs, rfl, _, hl, hm, hz, _, hcell, hwz⟩
  · exact ⟨_, [], rfl, none, 0, rfl, ⟨by simp, .inl rfl⟩, Nat.le_refl _, Nat.zero_le _, fun _ => rfl, by simp⟩
  · obtain ⟨xs, e, hs, h1, h2, h3⟩ := seg_of_row (w := w) (a := some a) (len := len) (cap := cap) (zs := zs) (.inr ⟨a, rfl, hl, hm, by simpa using hz, hcell, hwz⟩)
    subst e
    exact ⟨_, xs, rfl, some a, cap, rfl, hs, h1, h2, h3, hs.lt⟩

end Go.Proofs.YthkbapkndmlpfaaDoor
