/-
  Texts that a law leans on, one behind the other; no statement is proved here.
-/
import Derived.Test.YtdhlmcgbgdljmaaGreatDoorPk3
import Derived.Test.YtdhlmcgbgdljmaaGreatDoorPk1
import Derived.Test.YtdhlmcgbgdljmaaGreatDoorPk0
/-
  toChange: a change copied, in blocks of its own.
-/
namespace Go.Proofs.YtdhlmcgbgdljmaaGreatDoor
open Go.RowKit
set_option linter.unusedVariables false
set_option linter.unusedSimpArgs false

/-- Thirteen cells that read as a change of the call's own, in the blocks B. -/
def COwn (w : World) (d : Nat) (cs : List Value) (x : Chg d) (B : List Nat) : Prop :=
  ∃ c0 c2 c3 c4 c5 c6 c8 c9 c10 c11 c12 B1 B2 B3, cs = [c0, .bool x.2.1, c2, c3, c4, c5, c6, .bool x.2.2.2.1, c8, c9, c10, c11, c12] ∧ PthOwn w c0 x.1 B1 ∧ VOwn w d (c2, c3, c4, c5, c6) x.2.2.1 B2 ∧ VOwn w d (c8, c9, c10, c11, c12) x.2.2.2.2 B3 ∧ B = B1 ++ (B2 ++ B3) ∧
    ∃ s1 s2, (∀ b ∈ B1, b < s1) ∧ (∀ b ∈ B2, s1 ≤ b ∧ b < s2) ∧ (∀ b ∈ B3, s2 ≤ b) ∧ s1 ≤ s2

/-- Owned, in a window. -/
def PWi (lo hi : Nat) (w : World) (u : Value) (l : List Stp) : Prop := ∃ B, PthOwn w u l B ∧ ∀ b ∈ B, lo ≤ b ∧ b < hi
def VWi (lo hi : Nat) (w : World) (d : Nat) (c : Value × Value × Value × Value × Value) (v : Vl d) : Prop := ∃ B, VOwn w d c v B ∧ ∀ b ∈ B, lo ≤ b ∧ b < hi
variable {lo hi d : Nat} {w wx w1 w' : World}
theorem PWi.agree {u : Value} {l : List Stp} (h : PWi lo hi w u l) (ha : Agree (fun b => lo ≤ b ∧ b < hi) w w') : PWi lo hi w' u l := by
  obtain ⟨B, h1, h2⟩ := h
  exact ⟨B, h1.agree fun b hb => ha b (h2 b hb), h2⟩
theorem VWi.agree {c : Value × Value × Value × Value × Value} {v : Vl d} (h : VWi lo hi w d c v) (ha : Agree (fun b => lo ≤ b ∧ b < hi) w w') : VWi lo hi w' d c v := by
  obtain ⟨B, h1, h2⟩ := h
  exact ⟨B, VOwn.agree d h1 fun b hb => ha b (h2 b hb), h2⟩
theorem PWi.mono {lo' : Nat} {u : Value} {l : List Stp} (h : PWi lo hi w u l) (hl : lo' ≤ lo) : PWi lo' hi w u l := by
  obtain ⟨B, h1, h2⟩ := h
  exact ⟨B, h1, fun b hb => by have := h2 b hb; omega⟩
theorem VWi.mono {lo' : Nat} {c : Value × Value × Value × Value × Value} {v : Vl d} (h : VWi lo hi w d c v) (hl : lo' ≤ lo) : VWi lo' hi w d c v := by
  obtain ⟨B, h1, h2⟩ := h
  exact ⟨B, h1, fun b hb => by have := h2 b hb; omega⟩
theorem wi_turn (hg : wx.grownBy w1 (some (w.heap.size + 1 + 1))) (h1 : w.heap.size + 3 ≤ lo) (h2 : hi ≤ wx.heap.size) : Agree (fun b => lo ≤ b ∧ b < hi) wx w1 := fun k hk => hg.block k (by omega) (by simp; omega)
theorem wi_below (b : Below wx.heap.size wx w1) (h2 : hi ≤ wx.heap.size) : Agree (fun b => lo ≤ b ∧ b < hi) wx w1 := fun k hk => b.block k (by omega)

theorem COwn.agree {cs : List Value} {x : Chg d} {B : List Nat} (h : COwn w d cs x B) (ha : Agree (fun b => b ∈ B) w w') : COwn w' d cs x B := by
  obtain ⟨c0, c2, c3, c4, c5, c6, c8, c9, c10, c11, c12, B1, B2, B3, e, h1, h2, h3, rfl, hs⟩ := h
  exact ⟨c0, c2, c3, c4, c5, c6, c8, c9, c10, c11, c12, B1, B2, B3, e, h1.agree fun b hb => ha b (by simp [hb]), VOwn.agree d h2 fun b hb => ha b (by simp [hb]), VOwn.agree d h3 fun b hb => ha b (by simp [hb]), rfl, hs⟩
theorem COwn.lt {cs : List Value} {x : Chg d} {B : List Nat} (h : COwn w d cs x B) : ∀ b ∈ B, b < w.heap.size := by
  obtain ⟨c0, c2, c3, c4, c5, c6, c8, c9, c10, c11, c12, B1, B2, B3, e, h1, h2, h3, rfl, hs⟩ := h
  intro b hb
  simp only [List.mem_append] at hb
  rcases hb with hb | hb | hb
  · exact h1.lt b hb
  · exact VOwn.lt d h2 b hb
  · exact VOwn.lt d h3 b hb
theorem COwn.on {cs : List Value} {x : Chg d} {B : List Nat} (h : COwn w d cs x B) (hb : Below w.heap.size w w') : COwn w' d cs x B := h.agree fun b hb' => hb.block b (h.lt b hb')
theorem COwn.read {cs : List Value} {x : Chg d} {B : List Nat} (h : COwn w d cs x B) : CSg (fun b => b < w.heap.size) w d cs x := by
  have hlt := h.lt
  obtain ⟨c0, c2, c3, c4, c5, c6, c8, c9, c10, c11, c12, B1, B2, B3, e, h1, h2, h3, rfl, hs⟩ := h
  exact ⟨c0, c2, c3, c4, c5, c6, c8, c9, c10, c11, c12, e, h1.seg.mono fun b hb => hlt b (by simp [hb]), VSeg.mono (fun b hb => hlt b (by simp [hb])) d (VOwn.seg d h2), VSeg.mono (fun b hb => hlt b (by simp [hb])) d (VOwn.seg d h3)⟩

/-- What toChange leaves, in blocks of its own. -/
def CgEndO (d : Nat) (x : Chg d) (w : World) (e : Ending) (w' : World) : Prop := ∃ cs, e = .returned (.agg cs.toArray) ∧ ∃ B, COwn w' d cs x B ∧ (∀ b ∈ B, w.heap.size ≤ b ∧ b < w'.heap.size) ∧ Below w.heap.size w w'

set_option maxHeartbeats 6400000 in
set_option maxRecDepth 100000 in
theorem toChangeO_any (d N : Nat) (cs : List Value) (x : Chg d) (w : World) (h : CSg (fun b => b < N) w d cs x) (hN : N ≤ w.heap.size) (hz : CSz d x) :
    Calls Tryz.prog 6 #[.agg cs.toArray] w (CgEndO d x w) := by
  obtain ⟨pa, pc, ok, on, o2, ol2, op2, o3, ol3, op3, o4, ol4, op4, nk, nn, n2, nl2, np2, n3, nl3, np3, n4, nl4, np4, rfl, ht, hv, hu⟩ := h.form
  obtain ⟨pth, had, old, has, new⟩ := x
  obtain ⟨z0, z1, z2⟩ := hz
  simp only at ht hv hu z0 z1 z2 ⊢
  have hA : ∀ wx, Below w.heap.size w wx → Agree (fun b => b < N) w wx := fun wx hb => agree_below (hb.mono hN)
  have HT : Hid (∀ wx, Below w.heap.size w wx → w.heap.size + 3 ≤ wx.heap.size → Calls Tryz.prog 18 #[.slice pa pth.length pc] wx fun e w' => ∃ ga gc, e = .returned (.slice ga pth.length gc) ∧ PWi wx.heap.size w'.heap.size w' (.slice ga pth.length gc) pth ∧ Below wx.heap.size wx w') := fun wx hb hs => by
    refine (toStepS_any N _ pth wx (ht.agree (hA wx hb)) (by have := hb.size; omega) z0).mono ?_
    rintro e w' ⟨u, rfl, B, hO, hB, b⟩
    have hO' := hO
    obtain ⟨ga, gc, rfl⟩ := hO.seg.sl
    exact ⟨ga, gc, rfl, ⟨B, hO', hB⟩, b⟩
  have HV : Hid (∀ wx, Below w.heap.size w wx → w.heap.size + 3 ≤ wx.heap.size → Calls Tryz.prog 19 #[.agg #[.int .i64 ok, .int .i64 on, .slice o2 ol2 op2, .slice o3 ol3 op3, .slice o4 ol4 op4]] wx fun e w' => ∃ c0 c1 c2 c3 c4, e = .returned (.agg #[c0, c1, c2, c3, c4]) ∧ VWi wx.heap.size w'.heap.size w' d (c0, c1, c2, c3, c4) old ∧ Below wx.heap.size wx w') := fun wx hb hs => by
    refine (toValue_any d N (.int .i64 ok, .int .i64 on, .slice o2 ol2 op2, .slice o3 ol3 op3, .slice o4 ol4 op4) old wx (VSeg.agree (hA wx hb) d hv) (by have := hb.size; omega) z1).mono ?_
    rintro e w' ⟨c0, c1, c2, c3, c4, rfl, B, hO, hB, b⟩
    exact ⟨_, _, _, _, _, rfl, ⟨B, hO, hB⟩, b⟩
  have HU : Hid (∀ wx, Below w.heap.size w wx → w.heap.size + 3 ≤ wx.heap.size → Calls Tryz.prog 19 #[.agg #[.int .i64 nk, .int .i64 nn, .slice n2 nl2 np2, .slice n3 nl3 np3, .slice n4 nl4 np4]] wx fun e w' => ∃ c0 c1 c2 c3 c4, e = .returned (.agg #[c0, c1, c2, c3, c4]) ∧ VWi wx.heap.size w'.heap.size w' d (c0, c1, c2, c3, c4) new ∧ Below wx.heap.size wx w') := fun wx hb hs => by
    refine (toValue_any d N (.int .i64 nk, .int .i64 nn, .slice n2 nl2 np2, .slice n3 nl3 np3, .slice n4 nl4 np4) new wx (VSeg.agree (hA wx hb) d hu) (by have := hb.size; omega) z2).mono ?_
    rintro e w' ⟨c0, c1, c2, c3, c4, rfl, B, hO, hB, b⟩
    exact ⟨_, _, _, _, _, rfl, ⟨B, hO, hB⟩, b⟩
  clear ht hv hu h hA
  have hst0 := hide' (bx_start w 29 37 #[.slice pa pth.length pc, .bool had, .int .i64 ok, .int .i64 on, .slice o2 ol2 op2, .slice o3 ol3 op3, .slice o4 ol4 op4, .bool has, .int .i64 nk, .int .i64 nn, .slice n2 nl2 np2, .slice n3 nl3 np3, .slice n4 nl4 np4] #[.slice none 0 0, .bool false, .int .i64 0, .int .i64 0, .slice none 0 0, .slice none 0 0, .slice none 0 0, .bool false, .int .i64 0, .int .i64 0, .slice none 0 0, .slice none 0 0, .slice none 0 0] #[.slice none 0 0, .bool false, .int .i64 0, .int .i64 0, .slice none 0 0, .slice none 0 0, .slice none 0 0, .bool false, .int .i64 0, .int .i64 0, .slice none 0 0, .slice none 0 0, .slice none 0 0])
  generalize hn0 : pth.length = pl at *
  have Hn0 := hide' hn0
  clear hn0 z0 z1 z2
  go_enter Tryz.func6, Tryz.ntmps6
  go_wp2_with fail
  refine (HT.out _ hst0.out.1 hst0.out.2.2.2.2).mono ?_
  rintro e w1 ⟨ga, gc, rfl, hT1, b1⟩
  have hq := bx_below hst0.out b1
  have hs1 := bx_set hq 0 (.slice ga pl gc) rfl
  have hs1' := hide' (bx_set hs1 1 (.bool had) rfl)
  have hg1 := grownBy_trans (grown1 w1 (w.heap.size + 1 + 1) 0 (.slice ga pl gc)) (grown1 _ (w.heap.size + 1 + 1) 1 (.bool had))
  have hz1 := hst0.out.2.2.2.2
  have hy1 := b1.size
  have HT1 := hide' ((hT1.mono hz1).agree (wi_turn hg1 (Nat.le_refl _) (Nat.le_refl _)))
  have hx1 := hg1.size
  have hb1 : w.heap.size + 3 ≤ w1.heap.size := Nat.le_trans hz1 hy1
  have u1 := cell_of_row _ _ 1 _ _ _ hq.2.1
  have u2 := cell_of_row _ _ 2 _ _ _ hq.2.1
  have u3 := cell_of_row _ _ 3 _ _ _ hq.2.1
  have u4 := cell_of_row _ _ 4 _ _ _ hq.2.1
  have u5 := cell_of_row _ _ 5 _ _ _ hq.2.1
  have u6 := cell_of_row _ _ 6 _ _ _ hq.2.1
  have t0 := cell_of_row _ _ 0 _ _ _ hq.2.2.2.1
  have t1 := cell_of_row _ _ 1 _ _ _ hq.2.2.2.1
  have f0 := frozen_of_row _ _ 0 _ _ hq.2.2.2.1
  have f1 := frozen_of_row _ _ 1 _ _ hq.2.2.2.1
  simp at u1 u2 u3 u4 u5 u6 t0 t1 hs1'
  clear hT1 b1 hq hs1 hg1 hst0 HT
  go_wp2_with fail
  refine (HV.out _ hs1'.out.1 hs1'.out.2.2.2.2).mono ?_
  rintro e w2 ⟨v0, v1, v2, v3, v4, rfl, hV2, b2⟩
  obtain ⟨BV, hBV, hBV'⟩ := hV2
  obtain ⟨vk, vn, e2, m2, q2, e3, m3, q3, e4, m4, q4, rfl, rfl, rfl, rfl, rfl⟩ := VOwn.form d hBV
  have hV2 : VWi _ _ _ _ _ _ := ⟨BV, hBV, hBV'⟩
  have hq := bx_below hs1'.out b2
  have hs2 := bx_set5 hq 2 (.int .i64 vk) (.int .i64 vn) (.slice e2 m2 q2) (.slice e3 m3 q3) (.slice e4 m4 q4) rfl
  have hs2' := hide' (bx_set hs2 7 (.bool has) rfl)
  have hg2 := grownBy_trans (set5_grown w2 (w.heap.size + 1 + 1) 2 (.int .i64 vk) (.int .i64 vn) (.slice e2 m2 q2) (.slice e3 m3 q3) (.slice e4 m4 q4)) (grown1 _ (w.heap.size + 1 + 1) 7 (.bool has))
  have hb2 : w1.heap.size ≤ w2.heap.size := Nat.le_trans hx1 b2.size
  have hx2 := hg2.size
  have HT2 := hide' ((HT1.out.agree (wi_below b2 hx1)).agree (wi_turn hg2 (Nat.le_refl _) hb2))
  have HV2 := hide' ((hV2.mono hx1).agree (wi_turn hg2 hb1 (Nat.le_refl _)))
  have x7 := cell_of_row _ _ 7 _ _ _ hq.2.1
  have x8 := cell_of_row _ _ 8 _ _ _ hq.2.1
  have x9 := cell_of_row _ _ 9 _ _ _ hq.2.1
  have x10 := cell_of_row _ _ 10 _ _ _ hq.2.1
  have x11 := cell_of_row _ _ 11 _ _ _ hq.2.1
  have x12 := cell_of_row _ _ 12 _ _ _ hq.2.1
  have r2 := cell_of_row _ _ 2 _ _ _ hq.2.2.2.1
  have k2 := frozen_of_row _ _ 2 _ _ hq.2.2.2.1
  have r3 := cell_of_row _ _ 3 _ _ _ hq.2.2.2.1
  have k3 := frozen_of_row _ _ 3 _ _ hq.2.2.2.1
  have r4 := cell_of_row _ _ 4 _ _ _ hq.2.2.2.1
  have k4 := frozen_of_row _ _ 4 _ _ hq.2.2.2.1
  have r5 := cell_of_row _ _ 5 _ _ _ hq.2.2.2.1
  have k5 := frozen_of_row _ _ 5 _ _ hq.2.2.2.1
  have r6 := cell_of_row _ _ 6 _ _ _ hq.2.2.2.1
  have k6 := frozen_of_row _ _ 6 _ _ hq.2.2.2.1
  have r7 := cell_of_row _ _ 7 _ _ _ hq.2.2.2.1
  have k7 := frozen_of_row _ _ 7 _ _ hq.2.2.2.1
  simp at x7 x8 x9 x10 x11 x12 r2 r3 r4 r5 r6 r7 hs2'
  clear hV2 hBV hBV' b2 hq hg2 hs2 hs1' HV HT1 u1 u2 u3 u4 u5 u6 t0 t1 f0 f1
  go_wp2_with fail
  refine (HU.out _ hs2'.out.1 hs2'.out.2.2.2.2).mono ?_
  rintro e w3 ⟨v0, v1, v2, v3, v4, rfl, hU3, b3⟩
  obtain ⟨BU, hBU, hBU'⟩ := hU3
  obtain ⟨xk, xn, f2, r2', t2, f3, r3', t3, f4, r4', t4, rfl, rfl, rfl, rfl, rfl⟩ := VOwn.form d hBU
  have hU3 : VWi _ _ _ _ _ _ := ⟨BU, hBU, hBU'⟩
  have hq := bx_below hs2'.out b3
  have hs3 := hide' (bx_set5 hq 8 (.int .i64 xk) (.int .i64 xn) (.slice f2 r2' t2) (.slice f3 r3' t3) (.slice f4 r4' t4) rfl)
  have hg3 := set5_grown w3 (w.heap.size + 1 + 1) 8 (.int .i64 xk) (.int .i64 xn) (.slice f2 r2' t2) (.slice f3 r3' t3) (.slice f4 r4' t4)
  have hb3 : w2.heap.size ≤ w3.heap.size := Nat.le_trans hx2 b3.size
  have hx3 := hg3.size
  have HT3 := hide' ((HT2.out.agree (wi_below b3 (Nat.le_trans hb2 hx2))).agree (wi_turn hg3 (Nat.le_refl _) (Nat.le_trans hb2 hb3)))
  have HV3 := hide' ((HV2.out.agree (wi_below b3 hx2)).agree (wi_turn hg3 hb1 hb3))
  have HU3 := hide' ((hU3.mono hx2).agree (wi_turn hg3 (Nat.le_trans hb1 hb2) (Nat.le_refl _)))
  clear r2 r3 r4 r5 r6 r7 k2 k3 k4 k5 k6 k7 x7 x8 x9 x10 x11 x12
  have r8 := cell_of_row _ _ 8 _ _ _ hq.2.2.2.1
  have k8 := frozen_of_row _ _ 8 _ _ hq.2.2.2.1
  have r9 := cell_of_row _ _ 9 _ _ _ hq.2.2.2.1
  have k9 := frozen_of_row _ _ 9 _ _ hq.2.2.2.1
  have r10 := cell_of_row _ _ 10 _ _ _ hq.2.2.2.1
  have k10 := frozen_of_row _ _ 10 _ _ hq.2.2.2.1
  have r11 := cell_of_row _ _ 11 _ _ _ hq.2.2.2.1
  have k11 := frozen_of_row _ _ 11 _ _ hq.2.2.2.1
  have r12 := cell_of_row _ _ 12 _ _ _ hq.2.2.2.1
  have k12 := frozen_of_row _ _ 12 _ _ hq.2.2.2.1
  simp at r8 r9 r10 r11 r12 hs3
  clear hU3 hBU hBU' b3 hq hg3 hs2' HU HT2 HV2
  go_upto_region 7 with fail
  have hset : Hid (BxSt w 29 37 #[.slice pa pl pc, .bool had, .int .i64 ok, .int .i64 on, .slice o2 ol2 op2, .slice o3 ol3 op3, .slice o4 ol4 op4, .bool has, .int .i64 nk, .int .i64 nn, .slice n2 nl2 np2, .slice n3 nl3 np3, .slice n4 nl4 np4] #[.slice none 0 0, .bool false, .int .i64 0, .int .i64 0, .slice none 0 0, .slice none 0 0, .slice none 0 0, .bool false, .int .i64 0, .int .i64 0, .slice none 0 0, .slice none 0 0, .slice none 0 0] #[.slice ga pl gc, .bool had, .int .i64 vk, .int .i64 vn, .slice e2 m2 q2, .slice e3 m3 q3, .slice e4 m4 q4, .bool has, .int .i64 xk, .int .i64 xn, .slice f2 r2' t2, .slice f3 r3' t3, .slice f4 r4' t4] (set5 w3 (w.heap.size + 1 + 1) 8 (.int .i64 xk) (.int .i64 xn) (.slice f2 r2' t2) (.slice f3 r3' t3) (.slice f4 r4' t4))) := hs3.out
  clear hs3
  simp only [set5] at hset HT3 HV3 HU3 hx3
  generalize ((((w3.setCell ⟨w.heap.size + 1 + 1, 8, none⟩ (.int .i64 xk)).setCell ⟨w.heap.size + 1 + 1, 9, none⟩ (.int .i64 xn)).setCell ⟨w.heap.size + 1 + 1, 10, none⟩ (.slice f2 r2' t2)).setCell ⟨w.heap.size + 1 + 1, 11, none⟩ (.slice f3 r3' t3)).setCell ⟨w.heap.size + 1 + 1, 12, none⟩ (.slice f4 r4' t4) = wA at *
  clear r8 r9 r10 r11 r12 k8 k9 k10 k11 k12
  have hr := range_of_row (cs := [.slice ga pl gc, .bool had, .int .i64 vk, .int .i64 vn, .slice e2 m2 q2, .slice e3 m3 q3, .slice e4 m4 q4, .bool has, .int .i64 xk, .int .i64 xn, .slice f2 r2' t2, .slice f3 r3' t3, .slice f4 r4' t4]) hset.out.2.2.2.1
  have hth : wA.there (w.heap.size + 1) 0 13 := there_of_row hset.out.2.2.1
  have hone : ∀ v ∈ [Value.slice ga pl gc, .bool had, .int .i64 vk, .int .i64 vn, .slice e2 m2 q2, .slice e3 m3 q3, .slice e4 m4 q4, .bool has, .int .i64 xk, .int .i64 xn, .slice f2 r2' t2, .slice f3 r3' t3, .slice f4 r4' t4], v.oneCell' = true := by
    intro v hv
    simp only [List.mem_cons, List.not_mem_nil, or_false] at hv
    rcases hv with rfl | rfl | rfl | rfl | rfl | rfl | rfl | rfl | rfl | rfl | rfl | rfl | rfl <;> rfl
  have hld := run_loadVar_mid (P := Tryz.prog) _ _ _ 37 _ _ (World.rangeAt_setCells_same wA (w.heap.size + 1) 0 [.slice ga pl gc, .bool had, .int .i64 vk, .int .i64 vn, .slice e2 m2 q2, .slice e3 m3 q3, .slice e4 m4 q4, .bool has, .int .i64 xk, .int .i64 xn, .slice f2 r2' t2, .slice f3 r3' t3, .slice f4 r4' t4] hth) Tryz.underlying37 rfl (by kernel_rfl)
  have hg := grown_setCells (w.heap.size + 1) [.slice ga pl gc, .bool had, .int .i64 vk, .int .i64 vn, .slice e2 m2 q2, .slice e3 m3 q3, .slice e4 m4 q4, .bool has, .int .i64 xk, .int .i64 xn, .slice f2 r2' t2, .slice f3 r3' t3, .slice f4 r4' t4] 0 wA
  go_wp2_with (first | (refine wpList_load_mid rfl 37 (.tmp 3) (by rfl) (w.heap.size + 1 + 1) 0 (by rfl) _ _ hr Tryz.underlying37 rfl (by kernel_rfl) ?_) | (refine wpList_store_mid rfl 37 (.tmp 2) (.tmp 22) (by rfl) (w.heap.size + 1) 0 #[.slice ga pl gc, .bool had, .int .i64 vk, .int .i64 vn, .slice e2 m2 q2, .slice e3 m3 q3, .slice e4 m4 q4, .bool has, .int .i64 xk, .int .i64 xn, .slice f2 r2' t2, .slice f3 r3' t3, .slice f4 r4' t4] (by rfl) (by rfl) hth (by kernel_rfl) (all_oneCell_toArray hone) ?_))
  refine bodyPost_ret (v := .agg #[.slice ga pl gc, .bool had, .int .i64 vk, .int .i64 vn, .slice e2 m2 q2, .slice e3 m3 q3, .slice e4 m4 q4, .bool has, .int .i64 xk, .int .i64 xn, .slice f2 r2' t2, .slice f3 r3' t3, .slice f4 r4' t4]) (results_cell 2 37 Tryz.results6 (by rfl) hld) rfl ?_
  have hAg : ∀ lo hi, w.heap.size + 3 ≤ lo → hi ≤ wA.heap.size → Agree (fun b => lo ≤ b ∧ b < hi) wA _ := fun lo hi h1 h2 b hb => hg.block b (by omega) (by simp; omega)
  have hgs := hg.size
  obtain ⟨B1, o1, d1⟩ := HT3.out.agree (hAg _ _ (Nat.le_refl _) (by omega))
  obtain ⟨B2, o2', d2⟩ := HV3.out.agree (hAg _ _ (by omega) (by omega))
  obtain ⟨B3, o3', d3⟩ := HU3.out.agree (hAg _ _ (by omega) (by omega))
  refine ⟨_, rfl, B1 ++ (B2 ++ B3), ⟨_, _, _, _, _, _, _, _, _, _, _, B1, B2, B3, rfl, by rw [Hn0.out] at *; exact o1, o2', o3', rfl, w1.heap.size, w2.heap.size, fun b hb => (d1 b hb).2, fun b hb => d2 b hb, fun b hb => (d3 b hb).1, by omega⟩, fun b hb => ?_, hset.out.1.grown hg (by have := hset.out.2.2.2.2; omega) (by intro j hj; simp at hj; omega)⟩
  simp only [List.mem_append] at hb
  rcases hb with hb | hb | hb
  · have := d1 b hb
    omega
  · have := d2 b hb
    omega
  · have := d3 b hb
    omega
end Go.Proofs.YtdhlmcgbgdljmaaGreatDoor
/-
  The laws' own helpers markByteS and heldByteS: the one writes running numbers into a row that is the call's own, the other finds them there.
-/
namespace Go.Proofs.YtdhlmcgbgdljmaaGreatDoor
open Go.RowKit
set_option linter.unusedVariables false

/-- The running numbers, as bytes. -/
def marks (m n : Nat) : List Int := (List.range n).map fun i => (((m + i) % 256 : Nat) : Int)

theorem length_marks (m n : Nat) : (marks m n).length = n := by simp [marks]
theorem marks_byt (m n : Nat) : ∀ x ∈ marks m n, Byt x := by
  intro x hx
  simp only [marks, List.mem_map] at hx
  obtain ⟨i, _, rfl⟩ := hx
  unfold Byt
  omega
theorem marks_at (m n k : Nat) (h : k < n) : (marks m n).getD k 0 = (((m + k) % 256 : Nat) : Int) := by simp [marks, h]

/-- What a row holds after k of the marks. -/
def marked (xs : List Int) (m k : Nat) : List Value := cellsOf (marks m k) ++ cellsOf (xs.drop k)
theorem marked_zero (xs : List Int) (m : Nat) : marked xs m 0 = cellsOf xs := by simp [marked, marks, cellsOf]
theorem marked_all (xs : List Int) (m : Nat) : marked xs m xs.length = cellsOf (marks m xs.length) := by simp [marked, cellsOf]
theorem length_marked (xs : List Int) (m k : Nat) (h : k ≤ xs.length) : (marked xs m k).length = xs.length := by simp [marked, marks, cellsOf]; omega
theorem marked_set (xs : List Int) (m k : Nat) (h : k < xs.length) : (marked xs m k).set k (.int .u8 (((m + k) % 256 : Nat) : Int)) = marked xs m (k + 1) := by
  apply List.ext_getElem
  · simp [marked, marks, cellsOf]; omega
  · intro i h1 h2
    simp only [marked, marks, cellsOf, List.getElem_set, List.getElem_append, List.length_map, List.length_range]
    by_cases hik : k = i
    · subst hik
      simp
    · by_cases hlt : i < k
      · have e2 : i < k + 1 := by omega
        simp [hik, hlt, e2]
      · have e2 : ¬ i < k + 1 := by omega
        have e3 : k + 1 + (i - (k + 1)) = k + (i - k) := by omega
        simp [hik, hlt, e2, e3]



set_option maxHeartbeats 400000 in
theorem markByteS_any (base : Nat) (a : Option Addr) (cap : Nat) (xs : List Int) (m : Nat) (w : World) (hB : Bts w base (.slice a xs.length cap) xs) (hl : xs.length ≤ 2097152) (hm : m ≤ 1125899906842624) :
    Calls Tryz.prog 11 #[.slice a xs.length cap, .int .i64 m] w fun e w' => e = .returned (.int .i64 ((m + xs.length : Nat) : Int)) ∧ Bts w' base (.slice a xs.length cap) (marks m xs.length) ∧ w.grownBy w' (Value.slice a xs.length cap).ownBlock := by
  have hown0 := hB.2
  generalize hn : xs.length = n at hown0
  have Hn : Hid (xs.length = n) := hn
  have hln : n ≤ 2097152 := by omega
  clear hn hl hB
  have hr : ∀ wr : World, ∀ k, k < n → wr.ownsRow base 5 1 (.slice a n cap) n (marked xs m k) → ∃ g, a = some ⟨g, 0, none⟩ := by
    intro wr k hk h
    rcases h.2 with ⟨h1, h2⟩ | ⟨g, cp, cur, h1, _⟩
    · omega
    · simp at h1
      exact ⟨g, h1.1⟩
  have Hr : Hid (∀ wr : World, ∀ k, k < n → wr.ownsRow base 5 1 (.slice a n cap) n (marked xs m k) → ∃ g, a = some ⟨g, 0, none⟩) := hr
  clear hr
  go_enter Tryz.func11, Tryz.ntmps11
  go_wp2
  go_loopw [1, 5] (fun m' i wr => ∃ k : Nat, k ≤ n ∧ i = .int .i64 k ∧ m' = .int .i64 ((m + k : Nat) : Int) ∧ wr.ownsRow base 5 1 (.slice a n cap) n (marked xs m k) ∧ w.grownBy wr (Value.slice a n cap).ownBlock) (fun _ i _ => n - (intOf i).toNat)
  case atStart => exact ⟨0, Nat.zero_le _, rfl, by simp, by rw [marked_zero]; exact hown0, World.grownBy.refl _ _⟩
  case round =>
    obtain ⟨k, hk, rfl, rfl, hown1, hbel⟩ := hrel
    by_cases hlt : k < n
    · obtain ⟨g, rfl⟩ := Hr.out wr k hlt hown1
      have hd : ∃ v, wr.cell? ⟨g, k, none⟩ = some v := by
        rw [hown1.cellAt k (by omega)]
        have := length_marked xs m k (by have := Hn.out; omega)
        have h2 := Hn.out
        exact ⟨_, List.getElem?_eq_getElem (by omega)⟩
      obtain ⟨v, hd⟩ := hd
      have hfz := hown1.frozenAt k
      have hst := hown1.stored k (.int .u8 (((m + k) % 256 : Nat) : Int))
      rw [marked_set xs m k (by have := Hn.out; omega)] at hst
      obtain ⟨hst1, hst2⟩ := hst
      have hbel2 := grownBy_trans hbel hst2
      clear hst2 hown1 hbel
      have e : ((((m + k) % 256 : Nat) : Int)) = ((m : Int) + k) % 256 := by omega
      rw [e] at hst1 hbel2
      clear e
      go_wp2
      go_roundw
      case rel => exact ⟨k + 1, by omega, by go_num, by go_num, hst1, hbel2⟩
      case measure => simp [intOf]; omega
    · obtain rfl : k = n := by omega
      have hB : Bts wr base (.slice a k cap) (marks m k) := by
        refine ⟨marks_byt _ _, ?_⟩
        have h2 := Hn.out
        have h3 := marked_all xs m
        rw [h2] at h3
        rw [length_marks, ← h3]
        exact hown1
      go_wp2
      go_ret
      exact ⟨rfl, hB, hbel⟩

set_option maxHeartbeats 400000 in
theorem heldByteS_any (a : Option Addr) (cap : Nat) (m n : Nat) (w : World) (hs : Seg w a (marks m n)) (hl : n ≤ 2097152) (hm : m ≤ 1125899906842624) :
    Calls Tryz.prog 12 #[.slice a n cap, .int .i64 m] w fun e w' => e = .returned (.int .i64 ((m + n : Nat) : Int)) ∧ Below w.heap.size w w' := by
  go_enter Tryz.func12, Tryz.ntmps12
  go_wp2
  go_loopw [1, 5] (fun m' i wr => ∃ k : Nat, k ≤ n ∧ i = .int .i64 k ∧ m' = .int .i64 ((m + k : Nat) : Int) ∧ Below w.heap.size w wr) (fun _ i _ => n - (intOf i).toNat)
  case atStart => exact ⟨0, Nat.zero_le _, rfl, by simp, Below.refl _ _⟩
  case round =>
    obtain ⟨k, hk, rfl, rfl, hbel⟩ := hrel
    by_cases hlt : k < n
    · obtain ⟨b1, o1, rfl, hc1⟩ := (hs.grow hbel).at (k := k) (by rw [length_marks]; omega)
      rw [marks_at m n k hlt] at hc1
      have e : ((((m + k) % 256 : Nat) : Int)) = ((m : Int) + k) % 256 := by omega
      rw [e] at hc1
      clear e
      go_wp2
      go_roundw
      case rel => exact ⟨k + 1, by omega, by go_num, by go_num, hbel⟩
      case measure => simp [intOf]; omega
    · obtain rfl : k = n := by omega
      go_wp2
      go_ret
      exact ⟨rfl, hbel⟩
end Go.Proofs.YtdhlmcgbgdljmaaGreatDoor
/-
  markByteS over a row that may bear a mark of the run-time behind its last cell.
-/
namespace Go.Proofs.YtdhlmcgbgdljmaaGreatDoor
open Go.RowKit
set_option linter.unusedVariables false

set_option maxHeartbeats 400000 in
theorem markByteS_F (a : Option Addr) (cap : Nat) (xs : List Int) (m : Nat) (w : World) (hB : BtsF w (.slice a xs.length cap) xs) (hl : xs.length ≤ 2097152) (hm : m ≤ 1125899906842624) :
    Calls Tryz.prog 11 #[.slice a xs.length cap, .int .i64 m] w fun e w' => e = .returned (.int .i64 ((m + xs.length : Nat) : Int)) ∧ BtsF w' (.slice a xs.length cap) (marks m xs.length) ∧ w.grownBy w' (Value.slice a xs.length cap).ownBlock := by
  have hown0 := hB.2
  generalize hn : xs.length = n at hown0
  have Hn : Hid (xs.length = n) := hn
  have hln : n ≤ 2097152 := by omega
  clear hn hl hB
  have hr : ∀ wr : World, ∀ k, k < n → RowF wr (.slice a n cap) n (marked xs m k) → ∃ g, a = some ⟨g, 0, none⟩ := by
    intro wr k hk h
    rcases h.2 with ⟨h1, h2⟩ | ⟨g, cp, cur, fr, h1, _⟩
    · omega
    · simp at h1
      exact ⟨g, h1.1⟩
  have Hr : Hid (∀ wr : World, ∀ k, k < n → RowF wr (.slice a n cap) n (marked xs m k) → ∃ g, a = some ⟨g, 0, none⟩) := hr
  clear hr
  go_enter Tryz.func11, Tryz.ntmps11
  go_wp2
  go_loopw [1, 5] (fun m' i wr => ∃ k : Nat, k ≤ n ∧ i = .int .i64 k ∧ m' = .int .i64 ((m + k : Nat) : Int) ∧ RowF wr (.slice a n cap) n (marked xs m k) ∧ w.grownBy wr (Value.slice a n cap).ownBlock) (fun _ i _ => n - (intOf i).toNat)
  case atStart => exact ⟨0, Nat.zero_le _, rfl, by simp, by rw [marked_zero]; exact hown0, World.grownBy.refl _ _⟩
  case round =>
    obtain ⟨k, hk, rfl, rfl, hown1, hbel⟩ := hrel
    by_cases hlt : k < n
    · obtain ⟨g, rfl⟩ := Hr.out wr k hlt hown1
      have hd : ∃ v, wr.cell? ⟨g, k, none⟩ = some v := by
        rw [hown1.cellAt k (by omega)]
        have := length_marked xs m k (by have := Hn.out; omega)
        have h2 := Hn.out
        exact ⟨_, List.getElem?_eq_getElem (by omega)⟩
      obtain ⟨v, hd⟩ := hd
      have hfz := hown1.frozenAt k hlt
      have hst := hown1.stored k (.int .u8 (((m + k) % 256 : Nat) : Int))
      rw [marked_set xs m k (by have := Hn.out; omega)] at hst
      obtain ⟨hst1, hst2⟩ := hst
      have hbel2 := grownBy_trans hbel hst2
      clear hst2 hown1 hbel
      have e : ((((m + k) % 256 : Nat) : Int)) = ((m : Int) + k) % 256 := by omega
      rw [e] at hst1 hbel2
      clear e
      go_wp2
      go_roundw
      case rel => exact ⟨k + 1, by omega, by go_num, by go_num, hst1, hbel2⟩
      case measure => simp [intOf]; omega
    · obtain rfl : k = n := by omega
      have hB : BtsF wr (.slice a k cap) (marks m k) := by
        refine ⟨marks_byt _ _, ?_⟩
        have h2 := Hn.out
        have h3 := marked_all xs m
        rw [h2] at h3
        rw [length_marks, ← h3]
        exact hown1
      go_wp2
      go_ret
      exact ⟨rfl, hB, hbel⟩

end Go.Proofs.YtdhlmcgbgdljmaaGreatDoor
/-
  What marking turns: blocks of the call's own alone.
-/
namespace Go.Proofs.YtdhlmcgbgdljmaaGreatDoor
open Go.RowKit
set_option linter.unusedVariables false
set_option linter.unusedSimpArgs false

/-- Nothing has turned but what lies in the blocks B. -/
structure Turned (B : List Nat) (w w' : World) : Prop where
  os : w'.os = w.os
  tape : w'.tape = w.tape
  output : w'.output = w.output
  size : w.heap.size ≤ w'.heap.size
  block : ∀ b, b < w.heap.size → b ∉ B → w'.heap[b]? = w.heap[b]?

theorem Turned.refl (B : List Nat) (w : World) : Turned B w w := ⟨rfl, rfl, rfl, Nat.le_refl _, fun _ _ _ => rfl⟩
theorem Turned.trans {B : List Nat} {w w1 w2 : World} (h : Turned B w w1) (k : Turned B w1 w2) : Turned B w w2 :=
  ⟨k.os.trans h.os, k.tape.trans h.tape, k.output.trans h.output, Nat.le_trans h.size k.size, fun b hb hn => (k.block b (Nat.lt_of_lt_of_le hb h.size) hn).trans (h.block b hb hn)⟩
theorem Turned.mono {B B' : List Nat} {w w' : World} (h : Turned B w w') (hb : ∀ b ∈ B, b ∈ B') : Turned B' w w' := ⟨h.os, h.tape, h.output, h.size, fun b hl hn => h.block b hl fun hm => hn (hb b hm)⟩
theorem Turned.of_grown {w w' : World} {r : Option Nat} {B : List Nat} (h : w.grownBy w' r) (hr : ∀ g, r = some g → g ∈ B) : Turned B w w' :=
  ⟨h.os, h.tape, h.output, h.size, fun b hb hn => h.block b hb fun e => hn (hr b e.symm)⟩
theorem Turned.below {B : List Nat} {N : Nat} {w w1 w2 : World} (h : Below N w w1) (k : Turned B w1 w2) (hN : N ≤ w.heap.size) (hB : ∀ b ∈ B, N ≤ b) : Below N w w2 :=
  ⟨k.os.trans h.os, k.tape.trans h.tape, k.output.trans h.output, Nat.le_trans h.size k.size, fun b hb => (k.block b (by have := h.size; omega) fun hm => by have := hB b hm; omega).trans (h.block b hb)⟩

/-- The texts after they were marked, from k on. -/
def mkKs : List (List Int) → Nat → List (List Int)
  | [], _ => []
  | x :: r, k => marks k x.length :: mkKs r (k + x.length)
theorem length_mkKs : ∀ (l : List (List Int)) (k : Nat), (mkKs l k).length = l.length
  | [], _ => rfl
  | x :: r, k => by simp [mkKs, length_mkKs r]
/-- The first n are marked. -/
def mixK (l : List (List Int)) (k n : Nat) : List (List Int) := mkKs (l.take n) k ++ l.drop n
theorem mixK_zero (l : List (List Int)) (k : Nat) : mixK l k 0 = l := by simp [mixK, mkKs]
theorem mixK_all (l : List (List Int)) (k : Nat) : mixK l k l.length = mkKs l k := by simp [mixK]
theorem length_mixK (l : List (List Int)) (k n : Nat) (h : n ≤ l.length) : (mixK l k n).length = l.length := by simp [mixK, length_mkKs]; omega
theorem mkKs_append : ∀ (l r : List (List Int)) (k : Nat), mkKs (l ++ r) k = mkKs l k ++ mkKs r (k + (l.map List.length).sum)
  | [], r, k => by simp [mkKs]
  | x :: l, r, k => by simp [mkKs, mkKs_append l r, Nat.add_assoc]
theorem mixK_at (l : List (List Int)) (k n : Nat) (h : n < l.length) : (mixK l k n).getD n [] = l.getD n [] := by
  have hl : (mkKs (l.take n) k).length = n := by rw [length_mkKs]; simp; omega
  unfold mixK
  simp only [List.getD_eq_getElem?_getD]
  rw [List.getElem?_append_right (by omega), hl]
  simp
theorem mixK_succ (l : List (List Int)) (k n : Nat) (h : n < l.length) : mixK l k (n + 1) = (mixK l k n).set n (marks (k + pre List.length l n) (l.getD n []).length) := by
  have e : l.getD n [] = l[n] := by simp [List.getD_eq_getElem?_getD, h]
  unfold mixK pre
  rw [e, List.take_succ_eq_append_getElem h, mkKs_append, List.drop_eq_getElem_cons h]
  have hl : (mkKs (l.take n) k).length = n := by rw [length_mkKs]; simp; omega
  rw [List.set_append_right _ _ (by omega), hl, Nat.sub_self, List.set_cons_zero]
  simp only [mkKs, List.append_assoc, List.singleton_append]

theorem disj_flatten {Bs : List (List Nat)} (h : Bs.flatten.Nodup) {i k : Nat} (hi : i < Bs.length) (hk : k < Bs.length) (hne : i ≠ k) {b : Nat} (h1 : b ∈ Bs.getD i []) (h2 : b ∈ Bs.getD k []) : False := by
  have h' : Bs.flatten.Pairwise (· ≠ ·) := h
  rw [List.pairwise_flatten] at h'
  have hp := List.pairwise_iff_getElem.1 h'.2
  have e1 : Bs.getD i [] = Bs[i] := by simp [List.getD_eq_getElem?_getD, hi]
  have e2 : Bs.getD k [] = Bs[k] := by simp [List.getD_eq_getElem?_getD, hk]
  rw [e1] at h1
  rw [e2] at h2
  rcases Nat.lt_or_gt_of_ne hne with hlt | hgt
  · exact hp i k hi hk hlt b h1 b h2 rfl
  · exact hp k i hk hi hgt b h2 b h1 rfl

/-- One text of a list of the call's own is written anew, in its own block. -/
theorem KOwn.turn {w w' : World} {v : Value} {ks : List (List Int)} {B : List Nat} {g cap : Nat} {cur : Array Value} {Bs : List (List Nat)} (hv : v = .slice (some ⟨g, 0, none⟩) ks.length cap) (hh : w.heap[g]? = some (.cells cur 23 (0, 0))) (h3 : ks.length ≤ cap) (h4 : cap ≤ maxLen) (h5 : cur.size = cap) (h6 : Bs.length = ks.length)
    (h7 : ∀ i, i < ks.length → ∃ u, cur[i]? = some u ∧ TOwn w u (ks.getD i []) (Bs.getD i [])) (hB : B = g :: Bs.flatten) (hN : B.Nodup) {k : Nat} (hk : k < ks.length) {u : Value} (hu : cur[k]? = some u) {x' : List Int} (hx : TOwn w' u x' (Bs.getD k [])) (ht : Turned (Bs.getD k []) w w') : KOwn w' v (ks.set k x') B := by
  subst hB
  have hg : g ∉ Bs.flatten := (List.nodup_cons.1 hN).1
  have hgk : g ∉ Bs.getD k [] := fun h => hg (flatten_mem_getD (by omega) h)
  have hgl : g < w.heap.size := (Array.getElem?_eq_some_iff.1 hh).1
  refine .inr ⟨g, cap, cur, Bs, by simpa using hv, (ht.block g hgl hgk).trans hh, by simpa using h3, h4, h5, by simpa using h6, fun i hi => ?_, rfl, hN⟩
  rw [List.length_set] at hi
  by_cases e : i = k
  · subst e
    exact ⟨u, hu, by simpa [List.getD_eq_getElem?_getD, hk] using hx⟩
  · obtain ⟨u', hu', ht'⟩ := h7 i hi
    refine ⟨u', hu', ?_⟩
    have e2 : (ks.set k x').getD i [] = ks.getD i [] := by simp [List.getD_eq_getElem?_getD, List.getElem?_set_ne (fun h => e h.symm)]
    rw [e2]
    refine ht'.agree fun b hb => ht.block b (ht'.lt b hb) fun hm => ?_
    exact disj_flatten (List.nodup_cons.1 hN).2 (by omega : i < Bs.length) (by omega : k < Bs.length) e hb hm

/-- A text of the call's own, marked. -/
theorem TOwn.marked {w w' : World} {a : Option Addr} {c : Nat} {xs : List Int} {B : List Nat} {m : Nat} (h : TOwn w (.slice a xs.length c) xs B) (hb : BtsF w' (.slice a xs.length c) (marks m xs.length)) : TOwn w' (.slice a xs.length c) (marks m xs.length) B := by
  refine ⟨hb, ?_⟩
  rcases h.2 with ⟨h1, h2⟩ | ⟨g, cap, h1, h2⟩
  · exact .inl ⟨h1, h2⟩
  · exact .inr ⟨g, cap, by rw [length_marks]; exact h1, h2⟩

theorem TOwn.turned {w w' : World} {v : Value} {xs : List Int} {B : List Nat} (h : TOwn w v xs B) (hg : w.grownBy w' v.ownBlock) : Turned B w w' := by
  refine Turned.of_grown hg fun g e => ?_
  rcases h.2 with ⟨rfl, _⟩ | ⟨g', cap, rfl, rfl⟩
  · simp [Value.ownBlock] at e
  · simp [Value.ownBlock] at e
    simp [e]

theorem Bts.far {w w' : World} {base : Nat} {v : Value} {xs : List Int} {B : List Nat} (h : Bts w base v xs) (hT : Turned B w w') (hv : ∀ k, v.ownBlock = some k → k ∉ B) : Bts w' base v xs := by
  have hl := h.2.lt
  refine ⟨h.1, h.2.1, ?_⟩
  rcases h.2.2 with h0 | ⟨g, cap, cur, rfl, hg, hh, r⟩
  · exact .inl h0
  · exact .inr ⟨g, cap, cur, rfl, hg, (hT.block g (hl g rfl).2 (hv g rfl)).trans hh, r⟩
end Go.Proofs.YtdhlmcgbgdljmaaGreatDoor
/-
  A list marked item by item. Plain mathematics, and small laws.
-/
namespace Go.Proofs.YtdhlmcgbgdljmaaGreatDoor
open Go.RowKit
set_option linter.unusedVariables false
set_option linter.unusedSimpArgs false

/-- A list after it was marked. -/
def mkLs {α : Type} (f : α → Nat → α) (c : α → Nat) : List α → Nat → List α
  | [], _ => []
  | x :: r, k => f x k :: mkLs f c r (k + c x)

theorem length_mkLs {α : Type} (f : α → Nat → α) (c : α → Nat) : ∀ (l : List α) (k : Nat), (mkLs f c l k).length = l.length
  | [], _ => rfl
  | x :: r, k => by simp [mkLs, length_mkLs f c r]
theorem mkLs_append {α : Type} (f : α → Nat → α) (c : α → Nat) : ∀ (l r : List α) (k : Nat), mkLs f c (l ++ r) k = mkLs f c l k ++ mkLs f c r (k + (l.map c).sum)
  | [], r, k => by simp [mkLs]
  | x :: l, r, k => by simp [mkLs, mkLs_append f c l r, Nat.add_assoc]

/-- The first n are marked. -/
def mixL {α : Type} (f : α → Nat → α) (c : α → Nat) (l : List α) (k n : Nat) : List α := mkLs f c (l.take n) k ++ l.drop n
theorem mixL_zero {α : Type} (f : α → Nat → α) (c : α → Nat) (l : List α) (k : Nat) : mixL f c l k 0 = l := by simp [mixL, mkLs]
theorem mixL_all {α : Type} (f : α → Nat → α) (c : α → Nat) (l : List α) (k : Nat) : mixL f c l k l.length = mkLs f c l k := by simp [mixL]
theorem length_mixL {α : Type} (f : α → Nat → α) (c : α → Nat) (l : List α) (k n : Nat) (h : n ≤ l.length) : (mixL f c l k n).length = l.length := by simp [mixL, length_mkLs]; omega
theorem mixL_at {α : Type} (f : α → Nat → α) (c : α → Nat) (l : List α) (k n : Nat) (h : n < l.length) : (mixL f c l k n)[n]'(by rw [length_mixL f c l k n (Nat.le_of_lt h)]; exact h) = l[n] := by
  unfold mixL
  have hl : (mkLs f c (l.take n) k).length = n := by rw [length_mkLs]; simp; omega
  rw [List.getElem_append_right (by omega)]
  simp [hl]
theorem mixL_succ {α : Type} (f : α → Nat → α) (c : α → Nat) (l : List α) (k n : Nat) (h : n < l.length) : mixL f c l k (n + 1) = (mixL f c l k n).set n (f l[n] (k + pre c l n)) := by
  unfold mixL pre
  rw [List.take_succ_eq_append_getElem h, mkLs_append, List.drop_eq_getElem_cons h]
  have hl : (mkLs f c (l.take n) k).length = n := by rw [length_mkLs]; simp; omega
  rw [List.set_append_right _ _ (by omega), hl, Nat.sub_self, List.set_cons_zero]
  simp only [mkLs, List.append_assoc, List.singleton_append]

theorem agree_turned {B C : List Nat} {w w' : World} (h : Turned B w w') (hl : ∀ b ∈ C, b < w.heap.size) (hd : ∀ b ∈ C, b ∉ B) : Agree (fun b => b ∈ C) w w' := fun b hb => h.block b (hl b hb) (hd b hb)

theorem arg_eq {F : Nat} {v : Value} {x y : Int} {w : World} {Q : Ending → World → Prop} (e : x = y) (h : Calls Tryz.prog F #[v, .int .i64 x] w Q) : Calls Tryz.prog F #[v, .int .i64 y] w Q := e ▸ h
end Go.Proofs.YtdhlmcgbgdljmaaGreatDoor
