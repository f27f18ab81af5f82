/-
  Texts that a law leans on, one behind the other; no statement is proved here.
-/
import Derived.Test.YtfokidhamjphfaaDoorPk30
import Derived.Test.YtfokidhamjphfaaDoorPk44
/-
  renamed of the program. No statement is proved here.
-/
namespace Go.Proofs.YtfokidhamjphfaaDoor
open Go.RowKit
set_option linter.unusedVariables false
set_option linter.unusedSimpArgs false

/-- An answer laid into its box. -/
theorem valEnd_set5 {D : Nat} {w wz : World} {G : Nat} {a : Vl D} {B : List Nat} {u0 u1 u2 u3 u4 : Value} (hO : VOwn wz D (u0, u1, u2, u3, u4) a B) (hBb : ∀ b ∈ B, w.heap.size ≤ b ∧ b < wz.heap.size ∧ b ≠ G) (hB : Below w.heap.size w wz) (hG : w.heap.size ≤ G) : ValEnd D a w (.returned (.agg #[u0, u1, u2, u3, u4])) (set5 wz G 0 u0 u1 u2 u3 u4) := by
  have hB5 := set5_grown wz G 0 u0 u1 u2 u3 u4
  have hsz := set5_size wz G 0 u0 u1 u2 u3 u4
  refine ⟨_, _, _, _, _, rfl, B, VOwn.agree D hO fun b hb => hB5.block b (hBb b hb).2.1 (by have := (hBb b hb).2.2; simp; exact this), fun b hb => ?_, hB.grown hB5 hB.size (by intro j hj; simp at hj; omega)⟩
  have := hBb b hb
  exact ⟨this.1, by omega⟩

set_option maxHeartbeats 400000 in
theorem bytesEqual_any (a b : Option Addr) (c1 c2 : Nat) (xs ys : List Int) (w : World) (ha : Seg w a xs) (hb : Seg w b ys) :
    Calls Tryd.prog 52 #[.slice a xs.length c1, .slice b ys.length c2] w fun e w' => e = .returned (.bool (decide (xs = ys))) ∧ w = w' := by
  have h1 := conv_seg c1 ha
  have h2 := conv_seg c2 hb
  have HE := hide' (strOf_eq ha.1 hb.1)
  generalize xs.length = n at *
  generalize ys.length = m at *
  go_enter Tryd.func52, Tryd.ntmps52
  go_wp2
  go_ret
  exact ⟨by rw [HE.out]; rfl, rfl⟩

/-- The contract of renamed, at depth d. -/
def RenAt (fr tz : List Int) (d : Nat) : Prop := ∀ (N : Nat) (c0 c1 c2 c3 c4 : Value) (v : Vl d) (fa : Option Addr) (fc : Nat) (ta : Option Addr) (tc : Nat) (w : World), VSeg (fun b => b < N) w d (c0, c1, c2, c3, c4) v → N ≤ w.heap.size → TSeg (fun b => b < N) w (.slice fa fr.length fc) fr → TSeg (fun b => b < N) w (.slice ta tz.length tc) tz → bndV d v → tz.length ≤ 1048576 →
  Calls Tryd.prog 27 #[.agg #[c0, c1, c2, c3, c4], .slice fa fr.length fc, .slice ta tz.length tc] w (ValEnd d (rnV fr tz d v) w)

set_option maxHeartbeats 1600000 in
set_option maxRecDepth 100000 in
theorem renamed1_any (fr tz : List Int) (d N gF gT : Nat) (ih : RenAt fr tz d) (c0 c1 c2 c3 c4 : Value) (v : Vl d) (fa : Option Addr) (fc : Nat) (ta : Option Addr) (tc : Nat) (w : World) (hv : VSeg (fun b => b < N) w d (c0, c1, c2, c3, c4) v) (hN : N ≤ w.heap.size) (hF : TSeg (fun b => b < N) w (.slice fa fr.length fc) fr) (hT : TSeg (fun b => b < N) w (.slice ta tz.length tc) tz) (hb : bndV d v) (htl : tz.length ≤ 1048576)
    (hgF : w.cell? ⟨gF, 0, none⟩ = some (.slice fa fr.length fc)) (hgT : w.cell? ⟨gT, 0, none⟩ = some (.slice ta tz.length tc)) :
    Calls Tryd.prog 51 #[.agg #[c0, c1, c2, c3, c4], .pointer (some ⟨gF, 0, none⟩), .pointer (some ⟨gT, 0, none⟩)] w (ValEnd d (rnV fr tz d v) w) := by
  have HA : Hid (∀ o o' : Obj, Below w.heap.size w ((w.alloc o).alloc o') ∧ ((w.alloc o).alloc o').heap[w.heap.size]? = some o ∧ ((w.alloc o).alloc o').heap[w.heap.size + 1]? = some o') := fun o o' => ⟨((Below.refl _ _).alloc (Nat.le_refl _) o).alloc (by simp) o', (Below.heap_alloc _ _ _ (by simp)).trans (heap_alloc_new w o), by have := heap_alloc_new (w.alloc o) o'; simpa using this⟩
  obtain ⟨ck, cn, a2, l2, p2, a3, l3, p3, a4, l4, p4, rfl, rfl, rfl, rfl, rfl⟩ := VSeg.form d hv
  have HR : Hid (∀ wx, Below w.heap.size w wx → Calls Tryd.prog 27 #[.agg #[.int .i64 ck, .int .i64 cn, .slice a2 l2 p2, .slice a3 l3 p3, .slice a4 l4 p4], .slice fa fr.length fc, .slice ta tz.length tc] wx (ValEnd d (rnV fr tz d v) wx)) := hide' (fun wx h => ih N _ _ _ _ _ v fa fc ta tc wx (VSeg.agree (fun b (hb' : b < N) => h.block b (by omega)) d hv) (by have := h.size; omega) (hF.agree fun b (hb' : b < N) => h.block b (by omega)) (hT.agree fun b (hb' : b < N) => h.block b (by omega)) hb htl)
  clear hF hT hv hb htl
  generalize fr.length = fn at *
  generalize tz.length = tn at *
  go_enter Tryd.func51, Tryd.ntmps51
  go_upto_region 1 with fail
  obtain ⟨hb1, hP, hR⟩ := HA.out (.cells #[.int .i64 ck, .int .i64 cn, .slice a2 l2 p2, .slice a3 l3 p3, .slice a4 l4 p4] 26) (.cells #[.int .i64 0, .int .i64 0, .slice none 0 0, .slice none 0 0, .slice none 0 0] 26)
  generalize (w.alloc (.cells #[.int .i64 ck, .int .i64 cn, .slice a2 l2 p2, .slice a3 l3 p3, .slice a4 l4 p4] 26)).alloc (.cells #[.int .i64 0, .int .i64 0, .slice none 0 0, .slice none 0 0, .slice none 0 0] 26) = w1 at *
  obtain ⟨P0, P1, P2, P3, P4, _⟩ := row5 hP
  have hF1 := (World.cell?_of_block (a := ⟨gF, 0, none⟩) (hb1.block gF (World.block_lt_of_cell? w _ hgF))).trans hgF
  have hT1 := (World.cell?_of_block (a := ⟨gT, 0, none⟩) (hb1.block gT (World.block_lt_of_cell? w _ hgT))).trans hgT
  have HC := hide' (HR.out w1 hb1)
  have HB1 := hide' hb1
  have HR1 := hide' hR
  clear HA HR hb1 hP hR hgF hgT
  go_wp2_with fail
  refine HC.out.mono ?_
  rintro e w2 ⟨t0, t1, t2, t3, t4, rfl, B, hO, hBb, hb2⟩
  obtain ⟨tk, tm, y2, m2, q2, y3, m3, q3, y4, m4, q4, rfl, rfl, rfl, rfl, rfl⟩ := VOwn.form _ hO
  have hRl : w.heap.size + 1 < w1.heap.size := (Array.getElem?_eq_some_iff.1 HR1.out).1
  have HO := hide' hO
  have HBb : Hid (∀ b ∈ B, w.heap.size ≤ b ∧ b < w2.heap.size ∧ b ≠ w.heap.size + 1) := hide' (fun b hb => by have := hBb b hb; omega)
  have HB2 := hide' (Below.on HB1.out hb2)
  have HR2 := hide' ((hb2.block _ hRl).trans HR1.out)
  clear hO hBb hb2 HC HB1 HR1 P0 P1 P2 P3 P4 hF1 hT1
  obtain ⟨r0, r1, r2', r3', r4', rf⟩ := row5 HR2.out
  have f0 := rf 0
  have f1 := rf 1
  have f2 := rf 2
  have f3 := rf 3
  have f4 := rf 4
  clear rf
  go_wp2_with fail
  have hfin := row5 (set5_heap (j := 0) (.int .i64 tk) (.int .i64 tm) (.slice y2 m2 q2) (.slice y3 m3 q3) (.slice y4 m4 q4) HR2.out)
  simp only [set5, Nat.zero_add] at hfin
  obtain ⟨o0, o1, o2, o3, o4, _⟩ := hfin
  refine bodyPost_ret (v := .agg #[.int .i64 tk, .int .i64 tm, .slice y2 m2 q2, .slice y3 m3 q3, .slice y4 m4 q4]) (by simp [results, Tryd.results51, go_sem, o0, o1, o2, o3, o4]) rfl ?_
  have hE := valEnd_set5 (D := d) HO.out HBb.out HB2.out (by omega : w.heap.size ≤ w.heap.size + 1)
  simp only [set5, Nat.zero_add] at hE
  exact hE

/-- The copy with another text. -/
theorem own_text {d : Nat} {w0 w w' wf : World} {G R : Nat} {tk tm : Int} {s0 kv lv v8 : Value} {vk vn : Int} {vS tz : List Int} {vK : List (List Int)} {vL : List (Vl d)} {B : List Nat} (hO : VOwn w (d + 1) (.int .i64 tk, .int .i64 tm, s0, kv, lv) (vk, vn, vS, vK, vL) B) (hBb : ∀ b ∈ B, w0.heap.size ≤ b ∧ b < w.heap.size ∧ b ≠ G ∧ b ≠ R) (hb : Below w.heap.size w w') (hT : Bts w' w.heap.size v8 tz) (hG : G < w.heap.size) (hR : R < w.heap.size) (hz : w0.heap.size ≤ w.heap.size)
    (hf : ∀ b, b ≠ G → b ≠ R → wf.heap[b]? = w'.heap[b]?) (hfz : wf.heap.size = w'.heap.size) : ∃ B', VOwn wf (d + 1) (.int .i64 tk, .int .i64 tm, v8, kv, lv) (vk, vn, tz, vK, vL) B' ∧ ∀ b ∈ B', w0.heap.size ≤ b ∧ b < wf.heap.size := by
  obtain ⟨e0, e1, Bs, Bk, Bl, hTs, hK, hL, rfl, hn⟩ := (VOwn_succ _ _ _ _ _).1 hO
  obtain ⟨B8, hT8, hB8, hn8⟩ := tOwn_of hT
  have hbz := hb.size
  have hold : ∀ b, b ∈ Bk ∨ b ∈ Bl → wf.heap[b]? = w.heap[b]? := fun b hb' => by
    have := hBb b (List.mem_append.2 (.inr (List.mem_append.2 hb')))
    exact (hf b this.2.2.1 this.2.2.2).trans (hb.block b this.2.1)
  refine ⟨B8 ++ (Bk ++ Bl), (VOwn_succ _ _ _ _ _).2 ⟨e0, e1, B8, Bk, Bl, hT8.agree fun b hb' => ?_, hK.agree fun b hb' => hold b (.inl hb'), hL.agree fun b hb' => hold b (.inr hb'), rfl, ?_⟩, fun b hb' => ?_⟩
  · have := hB8 b hb'
    exact hf b (by omega) (by omega)
  · rw [List.nodup_append]
    refine ⟨hn8, (List.nodup_append.1 hn).2.1, fun x hx y hy => ?_⟩
    have := hB8 x hx
    have := hBb y (List.mem_append.2 (.inr hy))
    omega
  · rcases List.mem_append.1 hb' with hb' | hb'
    · have := hB8 b hb'; omega
    · have := hBb b (List.mem_append.2 (.inr hb')); omega

set_option maxHeartbeats 6400000 in
set_option maxRecDepth 100000 in
theorem renamed_walk (fr tz : List Int) (d N : Nat) (ih : RenAt fr tz d) (vk vn : Int) (vS : List Int) (vK : List (List Int)) (vL : List (Vl d)) (a2 : Option Addr) (p2 : Nat) (a3 : Option Addr) (p3 : Nat) (a4 : Option Addr) (p4 : Nat) (fa : Option Addr) (fc : Nat) (ta : Option Addr) (tc : Nat) (w : World) (hN : N ≤ w.heap.size)
    (hv : VSeg (fun b => b < N) w (d + 1) (.int .i64 vk, .int .i64 vn, .slice a2 vS.length p2, .slice a3 vK.length p3, .slice a4 vL.length p4) (vk, vn, vS, vK, vL)) (hF : TSeg (fun b => b < N) w (.slice fa fr.length fc) fr) (hT : TSeg (fun b => b < N) w (.slice ta tz.length tc) tz) (hbd : bndV (d + 1) (vk, vn, vS, vK, vL)) (htl : tz.length ≤ 1048576) :
    Calls Tryd.prog 27 #[.agg #[.int .i64 vk, .int .i64 vn, .slice a2 vS.length p2, .slice a3 vK.length p3, .slice a4 vL.length p4], .slice fa fr.length fc, .slice ta tz.length tc] w (ValEnd (d + 1) (rnV fr tz (d + 1) (vk, vn, vS, vK, vL)) w) := by
  have HA : Hid (∀ o1 o2 o3 o4 : Obj, Below w.heap.size w ((((w.alloc o1).alloc o2).alloc o3).alloc o4) ∧ ((((w.alloc o1).alloc o2).alloc o3).alloc o4).heap[w.heap.size]? = some o1 ∧ ((((w.alloc o1).alloc o2).alloc o3).alloc o4).heap[w.heap.size + 1]? = some o2 ∧ ((((w.alloc o1).alloc o2).alloc o3).alloc o4).heap[w.heap.size + 2]? = some o3 ∧ ((((w.alloc o1).alloc o2).alloc o3).alloc o4).heap[w.heap.size + 3]? = some o4 ∧ ((((w.alloc o1).alloc o2).alloc o3).alloc o4).heap.size = w.heap.size + 4) := fun o1 o2 o3 o4 => by
    refine ⟨((((Below.refl _ _).alloc (Nat.le_refl _) o1).alloc (by simp) o2).alloc (by simp <;> omega) o3).alloc (by simp <;> omega) o4, ?_, ?_, ?_, ?_, by simp⟩
    · exact (Below.heap_alloc _ _ _ (by simp <;> omega)).trans ((Below.heap_alloc _ _ _ (by simp <;> omega)).trans ((Below.heap_alloc _ _ _ (by simp)).trans (heap_alloc_new w o1)))
    · exact (Below.heap_alloc _ _ _ (by simp <;> omega)).trans ((Below.heap_alloc _ _ _ (by simp)).trans (by have := heap_alloc_new (w.alloc o1) o2; simpa using this))
    · exact (Below.heap_alloc _ _ _ (by simp)).trans (by have := heap_alloc_new ((w.alloc o1).alloc o2) o3; simpa using this)
    · have := heap_alloc_new (((w.alloc o1).alloc o2).alloc o3) o4; simpa using this
  have HV := hide' hv
  have HFw := hide' hF
  have HTw := hide' hT
  have HBd := hide' hbd
  obtain ⟨b1, b2, b3, b4, b5⟩ := hbd
  simp only at b1 b2 b3 b4 b5
  have HLe := hide' b5
  have HKe := hide' b3
  obtain ⟨_, _, hS, hK, hL⟩ := (VSeg_succ _ _ _ _ _).1 hv
  simp only at hS hK hL
  have HS := hide' hS
  have HK := hide' hK
  have HL := hide' hL
  have hp2 : a2 = none → p2 = 0 := by obtain ⟨_, _, e, _, _, _, h, _⟩ := hS; simp only [Value.slice.injEq, true_and] at e; obtain ⟨rfl, rfl⟩ := e; exact h
  have hSb : ∀ x, a2 = some x → vS ≠ [] → x.block < N := by obtain ⟨_, _, e, _, _, _, _, h⟩ := hS; simp only [Value.slice.injEq, true_and] at e; obtain ⟨rfl, rfl⟩ := e; exact h
  have htc : ta = none → tc = 0 := by obtain ⟨_, _, e, _, _, _, h, _⟩ := hT; simp only [Value.slice.injEq, true_and] at e; obtain ⟨rfl, rfl⟩ := e; exact h
  clear hv hF hT hS hK hL b3 b5
  go_enter Tryd.func27, Tryd.ntmps27
  go_upto_region 1 with fail
  obtain ⟨hb1, hP, hFb, hTb, hR, hz1⟩ := HA.out (.cells #[.int .i64 vk, .int .i64 vn, .slice a2 vS.length p2, .slice a3 vK.length p3, .slice a4 vL.length p4] 26) (.cells #[.slice fa fr.length fc] 22) (.cells #[.slice ta tz.length tc] 22) (.cells #[.int .i64 0, .int .i64 0, .slice none 0 0, .slice none 0 0, .slice none 0 0] 26)
  generalize (((w.alloc (.cells #[.int .i64 vk, .int .i64 vn, .slice a2 vS.length p2, .slice a3 vK.length p3, .slice a4 vL.length p4] 26)).alloc (.cells #[.slice fa fr.length fc] 22)).alloc (.cells #[.slice ta tz.length tc] 22)).alloc (.cells #[.int .i64 0, .int .i64 0, .slice none 0 0, .slice none 0 0, .slice none 0 0] 26) = w1 at *
  have hag : ∀ wx, Below w1.heap.size w1 wx → ∀ b, b < N → wx.heap[b]? = w.heap[b]? := fun wx h b hb => (h.block b (by omega)).trans (hb1.block b (by omega))
  have HG : Hid (∀ wx, Below w1.heap.size w1 wx → wx.heap[w.heap.size]? = some (.cells #[.int .i64 vk, .int .i64 vn, .slice a2 vS.length p2, .slice a3 vK.length p3, .slice a4 vL.length p4] 26 (0, 0)) ∧ wx.cell? ⟨w.heap.size + 1, 0, none⟩ = some (.slice fa fr.length fc) ∧ wx.cell? ⟨w.heap.size + 2, 0, none⟩ = some (.slice ta tz.length tc) ∧ wx.heap[w.heap.size + 3]? = some (.cells #[.int .i64 0, .int .i64 0, .slice none 0 0, .slice none 0 0, .slice none 0 0] 26 (0, 0)) ∧ Below w.heap.size w wx) := hide' (fun wx h => ⟨(h.block _ (by omega)).trans hP, by rw [cell_of_row _ _ _ _ _ _ ((h.block _ (by omega)).trans hFb)]; rfl, by rw [cell_of_row _ _ _ _ _ _ ((h.block _ (by omega)).trans hTb)]; rfl, (h.block _ (by omega)).trans hR, Below.on hb1 h⟩)
  have HCp := hide' (copied_walk d (rnV fr tz d) (w.heap.size + 1) (w.heap.size + 2) vk vn vS vK vL a2 p2 a3 p3 a4 p4 N w1 (fun c0 c1 c2 c3 c4 u wx hb hu hbu => renamed1_any fr tz d N _ _ ih c0 c1 c2 c3 c4 u fa fc ta tc wx hu (by have := hb.size; omega) (HFw.out.agree (hag wx hb)) (HTw.out.agree (hag wx hb)) hbu htl (HG.out wx hb).2.1 (HG.out wx hb).2.2.1)
    (seg_in HS.out (hb1.mono hN)) hSb (by omega) hp2 b1 (HK.out.agree (hag w1 (Below.refl _ _))) (HL.out.agree (hag w1 (Below.refl _ _))) b2 HKe.out b4 HLe.out)
  have HSx : Hid (∀ wx, Below w1.heap.size w1 wx → Seg wx a2 vS) := hide' (fun wx h => (seg_in HS.out (hb1.mono hN)).below h (fun x hx he => by have := hSb x hx he; omega))
  have HFx : Hid (∀ wx, Below w1.heap.size w1 wx → Seg wx fa fr) := hide' (fun wx h => seg_in (HFw.out.agree (hag wx h)) (Below.refl _ _))
  have HTx : Hid (∀ wx, Below w1.heap.size w1 wx → Seg wx ta tz) := hide' (fun wx h => seg_in (HTw.out.agree (hag wx h)) (Below.refl _ _))
  obtain ⟨P0, P1, P2, P3, P4, _⟩ := row5 hP
  have Hz1 := hide' hz1
  clear HA hb1 hP hFb hTb hR hag HV HFw HTw HBd HS HK HL HLe HKe hSb b2 b4 hz1
  generalize hn3 : vK.length = n3 at *
  generalize hn4 : vL.length = n4 at *
  go_wp2_with fail
  refine HCp.out.mono ?_
  rintro e w2 ⟨t0, t1, t2, t3, t4, rfl, B, hO, hBb, hb2⟩
  obtain ⟨tk, tm, y2, m2, q2, y3, m3, q3, y4, m4, q4, rfl, rfl, rfl, rfl, rfl⟩ := VOwn.form _ hO
  go_upto_region 2 with fail
  have hbO : Below w2.heap.size w2 (w2.alloc (.cells #[.int .i64 tk, .int .i64 tm, .slice y2 m2 q2, .slice y3 m3 q3, .slice y4 m4 q4] 26)) := (Below.refl _ _).alloc (Nat.le_refl _) _
  have hOrow := heap_alloc_new w2 (.cells #[.int .i64 tk, .int .i64 tm, .slice y2 m2 q2, .slice y3 m3 q3, .slice y4 m4 q4] 26)
  have HO := hide' (hO.on hbO)
  have HB3 := hide' (Below.on hb2 hbO)
  have hz2 := hb2.size
  have HBb : Hid (∀ b ∈ B, w.heap.size ≤ b ∧ b < (w2.alloc (.cells #[.int .i64 tk, .int .i64 tm, .slice y2 m2 q2, .slice y3 m3 q3, .slice y4 m4 q4] 26)).heap.size ∧ b ≠ w2.heap.size ∧ b ≠ w.heap.size + 3) := hide' (fun b hb => by have := hBb b hb; have := Hz1.out; simp; omega)
  generalize w2.alloc (.cells #[.int .i64 tk, .int .i64 tm, .slice y2 m2 q2, .slice y3 m3 q3, .slice y4 m4 q4] 26) = w3 at *
  have HGr : Hid (w.heap.size + 3 < w2.heap.size) := hide' (by have := Hz1.out; omega)
  have HOr := hide' hOrow
  clear HCp hO hBb hb2 hbO hOrow P0 P1 P2 P3 P4
  generalize w2.heap.size = gO at *
  obtain ⟨hP, hFc, hTc, hR, hbw⟩ := HG.out w3 HB3.out
  obtain ⟨P0, P1, P2, P3, P4, _⟩ := row5 hP
  obtain ⟨O0, O1, O2, O3, O4, Of⟩ := row5 HOr.out
  have Of2 := Of 2
  have Hbw := hide' hbw
  have HR3 := hide' hR
  clear hP hR hbw Of
  by_cases hk6 : vk = 6
  · subst hk6
    have HEq := hide' (bytesEqual_any a2 fa p2 fc vS fr w3 (HSx.out w3 HB3.out) (HFx.out w3 HB3.out))
    by_cases hs : vS = fr
    · have HTe : Hid (rnV fr tz (d + 1) (6, vn, vS, vK, vL) = (6, vn, tz, vK, vL.map (rnV fr tz d))) := hide' (rnV_yes hs)
      rw [decide_eq_true hs] at HEq
      clear hs
      have HJ : Hid (Calls Tryd.prog 53 #[.slice none 0 0, .slice ta tz.length tc] w3 fun e w' => ∃ v, e = .returned v ∧ Bts w' w3.heap.size v tz ∧ Below w3.heap.size w3 w') := hide' (by
        have h := joined_any none ta 0 tc [] tz w3 ⟨by simp, .inl rfl⟩ (HTx.out w3 HB3.out) (fun _ => rfl) htc (by simp) (by omega)
        simpa using h)
      generalize vS.length = n2 at *
      generalize fr.length = fn at *
      generalize htn : tz.length = tn at *
      have Htn := hide' htn
      clear htn
      go_wp2_with fail
      refine HEq.out.mono ?_
      rintro e w3' ⟨rfl, rfl⟩
      go_wp2_with fail
      refine HJ.out.mono ?_
      rintro e w4 ⟨v8, rfl, hv8, hb4⟩
      have HV8 := hide' hv8
      obtain ⟨z2, zc, rfl, _⟩ := hv8.shape
      rw [Htn.out] at HV8 ⊢
      have HB4 := hide' (Below.on HB3.out hb4)
      have Hb4 := hide' hb4
      have hOl := (Array.getElem?_eq_some_iff.1 HOr.out).1
      have HOr4 := hide' ((hb4.block _ hOl).trans HOr.out)
      obtain ⟨_, _, _, hR4, hbw4⟩ := HG.out w4 HB4.out
      have HR4 := hide' hR4
      have Hbw4 := hide' hbw4
      clear hv8 hb4 hR4 hbw4 HEq HJ P0 P1 P2 P3 P4 O0 O1 O2 O3 O4 Of2 hFc hTc
      obtain ⟨O0, O1, O2, O3, O4, Of⟩ := row5 HOr4.out
      have Of2 := Of 2
      obtain ⟨r0, r1, r2', r3', r4', rf⟩ := row5 HR4.out
      have f0 := rf 0
      have f1 := rf 1
      have f2 := rf 2
      have f3 := rf 3
      have f4 := rf 4
      have hne : ¬ gO = w.heap.size + 3 := by have := HGr.out; omega
      have hne' : ¬ w.heap.size + 3 = gO := by have := HGr.out; omega
      clear rf Of
      go_wp2_with fail
      have hrow : (w4.setCell ⟨gO, 2, none⟩ (.slice z2 tn zc)).heap[w.heap.size + 3]? = some (.cells #[.int .i64 0, .int .i64 0, .slice none 0 0, .slice none 0 0, .slice none 0 0] 26 (0, 0)) := (Below.heap_setCell w4 ⟨gO, 2, none⟩ _ _ hne').trans HR4.out
      have hfin := row5 (set5_heap (j := 0) (.int .i64 tk) (.int .i64 tm) (.slice z2 tn zc) (.slice y3 m3 q3) (.slice y4 m4 q4) hrow)
      simp only [set5, Nat.zero_add] at hfin
      obtain ⟨o0, o1, o2, o3, o4, _⟩ := hfin
      refine bodyPost_ret (v := .agg #[.int .i64 tk, .int .i64 tm, .slice z2 tn zc, .slice y3 m3 q3, .slice y4 m4 q4]) (by simp [results, Tryd.results27, go_sem, o0, o1, o2, o3, o4]) rfl ?_
      have hs5 := set5_grown (w4.setCell ⟨gO, 2, none⟩ (.slice z2 tn zc)) (w.heap.size + 3) 0 (.int .i64 tk) (.int .i64 tm) (.slice z2 tn zc) (.slice y3 m3 q3) (.slice y4 m4 q4)
      have hsz := set5_size (w4.setCell ⟨gO, 2, none⟩ (.slice z2 tn zc)) (w.heap.size + 3) 0 (.int .i64 tk) (.int .i64 tm) (.slice z2 tn zc) (.slice y3 m3 q3) (.slice y4 m4 q4)
      have ho5 := set5_other (w4.setCell ⟨gO, 2, none⟩ (.slice z2 tn zc)) (w.heap.size + 3) 0 (.int .i64 tk) (.int .i64 tm) (.slice z2 tn zc) (.slice y3 m3 q3) (.slice y4 m4 q4)
      have hz4 : (w4.setCell ⟨gO, 2, none⟩ (.slice z2 tn zc)).heap.size = w4.heap.size := by simp [World.setCell]
      obtain ⟨B', hOf, hBf⟩ := own_text (w0 := w) (wf := set5 (w4.setCell ⟨gO, 2, none⟩ (.slice z2 tn zc)) (w.heap.size + 3) 0 (.int .i64 tk) (.int .i64 tm) (.slice z2 tn zc) (.slice y3 m3 q3) (.slice y4 m4 q4)) HO.out HBb.out Hb4.out HV8.out hOl (by have := HGr.out; omega) Hbw.out.size (fun b h1 h2 => (ho5 b h2).trans (Below.heap_setCell w4 ⟨gO, 2, none⟩ _ b h1)) (by omega)
      have hE : ValEnd (d + 1) (rnV fr tz (d + 1) (6, vn, vS, vK, vL)) w (.returned (.agg #[.int .i64 tk, .int .i64 tm, .slice z2 tn zc, .slice y3 m3 q3, .slice y4 m4 q4])) (set5 (w4.setCell ⟨gO, 2, none⟩ (.slice z2 tn zc)) (w.heap.size + 3) 0 (.int .i64 tk) (.int .i64 tm) (.slice z2 tn zc) (.slice y3 m3 q3) (.slice y4 m4 q4)) := by
        rw [show rnV fr tz (d + 1) (6, vn, vS, vK, vL) = (6, vn, tz, vK, vL.map (rnV fr tz d)) from HTe.out]
        refine ⟨_, _, _, _, _, rfl, B', hOf, hBf, ?_⟩
        have hg1 : Below w.heap.size w (w4.setCell ⟨gO, 2, none⟩ (.slice z2 tn zc)) := Hbw4.out.grown (grown1 w4 gO 2 _) Hbw4.out.size (by intro j hj; have := HGr.out; simp at hj; omega)
        exact hg1.grown hs5 hg1.size (by intro j hj; simp at hj; omega)
      simp only [set5, Nat.zero_add] at hE
      exact hE
    · have HTe : Hid (rnV fr tz (d + 1) (6, vn, vS, vK, vL) = (6, vn, vS, vK, vL.map (rnV fr tz d))) := hide' (rnV_not (fun h => hs h.2))
      rw [decide_eq_false hs] at HEq
      clear hs
      generalize vS.length = n2 at *
      generalize fr.length = fn at *
      generalize tz.length = tn at *
      go_wp2_with fail
      refine HEq.out.mono ?_
      rintro e w3' ⟨rfl, rfl⟩
      obtain ⟨r0, r1, r2', r3', r4', rf⟩ := row5 HR3.out
      have f0 := rf 0
      have f1 := rf 1
      have f2 := rf 2
      have f3 := rf 3
      have f4 := rf 4
      clear rf
      go_wp2_with fail
      have hfin := row5 (set5_heap (j := 0) (.int .i64 tk) (.int .i64 tm) (.slice y2 m2 q2) (.slice y3 m3 q3) (.slice y4 m4 q4) HR3.out)
      simp only [set5, Nat.zero_add] at hfin
      obtain ⟨o0, o1, o2, o3, o4, _⟩ := hfin
      refine bodyPost_ret (v := .agg #[.int .i64 tk, .int .i64 tm, .slice y2 m2 q2, .slice y3 m3 q3, .slice y4 m4 q4]) (by simp [results, Tryd.results27, go_sem, o0, o1, o2, o3, o4]) rfl ?_
      have hE := valEnd_set5 (D := d + 1) HO.out (fun b hb => ⟨(HBb.out b hb).1, (HBb.out b hb).2.1, (HBb.out b hb).2.2.2⟩) Hbw.out (by omega : w.heap.size ≤ w.heap.size + 3)
      simp only [set5, Nat.zero_add] at hE
      rw [show rnV fr tz (d + 1) (6, vn, vS, vK, vL) = (6, vn, vS, vK, vL.map (rnV fr tz d)) from HTe.out]
      exact hE
  · have HTe : Hid (rnV fr tz (d + 1) (vk, vn, vS, vK, vL) = (vk, vn, vS, vK, vL.map (rnV fr tz d))) := hide' (rnV_not (fun h => hk6 h.1))
    generalize vS.length = n2 at *
    generalize fr.length = fn at *
    generalize tz.length = tn at *
    obtain ⟨r0, r1, r2', r3', r4', rf⟩ := row5 HR3.out
    have f0 := rf 0
    have f1 := rf 1
    have f2 := rf 2
    have f3 := rf 3
    have f4 := rf 4
    clear rf
    go_wp2_with fail
    have hfin := row5 (set5_heap (j := 0) (.int .i64 tk) (.int .i64 tm) (.slice y2 m2 q2) (.slice y3 m3 q3) (.slice y4 m4 q4) HR3.out)
    simp only [set5, Nat.zero_add] at hfin
    obtain ⟨o0, o1, o2, o3, o4, _⟩ := hfin
    refine bodyPost_ret (v := .agg #[.int .i64 tk, .int .i64 tm, .slice y2 m2 q2, .slice y3 m3 q3, .slice y4 m4 q4]) (by simp [results, Tryd.results27, go_sem, o0, o1, o2, o3, o4]) rfl ?_
    have hE := valEnd_set5 (D := d + 1) HO.out (fun b hb => ⟨(HBb.out b hb).1, (HBb.out b hb).2.1, (HBb.out b hb).2.2.2⟩) Hbw.out (by omega : w.heap.size ≤ w.heap.size + 3)
    simp only [set5, Nat.zero_add] at hE
    rw [show rnV fr tz (d + 1) (vk, vn, vS, vK, vL) = (vk, vn, vS, vK, vL.map (rnV fr tz d)) from HTe.out]
    exact hE
theorem renamed_any (fr tz : List Int) (d : Nat) : RenAt fr tz d := by
  induction d with
  | zero => intro N c0 c1 c2 c3 c4 v _ _ _ _ w hv; exact hv.elim
  | succ d ih =>
    intro N c0 c1 c2 c3 c4 v fa fc ta tc w hv hN hF hT hs htl
    obtain ⟨vk, vn, vS, vK, vL⟩ := v
    have hv' := hv
    obtain ⟨e0, e1, hS, hK, hL⟩ := (VSeg_succ _ _ _ _ _).1 hv
    simp only at e0 e1 hS hK hL
    subst e0
    subst e1
    obtain ⟨a2, p2, rfl, _⟩ := hS
    obtain ⟨a3, p3, rfl, _⟩ := hK
    obtain ⟨a4, p4, rfl, _⟩ := hL
    exact renamed_walk fr tz d N ih vk vn vS vK vL a2 p2 a3 p3 a4 p4 fa fc ta tc w hN hv' hF hT hs htl
end Go.Proofs.YtfokidhamjphfaaDoor
