/-
  Texts that a law leans on, one behind the other; no statement is proved here.
-/
import Derived.Test.YteafpgaefphkfaaGreatDoorPk41
/-
  l2map of the specification on a heap on which values are drawn. No statement is proved here.
-/
namespace Go.Proofs.YteafpgaefphkfaaGreatDoor
open Go.RowKit
set_option linter.unusedVariables false
set_option linter.unusedSimpArgs false

theorem two_boxes_hw {B M : Nat} {rk : Nat → Nat} {w : World} {g : Nat} {a : Option Addr} {cap : Nat} {cs : List Int} (n : Nat) (h : Hs B M rk w g a cap cs) : ∃ rk1, Hs B M rk1 ((w.alloc (.cells #[.int .i64 0, .int .i64 0, .slice none 0 0, .slice none 0 0, .slice none 0 0] 29)).alloc (.cells #[.int .i64 5, .int .i64 0, .slice none 0 0, .slice none 0 0, .slice none 0 0] 29)) g a cap cs ∧ Rks rk rk1 w.heap.size ∧ rk1 w.heap.size = n + 1 ∧ rk1 (w.heap.size + 1) = n + 1 ∧ ((w.alloc (.cells #[.int .i64 0, .int .i64 0, .slice none 0 0, .slice none 0 0, .slice none 0 0] 29)).alloc (.cells #[.int .i64 5, .int .i64 0, .slice none 0 0, .slice none 0 0, .slice none 0 0] 29)).heap[w.heap.size]? = some (.cells #[.int .i64 0, .int .i64 0, .slice none 0 0, .slice none 0 0, .slice none 0 0] 29) ∧ ((w.alloc (.cells #[.int .i64 0, .int .i64 0, .slice none 0 0, .slice none 0 0, .slice none 0 0] 29)).alloc (.cells #[.int .i64 5, .int .i64 0, .slice none 0 0, .slice none 0 0, .slice none 0 0] 29)).heap[w.heap.size + 1]? = some (.cells #[.int .i64 5, .int .i64 0, .slice none 0 0, .slice none 0 0, .slice none 0 0] 29) ∧ Below w.heap.size w ((w.alloc (.cells #[.int .i64 0, .int .i64 0, .slice none 0 0, .slice none 0 0, .slice none 0 0] 29)).alloc (.cells #[.int .i64 5, .int .i64 0, .slice none 0 0, .slice none 0 0, .slice none 0 0] 29)) ∧ ((w.alloc (.cells #[.int .i64 0, .int .i64 0, .slice none 0 0, .slice none 0 0, .slice none 0 0] 29)).alloc (.cells #[.int .i64 5, .int .i64 0, .slice none 0 0, .slice none 0 0, .slice none 0 0] 29)).heap.size = w.heap.size + 2 := by
  have hH0 := h.1.alloc_v (n + 1) (.int .i64 0) (.int .i64 0) (.slice none 0 0) (.slice none 0 0) (.slice none 0 0) (grp_leaf _ _ _ _ _ _ _)
  have hH1 := hH0.alloc_v (n + 1) (.int .i64 5) (.int .i64 0) (.slice none 0 0) (.slice none 0 0) (.slice none 0 0) (grp_leaf _ _ _ _ _ _ _)
  have hBA : Below w.heap.size w ((w.alloc (.cells #[.int .i64 0, .int .i64 0, .slice none 0 0, .slice none 0 0, .slice none 0 0] 29)).alloc (.cells #[.int .i64 5, .int .i64 0, .slice none 0 0, .slice none 0 0, .slice none 0 0] 29)) := ((Below.refl _ w).alloc (Nat.le_refl _) _).alloc (by simp) _
  refine ⟨_, h.below hH1 hBA, fun b hb => ?_, by simp [rkUp], by simp [rkUp], (Below.heap_alloc _ _ _ (by simp)).trans (heap_alloc_new w _), ?_, hBA, by simp⟩
  · simp only [rkUp, World.size_alloc]
    rw [if_neg (by omega), if_neg (by omega)]
  · have := heap_alloc_new (w.alloc (.cells #[.int .i64 0, .int .i64 0, .slice none 0 0, .slice none 0 0, .slice none 0 0] 29)) (.cells #[.int .i64 5, .int .i64 0, .slice none 0 0, .slice none 0 0, .slice none 0 0] 29)
    simpa using this

set_option maxHeartbeats 12800000 in
set_option maxRecDepth 100000 in
theorem l2map_n (n : Nat) (ih : DrAt n) (hn2 : (2 : Int) ≤ n) (hn : n ≤ 999) (B M : Nat) (rk : Nat → Nat) (g : Nat) (a : Option Addr) (cap : Nat) (cs : List Int) (w : World) (h : Hs B M rk w g a cap cs) (hM1 : 64 ≤ M) (hM2 : M ≤ 1000000) : Calls Tryz.prog 20 #[.pointer (some ⟨g, 0, none⟩)] w (DrwEnd B M rk (n + 1) g a cap cs w) := by
  have hgl := h.lt
  have hB := h.base
  obtain ⟨rk1, hSO, hRk, hkR1, hkO, hWR, hW, hBA, hz2⟩ := two_boxes_hw n h
  have HLO := hide' (l1Below_hs hSO 5 (by omega))
  have HW := hide' (And.intro hW (And.intro hWR (And.intro hBA hz2)))
  clear h hW hWR hBA hSO hz2
  go_enter Tryz.func20, Tryz.ntmps20
  go_wp2_with fail
  refine HLO.out.mono ?_
  rintro e w2 ⟨x, rfl, hx0, hx5, _, hd2, hg2, hsh2⟩
  obtain ⟨N, rfl⟩ : ∃ N : Nat, x = N := ⟨x.toNat, by omega⟩
  have hN : N < 5 := by have := hx5 (by omega); omega
  obtain ⟨hW, hWR, hBA, hz2⟩ := HW.out
  have hT2 : Hst rk w rk1 w2 g := (Hst.below hBA hRk).trans (Hst.cus hg2 hsh2)
  have hO2 := (hg2.1.block (w.heap.size + 1) (by omega) (by simp; omega)).trans hW
  have hR2 := (hg2.1.block w.heap.size (by omega) (by simp; omega)).trans hWR
  have HM0 : Hid (MSt B M rk n w g a cap cs w.heap.size (w.heap.size + 1) 0 rk1 w2 none 0 none 0) := hide' ⟨hd2, hT2, hR2, hkR1, hkO, hO2, grp_leaf _ _ _ _ _ _ _⟩
  have HMl := hide' hM2
  have HRO : Hid (w.heap.size < w.heap.size + 1) := hide' (by omega)
  have hzw : w.heap.size < w2.heap.size := by have := hg2.2; omega
  clear hd2 hg2 hsh2 hT2 hO2 hR2 hkR1 hRk hkO HLO hx5 hx0 hW hWR hBA hz2 HW
  go_wp2_with fail
  go_loopw [5] (fun i wr => ∃ k m : Nat, k ≤ N ∧ m ≤ k ∧ i = .int .i64 k ∧ ∃ (rkr : Nat → Nat) (a3 : Option Addr) (c3 : Nat) (a4 : Option Addr) (c4 : Nat), Hid (MSt B M rk n w g a cap cs w.heap.size (w.heap.size + 1) m rkr wr a3 c3 a4 c4)) (fun i _ => N - (intOf i).toNat)
  case atStart => exact ⟨0, 0, Nat.zero_le _, Nat.le_refl _, rfl, _, _, _, _, _, HM0⟩
  case round =>
    obtain ⟨k, m, hk, hmk, rfl, rkr, a3, c3, a4, c4, hI⟩ := hrel
    obtain ⟨o0, o1, o2, o3, o4, of⟩ := row5 hI.out.2.2.2.2.2.1
    by_cases hlt : k < N
    · have hlt' : (k : Int) < (N : Int) := by omega
      have HE : Hid (∀ (rkx : Nat → Nat) (dd : Int) (wy : World), dd = 2 → Hs B M rkx wy g a cap cs → Calls Tryz.prog 36 #[.pointer (some ⟨g, 0, none⟩), .int .i64 dd] wy (DrwEnd B M rkx n g a cap cs wy)) := fun rkx dd wy hd hy => by
        subst hd
        exact ih B M rkx g a cap cs (2) wy hy (by omega) (by omega) (by omega) hM1 HMl.out
      have HOl : Hid ((w.heap.size + 1) < wr.heap.size) := hide' (Array.getElem?_eq_some_iff.1 hI.out.2.2.2.2.2.1).1
      have HOg : Hid ((w.heap.size + 1) ≠ g) := hide' (hI.out.1.ne_row hI.out.2.2.2.2.2.1 row3_v)
      have HI := hide' hI.out
      clear hI
      go_wp2_with fail
      go_region_law (first | (go_simp; go_at_call 32; (first | (refine (l2drawName_hs B M rkD g a cap cs _ (by exact hSD.out.heap rfl) (by omega)).mono ?_; rintro e wN ⟨nk, nl, nc, rfl, hN1, hN2, hN3⟩; have hTN := hide' (hTD.out.trans (hN3.heap (w := wD) rfl rfl rfl rfl)); replace hGD := hide' (hGD.out.shp (hN3.heap (w := wD) rfl rfl rfl rfl).2.2 (hN3.heap (w := wD) rfl rfl rfl rfl).1 (Nat.le_refl _)); have hS9 := hide' hN2; have hT9 := hTN) | (refine (l2drawName_hs B M rkr g a cap cs _ (by exact HI.out.1.heap rfl) (by omega)).mono ?_; rintro e wN ⟨nk, nl, nc, rfl, hN1, hN2, hN3⟩; have hTN := hide' (hN3.heap (w := wr) rfl rfl rfl rfl))); replace hN1 := hide' hN1; replace hN2 := hide' hN2; obtain ⟨n0, n1, n2, n3, n4, _⟩ := row5 ((hTN.out.block HOl.out HOg.out).trans HI.out.2.2.2.2.2.1); clear hN3) | (go_simp; go_at_call 36; (first | (refine (HE.out rkr _ _ (by first | rfl | omega) (by exact hN2.out.heap rfl)).mono ?_; rintro e wD ⟨xk, xn, b2, m2, q2, b3, m3, q3, b4, m4, q4, rkD, rfl, hG5, hS5, hT5⟩; have hTD := hide' (hTN.out.trans (hT5.heap (w := wN) rfl rfl rfl rfl)); replace hN1 := hide' (hN1.out.shp row3_b (hT5.heap (w := wN) rfl rfl rfl rfl).2.2 fun _ _ h => h); have hS9 := hide' hS5; have hT9 := hTD) | (refine (HE.out rkr _ _ (by first | rfl | omega) (by exact HI.out.1.heap rfl)).mono ?_; rintro e wD ⟨xk, xn, b2, m2, q2, b3, m3, q3, b4, m4, q4, rkD, rfl, hG5, hS5, hT5⟩; have hTD := hide' (hT5.heap (w := wr) rfl rfl rfl rfl))); have hGD := hide' hG5; have hSD := hide' hS5; obtain ⟨d0, d1, d2, d3, d4, _⟩ := row5 ((hTD.out.block HOl.out HOg.out).trans HI.out.2.2.2.2.2.1); clear hG5 hS5 hT5) | (go_simp; go_at_call 35; refine (l2set_hw B M rkD n 5 0 none 0 0 a3 m c3 a4 c4 xk xn b2 m2 q2 b3 m3 q3 b4 m4 q4 nk nl nc _ (by exact hS9.out.1.heap rfl) (by have := hS9.out.base; exact this) (by exact (HI.out.2.2.2.2.2.2.shp hT9.out.2.2 hT9.out.1 (Nat.le_refl _)).shp (Shp.heap rfl) (Rks.refl _ _) (Nat.le_refl _)) (by exact hN1.out.shp row3_b (Shp.heap rfl) fun _ _ h => h) (by exact hGD.out.shp (Shp.heap rfl) (Rks.refl _ _) (Nat.le_refl _)) (by omega) HMl.out).mono ?_; rintro e w4 ⟨s3, t3, s4, t4, m', rk4, rfl, hm', hG4, hH4, hR4, hB4⟩; obtain ⟨hO4, hM4⟩ := mst_next HI.out HRO.out (Nat.le_refl _) hB hT9.out hS9.out hG4 hH4 hR4 (below_heap hB4 rfl rfl rfl rfl); obtain ⟨q0, q1, q2', q3', q4', qf⟩ := row5 hO4; have qf0 := qf 0; have qf1 := qf 1; have qf2 := qf 2; have qf3 := qf 3; have qf4 := qf 4; replace hM4 := hide' hM4; clear hG4 hH4 hR4 hB4 hO4 qf) | fail)
      all_goals (clear HI HE o0 o1 o2 o3 o4 of)
      all_goals go_wp2
      all_goals go_roundw
      all_goals first | exact ⟨k + 1, m', by omega, by omega, by go_num, _, _, _, _, _, hM4⟩ | (simp [intOf]; omega)
    · have hltn : ¬ (k : Int) < (N : Int) := by omega
      have HR3 := hide' hI.out.2.2.1
      have HS3 := hide' hI.out.1
      have HT3 := hide' hI.out.2.1
      have HK3 := hide' hI.out.2.2.2.1
      have HG3 := hide' hI.out.2.2.2.2.2.2
      clear hI
      obtain ⟨r0, r1, r2, r3, r4, rf⟩ := row5 HR3.out
      have f0 := rf 0
      have f1 := rf 1
      have f2 := rf 2
      have f3 := rf 3
      have f4 := rf 4
      clear rf
      go_wp2_with fail
      have hfin := row5 (set5_heap (j := 0) (.int .i64 5) (.int .i64 0) (.slice none 0 0) (.slice a3 m c3) (.slice a4 m c4) HR3.out)
      simp only [set5, Nat.zero_add] at hfin
      obtain ⟨o0, o1, o2, o3, o4, _⟩ := hfin
      refine bodyPost_ret (v := .agg #[.int .i64 5, .int .i64 0, .slice none 0 0, .slice a3 m c3, .slice a4 m c4]) (by simp [results, Tryz.results20, go_sem, o0, o1, o2, o3, o4]) rfl ?_
      exact drw_end HS3.out HT3.out HR3.out (Nat.le_refl _) hB HG3.out (by rw [HK3.out]; exact Nat.le_refl _)

theorem l2map_hs (B M : Nat) (rk : Nat → Nat) (g : Nat) (a : Option Addr) (cap : Nat) (cs : List Int) (w : World) (h : Hs B M rk w g a cap cs) (hM1 : 64 ≤ M) (hM2 : M ≤ 1000000) : Calls Tryz.prog 20 #[.pointer (some ⟨g, 0, none⟩)] w (DrwEnd B M rk 3 g a cap cs w) := l2map_n 2 (l2draw_hs 2) (by omega) (by omega) B M rk g a cap cs w h hM1 hM2
end Go.Proofs.YteafpgaefphkfaaGreatDoor
