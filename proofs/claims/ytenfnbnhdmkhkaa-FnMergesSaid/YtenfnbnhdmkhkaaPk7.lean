/-
  Texts that a law leans on, one behind the other; no statement is proved here.
-/
import Derived.Test.YtenfnbnhdmkhkaaPk6
/-
  l2map of the specification on a heap on which values are drawn. No statement is proved here.
-/
namespace Go.Proofs.Ytenfnbnhdmkhkaa
open Go.RowKit
set_option linter.unusedVariables false
set_option linter.unusedSimpArgs false

theorem two_boxes_hw {B M : Nat} {rk : Nat → Nat} {w : World} {g : Nat} {a : Option Addr} {cap : Nat} {cs : List Int} (n : Nat) (h : Hs B M rk w g a cap cs) : ∃ rk1, Hs B M rk1 ((w.alloc (.cells #[.int .i64 0, .int .i64 0, .slice none 0 0, .slice none 0 0, .slice none 0 0] 26)).alloc (.cells #[.int .i64 5, .int .i64 0, .slice none 0 0, .slice none 0 0, .slice none 0 0] 26)) g a cap cs ∧ Rks rk rk1 w.heap.size ∧ rk1 w.heap.size = n + 1 ∧ rk1 (w.heap.size + 1) = n + 1 ∧ ((w.alloc (.cells #[.int .i64 0, .int .i64 0, .slice none 0 0, .slice none 0 0, .slice none 0 0] 26)).alloc (.cells #[.int .i64 5, .int .i64 0, .slice none 0 0, .slice none 0 0, .slice none 0 0] 26)).heap[w.heap.size]? = some (.cells #[.int .i64 0, .int .i64 0, .slice none 0 0, .slice none 0 0, .slice none 0 0] 26) ∧ ((w.alloc (.cells #[.int .i64 0, .int .i64 0, .slice none 0 0, .slice none 0 0, .slice none 0 0] 26)).alloc (.cells #[.int .i64 5, .int .i64 0, .slice none 0 0, .slice none 0 0, .slice none 0 0] 26)).heap[w.heap.size + 1]? = some (.cells #[.int .i64 5, .int .i64 0, .slice none 0 0, .slice none 0 0, .slice none 0 0] 26) ∧ Below w.heap.size w ((w.alloc (.cells #[.int .i64 0, .int .i64 0, .slice none 0 0, .slice none 0 0, .slice none 0 0] 26)).alloc (.cells #[.int .i64 5, .int .i64 0, .slice none 0 0, .slice none 0 0, .slice none 0 0] 26)) ∧ ((w.alloc (.cells #[.int .i64 0, .int .i64 0, .slice none 0 0, .slice none 0 0, .slice none 0 0] 26)).alloc (.cells #[.int .i64 5, .int .i64 0, .slice none 0 0, .slice none 0 0, .slice none 0 0] 26)).heap.size = w.heap.size + 2 := by
  have hH0 := h.1.alloc_v (n + 1) (.int .i64 0) (.int .i64 0) (.slice none 0 0) (.slice none 0 0) (.slice none 0 0) (grp_leaf _ _ _ _ _ _ _)
  have hH1 := hH0.alloc_v (n + 1) (.int .i64 5) (.int .i64 0) (.slice none 0 0) (.slice none 0 0) (.slice none 0 0) (grp_leaf _ _ _ _ _ _ _)
  have hBA : Below w.heap.size w ((w.alloc (.cells #[.int .i64 0, .int .i64 0, .slice none 0 0, .slice none 0 0, .slice none 0 0] 26)).alloc (.cells #[.int .i64 5, .int .i64 0, .slice none 0 0, .slice none 0 0, .slice none 0 0] 26)) := ((Below.refl _ w).alloc (Nat.le_refl _) _).alloc (by simp) _
  refine ⟨_, h.below hH1 hBA, fun b hb => ?_, by simp [rkUp], by simp [rkUp], (Below.heap_alloc _ _ _ (by simp)).trans (heap_alloc_new w _), ?_, hBA, by simp⟩
  · simp only [rkUp, World.size_alloc]
    rw [if_neg (by omega), if_neg (by omega)]
  · have := heap_alloc_new (w.alloc (.cells #[.int .i64 0, .int .i64 0, .slice none 0 0, .slice none 0 0, .slice none 0 0] 26)) (.cells #[.int .i64 5, .int .i64 0, .slice none 0 0, .slice none 0 0, .slice none 0 0] 26)
    simpa using this

set_option maxHeartbeats 12800000 in
set_option maxRecDepth 100000 in
theorem l2map_n (n : Nat) (ih : DrAt n) (hn2 : (2 : Int) ≤ n) (hn : n ≤ 999) (B M : Nat) (rk : Nat → Nat) (g : Nat) (a : Option Addr) (cap : Nat) (cs : List Int) (w : World) (h : Hs B M rk w g a cap cs) (hM1 : 64 ≤ M) (hM2 : M ≤ 1000000) : Calls Try.prog 31 #[.pointer (some ⟨g, 0, none⟩)] w (DrwEnd B M rk (n + 1) g a cap cs w) := by
  have hgl := h.lt
  have hB := h.base
  obtain ⟨rk1, hSO, hRk, hkR1, hkO, hWR, hW, hBA, hz2⟩ := two_boxes_hw n h
  have HLO := hide' (l1Below_hs hSO 5 (by omega))
  have HW := hide' (And.intro hW (And.intro hWR (And.intro hBA hz2)))
  clear h hW hWR hBA hSO hz2
  go_enter Try.func31, Try.ntmps31
  go_wp2_with fail
  refine HLO.out.mono ?_
  rintro e w2 ⟨x, rfl, hx0, hx5, _, hd2, hg2, hsh2⟩
  obtain ⟨N, rfl⟩ : ∃ N : Nat, x = N := ⟨x.toNat, by omega⟩
  have hN : N < 5 := by have := hx5 (by omega); omega
  obtain ⟨hW, hWR, hBA, hz2⟩ := HW.out
  have hT2 : Stp rk w rk1 w2 g := (Stp.below hBA hRk).trans (Stp.cus hg2 hsh2)
  have hO2 := (hg2.1.block (w.heap.size + 1) (by omega) (by simp; omega)).trans hW
  have hR2 := (hg2.1.block w.heap.size (by omega) (by simp; omega)).trans hWR
  have HM0 : Hid (MSt B M rk n w g a cap cs w.heap.size (w.heap.size + 1) 0 rk1 w2 none 0 none 0) := hide' ⟨hd2, hT2, hR2, hkR1, hkO, hO2, grp_leaf _ _ _ _ _ _ _⟩
  have HMl := hide' hM2
  have HRO : Hid (w.heap.size < w.heap.size + 1) := hide' (by omega)
  have hzw : w.heap.size < w2.heap.size := by have := hg2.2; omega
  clear hd2 hg2 hsh2 hT2 hO2 hR2 hkR1 hRk hkO HLO hx5 hx0 hW hWR hBA hz2 HW
  go_wp2_with fail
  go_loopw [5] (fun i wr => ∃ k m : Nat, k ≤ N ∧ m ≤ k ∧ i = .int .i64 k ∧ ∃ (rkr : Nat → Nat) (a3 : Option Addr) (c3 : Nat) (a4 : Option Addr) (c4 : Nat), Hid (MSt B M rk n w g a cap cs w.heap.size (w.heap.size + 1) m rkr wr a3 c3 a4 c4)) (fun i _ => N - (intOf i).toNat)
  case atStart => exact ⟨0, 0, Nat.zero_le _, Nat.le_refl _, rfl, _, _, _, _, _, HM0⟩
  case round =>
    obtain ⟨k, m, hk, hmk, rfl, rkr, a3, c3, a4, c4, hI⟩ := hrel
    obtain ⟨o0, o1, o2, o3, o4, of⟩ := row5 hI.out.2.2.2.2.2.1
    by_cases hlt : k < N
    · have hlt' : (k : Int) < (N : Int) := by omega
      have HE : Hid (∀ (rkx : Nat → Nat) (dd : Int) (wy : World), dd = 2 → Hs B M rkx wy g a cap cs → Calls Try.prog 37 #[.pointer (some ⟨g, 0, none⟩), .int .i64 dd] wy (DrwEnd B M rkx n g a cap cs wy)) := fun rkx dd wy hd hy => by
        subst hd
        exact ih B M rkx g a cap cs (2) wy hy (by omega) (by omega) (by omega) hM1 HMl.out
      have HOl : Hid ((w.heap.size + 1) < wr.heap.size) := hide' (Array.getElem?_eq_some_iff.1 hI.out.2.2.2.2.2.1).1
      have HOg : Hid ((w.heap.size + 1) ≠ g) := hide' (hI.out.1.ne_row hI.out.2.2.2.2.2.1 row3_v)
      have HI := hide' hI.out
      clear hI
      go_wp2_with fail
      go_region_law (first | (go_simp; go_at_call 32; (first | (refine (l2drawName_hs B M rkD g a cap cs _ (by exact hSD.out.heap rfl) (by omega)).mono ?_; rintro e wN ⟨nk, nl, nc, rfl, hN1, hN2, hN3⟩; have hTN := hide' (hTD.out.trans (hN3.heap (w := wD) rfl rfl rfl rfl)); replace hGD := hide' (hGD.out.shp (hN3.heap (w := wD) rfl rfl rfl rfl).2.2 (hN3.heap (w := wD) rfl rfl rfl rfl).1 (Nat.le_refl _)); have hS9 := hide' hN2; have hT9 := hTN) | (refine (l2drawName_hs B M rkr g a cap cs _ (by exact HI.out.1.heap rfl) (by omega)).mono ?_; rintro e wN ⟨nk, nl, nc, rfl, hN1, hN2, hN3⟩; have hTN := hide' (hN3.heap (w := wr) rfl rfl rfl rfl))); replace hN1 := hide' hN1; replace hN2 := hide' hN2; obtain ⟨n0, n1, n2, n3, n4, _⟩ := row5 ((hTN.out.block HOl.out HOg.out).trans HI.out.2.2.2.2.2.1); clear hN3) | (go_simp; go_at_call 37; (first | (refine (HE.out rkr _ _ (by first | rfl | omega) (by exact hN2.out.heap rfl)).mono ?_; rintro e wD ⟨xk, xn, b2, m2, q2, b3, m3, q3, b4, m4, q4, rkD, rfl, hG5, hS5, hT5⟩; have hTD := hide' (hTN.out.trans (hT5.heap (w := wN) rfl rfl rfl rfl)); replace hN1 := hide' (hN1.out.shp row3_b (hT5.heap (w := wN) rfl rfl rfl rfl).2.2 fun _ _ h => h); have hS9 := hide' hS5; have hT9 := hTD) | (refine (HE.out rkr _ _ (by first | rfl | omega) (by exact HI.out.1.heap rfl)).mono ?_; rintro e wD ⟨xk, xn, b2, m2, q2, b3, m3, q3, b4, m4, q4, rkD, rfl, hG5, hS5, hT5⟩; have hTD := hide' (hT5.heap (w := wr) rfl rfl rfl rfl))); have hGD := hide' hG5; have hSD := hide' hS5; obtain ⟨d0, d1, d2, d3, d4, _⟩ := row5 ((hTD.out.block HOl.out HOg.out).trans HI.out.2.2.2.2.2.1); clear hG5 hS5 hT5) | (go_simp; go_at_call 51; refine (l2set_hw B M rkD n 5 0 none 0 0 a3 m c3 a4 c4 xk xn b2 m2 q2 b3 m3 q3 b4 m4 q4 nk nl nc _ (by exact hS9.out.1.heap rfl) (by have := hS9.out.base; exact this) (by exact (HI.out.2.2.2.2.2.2.shp hT9.out.2.2 hT9.out.1 (Nat.le_refl _)).shp (Shp.heap rfl) (Rks.refl _ _) (Nat.le_refl _)) (by exact hN1.out.shp row3_b (Shp.heap rfl) fun _ _ h => h) (by exact hGD.out.shp (Shp.heap rfl) (Rks.refl _ _) (Nat.le_refl _)) (by omega) HMl.out).mono ?_; rintro e w4 ⟨s3, t3, s4, t4, m', rk4, rfl, hm', hG4, hH4, hR4, hB4⟩; obtain ⟨hO4, hM4⟩ := mst_next HI.out HRO.out (Nat.le_refl _) hB hT9.out hS9.out hG4 hH4 hR4 (below_heap hB4 rfl rfl rfl rfl); obtain ⟨q0, q1, q2', q3', q4', qf⟩ := row5 hO4; have qf0 := qf 0; have qf1 := qf 1; have qf2 := qf 2; have qf3 := qf 3; have qf4 := qf 4; replace hM4 := hide' hM4; clear hG4 hH4 hR4 hB4 hO4 qf) | fail)
      all_goals (clear HI HE o0 o1 o2 o3 o4 of)
      all_goals go_wp2
      all_goals go_roundw
      all_goals first | exact ⟨k + 1, m', by omega, by omega, by go_num, _, _, _, _, _, hM4⟩ | (simp [intOf]; omega)
    · have hltn : ¬ (k : Int) < (N : Int) := by omega
      have HR3 := hide' hI.out.2.2.1
      have HS3 := hide' hI.out.1
      have HT3 := hide' hI.out.2.1
      have HK3 := hide' hI.out.2.2.2.1
      have HG3 := hide' hI.out.2.2.2.2.2.2
      clear hI
      obtain ⟨r0, r1, r2, r3, r4, rf⟩ := row5 HR3.out
      have f0 := rf 0
      have f1 := rf 1
      have f2 := rf 2
      have f3 := rf 3
      have f4 := rf 4
      clear rf
      go_wp2_with fail
      have hfin := row5 (set5_heap (j := 0) (.int .i64 5) (.int .i64 0) (.slice none 0 0) (.slice a3 m c3) (.slice a4 m c4) HR3.out)
      simp only [set5, Nat.zero_add] at hfin
      obtain ⟨o0, o1, o2, o3, o4, _⟩ := hfin
      refine bodyPost_ret (v := .agg #[.int .i64 5, .int .i64 0, .slice none 0 0, .slice a3 m c3, .slice a4 m c4]) (by simp [results, Try.results31, go_sem, o0, o1, o2, o3, o4]) rfl ?_
      exact drw_end HS3.out HT3.out HR3.out (Nat.le_refl _) hB HG3.out (by rw [HK3.out]; exact Nat.le_refl _)

theorem l2map_hs (B M : Nat) (rk : Nat → Nat) (g : Nat) (a : Option Addr) (cap : Nat) (cs : List Int) (w : World) (h : Hs B M rk w g a cap cs) (hM1 : 64 ≤ M) (hM2 : M ≤ 1000000) : Calls Try.prog 31 #[.pointer (some ⟨g, 0, none⟩)] w (DrwEnd B M rk 3 g a cap cs w) := l2map_n 2 (l2draw_hs 2) (by omega) (by omega) B M rk g a cap cs w h hM1 hM2
end Go.Proofs.Ytenfnbnhdmkhkaa
/-
  While a drawn value is bent: what stands. No statement is proved here.
-/
namespace Go.Proofs.Ytenfnbnhdmkhkaa
open Go.RowKit
set_option linter.unusedVariables false
set_option linter.unusedSimpArgs false

/-- All ranks by one more. -/
def rkS (rk : Nat → Nat) : Nat → Nat := fun g => rk g + 1
theorem Grp.up {B M r : Nat} {rk : Nat → Nat} {w : World} {c : Value × Value × Value × Value × Value} (h : Grp B M rk r w c) : Grp B M (rkS rk) (r + 1) w c :=
  ⟨h.1, h.2.1, h.2.2.1, h.2.2.2.1, h.2.2.2.2.base (Nat.le_refl _) fun g h => by unfold rkS; omega⟩
theorem Hw.up {B M : Nat} {rk : Nat → Nat} {w : World} (h : Hw B M rk w) : Hw B M (rkS rk) w := fun g hg cur T fr hh =>
  ⟨(h g hg cur T fr hh).1, (h g hg cur T fr hh).2.1, fun hT => ⟨((h g hg cur T fr hh).2.2 hT).1, fun j c0 c1 c2 c3 c4 h0 h1 h2 h3 h4 => (((h g hg cur T fr hh).2.2 hT).2 j c0 c1 c2 c3 c4 h0 h1 h2 h3 h4).up⟩⟩

/-- Five cells at a place of a row of values. -/
theorem Hw.grp_at {B M : Nat} {rk : Nat → Nat} {w : World} {b i off : Nat} {cur : Array Value} {fr : Nat × Nat} (h : Hw B M rk w) (hB : B ≤ b) (hb : w.heap[b]? = some (.cells cur 26 fr)) (hi : i * 5 + 5 ≤ cur.size) (ho : off = i * 5) :
    ∃ (k n : Int) (a2 : Option Addr) (l2 p2 : Nat) (a3 : Option Addr) (l3 p3 : Nat) (a4 : Option Addr) (l4 p4 : Nat), Five w b off (.int .i64 k, .int .i64 n, .slice a2 l2 p2, .slice a3 l3 p3, .slice a4 l4 p4) ∧ Grp B M rk (rk b) w (.int .i64 k, .int .i64 n, .slice a2 l2 p2, .slice a3 l3 p3, .slice a4 l4 p4) ∧ (∀ j, w.frozen? ⟨b, j, none⟩ = false) ∧ fr = (0, 0) := by
  subst ho
  have hfr := ((h b hB cur _ fr hb).2.2 rfl).1
  have hz : ∀ q, q < 5 → i * 5 + q < cur.size := fun q hq => by omega
  have hG := ((h b hB cur _ fr hb).2.2 rfl).2 i _ _ _ _ _ (Array.getElem?_eq_getElem (hz 0 (by omega))) (Array.getElem?_eq_getElem (hz 1 (by omega))) (Array.getElem?_eq_getElem (hz 2 (by omega))) (Array.getElem?_eq_getElem (hz 3 (by omega))) (Array.getElem?_eq_getElem (hz 4 (by omega)))
  obtain ⟨k, n, a2, l2, p2, a3, l3, p3, a4, l4, p4, e0, e1, e2, e3, e4⟩ := hG.forms
  refine ⟨k, n, a2, l2, p2, a3, l3, p3, a4, l4, p4, ⟨?_, ?_, ?_, ?_, ?_⟩, by rw [← e0, ← e1, ← e2, ← e3, ← e4]; exact hG, fun j => by subst hfr; exact frozen_of_row w b j cur _ hb, hfr⟩
  · rw [cell_of_row w b _ cur _ fr hb, ← e0]; exact Array.getElem?_eq_getElem (hz 0 (by omega))
  · rw [cell_of_row w b _ cur _ fr hb, ← e1]; exact Array.getElem?_eq_getElem (hz 1 (by omega))
  · rw [cell_of_row w b _ cur _ fr hb, ← e2]; exact Array.getElem?_eq_getElem (hz 2 (by omega))
  · rw [cell_of_row w b _ cur _ fr hb, ← e3]; exact Array.getElem?_eq_getElem (hz 3 (by omega))
  · rw [cell_of_row w b _ cur _ fr hb, ← e4]; exact Array.getElem?_eq_getElem (hz 4 (by omega))

/-- A block of five cells. -/
def Bx5 (w : World) (V : Nat) : Prop := ∃ cur : Array Value, w.heap[V]? = some (.cells cur 26 (0, 0)) ∧ cur.size = 5
theorem Bx5.shp {w w' : World} {V : Nat} (h : Bx5 w V) (hs : Shp w w') : Bx5 w' V := by
  obtain ⟨cur, h1, h2⟩ := h
  obtain ⟨cur', g1, g2⟩ := hs V cur _ _ row3_v h1
  exact ⟨cur', g1, by omega⟩
theorem Bx5.form {B M : Nat} {rk : Nat → Nat} {w : World} {V : Nat} (h : Bx5 w V) (hw : Hw B M rk w) (hB : B ≤ V) : ∃ (k n : Int) (a2 : Option Addr) (l2 p2 : Nat) (a3 : Option Addr) (l3 p3 : Nat) (a4 : Option Addr) (l4 p4 : Nat), w.heap[V]? = some (.cells #[.int .i64 k, .int .i64 n, .slice a2 l2 p2, .slice a3 l3 p3, .slice a4 l4 p4] 26 (0, 0)) ∧ Grp B M rk (rk V) w (.int .i64 k, .int .i64 n, .slice a2 l2 p2, .slice a3 l3 p3, .slice a4 l4 p4) := by
  obtain ⟨cur, h1, h2⟩ := h
  obtain ⟨k, n, a2, l2, p2, a3, l3, p3, a4, l4, p4, h5, hG, _, _⟩ := hw.grp_at (i := 0) (off := 0) hB h1 (by omega) (by omega)
  refine ⟨k, n, a2, l2, p2, a3, l3, p3, a4, l4, p4, ?_, hG⟩
  obtain ⟨g0, g1, g2, g3, g4⟩ := h5
  rw [cell_of_row w V _ cur _ _ h1] at g0 g1 g2 g3 g4
  simp only [Nat.zero_add] at g0 g1 g2 g3 g4
  rw [h1]
  congr 1
  have : cur = #[.int .i64 k, .int .i64 n, .slice a2 l2 p2, .slice a3 l3 p3, .slice a4 l4 p4] := by
    apply Array.ext_getElem?
    intro j
    by_cases hj : j < 5
    · obtain rfl | rfl | rfl | rfl | rfl : j = 0 ∨ j = 1 ∨ j = 2 ∨ j = 3 ∨ j = 4 := by omega
      · rw [g0]; rfl
      · rw [g1]; rfl
      · rw [g2]; rfl
      · rw [g3]; rfl
      · rw [g4]; rfl
    · rw [Array.getElem?_eq_none (by omega), Array.getElem?_eq_none (by simp; omega)]
  rw [this]

/-- While a value is bent: its box at the old heap's end, the answer's box behind it. -/
def BnS (B M : Nat) (rk : Nat → Nat) (ρ : Nat) (w : World) (g : Nat) (a : Option Addr) (cap : Nat) (cs : List Int) (rkx : Nat → Nat) (wx : World) : Prop :=
  Hs B M rkx wx g a cap cs ∧ Bx5 wx w.heap.size ∧ Bx5 wx (w.heap.size + 1) ∧ Below B w wx ∧ Rks (rkS rk) rkx w.heap.size ∧ Shp w wx ∧ rkx w.heap.size = ρ + 8 ∧ rkx (w.heap.size + 1) = ρ + 8

/-- What bending leaves. -/
def BentEnd (B M : Nat) (rk : Nat → Nat) (ρ g : Nat) (a : Option Addr) (cap : Nat) (cs : List Int) (w : World) (e : Ending) (w' : World) : Prop :=
  ∃ (k n : Int) (a2 : Option Addr) (l2 p2 : Nat) (a3 : Option Addr) (l3 p3 : Nat) (a4 : Option Addr) (l4 p4 : Nat) (rk' : Nat → Nat), e = .returned (.agg #[.int .i64 k, .int .i64 n, .slice a2 l2 p2, .slice a3 l3 p3, .slice a4 l4 p4]) ∧
    Grp B (M + 1) rk' (ρ + 8) w' (.int .i64 k, .int .i64 n, .slice a2 l2 p2, .slice a3 l3 p3, .slice a4 l4 p4) ∧ Hs B (M + 1) rk' w' g a cap cs ∧ Below B w w' ∧ Rks (rkS rk) rk' w.heap.size ∧ Shp w w'

section
variable {B M ρ : Nat} {rk rkx rk2 : Nat → Nat} {w wx wy : World} {g : Nat} {a : Option Addr} {cap : Nat} {cs : List Int}

theorem Hs.more {M' : Nat} (h : Hs B M rk w g a cap cs) (hM : M ≤ M') : Hs B M' rk w g a cap cs := ⟨h.1.more hM, h.2⟩
theorem Hs.onM {M' : Nat} (h : Hs B M rk w g a cap cs) (hw : Hw B M' rk2 wy) (h1 : wy.heap[g]? = w.heap[g]?) (h2 : ∀ b, b < B → wy.heap[b]? = w.heap[b]?) : Hs B M' rk2 wy g a cap cs :=
  ⟨hw, h.2.1.keep h1 fun x hx he => h2 _ (h.2.2.2 x hx he), h.2.2⟩
theorem BnS.more {M' : Nat} (h : BnS B M rk ρ w g a cap cs rkx wx) (hM : M ≤ M') : BnS B M' rk ρ w g a cap cs rkx wx := ⟨h.1.more hM, h.2⟩

/-- On from there: the cursor stands, rows keep their shapes. -/
theorem BnS.on {M' : Nat} (h : BnS B M rk ρ w g a cap cs rkx wx) (hS : Hs B M' rk2 wy g a cap cs) (hk : Rks rkx rk2 wx.heap.size) (hs : Shp wx wy) (hb : Below B wx wy) : BnS B M' rk ρ w g a cap cs rk2 wy := by
  obtain ⟨h1, h2, h3, h4, h5, h6, h7, h8⟩ := h
  have hz := h4.size
  obtain ⟨c2, e2, s2⟩ := h2
  obtain ⟨c3, e3, s3⟩ := h3
  have l2 := (Array.getElem?_eq_some_iff.1 e2).1
  have l3 := (Array.getElem?_eq_some_iff.1 e3).1
  refine ⟨hS, Bx5.shp ⟨c2, e2, s2⟩ hs, Bx5.shp ⟨c3, e3, s3⟩ hs, h4.trans hb, fun b hb' => (hk b (by omega)).trans (h5 b hb'), h6.trans hs, (hk _ l2).trans h7, (hk _ l3).trans h8⟩

theorem BnS.cus (h : BnS B M rk ρ w g a cap cs rkx wx) (hS : Hs B M rkx wy g a cap cs) (hc : Cus g wx wy) : BnS B M rk ρ w g a cap cs rkx wy :=
  h.on hS (Rks.refl _ _) (hc.shp h.1.2.1) ⟨hc.1.os, hc.1.tape, hc.1.output, hc.1.size, fun b hb => hc.1.block b (by have := h.1.base; omega) (by have := h.1.2.2.1; simp; omega)⟩

theorem bent_end {d0 d1 d2 d3 d4 z0 z1 z2 z3 z4 : Value} (h : BnS B M rk ρ w g a cap cs rkx wx) (hBw : B ≤ w.heap.size) (hV : wx.heap[w.heap.size]? = some (.cells #[d0, d1, d2, d3, d4] 26 (0, 0))) (hG : Grp B M rkx (rkx w.heap.size) wx (d0, d1, d2, d3, d4)) (hR : wx.heap[w.heap.size + 1]? = some (.cells #[z0, z1, z2, z3, z4] 26 (0, 0))) :
    BentEnd B M rk ρ g a cap cs w (.returned (.agg #[d0, d1, d2, d3, d4])) (set5 wx (w.heap.size + 1) 0 d0 d1 d2 d3 d4) := by
  obtain ⟨h1, h2, h3, h4, h5, h6, h7, h8⟩ := h
  obtain ⟨k1, k2⟩ := h1.1.set5 hR (by rw [h8, ← h7]; exact hG)
  obtain ⟨k, n, a2, l2, p2, a3, l3, p3, a4, l4, p4, rfl, rfl, rfl, rfl, rfl⟩ := hG.forms
  have hgR := h1.ne_row hR row3_v
  have hoth : ∀ b, b ≠ w.heap.size + 1 → (set5 wx (w.heap.size + 1) 0 (.int .i64 k) (.int .i64 n) (.slice a2 l2 p2) (.slice a3 l3 p3) (.slice a4 l4 p4)).heap[b]? = wx.heap[b]? := fun b hb => set5_other wx (w.heap.size + 1) 0 _ _ _ _ _ b hb
  have h9 := set5_grown wx (w.heap.size + 1) 0 (.int .i64 k) (.int .i64 n) (.slice a2 l2 p2) (.slice a3 l3 p3) (.slice a4 l4 p4)
  generalize set5 wx (w.heap.size + 1) 0 (.int .i64 k) (.int .i64 n) (.slice a2 l2 p2) (.slice a3 l3 p3) (.slice a4 l4 p4) = wf at *
  rw [h7] at hG
  exact ⟨k, n, a2, l2, p2, a3, l3, p3, a4, l4, p4, rkx, rfl, (hG.shp k2 (Rks.refl _ _) (Nat.le_refl _)).more (by omega), (h1.on k1 (hoth g (Ne.symm hgR)) (fun b hb => hoth b (by omega))).more (by omega), h4.grown h9 (Nat.le_trans hBw h4.size) (by intro j hj; simp at hj; omega), h5, h6.trans k2⟩

/-- .. after a row was lengthened: one more than before. -/
theorem bent_end1 {d0 d1 d2 d3 d4 z0 z1 z2 z3 z4 : Value} (h : BnS B (M + 1) rk ρ w g a cap cs rkx wx) (hBw : B ≤ w.heap.size) (hV : wx.heap[w.heap.size]? = some (.cells #[d0, d1, d2, d3, d4] 26 (0, 0))) (hG : Grp B (M + 1) rkx (rkx w.heap.size) wx (d0, d1, d2, d3, d4)) (hR : wx.heap[w.heap.size + 1]? = some (.cells #[z0, z1, z2, z3, z4] 26 (0, 0))) :
    BentEnd B M rk ρ g a cap cs w (.returned (.agg #[d0, d1, d2, d3, d4])) (set5 wx (w.heap.size + 1) 0 d0 d1 d2 d3 d4) := by
  obtain ⟨h1, h2, h3, h4, h5, h6, h7, h8⟩ := h
  obtain ⟨k1, k2⟩ := h1.1.set5 hR (by rw [h8, ← h7]; exact hG)
  obtain ⟨k, n, a2, l2, p2, a3, l3, p3, a4, l4, p4, rfl, rfl, rfl, rfl, rfl⟩ := hG.forms
  have hgR := h1.ne_row hR row3_v
  have hoth : ∀ b, b ≠ w.heap.size + 1 → (set5 wx (w.heap.size + 1) 0 (.int .i64 k) (.int .i64 n) (.slice a2 l2 p2) (.slice a3 l3 p3) (.slice a4 l4 p4)).heap[b]? = wx.heap[b]? := fun b hb => set5_other wx (w.heap.size + 1) 0 _ _ _ _ _ b hb
  have h9 := set5_grown wx (w.heap.size + 1) 0 (.int .i64 k) (.int .i64 n) (.slice a2 l2 p2) (.slice a3 l3 p3) (.slice a4 l4 p4)
  generalize set5 wx (w.heap.size + 1) 0 (.int .i64 k) (.int .i64 n) (.slice a2 l2 p2) (.slice a3 l3 p3) (.slice a4 l4 p4) = wf at *
  rw [h7] at hG
  exact ⟨k, n, a2, l2, p2, a3, l3, p3, a4, l4, p4, rkx, rfl, hG.shp k2 (Rks.refl _ _) (Nat.le_refl _), h1.on k1 (hoth g (Ne.symm hgR)) (fun b hb => hoth b (by omega)), h4.grown h9 (Nat.le_trans hBw h4.size) (by intro j hj; simp at hj; omega), h5, h6.trans k2⟩

/-- One cell of a value is written: a good one. -/
theorem bst_set {M' b i f : Nat} {cur : Array Value} {v : Value} (h : BnS B M rk ρ w g a cap cs rkx wx) (hBb : B ≤ b) (hb : wx.heap[b]? = some (.cells cur 26 (0, 0))) (hf : f < 5)
    (hv : ∀ c0 c1 c2 c3 c4 : Value, Grp B M rkx (rkx b) wx (c0, c1, c2, c3, c4) → Grp B M rkx (rkx b) wx (if f = 0 then v else c0, if f = 1 then v else c1, if f = 2 then v else c2, if f = 3 then v else c3, if f = 4 then v else c4)) : BnS B M rk ρ w g a cap cs rkx (wx.setCell ⟨b, i * 5 + f, none⟩ v) := by
  have hgb := h.1.ne_row hb row3_v
  have hS := h.1.1.set_v hBb hb i f hf v hv
  have hoth : ∀ k, k ≠ b → (wx.setCell ⟨b, i * 5 + f, none⟩ v).heap[k]? = wx.heap[k]? := fun k hk => Below.heap_setCell wx ⟨b, i * 5 + f, none⟩ v k hk
  exact h.on (h.1.on hS (hoth g (Ne.symm hgb)) (fun k hk => hoth k (by omega))) (Rks.refl _ _) (Shp.setCell _ _ _ _) ⟨rfl, rfl, rfl, by simp [World.setCell], fun k hk => hoth k (by omega)⟩

/-- A new block. -/
theorem bst_alloc (h : BnS B M rk ρ w g a cap cs rkx wx) (o : Obj) (hk : Rks rkx rk2 wx.heap.size) (hw : Hw B M rk2 (wx.alloc o)) : BnS B M rk ρ w g a cap cs rk2 (wx.alloc o) := by
  have hb : Below wx.heap.size wx (wx.alloc o) := (Below.refl _ _).alloc (Nat.le_refl _) o
  exact h.on (h.1.below hw hb) hk (Shp.alloc _ _) (hb.mono h.1.base)

/-- An append to a row from B on. -/
theorem bst_append {M' : Nat} {row : Option Nat} (h : BnS B M rk ρ w g a cap cs rkx wx) (hk : Rks rkx rk2 wx.heap.size) (hw : Hw B M' rk2 wy) (hs : Shp wx wy) (hg : wx.grownBy wy row) (hr : ∀ k, row = some k → B ≤ k ∧ k ≠ g) : BnS B M' rk ρ w g a cap cs rk2 wy := by
  have hgl := h.1.lt
  exact h.on (h.1.onM hw (hg.block g hgl (fun e => (hr g e.symm).2 rfl)) (fun b hb => hg.block b (by have := h.1.base; omega) (fun e => by have := (hr b e.symm).1; omega))) hk hs ⟨hg.os, hg.tape, hg.output, hg.size, fun b hb => hg.block b (by have := h.1.base; omega) (fun e => by have := (hr b e.symm).1; omega)⟩

/-- The row of a slice is none of the cursor's. -/
theorem Sli.row {B M s : Nat} {T : TypeId} {p : Nat → Prop} {v : Value} (h : Sli B M T s p wx v) (hS : Hs B M rkx wx g a cap cs) (hT : Row3 T) : ∀ k, v.ownBlock = some k → B ≤ k ∧ k ≠ g := by
  obtain ⟨ad, n, c, rfl, _, _, _, ⟨rfl, _⟩ | ⟨b, cur, fr, rfl, hB, _, hb, _⟩⟩ := h
  · simp [Value.ownBlock]
  · intro k hk
    simp [Value.ownBlock] at hk
    subst hk
    exact ⟨hB, hS.ne_row hb hT⟩
end

/-- 'append(s, x)' of a byte. -/
theorem run_append_hb (w : World) (ty : TypeId) (B M : Nat) (rk : Nat → Nat) (a : Option Addr) (n cap : Nat) (hv : Sli B M 5 1 (fun _ => True) w (.slice a n cap)) (hH : Hw B M rk w) (hBw : B ≤ w.heap.size) (hn : n ≤ 1000000)
    (x : Int) (hx : Byt x) (ad : Addr) (c : Nat) (hnews : ∀ (j : Nat) (u : Value), [Value.int .u8 x][j]? = some u → w.cell? (ad.add j) = some u) :
    ∃ (g' cap' : Nat) (w' : World), (Builtin.append_ #[22, 22] ty #[.slice a n cap, .slice (some ad) 1 c]).run Try.prog w = .ok (.slice (some ⟨g', 0, none⟩) (n + 1) cap') w' ∧ Hw B M rk w' ∧
      (∀ M', n + 1 ≤ M' → Sli B M' 5 1 (fun _ => True) w' (.slice (some ⟨g', 0, none⟩) (n + 1) cap')) ∧ Shp w w' ∧ w.grownBy w' (Value.slice a n cap).ownBlock := by
  obtain ⟨i, hi, hz0, hz1, hz2⟩ := info_parts info5
  have hfr : ∀ (g : Nat) (cur : Array Value) (fr : Nat × Nat), B ≤ g → w.heap[g]? = some (.cells cur 5 fr) → fr.2 = 0 ∨ cur.size ≤ fr.1 := fun g cur fr hB hg => ((hH g hB cur _ fr hg).1 rfl).1
  obtain ⟨g', cap', w', hrun, k1, k2, hcase⟩ := run_append_sl w 22 ty 5 i (.int .u8 0) 1 1 Try.underlying22 hi hz0 hz1 hz2 (by omega) (by rfl) B M _ a n cap hv hfr hn ad 1 c [Value.int .u8 x] rfl hnews (fun u hu => by simp at hu; subst hu; rfl) (by omega) (by omega)
  rcases hcase with ⟨cur, fr, rfl, hB, hp, rfl, hg, hcz, hfit, rfl⟩ | ⟨rfl, old, hol, hold, rfl⟩
  · have hQ := ((hH g' hB cur _ _ hg).1 rfl).2
    have hf := ((hH g' hB cur _ _ hg).1 rfl).1
    have hsz : (cur.toList.take (n * 1) ++ [Value.int .u8 x] ++ cur.toList.drop (n * 1 + 1 * 1)).toArray.size = cur.size := by
      simp only [List.size_toArray, List.length_append, List.length_take, List.length_drop, Array.length_toList, List.length_cons, List.length_nil]
      omega
    have hS := Shp.setRow (new := (cur.toList.take (n * 1) ++ [Value.int .u8 x] ++ cur.toList.drop (n * 1 + 1 * 1)).toArray) hg hsz
    refine ⟨g', cap', _, hrun, hH.setRow hB hg hsz ⟨fun _ => ⟨by rw [hsz]; exact hf, fun j d e => ?_⟩, fun h => absurd h (by decide), fun h => absurd h (by decide)⟩, fun M' hM' => ⟨_, _, _, rfl, hM', k1, k2, .inr ⟨g', _, fr, rfl, hB, trivial, setRow_heap w g' cur _ _ _ hg, hsz.trans hcz⟩⟩, hS, grownBy_setRow _ _ _⟩
    simp only [List.getElem?_toArray] at e
    have hm := List.mem_of_getElem? e
    rcases List.mem_append.1 hm with hm | hm
    · rcases List.mem_append.1 hm with hm | hm
      · obtain ⟨q, hq⟩ := List.getElem?_of_mem (List.mem_of_mem_take hm)
        exact hQ q d (by rwa [Array.getElem?_toList] at hq)
      · simp at hm
        exact ⟨x, hx, hm⟩
    · obtain ⟨q, hq⟩ := List.getElem?_of_mem (List.mem_of_mem_drop hm)
      exact hQ q d (by rwa [Array.getElem?_toList] at hq)
  · have hQ : ∀ u ∈ old, ∃ x, Byt x ∧ u = .int .u8 x := by
      intro u hu
      rcases hold with ⟨_, rfl⟩ | ⟨g, cur, fr, _, hB, hp, hg, rfl⟩
      · simp at hu
      · obtain ⟨q, hq⟩ := List.getElem?_of_mem (List.mem_of_mem_take hu)
        exact ((hH g hB cur _ _ hg).1 rfl).2 q u (by rwa [Array.getElem?_toList] at hq)
    refine ⟨w.heap.size, cap', _, hrun, Hw.alloc_b (w := w.drew) (hH.heap rfl) _ (0, 0) (.inl rfl) fun j d e => ?_, fun M' hM' => ⟨_, _, _, rfl, hM', k1, k2, .inr ⟨w.heap.size, _, (0, 0), rfl, hBw, trivial, heap_alloc_new w.drew _, ?_⟩⟩, Shp.alloc (w := w.drew) _, grownBy_drewAlloc _ _ _⟩
    · rw [← Array.getElem?_toList] at e
      have e' : (old ++ [Value.int .u8 x] ++ (Builtin.zeroCells (Value.cells (.int .u8 0)) (cap' - (n + 1))).toList)[j]? = some d := by simpa using e
      have hm := List.mem_of_getElem? e'
      rcases List.mem_append.1 hm with hm | hm
      · rcases List.mem_append.1 hm with hm | hm
        · exact hQ d hm
        · simp at hm
          exact ⟨x, hx, hm⟩
      · obtain ⟨q, hq⟩ := List.getElem?_of_mem hm
        have := zeroCells_at hq
        have ez : (Value.cells (.int .u8 0)) = #[.int .u8 0] := by rfl
        rw [ez] at this
        simp [Nat.mod_one] at this
        exact ⟨0, by simp [Byt], this⟩
    · simp only [Array.size_append, List.size_toArray, size_zeroCells, hol]
      simp [Value.cells]
      omega
end Go.Proofs.Ytenfnbnhdmkhkaa
/-
  While a drawn value is bent: a place in it, and what is written there. No statement is proved here.
-/
namespace Go.Proofs.Ytenfnbnhdmkhkaa
open Go.RowKit
set_option linter.unusedVariables false
set_option linter.unusedSimpArgs false

/-- A place in the value: five cells of block b, from off on. -/
def PSt (B M : Nat) (rk : Nat → Nat) (ρ : Nat) (w : World) (g : Nat) (a : Option Addr) (cap : Nat) (cs : List Int) (rkx : Nat → Nat) (b off : Nat) (wx : World) : Prop :=
  BnS B M rk ρ w g a cap cs rkx wx ∧ B ≤ b ∧ ∃ (i : Nat) (cur : Array Value), off = i * 5 ∧ wx.heap[b]? = some (.cells cur 26 (0, 0)) ∧ i * 5 + 5 ≤ cur.size

section
variable {B M ρ : Nat} {rk rkx rk2 : Nat → Nat} {w wx wy wa wb : World} {g b off : Nat} {a : Option Addr} {cap : Nat} {cs : List Int}

theorem PSt.cus (h : PSt B M rk ρ w g a cap cs rkx b off wx) (hS : Hs B M rkx wy g a cap cs) (hc : Cus g wx wy) : PSt B M rk ρ w g a cap cs rkx b off wy := by
  obtain ⟨h1, h2, i, cur, h3, h4, h5⟩ := h
  have hl := (Array.getElem?_eq_some_iff.1 h4).1
  have hne := h1.1.ne_row h4 row3_v
  exact ⟨h1.cus hS hc, h2, i, cur, h3, (hc.1.block b hl (by simpa using hne)).trans h4, h5⟩

/-- The cells of a place. -/
theorem PSt.cells (h : PSt B M rk ρ w g a cap cs rkx b off wx) : ∃ (k n : Int) (a2 : Option Addr) (l2 p2 : Nat) (a3 : Option Addr) (l3 p3 : Nat) (a4 : Option Addr) (l4 p4 : Nat), (wx.cell? ⟨b, off, none⟩ = some (.int .i64 k) ∧ wx.cell? ⟨b, off + 1, none⟩ = some (.int .i64 n) ∧ wx.cell? ⟨b, off + 2, none⟩ = some (.slice a2 l2 p2) ∧ wx.cell? ⟨b, off + 3, none⟩ = some (.slice a3 l3 p3) ∧ wx.cell? ⟨b, off + 4, none⟩ = some (.slice a4 l4 p4)) ∧
    Grp B M rkx (rkx b) wx (.int .i64 k, .int .i64 n, .slice a2 l2 p2, .slice a3 l3 p3, .slice a4 l4 p4) ∧ ∀ j, wx.frozen? ⟨b, j, none⟩ = false := by
  obtain ⟨h1, h2, i, cur, h3, h4, h5⟩ := h
  obtain ⟨k, n, a2, l2, p2, a3, l3, p3, a4, l4, p4, h6, hG, hf, _⟩ := h1.1.1.grp_at h2 h4 h5 h3
  exact ⟨k, n, a2, l2, p2, a3, l3, p3, a4, l4, p4, h6, hG, hf⟩

/-- On to a part. -/
theorem PSt.down {k n : Int} {a2 : Option Addr} {l2 p2 : Nat} {a3 : Option Addr} {l3 p3 : Nat} {a4 : Option Addr} {l4 p4 j : Nat} (h : PSt B M rk ρ w g a cap cs rkx b off wx) (hG : Grp B M rkx (rkx b) wx (.int .i64 k, .int .i64 n, .slice a2 l2 p2, .slice a3 l3 p3, .slice a4 l4 p4)) (hj : j < l4) :
    ∃ c, a4 = some ⟨c, 0, none⟩ ∧ rkx c < rkx b ∧ PSt B M rk ρ w g a cap cs rkx c (j * 5) wx := by
  obtain ⟨ad, n', c', e, h1, h2, h3, ⟨rfl, rfl⟩ | ⟨q, cur, fr, rfl, hB, hp, hg, hc⟩⟩ := hG.2.2.2.2
  · simp only [Value.slice.injEq] at e; omega
  · simp only [Value.slice.injEq] at e
    obtain ⟨rfl, rfl, rfl⟩ := e
    obtain rfl : fr = (0, 0) := ((h.1.1.1 q hB cur _ fr hg).2.2 rfl).1
    exact ⟨q, rfl, hp, h.1, hB, j, cur, rfl, hg, by omega⟩

/-- One cell of the place is written. -/
theorem PSt.set {q f : Nat} {v : Value} (h : PSt B M rk ρ w g a cap cs rkx b off wx) (hq : q = off + f) (hf : f < 5)
    (hv : ∀ c0 c1 c2 c3 c4 : Value, Grp B M rkx (rkx b) wx (c0, c1, c2, c3, c4) → Grp B M rkx (rkx b) wx (if f = 0 then v else c0, if f = 1 then v else c1, if f = 2 then v else c2, if f = 3 then v else c3, if f = 4 then v else c4)) : BnS B M rk ρ w g a cap cs rkx (wx.setCell ⟨b, q, none⟩ v) := by
  obtain ⟨h1, h2, i, cur, h3, h4, h5⟩ := h
  subst hq h3
  exact bst_set (M' := M) h1 h2 h4 hf hv

theorem PSt.set_int {q f : Nat} {x : Int} (h : PSt B M rk ρ w g a cap cs rkx b off wx) (hq : q = off + f) (hf : f < 2) : BnS B M rk ρ w g a cap cs rkx (wx.setCell ⟨b, q, none⟩ (.int .i64 x)) := by
  refine h.set hq (by omega) fun c0 c1 c2 c3 c4 hG => ?_
  obtain rfl | rfl : f = 0 ∨ f = 1 := by omega
  · exact ⟨⟨x, rfl⟩, hG.2.1, hG.2.2.1, hG.2.2.2.1, hG.2.2.2.2⟩
  · exact ⟨hG.1, ⟨x, rfl⟩, hG.2.2.1, hG.2.2.2.1, hG.2.2.2.2⟩

theorem PSt.alloc (h : PSt B M rk ρ w g a cap cs rkx b off wx) (o : Obj) (hk : Rks rkx rk2 wx.heap.size) (hw : Hw B M rk2 (wx.alloc o)) : PSt B M rk ρ w g a cap cs rk2 b off (wx.alloc o) := by
  obtain ⟨h1, h2, i, cur, h3, h4, h5⟩ := h
  exact ⟨bst_alloc h1 o hk hw, h2, i, cur, h3, (Below.heap_alloc wx o b (Array.getElem?_eq_some_iff.1 h4).1).trans h4, h5⟩

theorem PSt.more {M' : Nat} (h : PSt B M rk ρ w g a cap cs rkx b off wx) (hM : M ≤ M') : PSt B M' rk ρ w g a cap cs rkx b off wx := ⟨h.1.more hM, h.2⟩

/-- The heap is the same, whatever was drawn. -/
theorem PSt.heap (h : PSt B M rk ρ w g a cap cs rkx b off wx) (e0 : wy.heap = wx.heap) (e1 : wy.os = wx.os) (e2 : wy.tape = wx.tape) (e3 : wy.output = wx.output) : PSt B M rk ρ w g a cap cs rkx b off wy := by
  obtain ⟨h1, h2, i, cur, h3, h4, h5⟩ := h
  exact ⟨h1.on (h1.1.heap e0) (Rks.refl _ _) (Shp.heap e0) ⟨e1, e2, e3, by rw [e0]; exact Nat.le_refl _, fun k _ => by rw [e0]⟩, h2, i, cur, h3, by rw [e0]; exact h4, h5⟩

/-- Behind an append to another row. -/
theorem PSt.append {row : Option Nat} (h : PSt B M rk ρ w g a cap cs rkx b off wx) (hk : Rks rkx rk2 wx.heap.size) (hw : Hw B M rk2 wy) (hs : Shp wx wy) (hg : wx.grownBy wy row) (hr : ∀ k, row = some k → B ≤ k ∧ k ≠ g) (hb : row ≠ some b) : PSt B M rk ρ w g a cap cs rk2 b off wy := by
  obtain ⟨h1, h2, i, cur, h3, h4, h5⟩ := h
  exact ⟨bst_append h1 hk hw hs hg hr, h2, i, cur, h3, (hg.block b (Array.getElem?_eq_some_iff.1 h4).1 (Ne.symm hb)).trans h4, h5⟩

theorem PSt.row_ne {M' s : Nat} {T : TypeId} {p : Nat → Prop} {v : Value} (h : PSt B M rk ρ w g a cap cs rkx b off wx) (hv : Sli B M' T s p wx v) (hT : T ≠ 26 ∨ ∀ c, p c → c ≠ b) : v.ownBlock ≠ some b := by
  obtain ⟨h1, h2, i, cur, h3, h4, h5⟩ := h
  obtain ⟨ad, n, c, rfl, _, _, _, ⟨rfl, _⟩ | ⟨q, cur', fr, rfl, hB, hp, hg, _⟩⟩ := hv
  · simp [Value.ownBlock]
  · simp only [Value.ownBlock, ne_eq, Option.some.injEq]
    rintro rfl
    rcases hT with hT | hT
    · rw [h4] at hg
      simp only [Option.some.injEq, Obj.cells.injEq] at hg
      exact hT hg.2.1.symm
    · exact hT _ hp rfl

/-- A byte is appended to the text of the place. -/
theorem PSt.app_s {k n : Int} {a2 : Option Addr} {l2 p2 : Nat} {a3 : Option Addr} {l3 p3 : Nat} {a4 : Option Addr} {l4 p4 : Nat} (h : PSt B M rk ρ w g a cap cs rkx b off wx) (hG : Grp B M rkx (rkx b) wx (.int .i64 k, .int .i64 n, .slice a2 l2 p2, .slice a3 l3 p3, .slice a4 l4 p4)) (hM : M ≤ 100000) (ty : TypeId) :
    ∃ (g' cap' : Nat) (wb : World), (Builtin.append_ #[22, 22] ty #[.slice a2 l2 p2, .slice (some ⟨wx.heap.size, 0, none⟩) 1 1]).run Try.prog (wx.alloc (.cells #[.int .u8 7] 5)) = .ok (.slice (some ⟨g', 0, none⟩) (l2 + 1) cap') wb ∧
      (∃ u, wb.cell? ⟨b, off + 2, none⟩ = some u) ∧ wb.frozen? ⟨b, off + 2, none⟩ = false ∧ BnS B (M + 1) rk ρ w g a cap cs rkx (wb.setCell ⟨b, off + 2, none⟩ (.slice (some ⟨g', 0, none⟩) (l2 + 1) cap')) := by
  have hA := h.alloc (.cells #[.int .u8 7] 5) (Rks.refl _ _) (h.1.1.1.alloc_b #[.int .u8 7] (0, 0) (.inl rfl) fun j c hc => by
    have hj : j = 0 := by have := (Array.getElem?_eq_some_iff.1 hc).1; simp at this; omega
    subst hj
    simp at hc
    exact ⟨7, by simp [Byt], hc.symm⟩)
  have hS := hG.2.2.1.shp (q := fun _ => True) row3_b (Shp.alloc wx (.cells #[.int .u8 7] 5)) fun _ _ h => h
  have hl2 : l2 ≤ M := by obtain ⟨_, _, _, e, h1, _⟩ := hG.2.2.1; simp only [Value.slice.injEq] at e; omega
  obtain ⟨g', cap', wb, hrun, hHb, hsl, hSb, hgb⟩ := run_append_hb _ ty B M rkx a2 l2 p2 hS hA.1.1.1 (by have := hA.1.1.base; exact this) (by omega) 7 (by simp [Byt]) ⟨wx.heap.size, 0, none⟩ 1 (by
    intro j u hu
    rw [Addr.add_lit, Nat.zero_add, cell_of_row _ wx.heap.size j #[.int .u8 7] 5 (0, 0) (heap_alloc_new wx _)]
    simpa using hu)
  have hB := (hA.append (Rks.refl _ _) hHb hSb hgb (hS.row hA.1.1 row3_b) (hA.row_ne hS (.inl (by decide)))).more (Nat.le_succ M)
  obtain ⟨_, _, _, _, _, _, _, _, _, _, _, h5, _, hf⟩ := hB.cells
  refine ⟨g', cap', wb, hrun, ⟨_, h5.2.2.1⟩, hf _, hB.set rfl (by omega) fun c0 c1 c2 c3 c4 hG => ⟨hG.1, hG.2.1, hsl (M + 1) (by omega), hG.2.2.2.1, hG.2.2.2.2⟩⟩

/-- A text is appended to the keys of the place. -/
theorem PSt.app_k {k n : Int} {a2 : Option Addr} {l2 p2 : Nat} {a3 : Option Addr} {l3 p3 : Nat} {a4 : Option Addr} {l4 p4 : Nat} (h : PSt B M rk ρ w g a cap cs rkx b off wx) (hG : Grp B M rkx (rkx b) wx (.int .i64 k, .int .i64 n, .slice a2 l2 p2, .slice a3 l3 p3, .slice a4 l4 p4)) (hM1 : 64 ≤ M) (hM : M ≤ 100000) (ty : TypeId) :
    ∃ (g' cap' : Nat) (wb : World), (Builtin.append_ #[23, 23] ty #[.slice a3 l3 p3, .slice (some ⟨wx.heap.size + 1, 0, none⟩) 1 1]).run Try.prog ((wx.alloc (.cells #[.int .u8 97] 5 (1, 1 + 1))).alloc (.cells #[.slice (some ⟨wx.heap.size, 0, none⟩) 1 1] 22)) = .ok (.slice (some ⟨g', 0, none⟩) (l3 + 1) cap') wb ∧
      (∃ u, wb.cell? ⟨b, off + 3, none⟩ = some u) ∧ wb.frozen? ⟨b, off + 3, none⟩ = false ∧ BnS B (M + 1) rk ρ w g a cap cs rkx (wb.setCell ⟨b, off + 3, none⟩ (.slice (some ⟨g', 0, none⟩) (l3 + 1) cap')) := by
  have hA := h.alloc (.cells #[.int .u8 97] 5 (1, 1 + 1)) (Rks.refl _ _) (h.1.1.1.alloc_b #[.int .u8 97] (1, 1 + 1) (.inr (by simp)) fun j c hc => by
    have hj : j = 0 := by have := (Array.getElem?_eq_some_iff.1 hc).1; simp at this; omega
    subst hj
    simp at hc
    exact ⟨97, by simp [Byt], hc.symm⟩)
  have hU : Sli B M 5 1 (fun _ => True) (wx.alloc (.cells #[.int .u8 97] 5 (1, 1 + 1))) (.slice (some ⟨wx.heap.size, 0, none⟩) 1 1) := ⟨_, 1, 1, rfl, by omega, by omega, by unfold maxLen; omega, .inr ⟨wx.heap.size, _, _, rfl, h.1.1.base, trivial, heap_alloc_new wx _, rfl⟩⟩
  have hA2 := hA.alloc (.cells #[.slice (some ⟨wx.heap.size, 0, none⟩) 1 1] 22) (Rks.refl _ _) (hA.1.1.1.alloc_k _ hU)
  have hSh := (Shp.alloc wx (.cells #[.int .u8 97] 5 (1, 1 + 1))).trans (Shp.alloc (wx.alloc (.cells #[.int .u8 97] 5 (1, 1 + 1))) (.cells #[.slice (some ⟨wx.heap.size, 0, none⟩) 1 1] 22))
  have hS := hG.2.2.2.1.shp (q := fun _ => True) row3_k hSh fun _ _ h => h
  have hl3 : l3 ≤ M := by obtain ⟨_, _, _, e, h1, _⟩ := hG.2.2.2.1; simp only [Value.slice.injEq] at e; omega
  obtain ⟨g', cap', wb, hrun, hHb, hsl, hSb, hgb⟩ := run_append_hk _ ty B B M rkx a3 l3 p3 hS hA2.1.1.1 (Nat.le_refl _) (by have := hA2.1.1.base; exact this) (by omega) (.slice (some ⟨wx.heap.size, 0, none⟩) 1 1) (hU.shp row3_b (Shp.alloc _ _) fun _ _ h => h) ⟨wx.heap.size + 1, 0, none⟩ 1 (by
    intro j u hu
    have hn := heap_alloc_new (wx.alloc (.cells #[.int .u8 97] 5 (1, 1 + 1))) (.cells #[.slice (some ⟨wx.heap.size, 0, none⟩) 1 1] 22)
    simp only [World.size_alloc] at hn
    rw [Addr.add_lit, Nat.zero_add, cell_of_row _ (wx.heap.size + 1) j _ _ _ hn]
    simpa using hu)
  have hB := (hA2.append (Rks.refl _ _) hHb hSb hgb (hS.row hA2.1.1 row3_k) (hA2.row_ne hS (.inl (by decide)))).more (Nat.le_succ M)
  obtain ⟨_, _, _, _, _, _, _, _, _, _, _, h5, _, hf⟩ := hB.cells
  refine ⟨g', cap', wb, hrun, ⟨_, h5.2.2.2.1⟩, hf _, hB.set rfl (by omega) fun c0 c1 c2 c3 c4 hG => ⟨hG.1, hG.2.1, hG.2.2.1, hsl (M + 1) (by omega), hG.2.2.2.2⟩⟩
end

theorem push_modify_hw {α : Type} (xs : Array α) (x : α) (f : α → α) : (xs.push x).modify xs.size f = xs.push (f x) := by
  apply Array.ext_getElem?
  intro i
  rw [Array.getElem?_modify]
  by_cases h : xs.size = i
  · subst h
    simp
  · rw [if_neg h]
    simp [Array.getElem?_push, Ne.symm h]

theorem conv_same_hw (cs : Array Value) (n : Nat) (hn : cs.size = n) (w : World) : (convert 22 22 (.slice (some ⟨w.heap.size, 0, none⟩) n n)).run Try.prog (w.alloc (.cells cs 5)) = .ok (.slice (some ⟨w.heap.size, 0, none⟩) n n) (w.alloc (.cells cs 5 (n, n + 1))) := by
  have hsh : (w.alloc (.cells cs 5)).shape? w.heap.size = some (5, n) := by
    unfold World.shape?
    rw [heap_alloc_new w (.cells cs 5)]
    rw [← hn]
  have hfr : (w.alloc (.cells cs 5)).freeze ⟨w.heap.size, n, none⟩ 1 = w.alloc (.cells cs 5 (n, n + 1)) := by
    unfold World.freeze
    rw [if_neg (by decide)]
    show ({ w.alloc (.cells cs 5) with heap := (w.heap.push (.cells cs 5)).modify w.heap.size _ } : World) = _
    rw [push_modify_hw]
    rfl
  simp [convert, run_underlying Try.underlying22, run_underlying Try.underlying5, markStringish, hsh, hfr]
end Go.Proofs.Ytenfnbnhdmkhkaa
