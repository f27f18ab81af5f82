/-
  Texts that a law leans on, one behind the other; no statement is proved here.
-/
import Derived.Test.YteafpgaefphkfaaGreatDoorPk44
/-
  While a drawn value is bent: a part more. No statement is proved here.
-/
namespace Go.Proofs.YteafpgaefphkfaaGreatDoor
open Go.RowKit
set_option linter.unusedVariables false
set_option linter.unusedSimpArgs false

section
variable {B M ρ : Nat} {rk rkx rk2 : Nat → Nat} {w wx wy wa wb : World} {g b off : Nat} {a : Option Addr} {cap : Nat} {cs : List Int}

/-- A cell of a row of values is written with what is good anywhere. -/
theorem bst_one {g' i f : Nat} {cur : Array Value} {v : Value} (h : BnS B M rk ρ w g a cap cs rkx wx) (hB : B ≤ g') (hg : wx.heap[g']? = some (.cells cur 29 (0, 0))) (hf : f < 5) (hv : (f < 2 ∧ ∃ x, v = .int .i64 x) ∨ (2 ≤ f ∧ v = .slice none 0 0)) :
    BnS B M rk ρ w g a cap cs rkx (wx.setCell ⟨g', i * 5 + f, none⟩ v) ∧ ∃ cur' : Array Value, (wx.setCell ⟨g', i * 5 + f, none⟩ v).heap[g']? = some (.cells cur' 29 (0, 0)) ∧ cur'.size = cur.size := by
  refine ⟨bst_set (M' := M) h hB hg hf fun c0 c1 c2 c3 c4 hG => ?_, _, heap_setCell_fr wx g' (i * 5 + f) cur _ _ v hg, by simp⟩
  rcases hv with ⟨hf2, x, rfl⟩ | ⟨hf2, rfl⟩
  · obtain rfl | rfl : f = 0 ∨ f = 1 := by omega
    · exact ⟨⟨x, rfl⟩, hG.2.1, hG.2.2.1, hG.2.2.2.1, hG.2.2.2.2⟩
    · exact ⟨hG.1, ⟨x, rfl⟩, hG.2.2.1, hG.2.2.2.1, hG.2.2.2.2⟩
  · obtain rfl | rfl | rfl : f = 2 ∨ f = 3 ∨ f = 4 := by omega
    · exact ⟨hG.1, hG.2.1, sli_nil _ _ _ _ _ _, hG.2.2.2.1, hG.2.2.2.2⟩
    · exact ⟨hG.1, hG.2.1, hG.2.2.1, sli_nil _ _ _ _ _ _, hG.2.2.2.2⟩
    · exact ⟨hG.1, hG.2.1, hG.2.2.1, hG.2.2.2.1, sli_nil _ _ _ _ _ _⟩

theorem bst_zero {g' i : Nat} {cur : Array Value} (h : BnS B M rk ρ w g a cap cs rkx wx) (hB : B ≤ g') (hg : wx.heap[g']? = some (.cells cur 29 (0, 0))) :
    BnS B M rk ρ w g a cap cs rkx (set5 wx g' (i * 5) (.int .i64 0) (.int .i64 0) (.slice none 0 0) (.slice none 0 0) (.slice none 0 0)) := by
  obtain ⟨h0, c0, g0, _⟩ := bst_one (i := i) (f := 0) (v := .int .i64 0) h hB hg (by omega) (.inl ⟨by omega, _, rfl⟩)
  obtain ⟨h1, c1, g1, _⟩ := bst_one (i := i) (f := 1) (v := .int .i64 0) h0 hB g0 (by omega) (.inl ⟨by omega, _, rfl⟩)
  obtain ⟨h2, c2, g2, _⟩ := bst_one (i := i) (f := 2) (v := .slice none 0 0) h1 hB g1 (by omega) (.inr ⟨by omega, rfl⟩)
  obtain ⟨h3, c3, g3, _⟩ := bst_one (i := i) (f := 3) (v := .slice none 0 0) h2 hB g2 (by omega) (.inr ⟨by omega, rfl⟩)
  obtain ⟨h4, _, _, _⟩ := bst_one (i := i) (f := 4) (v := .slice none 0 0) h3 hB g3 (by omega) (.inr ⟨by omega, rfl⟩)
  exact h4

/-- What an append of a value leaves: the new row, and what may be written. -/
def AppV (B M : Nat) (rk : Nat → Nat) (ρ : Nat) (w : World) (g : Nat) (a : Option Addr) (cap : Nat) (cs : List Int) (b off n g' cap' : Nat) (wb : World) : Prop :=
  ∃ rk2, g' ≠ b ∧ PSt B M rk ρ w g a cap cs rk2 b off wb ∧ B ≤ g' ∧ (∃ cur : Array Value, wb.heap[g']? = some (.cells cur 29 (0, 0)) ∧ n * 5 + 5 ≤ cur.size) ∧ Sli B M 29 5 (fun q => rk2 q < rk2 b) wb (.slice (some ⟨g', 0, none⟩) (n + 1) cap')

theorem PSt.app_v {k n : Int} {a2 : Option Addr} {l2 p2 : Nat} {a3 : Option Addr} {l3 p3 : Nat} {a4 : Option Addr} {l4 p4 : Nat} (h : PSt B M rk ρ w g a cap cs rkx b off wx) (hG : Grp B M rkx (rkx b) wx (.int .i64 k, .int .i64 n, .slice a2 l2 p2, .slice a3 l3 p3, .slice a4 l4 p4)) (hr : 1 ≤ rkx b) (hM : M ≤ 100000) (hwa : Alw wx (.cells #[.int .i64 0, .int .i64 0, .slice none 0 0, .slice none 0 0, .slice none 0 0] 29) wa) (ty : TypeId) :
    ∃ (g' cap' : Nat) (wb : World), (Builtin.append_ #[27, 27] ty #[.slice a4 l4 p4, .slice (some ⟨wx.heap.size, 0, none⟩) 1 1]).run Tryz.prog wa = .ok (.slice (some ⟨g', 0, none⟩) (l4 + 1) cap') wb ∧ AppV B (M + 1) rk ρ w g a cap cs b off l4 g' cap' wb := by
  obtain ⟨e0, e1, e2, e3⟩ := hwa
  have hbl : b < wx.heap.size := by obtain ⟨_, _, _, _, _, h4, _⟩ := h; exact (Array.getElem?_eq_some_iff.1 h4).1
  have hRa : Rks rkx (rkUp rkx wx.heap.size 0) wx.heap.size := rkUp_old _ _ _
  have hA := (h.alloc (.cells #[.int .i64 0, .int .i64 0, .slice none 0 0, .slice none 0 0, .slice none 0 0] 29) hRa (h.1.1.1.alloc_v 0 _ _ _ _ _ (grp_leaf _ _ _ _ _ _ _))).heap e0 e1 e2 e3
  have hSa : Shp wx wa := (Shp.alloc wx _).trans (Shp.heap e0)
  have hza : wx.heap.size < wa.heap.size := by rw [e0]; simp
  generalize rkUp rkx wx.heap.size 0 = rka at *
  have hrb : rka b = rkx b := hRa b hbl
  have hS : Sli B M 29 5 (fun q => 0 ≤ rka q ∧ rka q < rka b) wa (.slice a4 l4 p4) := hG.2.2.2.2.shp row3_v hSa fun q hq h => ⟨Nat.zero_le _, by rw [hRa q hq, hrb]; exact h⟩
  have hl4 : l4 ≤ M := by obtain ⟨_, _, _, e, h1, _⟩ := hG.2.2.2.2; simp only [Value.slice.injEq] at e; omega
  obtain ⟨g', cap', wb, rk2, hrun, hHb, hR2, hsl, hSb, hgb⟩ := run_append_hv wa ty B B M rka 0 (rka b) a4 l4 p4 hS hA.1.1.1 (Nat.le_refl _) hA.1.1.base (by omega) (.int .i64 0) (.int .i64 0) (.slice none 0 0) (.slice none 0 0) (.slice none 0 0) (grp_leaf _ _ _ _ _ _ _) (by omega) ⟨wx.heap.size, 0, none⟩ 1 (news_five e0)
  have hB := (hA.append hR2 hHb hSb hgb (hS.row hA.1.1 row3_v) (hA.row_ne hS (.inr fun c hc e => by subst e; omega))).more (Nat.le_succ M)
  have hnew := hsl (M + 1) (by omega)
  have hr2 : rk2 b = rka b := hR2 b (by omega)
  obtain ⟨_, _, _, e, _, _, _, ⟨e', _⟩ | ⟨q, cur, fr, e', hBq, hp, hq, hc⟩⟩ := id hnew
  · simp only [Value.slice.injEq] at e; rw [← e.1] at e'; simp at e'
  · simp only [Value.slice.injEq] at e
    obtain ⟨rfl, rfl, rfl⟩ := e
    simp only [Option.some.injEq, Addr.mk.injEq, and_true] at e'
    subst e'
    obtain rfl : fr = (0, 0) := ((hHb g' hBq cur _ fr hq).2.2 rfl).1
    have hcap : l4 + 1 ≤ cap' := by obtain ⟨_, _, _, e, _, h2, _⟩ := hnew; simp only [Value.slice.injEq] at e; omega
    exact ⟨g', cap', wb, hrun, rk2, by rintro rfl; omega, hB, hBq, ⟨cur, hq, by omega⟩, hnew.base (Nat.le_refl _) fun q h => by rw [hr2]; exact h.2⟩

/-- .. the new place first, then the row; or the other way round. -/
theorem AppV.both {n g' cap' : Nat} (h : AppV B M rk ρ w g a cap cs b off n g' cap' wb) :
    (∃ rk2, BnS B M rk ρ w g a cap cs rk2 ((set5 wb g' (n * 5) (.int .i64 0) (.int .i64 0) (.slice none 0 0) (.slice none 0 0) (.slice none 0 0)).setCell ⟨b, off + 4, none⟩ (.slice (some ⟨g', 0, none⟩) (n + 1) cap'))) ∧
    (∃ rk2, BnS B M rk ρ w g a cap cs rk2 (set5 (wb.setCell ⟨b, off + 4, none⟩ (.slice (some ⟨g', 0, none⟩) (n + 1) cap')) g' (n * 5) (.int .i64 0) (.int .i64 0) (.slice none 0 0) (.slice none 0 0) (.slice none 0 0))) ∧
    g' ≠ b ∧ (∀ j, j < 5 → ∃ u, wb.cell? ⟨g', n * 5 + j, none⟩ = some u) ∧ (∀ j, wb.frozen? ⟨g', j, none⟩ = false) ∧ (∃ u, wb.cell? ⟨b, off + 4, none⟩ = some u) ∧ (∀ j, wb.frozen? ⟨b, j, none⟩ = false) := by
  obtain ⟨rk2, hne, hP, hB, ⟨cur, hg, hc⟩, hS⟩ := h
  have hPc := hP.cells
  obtain ⟨_, _, _, _, _, _, _, _, _, _, _, h5, _, hf⟩ := hPc
  have hs5 : Shp wb (set5 wb g' (n * 5) (.int .i64 0) (.int .i64 0) (.slice none 0 0) (.slice none 0 0) (.slice none 0 0)) := ((((Shp.setCell _ _ _ _).trans (Shp.setCell _ _ _ _)).trans (Shp.setCell _ _ _ _)).trans (Shp.setCell _ _ _ _)).trans (Shp.setCell _ _ _ _)
  have hz := bst_zero (i := n) hP.1 hB hg
  have hPz : PSt B M rk ρ w g a cap cs rk2 b off (set5 wb g' (n * 5) (.int .i64 0) (.int .i64 0) (.slice none 0 0) (.slice none 0 0) (.slice none 0 0)) := by
    obtain ⟨h1, h2, i, cur', h3, h4, h6⟩ := hP
    exact ⟨hz, h2, i, cur', h3, (set5_other wb g' _ _ _ _ _ _ b (Ne.symm hne)).trans h4, h6⟩
  refine ⟨⟨rk2, hPz.set rfl (by omega) fun c0 c1 c2 c3 c4 hG => ⟨hG.1, hG.2.1, hG.2.2.1, hG.2.2.2.1, hS.shp row3_v hs5 fun _ _ h => h⟩⟩, ⟨rk2, ?_⟩, hne, fun j hj => ?_, fun j => frozen_of_row wb g' j cur _ hg, ⟨_, h5.2.2.2.2⟩, hf⟩
  · have hl := hP.set (f := 4) (q := off + 4) rfl (by omega) fun c0 c1 c2 c3 c4 hG => ⟨hG.1, hG.2.1, hG.2.2.1, hG.2.2.2.1, hS⟩
    exact bst_zero hl hB ((Below.heap_setCell wb ⟨b, off + 4, none⟩ _ g' hne).trans hg)
  · rw [cell_of_row wb g' _ cur _ (0, 0) hg]
    exact ⟨_, Array.getElem?_eq_getElem (by omega)⟩

/-- The value as the one part of a list. -/
theorem bst_wrap {d0 d1 d2 d3 d4 : Value} {j : Nat} (h : BnS B M rk ρ w g a cap cs rkx wx) (hBw : B ≤ w.heap.size) (hV : wx.heap[w.heap.size]? = some (.cells #[d0, d1, d2, d3, d4] 29 (0, 0))) (hj : j ≤ 6) (hM : 64 ≤ M) (hG : Grp B M rkx (ρ + 1 + j) wx (d0, d1, d2, d3, d4)) :
    ∃ rk2, BnS B M rk ρ w g a cap cs rk2 (set5 (wx.alloc (.cells #[d0, d1, d2, d3, d4] 29)) w.heap.size 0 (.int .i64 4) (.int .i64 0) (.slice none 0 0) (.slice none 0 0) (.slice (some ⟨wx.heap.size, 0, none⟩) 1 1)) ∧
      Grp B M rk2 (ρ + 1 + (j + 1)) (set5 (wx.alloc (.cells #[d0, d1, d2, d3, d4] 29)) w.heap.size 0 (.int .i64 4) (.int .i64 0) (.slice none 0 0) (.slice none 0 0) (.slice (some ⟨wx.heap.size, 0, none⟩) 1 1)) (.int .i64 4, .int .i64 0, .slice none 0 0, .slice none 0 0, .slice (some ⟨wx.heap.size, 0, none⟩) 1 1) ∧
      (set5 (wx.alloc (.cells #[d0, d1, d2, d3, d4] 29)) w.heap.size 0 (.int .i64 4) (.int .i64 0) (.slice none 0 0) (.slice none 0 0) (.slice (some ⟨wx.heap.size, 0, none⟩) 1 1)).heap[w.heap.size]? = some (.cells #[.int .i64 4, .int .i64 0, .slice none 0 0, .slice none 0 0, .slice (some ⟨wx.heap.size, 0, none⟩) 1 1] 29 (0, 0)) := by
  have hVl := (Array.getElem?_eq_some_iff.1 hV).1
  have hRa : Rks rkx (rkUp rkx wx.heap.size (ρ + 1 + j)) wx.heap.size := rkUp_old _ _ _
  have hat := rkUp_at rkx wx.heap.size (ρ + 1 + j)
  have hA := bst_alloc h (.cells #[d0, d1, d2, d3, d4] 29) hRa (h.1.1.alloc_v _ _ _ _ _ _ hG)
  generalize rkUp rkx wx.heap.size (ρ + 1 + j) = rk2 at *
  have hVa := (Below.heap_alloc wx (.cells #[d0, d1, d2, d3, d4] 29) w.heap.size hVl).trans hV
  have hGa : Grp B M rk2 (ρ + 1 + (j + 1)) (wx.alloc (.cells #[d0, d1, d2, d3, d4] 29)) (.int .i64 4, .int .i64 0, .slice none 0 0, .slice none 0 0, .slice (some ⟨wx.heap.size, 0, none⟩) 1 1) :=
    ⟨⟨4, rfl⟩, ⟨0, rfl⟩, sli_nil _ _ _ _ _ _, sli_nil _ _ _ _ _ _, _, 1, 1, rfl, by omega, Nat.le_refl _, by unfold maxLen; omega, .inr ⟨wx.heap.size, _, (0, 0), rfl, h.1.base, by show rk2 wx.heap.size < _; omega, heap_alloc_new wx _, rfl⟩⟩
  have hkV : rk2 w.heap.size = ρ + 8 := hA.2.2.2.2.2.2.1
  obtain ⟨k1, k2⟩ := hA.1.1.set5 hVa (by rw [hkV]; exact hGa.shp (Shp.refl _) (Rks.refl _ _) (by omega))
  have hgV := hA.1.ne_row hVa row3_v
  have h9 := set5_heap (j := 0) (.int .i64 4) (.int .i64 0) (.slice none 0 0) (.slice none 0 0) (.slice (some ⟨wx.heap.size, 0, none⟩) 1 1) hVa
  rw [show arrSet5 #[d0, d1, d2, d3, d4] 0 (.int .i64 4) (.int .i64 0) (.slice none 0 0) (.slice none 0 0) (.slice (some ⟨wx.heap.size, 0, none⟩) 1 1) = #[.int .i64 4, .int .i64 0, .slice none 0 0, .slice none 0 0, .slice (some ⟨wx.heap.size, 0, none⟩) 1 1] from rfl] at h9
  have hoth : ∀ q, q ≠ w.heap.size → (set5 (wx.alloc (.cells #[d0, d1, d2, d3, d4] 29)) w.heap.size 0 (.int .i64 4) (.int .i64 0) (.slice none 0 0) (.slice none 0 0) (.slice (some ⟨wx.heap.size, 0, none⟩) 1 1)).heap[q]? = (wx.alloc (.cells #[d0, d1, d2, d3, d4] 29)).heap[q]? := fun q hq => set5_other (wx.alloc (.cells #[d0, d1, d2, d3, d4] 29)) w.heap.size 0 _ _ _ _ _ q hq
  have h8 := set5_grown (wx.alloc (.cells #[d0, d1, d2, d3, d4] 29)) w.heap.size 0 (.int .i64 4) (.int .i64 0) (.slice none 0 0) (.slice none 0 0) (.slice (some ⟨wx.heap.size, 0, none⟩) 1 1)
  generalize set5 (wx.alloc (.cells #[d0, d1, d2, d3, d4] 29)) w.heap.size 0 (.int .i64 4) (.int .i64 0) (.slice none 0 0) (.slice none 0 0) (.slice (some ⟨wx.heap.size, 0, none⟩) 1 1) = wf at *
  exact ⟨rk2, hA.on (hA.1.on k1 (hoth g (Ne.symm hgV)) (fun q hq => hoth q (by omega))) (Rks.refl _ _) k2 ⟨h8.os, h8.tape, h8.output, h8.size, fun q hq => hoth q (by omega)⟩, hGa.shp k2 (Rks.refl _ _) (Nat.le_refl _), h9⟩
end
end Go.Proofs.YteafpgaefphkfaaGreatDoor
