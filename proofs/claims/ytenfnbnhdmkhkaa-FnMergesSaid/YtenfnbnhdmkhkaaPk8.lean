/-
  Texts that a law leans on, one behind the other; no statement is proved here.
-/
import Derived.Test.YtenfnbnhdmkhkaaPk7
import Derived.OwnWalk
import Derived.Deep.RegionHeld3
/-
  While a drawn value is bent: a part more. No statement is proved here.
-/
namespace Go.Proofs.Ytenfnbnhdmkhkaa
open Go.RowKit
set_option linter.unusedVariables false
set_option linter.unusedSimpArgs false

section
variable {B M ρ : Nat} {rk rkx rk2 : Nat → Nat} {w wx wy wa wb : World} {g b off : Nat} {a : Option Addr} {cap : Nat} {cs : List Int}

/-- A cell of a row of values is written with what is good anywhere. -/
theorem bst_one {g' i f : Nat} {cur : Array Value} {v : Value} (h : BnS B M rk ρ w g a cap cs rkx wx) (hB : B ≤ g') (hg : wx.heap[g']? = some (.cells cur 26 (0, 0))) (hf : f < 5) (hv : (f < 2 ∧ ∃ x, v = .int .i64 x) ∨ (2 ≤ f ∧ v = .slice none 0 0)) :
    BnS B M rk ρ w g a cap cs rkx (wx.setCell ⟨g', i * 5 + f, none⟩ v) ∧ ∃ cur' : Array Value, (wx.setCell ⟨g', i * 5 + f, none⟩ v).heap[g']? = some (.cells cur' 26 (0, 0)) ∧ cur'.size = cur.size := by
  refine ⟨bst_set (M' := M) h hB hg hf fun c0 c1 c2 c3 c4 hG => ?_, _, heap_setCell_fr wx g' (i * 5 + f) cur _ _ v hg, by simp⟩
  rcases hv with ⟨hf2, x, rfl⟩ | ⟨hf2, rfl⟩
  · obtain rfl | rfl : f = 0 ∨ f = 1 := by omega
    · exact ⟨⟨x, rfl⟩, hG.2.1, hG.2.2.1, hG.2.2.2.1, hG.2.2.2.2⟩
    · exact ⟨hG.1, ⟨x, rfl⟩, hG.2.2.1, hG.2.2.2.1, hG.2.2.2.2⟩
  · obtain rfl | rfl | rfl : f = 2 ∨ f = 3 ∨ f = 4 := by omega
    · exact ⟨hG.1, hG.2.1, sli_nil _ _ _ _ _ _, hG.2.2.2.1, hG.2.2.2.2⟩
    · exact ⟨hG.1, hG.2.1, hG.2.2.1, sli_nil _ _ _ _ _ _, hG.2.2.2.2⟩
    · exact ⟨hG.1, hG.2.1, hG.2.2.1, hG.2.2.2.1, sli_nil _ _ _ _ _ _⟩

theorem bst_zero {g' i : Nat} {cur : Array Value} (h : BnS B M rk ρ w g a cap cs rkx wx) (hB : B ≤ g') (hg : wx.heap[g']? = some (.cells cur 26 (0, 0))) :
    BnS B M rk ρ w g a cap cs rkx (set5 wx g' (i * 5) (.int .i64 0) (.int .i64 0) (.slice none 0 0) (.slice none 0 0) (.slice none 0 0)) := by
  obtain ⟨h0, c0, g0, _⟩ := bst_one (i := i) (f := 0) (v := .int .i64 0) h hB hg (by omega) (.inl ⟨by omega, _, rfl⟩)
  obtain ⟨h1, c1, g1, _⟩ := bst_one (i := i) (f := 1) (v := .int .i64 0) h0 hB g0 (by omega) (.inl ⟨by omega, _, rfl⟩)
  obtain ⟨h2, c2, g2, _⟩ := bst_one (i := i) (f := 2) (v := .slice none 0 0) h1 hB g1 (by omega) (.inr ⟨by omega, rfl⟩)
  obtain ⟨h3, c3, g3, _⟩ := bst_one (i := i) (f := 3) (v := .slice none 0 0) h2 hB g2 (by omega) (.inr ⟨by omega, rfl⟩)
  obtain ⟨h4, _, _, _⟩ := bst_one (i := i) (f := 4) (v := .slice none 0 0) h3 hB g3 (by omega) (.inr ⟨by omega, rfl⟩)
  exact h4

/-- What an append of a value leaves: the new row, and what may be written. -/
def AppV (B M : Nat) (rk : Nat → Nat) (ρ : Nat) (w : World) (g : Nat) (a : Option Addr) (cap : Nat) (cs : List Int) (b off n g' cap' : Nat) (wb : World) : Prop :=
  ∃ rk2, g' ≠ b ∧ PSt B M rk ρ w g a cap cs rk2 b off wb ∧ B ≤ g' ∧ (∃ cur : Array Value, wb.heap[g']? = some (.cells cur 26 (0, 0)) ∧ n * 5 + 5 ≤ cur.size) ∧ Sli B M 26 5 (fun q => rk2 q < rk2 b) wb (.slice (some ⟨g', 0, none⟩) (n + 1) cap')

theorem PSt.app_v {k n : Int} {a2 : Option Addr} {l2 p2 : Nat} {a3 : Option Addr} {l3 p3 : Nat} {a4 : Option Addr} {l4 p4 : Nat} (h : PSt B M rk ρ w g a cap cs rkx b off wx) (hG : Grp B M rkx (rkx b) wx (.int .i64 k, .int .i64 n, .slice a2 l2 p2, .slice a3 l3 p3, .slice a4 l4 p4)) (hr : 1 ≤ rkx b) (hM : M ≤ 100000) (hwa : Alw wx (.cells #[.int .i64 0, .int .i64 0, .slice none 0 0, .slice none 0 0, .slice none 0 0] 26) wa) (ty : TypeId) :
    ∃ (g' cap' : Nat) (wb : World), (Builtin.append_ #[24, 24] ty #[.slice a4 l4 p4, .slice (some ⟨wx.heap.size, 0, none⟩) 1 1]).run Try.prog wa = .ok (.slice (some ⟨g', 0, none⟩) (l4 + 1) cap') wb ∧ AppV B (M + 1) rk ρ w g a cap cs b off l4 g' cap' wb := by
  obtain ⟨e0, e1, e2, e3⟩ := hwa
  have hbl : b < wx.heap.size := by obtain ⟨_, _, _, _, _, h4, _⟩ := h; exact (Array.getElem?_eq_some_iff.1 h4).1
  have hRa : Rks rkx (rkUp rkx wx.heap.size 0) wx.heap.size := rkUp_old _ _ _
  have hA := (h.alloc (.cells #[.int .i64 0, .int .i64 0, .slice none 0 0, .slice none 0 0, .slice none 0 0] 26) hRa (h.1.1.1.alloc_v 0 _ _ _ _ _ (grp_leaf _ _ _ _ _ _ _))).heap e0 e1 e2 e3
  have hSa : Shp wx wa := (Shp.alloc wx _).trans (Shp.heap e0)
  have hza : wx.heap.size < wa.heap.size := by rw [e0]; simp
  generalize rkUp rkx wx.heap.size 0 = rka at *
  have hrb : rka b = rkx b := hRa b hbl
  have hS : Sli B M 26 5 (fun q => 0 ≤ rka q ∧ rka q < rka b) wa (.slice a4 l4 p4) := hG.2.2.2.2.shp row3_v hSa fun q hq h => ⟨Nat.zero_le _, by rw [hRa q hq, hrb]; exact h⟩
  have hl4 : l4 ≤ M := by obtain ⟨_, _, _, e, h1, _⟩ := hG.2.2.2.2; simp only [Value.slice.injEq] at e; omega
  obtain ⟨g', cap', wb, rk2, hrun, hHb, hR2, hsl, hSb, hgb⟩ := run_append_hv wa ty B B M rka 0 (rka b) a4 l4 p4 hS hA.1.1.1 (Nat.le_refl _) hA.1.1.base (by omega) (.int .i64 0) (.int .i64 0) (.slice none 0 0) (.slice none 0 0) (.slice none 0 0) (grp_leaf _ _ _ _ _ _ _) (by omega) ⟨wx.heap.size, 0, none⟩ 1 (news_five e0)
  have hB := (hA.append hR2 hHb hSb hgb (hS.row hA.1.1 row3_v) (hA.row_ne hS (.inr fun c hc e => by subst e; omega))).more (Nat.le_succ M)
  have hnew := hsl (M + 1) (by omega)
  have hr2 : rk2 b = rka b := hR2 b (by omega)
  obtain ⟨_, _, _, e, _, _, _, ⟨e', _⟩ | ⟨q, cur, fr, e', hBq, hp, hq, hc⟩⟩ := id hnew
  · simp only [Value.slice.injEq] at e; rw [← e.1] at e'; simp at e'
  · simp only [Value.slice.injEq] at e
    obtain ⟨rfl, rfl, rfl⟩ := e
    simp only [Option.some.injEq, Addr.mk.injEq, and_true] at e'
    subst e'
    obtain rfl : fr = (0, 0) := ((hHb g' hBq cur _ fr hq).2.2 rfl).1
    have hcap : l4 + 1 ≤ cap' := by obtain ⟨_, _, _, e, _, h2, _⟩ := hnew; simp only [Value.slice.injEq] at e; omega
    exact ⟨g', cap', wb, hrun, rk2, by rintro rfl; omega, hB, hBq, ⟨cur, hq, by omega⟩, hnew.base (Nat.le_refl _) fun q h => by rw [hr2]; exact h.2⟩

/-- .. the new place first, then the row; or the other way round. -/
theorem AppV.both {n g' cap' : Nat} (h : AppV B M rk ρ w g a cap cs b off n g' cap' wb) :
    (∃ rk2, BnS B M rk ρ w g a cap cs rk2 ((set5 wb g' (n * 5) (.int .i64 0) (.int .i64 0) (.slice none 0 0) (.slice none 0 0) (.slice none 0 0)).setCell ⟨b, off + 4, none⟩ (.slice (some ⟨g', 0, none⟩) (n + 1) cap'))) ∧
    (∃ rk2, BnS B M rk ρ w g a cap cs rk2 (set5 (wb.setCell ⟨b, off + 4, none⟩ (.slice (some ⟨g', 0, none⟩) (n + 1) cap')) g' (n * 5) (.int .i64 0) (.int .i64 0) (.slice none 0 0) (.slice none 0 0) (.slice none 0 0))) ∧
    g' ≠ b ∧ (∀ j, j < 5 → ∃ u, wb.cell? ⟨g', n * 5 + j, none⟩ = some u) ∧ (∀ j, wb.frozen? ⟨g', j, none⟩ = false) ∧ (∃ u, wb.cell? ⟨b, off + 4, none⟩ = some u) ∧ (∀ j, wb.frozen? ⟨b, j, none⟩ = false) := by
  obtain ⟨rk2, hne, hP, hB, ⟨cur, hg, hc⟩, hS⟩ := h
  have hPc := hP.cells
  obtain ⟨_, _, _, _, _, _, _, _, _, _, _, h5, _, hf⟩ := hPc
  have hs5 : Shp wb (set5 wb g' (n * 5) (.int .i64 0) (.int .i64 0) (.slice none 0 0) (.slice none 0 0) (.slice none 0 0)) := ((((Shp.setCell _ _ _ _).trans (Shp.setCell _ _ _ _)).trans (Shp.setCell _ _ _ _)).trans (Shp.setCell _ _ _ _)).trans (Shp.setCell _ _ _ _)
  have hz := bst_zero (i := n) hP.1 hB hg
  have hPz : PSt B M rk ρ w g a cap cs rk2 b off (set5 wb g' (n * 5) (.int .i64 0) (.int .i64 0) (.slice none 0 0) (.slice none 0 0) (.slice none 0 0)) := by
    obtain ⟨h1, h2, i, cur', h3, h4, h6⟩ := hP
    exact ⟨hz, h2, i, cur', h3, (set5_other wb g' _ _ _ _ _ _ b (Ne.symm hne)).trans h4, h6⟩
  refine ⟨⟨rk2, hPz.set rfl (by omega) fun c0 c1 c2 c3 c4 hG => ⟨hG.1, hG.2.1, hG.2.2.1, hG.2.2.2.1, hS.shp row3_v hs5 fun _ _ h => h⟩⟩, ⟨rk2, ?_⟩, hne, fun j hj => ?_, fun j => frozen_of_row wb g' j cur _ hg, ⟨_, h5.2.2.2.2⟩, hf⟩
  · have hl := hP.set (f := 4) (q := off + 4) rfl (by omega) fun c0 c1 c2 c3 c4 hG => ⟨hG.1, hG.2.1, hG.2.2.1, hG.2.2.2.1, hS⟩
    exact bst_zero hl hB ((Below.heap_setCell wb ⟨b, off + 4, none⟩ _ g' hne).trans hg)
  · rw [cell_of_row wb g' _ cur _ (0, 0) hg]
    exact ⟨_, Array.getElem?_eq_getElem (by omega)⟩

/-- The value as the one part of a list. -/
theorem bst_wrap {d0 d1 d2 d3 d4 : Value} {j : Nat} (h : BnS B M rk ρ w g a cap cs rkx wx) (hBw : B ≤ w.heap.size) (hV : wx.heap[w.heap.size]? = some (.cells #[d0, d1, d2, d3, d4] 26 (0, 0))) (hj : j ≤ 6) (hM : 64 ≤ M) (hG : Grp B M rkx (ρ + 1 + j) wx (d0, d1, d2, d3, d4)) :
    ∃ rk2, BnS B M rk ρ w g a cap cs rk2 (set5 (wx.alloc (.cells #[d0, d1, d2, d3, d4] 26)) w.heap.size 0 (.int .i64 4) (.int .i64 0) (.slice none 0 0) (.slice none 0 0) (.slice (some ⟨wx.heap.size, 0, none⟩) 1 1)) ∧
      Grp B M rk2 (ρ + 1 + (j + 1)) (set5 (wx.alloc (.cells #[d0, d1, d2, d3, d4] 26)) w.heap.size 0 (.int .i64 4) (.int .i64 0) (.slice none 0 0) (.slice none 0 0) (.slice (some ⟨wx.heap.size, 0, none⟩) 1 1)) (.int .i64 4, .int .i64 0, .slice none 0 0, .slice none 0 0, .slice (some ⟨wx.heap.size, 0, none⟩) 1 1) ∧
      (set5 (wx.alloc (.cells #[d0, d1, d2, d3, d4] 26)) w.heap.size 0 (.int .i64 4) (.int .i64 0) (.slice none 0 0) (.slice none 0 0) (.slice (some ⟨wx.heap.size, 0, none⟩) 1 1)).heap[w.heap.size]? = some (.cells #[.int .i64 4, .int .i64 0, .slice none 0 0, .slice none 0 0, .slice (some ⟨wx.heap.size, 0, none⟩) 1 1] 26 (0, 0)) := by
  have hVl := (Array.getElem?_eq_some_iff.1 hV).1
  have hRa : Rks rkx (rkUp rkx wx.heap.size (ρ + 1 + j)) wx.heap.size := rkUp_old _ _ _
  have hat := rkUp_at rkx wx.heap.size (ρ + 1 + j)
  have hA := bst_alloc h (.cells #[d0, d1, d2, d3, d4] 26) hRa (h.1.1.alloc_v _ _ _ _ _ _ hG)
  generalize rkUp rkx wx.heap.size (ρ + 1 + j) = rk2 at *
  have hVa := (Below.heap_alloc wx (.cells #[d0, d1, d2, d3, d4] 26) w.heap.size hVl).trans hV
  have hGa : Grp B M rk2 (ρ + 1 + (j + 1)) (wx.alloc (.cells #[d0, d1, d2, d3, d4] 26)) (.int .i64 4, .int .i64 0, .slice none 0 0, .slice none 0 0, .slice (some ⟨wx.heap.size, 0, none⟩) 1 1) :=
    ⟨⟨4, rfl⟩, ⟨0, rfl⟩, sli_nil _ _ _ _ _ _, sli_nil _ _ _ _ _ _, _, 1, 1, rfl, by omega, Nat.le_refl _, by unfold maxLen; omega, .inr ⟨wx.heap.size, _, (0, 0), rfl, h.1.base, by show rk2 wx.heap.size < _; omega, heap_alloc_new wx _, rfl⟩⟩
  have hkV : rk2 w.heap.size = ρ + 8 := hA.2.2.2.2.2.2.1
  obtain ⟨k1, k2⟩ := hA.1.1.set5 hVa (by rw [hkV]; exact hGa.shp (Shp.refl _) (Rks.refl _ _) (by omega))
  have hgV := hA.1.ne_row hVa row3_v
  have h9 := set5_heap (j := 0) (.int .i64 4) (.int .i64 0) (.slice none 0 0) (.slice none 0 0) (.slice (some ⟨wx.heap.size, 0, none⟩) 1 1) hVa
  rw [show arrSet5 #[d0, d1, d2, d3, d4] 0 (.int .i64 4) (.int .i64 0) (.slice none 0 0) (.slice none 0 0) (.slice (some ⟨wx.heap.size, 0, none⟩) 1 1) = #[.int .i64 4, .int .i64 0, .slice none 0 0, .slice none 0 0, .slice (some ⟨wx.heap.size, 0, none⟩) 1 1] from rfl] at h9
  have hoth : ∀ q, q ≠ w.heap.size → (set5 (wx.alloc (.cells #[d0, d1, d2, d3, d4] 26)) w.heap.size 0 (.int .i64 4) (.int .i64 0) (.slice none 0 0) (.slice none 0 0) (.slice (some ⟨wx.heap.size, 0, none⟩) 1 1)).heap[q]? = (wx.alloc (.cells #[d0, d1, d2, d3, d4] 26)).heap[q]? := fun q hq => set5_other (wx.alloc (.cells #[d0, d1, d2, d3, d4] 26)) w.heap.size 0 _ _ _ _ _ q hq
  have h8 := set5_grown (wx.alloc (.cells #[d0, d1, d2, d3, d4] 26)) w.heap.size 0 (.int .i64 4) (.int .i64 0) (.slice none 0 0) (.slice none 0 0) (.slice (some ⟨wx.heap.size, 0, none⟩) 1 1)
  generalize set5 (wx.alloc (.cells #[d0, d1, d2, d3, d4] 26)) w.heap.size 0 (.int .i64 4) (.int .i64 0) (.slice none 0 0) (.slice none 0 0) (.slice (some ⟨wx.heap.size, 0, none⟩) 1 1) = wf at *
  exact ⟨rk2, hA.on (hA.1.on k1 (hoth g (Ne.symm hgV)) (fun q hq => hoth q (by omega))) (Rks.refl _ _) k2 ⟨h8.os, h8.tape, h8.output, h8.size, fun q hq => hoth q (by omega)⟩, hGa.shp k2 (Rks.refl _ _) (Nat.le_refl _), h9⟩
end
end Go.Proofs.Ytenfnbnhdmkhkaa
/-
  While a drawn value is bent: the laws for the walk. No statement is proved here.
-/
namespace Go.Proofs.Ytenfnbnhdmkhkaa
open Go.RowKit
set_option linter.unusedVariables false
set_option linter.unusedSimpArgs false

section
variable {B M ρ : Nat} {rk rkx rk2 : Nat → Nat} {w wx wy wa wb : World} {g b off : Nat} {a : Option Addr} {cap : Nat} {cs : List Int}

theorem made_groups (Q : Value × Value × Value × Value × Value → Prop) (n : Nat) (h : Q (.int .i64 0, .int .i64 0, .slice none 0 0, .slice none 0 0, .slice none 0 0)) : Gps Q (madeCells (Value.cells (.agg #[.int .i64 0, .int .i64 0, .slice none 0 0, .slice none 0 0, .slice none 0 0])) (n * 5)).toList := by
  have e : madeCells (Value.cells (.agg #[.int .i64 0, .int .i64 0, .slice none 0 0, .slice none 0 0, .slice none 0 0])) (n * 5) = Builtin.zeroCells (Value.cells (.agg #[.int .i64 0, .int .i64 0, .slice none 0 0, .slice none 0 0, .slice none 0 0])) n := by
    unfold madeCells Builtin.zeroCells
    rw [show (Value.cells (.agg #[.int .i64 0, .int .i64 0, .slice none 0 0, .slice none 0 0, .slice none 0 0])).size = 5 from rfl]
  rw [e]
  exact Gps.zero n h

/-- A list of zero values in the value's place. -/
theorem bst_make {n : Nat} (h : BnS B M rk ρ w g a cap cs rkx wx) (hBw : B ≤ w.heap.size) (hn : n ≤ M) (hn2 : n ≤ 1000) :
    ∃ rk2, BnS B M rk ρ w g a cap cs rk2 (set5 (wx.alloc (.cells (madeCells (Value.cells (.agg #[.int .i64 0, .int .i64 0, .slice none 0 0, .slice none 0 0, .slice none 0 0])) (n * 5)) 26)) w.heap.size 0 (.int .i64 4) (.int .i64 0) (.slice none 0 0) (.slice none 0 0) (.slice (some ⟨wx.heap.size, 0, none⟩) n n)) := by
  have hRa : Rks rkx (rkUp rkx wx.heap.size 0) wx.heap.size := rkUp_old _ _ _
  have hat := rkUp_at rkx wx.heap.size 0
  generalize rkUp rkx wx.heap.size 0 = rk2 at *
  have hsz : (madeCells (Value.cells (.agg #[.int .i64 0, .int .i64 0, .slice none 0 0, .slice none 0 0, .slice none 0 0])) (n * 5)).size = n * 5 := size_madeCells _ _
  have hgr := made_groups (Grp B M rk2 (rk2 wx.heap.size) (wx.alloc (.cells (madeCells (Value.cells (.agg #[.int .i64 0, .int .i64 0, .slice none 0 0, .slice none 0 0, .slice none 0 0])) (n * 5)) 26))) n (grp_leaf _ _ _ _ _ _ _)
  generalize madeCells (Value.cells (.agg #[.int .i64 0, .int .i64 0, .slice none 0 0, .slice none 0 0, .slice none 0 0])) (n * 5) = mc at *
  have hA := bst_alloc h (.cells mc 26) hRa (h.1.1.alloc _ hRa fun c T fr e => by
    simp only [Obj.cells.injEq] at e
    obtain ⟨rfl, rfl, rfl⟩ := e
    exact ⟨fun h => absurd h (by decide), fun h => absurd h (by decide), fun _ => ⟨rfl, fun j c0 c1 c2 c3 c4 e0 e1 e2 e3 e4 => hgr j c0 c1 c2 c3 c4 (by rwa [Array.getElem?_toList]) (by rwa [Array.getElem?_toList]) (by rwa [Array.getElem?_toList]) (by rwa [Array.getElem?_toList]) (by rwa [Array.getElem?_toList])⟩⟩)
  obtain ⟨k, n', a2, l2, p2, a3, l3, p3, a4, l4, p4, hVa, _⟩ := hA.2.1.form hA.1.1 hBw
  have hGa : Grp B M rk2 (ρ + 8) (wx.alloc (.cells mc 26)) (.int .i64 4, .int .i64 0, .slice none 0 0, .slice none 0 0, .slice (some ⟨wx.heap.size, 0, none⟩) n n) :=
    ⟨⟨4, rfl⟩, ⟨0, rfl⟩, sli_nil _ _ _ _ _ _, sli_nil _ _ _ _ _ _, _, n, n, rfl, hn, Nat.le_refl _, by unfold maxLen; omega, .inr ⟨wx.heap.size, _, (0, 0), rfl, h.1.base, by show rk2 wx.heap.size < _; omega, heap_alloc_new wx _, hsz⟩⟩
  have hkV : rk2 w.heap.size = ρ + 8 := hA.2.2.2.2.2.2.1
  obtain ⟨k1, k2⟩ := hA.1.1.set5 hVa (by rw [hkV]; exact hGa)
  have hgV := hA.1.ne_row hVa row3_v
  have hoth : ∀ q, q ≠ w.heap.size → (set5 (wx.alloc (.cells mc 26)) w.heap.size 0 (.int .i64 4) (.int .i64 0) (.slice none 0 0) (.slice none 0 0) (.slice (some ⟨wx.heap.size, 0, none⟩) n n)).heap[q]? = (wx.alloc (.cells mc 26)).heap[q]? := fun q hq => set5_other (wx.alloc (.cells mc 26)) w.heap.size 0 _ _ _ _ _ q hq
  have h8 := set5_grown (wx.alloc (.cells mc 26)) w.heap.size 0 (.int .i64 4) (.int .i64 0) (.slice none 0 0) (.slice none 0 0) (.slice (some ⟨wx.heap.size, 0, none⟩) n n)
  generalize set5 (wx.alloc (.cells mc 26)) w.heap.size 0 (.int .i64 4) (.int .i64 0) (.slice none 0 0) (.slice none 0 0) (.slice (some ⟨wx.heap.size, 0, none⟩) n n) = wf at *
  exact ⟨rk2, hA.on (hA.1.on k1 (hoth g (Ne.symm hgV)) (fun q hq => hoth q (by omega))) (Rks.refl _ _) k2 ⟨h8.os, h8.tape, h8.output, h8.size, fun q hq => hoth q (by omega)⟩⟩

/-- A store into an old block and a new block: the order does not count. -/
theorem setCell_alloc (w : World) (V j : Nat) (v : Value) (o : Obj) (h : V < w.heap.size) : (w.alloc o).setCell ⟨V, j, none⟩ v = (w.setCell ⟨V, j, none⟩ v).alloc o := by
  have hh : ((w.alloc o).setCell ⟨V, j, none⟩ v).heap = ((w.setCell ⟨V, j, none⟩ v).alloc o).heap := by
    apply Array.ext_getElem?
    intro q
    by_cases hq : q < w.heap.size
    · rw [Below.heap_alloc (w.setCell ⟨V, j, none⟩ v) o q (by simpa [World.setCell] using hq)]
      by_cases he : q = V
      · subst he
        simp only [World.setCell, Array.getElem?_modify]
        rw [Below.heap_alloc w o q h]
      · rw [Below.heap_setCell _ ⟨V, j, none⟩ v q he, Below.heap_setCell _ ⟨V, j, none⟩ v q he, Below.heap_alloc w o q hq]
    · have hne : q ≠ V := by omega
      rw [Below.heap_setCell _ ⟨V, j, none⟩ v q hne]
      by_cases he : q = w.heap.size
      · subst he
        have h1 := heap_alloc_new w o
        have h2 := heap_alloc_new (w.setCell ⟨V, j, none⟩ v) o
        rw [h1]
        simp only [World.setCell, Array.size_modify] at h2
        exact h2.symm
      · rw [Array.getElem?_eq_none (by simp; omega), Array.getElem?_eq_none (by simp [World.setCell]; omega)]
  show ({ heap := ((w.alloc o).setCell ⟨V, j, none⟩ v).heap, tape := w.tape, drawn := w.drawn, os := w.os, output := w.output } : World) = { heap := ((w.setCell ⟨V, j, none⟩ v).alloc o).heap, tape := w.tape, drawn := w.drawn, os := w.os, output := w.output }
  rw [hh]
theorem set5_alloc (w : World) (V : Nat) (c0 c1 c2 c3 c4 : Value) (o : Obj) (h : V < w.heap.size) : set5 (w.alloc o) V 0 c0 c1 c2 c3 c4 = (set5 w V 0 c0 c1 c2 c3 c4).alloc o := by
  unfold set5
  rw [setCell_alloc _ _ _ _ _ h, setCell_alloc _ _ _ _ _ (by simpa [World.setCell] using h), setCell_alloc _ _ _ _ _ (by simpa [World.setCell] using h), setCell_alloc _ _ _ _ _ (by simpa [World.setCell] using h), setCell_alloc _ _ _ _ _ (by simpa [World.setCell] using h)]

/-- 'make([]Value, n)'. -/
theorem wpList_make_hw {ops : Array Oper} {rest : List Oper} {o : Oper} {ac : Act} {Q : Exit → Act → World → Prop} (hg : o.guard = none) (l c : Operand) (hop : o.op = Op.makeSlice 24 l c)
    (kl kc : IntKind) (L C : Int) (n : Nat) (hl : ac.eval l = .int kl L) (hc : ac.eval c = .int kc C) (hL : L = (n : Int)) (hC : C = (n : Int)) (hn : n ≤ 1000)
    (hK : wpList Try.prog ops Q rest (ac.put o.dst (.slice (some ⟨wx.heap.size, 0, none⟩) n n)) (wx.alloc (.cells (madeCells (Value.cells (.agg #[.int .i64 0, .int .i64 0, .slice none 0 0, .slice none 0 0, .slice none 0 0])) (n * 5)) 26))) :
    wpList Try.prog ops Q (o :: rest) ac wx := by
  refine wpList_plain hg fun K hK' => ?_
  obtain ⟨i, hi, hz0, hz1, hz2⟩ := info_parts info_valueT
  have hr := run_make (P := Try.prog) wx 24 26 i _ Try.underlying24 hi hz0 kl kc n n (by omega) (Int.le_refl _) (by rw [hz2]; omega) (by omega)
  simp only [Int.toNat_natCast, hz1] at hr
  subst hL
  subst hC
  unfold Oper.wp
  simp [execOp, hop, hl, hc, hr, Result.andThen]
  exact hK' _ _ hK

theorem wpList_app_s {k n : Int} {a2 : Option Addr} {l2 p2 : Nat} {a3 : Option Addr} {l3 p3 : Nat} {a4 : Option Addr} {l4 p4 : Nat} {ops : Array Oper} {rest : List Oper} {o : Oper} {ac : Act} {Q : Exit → Act → World → Prop} (hgd : o.guard = none) (s x : Operand) (ho : o.op = .call { callee := .builtin .append, args := #[s, x], argTypes := #[22, 22] })
    (h : PSt B M rk ρ w g a cap cs rkx b off wx) (hG : Grp B M rkx (rkx b) wx (.int .i64 k, .int .i64 n, .slice a2 l2 p2, .slice a3 l3 p3, .slice a4 l4 p4)) (hM : M ≤ 100000) (hs : ac.eval s = .slice a2 l2 p2) (hx : ac.eval x = .slice (some ⟨wx.heap.size, 0, none⟩) 1 1)
    (hk : ∀ (g' cap' : Nat) (wb : World), (∃ u, wb.cell? ⟨b, off + 2, none⟩ = some u) → wb.frozen? ⟨b, off + 2, none⟩ = false → BnS B (M + 1) rk ρ w g a cap cs rkx (wb.setCell ⟨b, off + 2, none⟩ (.slice (some ⟨g', 0, none⟩) (l2 + 1) cap')) →
      wpList Try.prog ops Q rest (ac.put o.dst (.slice (some ⟨g', 0, none⟩) (l2 + 1) cap')) wb) : wpList Try.prog ops Q (o :: rest) ac (wx.alloc (.cells #[.int .u8 7] 5)) := by
  refine wpList_plain hgd fun K hK => ?_
  obtain ⟨g', cap', wb, hrun, r1, r2, r3⟩ := h.app_s hG hM o.type
  unfold Oper.wp execOp
  simp only [ho, resolve, invoke, builtin, Sem.run_bind, Sem.run_pure, Result.andThen_ok, List.map_toArray, List.map_cons, List.map_nil, hs, hx, hrun]
  exact hK _ _ (hk g' cap' wb r1 r2 r3)
theorem wpList_app_k {k n : Int} {a2 : Option Addr} {l2 p2 : Nat} {a3 : Option Addr} {l3 p3 : Nat} {a4 : Option Addr} {l4 p4 : Nat} {ops : Array Oper} {rest : List Oper} {o : Oper} {ac : Act} {Q : Exit → Act → World → Prop} (hgd : o.guard = none) (s x : Operand) (ho : o.op = .call { callee := .builtin .append, args := #[s, x], argTypes := #[23, 23] })
    (h : PSt B M rk ρ w g a cap cs rkx b off wx) (hG : Grp B M rkx (rkx b) wx (.int .i64 k, .int .i64 n, .slice a2 l2 p2, .slice a3 l3 p3, .slice a4 l4 p4)) (hM1 : 64 ≤ M) (hM : M ≤ 100000) (hs : ac.eval s = .slice a3 l3 p3) (hx : ac.eval x = .slice (some ⟨wx.heap.size + 1, 0, none⟩) 1 1)
    (hk : ∀ (g' cap' : Nat) (wb : World), (∃ u, wb.cell? ⟨b, off + 3, none⟩ = some u) → wb.frozen? ⟨b, off + 3, none⟩ = false → BnS B (M + 1) rk ρ w g a cap cs rkx (wb.setCell ⟨b, off + 3, none⟩ (.slice (some ⟨g', 0, none⟩) (l3 + 1) cap')) →
      wpList Try.prog ops Q rest (ac.put o.dst (.slice (some ⟨g', 0, none⟩) (l3 + 1) cap')) wb) : wpList Try.prog ops Q (o :: rest) ac ((wx.alloc (.cells #[.int .u8 97] 5 (1, 1 + 1))).alloc (.cells #[.slice (some ⟨wx.heap.size, 0, none⟩) 1 1] 22)) := by
  refine wpList_plain hgd fun K hK => ?_
  obtain ⟨g', cap', wb, hrun, r1, r2, r3⟩ := h.app_k hG hM1 hM o.type
  unfold Oper.wp execOp
  simp only [ho, resolve, invoke, builtin, Sem.run_bind, Sem.run_pure, Result.andThen_ok, List.map_toArray, List.map_cons, List.map_nil, hs, hx, hrun]
  exact hK _ _ (hk g' cap' wb r1 r2 r3)
theorem step_app_v {k n : Int} {a2 : Option Addr} {l2 p2 : Nat} {a3 : Option Addr} {l3 p3 : Nat} {a4 : Option Addr} {l4 p4 : Nat} {ops : Array Oper} {o : Oper} {ac : Act} {K : Act → World → Prop} {Q : Exit → Act → World → Prop} {E : Prop} (hgd : o.guard = none) (s x : Operand) (ho : o.op = .call { callee := .builtin .append, args := #[s, x], argTypes := #[24, 24] })
    (h : PSt B M rk ρ w g a cap cs rkx b off wx) (hG : Grp B M rkx (rkx b) wx (.int .i64 k, .int .i64 n, .slice a2 l2 p2, .slice a3 l3 p3, .slice a4 l4 p4)) (hr : 1 ≤ rkx b) (hM : M ≤ 100000) (hs : ac.eval s = .slice a4 l4 p4) (hx : ac.eval x = .slice (some ⟨wx.heap.size, 0, none⟩) 1 1) (hwa : Alw wx (.cells #[.int .i64 0, .int .i64 0, .slice none 0 0, .slice none 0 0, .slice none 0 0] 26) wa)
    (hk : ∀ (g' cap' : Nat) (wb : World), AppV B (M + 1) rk ρ w g a cap cs b off l4 g' cap' wb → K (ac.put o.dst (.slice (some ⟨g', 0, none⟩) (l4 + 1) cap')) wb) : if Region.wanted o (yielded ops ac.tmps) = true then Oper.wp Try.prog o ac wa K Q else E := by
  have hw : Region.wanted o (yielded ops ac.tmps) = true := by simp [Region.wanted, hgd]
  rw [if_pos hw]
  obtain ⟨g', cap', wb, hrun, r1⟩ := h.app_v hG hr hM hwa o.type
  unfold Oper.wp
  simp [execOp, ho, resolve, invoke, builtin, hs, hx, hrun, Result.andThen]
  exact hk g' cap' wb r1
end
end Go.Proofs.Ytenfnbnhdmkhkaa
/-
  Regions that draw, walked by hand in the order of the text: the library's 'wpAnyH_take' with the slot said; no statement is proved here. For guarded operations that are not wanted.
-/
namespace Go.Proofs.Ytenfnbnhdmkhkaa
set_option linter.unusedVariables false

section
variable {P : Program} {ops : Array Oper} {Q : Exit → Act → World → Prop} {md : Region.Mode} {S : World → Prop}
theorem take_yes {i : Nat} (d : Nat) {oi : Oper} {v : Value} {fuel : Nat} {listed : Array Bool} {a : Act} {w : World} (hi : ops[i]? = some oi) (hd : oi.dst = some d)
    (hs : Region.noSelect ops = true) (hf : Region.free md ops listed i = true) (hr : (Region.ready md ops listed).contains i = true)
    (hQ : ∀ c a w, Q (.panic c) (a.put (some d) v) w → Q (.panic c) a w) (hw : Region.wanted oi (yielded ops a.tmps) = true) (hS : S w)
    (hy : ∀ w, S w → (execOp a.eval oi).run P w = .ok (.value v) w)
    (h : wpAnyH P md ops Q S fuel (listed.setIfInBounds i true) (a.put (some d) v) w) : wpAnyH P md ops Q S (fuel + 1) listed a w :=
  wpAnyH_take hi hs hf hr (by rw [hd]; exact hQ) (Or.inl ⟨hw, hy⟩) hS (by rw [hd]; exact h)
theorem take_not {i : Nat} (d : Nat) {oi : Oper} {fuel : Nat} {listed : Array Bool} {a : Act} {w : World} (hi : ops[i]? = some oi) (hd : oi.dst = some d)
    (hs : Region.noSelect ops = true) (hf : Region.free md ops listed i = true) (hr : (Region.ready md ops listed).contains i = true)
    (hQ : ∀ c a w, Q (.panic c) (a.put (some d) undef) w → Q (.panic c) a w) (hw : Region.wanted oi (yielded ops a.tmps) = false) (hS : S w)
    (h : wpAnyH P md ops Q S fuel (listed.setIfInBounds i true) (a.put (some d) undef) w) : wpAnyH P md ops Q S (fuel + 1) listed a w :=
  wpAnyH_take hi hs hf hr (by rw [hd]; exact hQ) (Or.inr ⟨hw, rfl⟩) hS (by rw [hd]; exact h)
end
end Go.Proofs.Ytenfnbnhdmkhkaa
