/-
  Texts that a law leans on, one behind the other; no statement is proved here.
-/
import Derived.Test.YtfokidhamjphfaaDoorPk18
import Derived.Test.YtfokidhamjphfaaDoorPk17
/-
  A local named otherwise; a row of values that is read, not owned, while it grows. No statement is proved here.
-/
namespace Go.Proofs.YtfokidhamjphfaaDoor
open Go.RowKit
set_option linter.unusedVariables false
set_option linter.unusedSimpArgs false

/-- An expression in which a local is named otherwise. -/
def rnV (fr tz : List Int) : (d : Nat) → Vl d → Vl d
  | 0, v => v
  | d + 1, v => (v.1, v.2.1, if v.1 = 6 ∧ v.2.2.1 = fr then tz else v.2.2.1, v.2.2.2.1, v.2.2.2.2.map (rnV fr tz d))

theorem rnV_yes {fr tz : List Int} {d : Nat} {vn : Int} {vS : List Int} {vK : List (List Int)} {vL : List (Vl d)} (hs : vS = fr) : rnV fr tz (d + 1) ((6 : Int), vn, vS, vK, vL) = ((6 : Int), vn, tz, vK, vL.map (rnV fr tz d)) :=
  congrArg (fun t => (((6 : Int), vn, t, vK, vL.map (rnV fr tz d)) : Vl (d + 1))) (if_pos ⟨rfl, hs⟩)
theorem rnV_not {fr tz : List Int} {d : Nat} {vk vn : Int} {vS : List Int} {vK : List (List Int)} {vL : List (Vl d)} (hs : ¬ (vk = 6 ∧ vS = fr)) : rnV fr tz (d + 1) (vk, vn, vS, vK, vL) = (vk, vn, vS, vK, vL.map (rnV fr tz d)) :=
  congrArg (fun t => ((vk, vn, t, vK, vL.map (rnV fr tz d)) : Vl (d + 1))) (if_neg hs)

/-- Item i reads as l[i], in blocks below N or among those from 'base' on that are neither the row's nor the box's. -/
def RdI (N base O : Nat) (d : Nat) (l : List (Vl d)) (w : World) (x : Value) (i : Nat) (c : List Value) : Prop :=
  ∃ e, c = enc5 e ∧ ∃ h : i < l.length, VSeg (fun b => b < N ∨ (base ≤ b ∧ b < w.heap.size ∧ x.ownBlock ≠ some b ∧ b ≠ O)) w d e l[i]

/-- A box whose last field is such a row of k values. -/
def RdR (N : Nat) (w2 : World) (O : Nat) (c0 c1 c2 c3 : Value) (d : Nat) (l : List (Vl d)) (k : Nat) (wr : World) (x : Value) (cs : List (List Value)) : Prop :=
  wr.heap[O]? = some (.cells #[c0, c1, c2, c3, x] 26 (0, 0)) ∧ cs.length = k ∧ wr.ownsRow w2.heap.size 26 5 x k cs.flatten ∧ (∀ i, i < k → RdI N w2.heap.size O d l wr x i (cs.getD i [])) ∧ w2.grownBy wr (some O)

theorem RdR.start {N O d : Nat} {w2 : World} {c0 c1 c2 c3 : Value} {l : List (Vl d)} (h : w2.heap[O]? = some (.cells #[c0, c1, c2, c3, .slice none 0 0] 26 (0, 0))) : RdR N w2 O c0 c1 c2 c3 d l 0 w2 (.slice none 0 0) [] :=
  ⟨h, rfl, ⟨by simp, .inl ⟨rfl, rfl⟩⟩, fun i hi => by omega, World.grownBy.refl _ _⟩

theorem RdR.slice {N O d k : Nat} {w2 wr : World} {c0 c1 c2 c3 x : Value} {l : List (Vl d)} {cs : List (List Value)} (h : RdR N w2 O c0 c1 c2 c3 d l k wr x cs) : ∃ p c, x = .slice p k c := by
  rcases h.2.2.1.2 with ⟨rfl, h0⟩ | ⟨g, cap, cur, rfl, _⟩
  · exact ⟨none, 0, by rw [h0]⟩
  · exact ⟨_, _, rfl⟩

theorem RdR.add {N O d k g cp : Nat} {w2 wr w5 w6 : World} {c0 c1 c2 c3 x : Value} {l : List (Vl d)} {cs : List (List Value)} {e : Value × Value × Value × Value × Value} {o : Obj} (h : RdR N w2 O c0 c1 c2 c3 d l k wr x cs) (hN : N ≤ O) (hO : O < w2.heap.size) (hk : k < l.length)
    (b5 : Below wr.heap.size wr w5) (hv : VSeg (fun b => b < N ∨ (wr.heap.size ≤ b ∧ b < w5.heap.size)) w5 d e l[k])
    (hown : w6.ownsRow w2.heap.size 26 5 (.slice (some ⟨g, 0, none⟩) (k + 1) cp) (k + 1) (cs.flatten ++ enc5 e)) (hg : (w5.alloc o).grownBy w6 x.ownBlock) (hat : x.ownBlock = some g ∨ g = w5.heap.size + 1) :
    w6.heap[O]? = some (.cells #[c0, c1, c2, c3, x] 26 (0, 0)) ∧ RdR N w2 O c0 c1 c2 c3 d l (k + 1) (w6.setCell ⟨O, 4, none⟩ (.slice (some ⟨g, 0, none⟩) (k + 1) cp)) (.slice (some ⟨g, 0, none⟩) (k + 1) cp) (cs ++ [enc5 e]) := by
  obtain ⟨h1, h2, h3, h4, h5⟩ := h
  have hz5 := b5.size
  have hz3 := h5.size
  have hz6 := hg.size
  simp only [World.size_alloc] at hz6
  have hxlt := h3.lt
  have hneB : some O ≠ x.ownBlock := fun e => by have := hxlt O e.symm; omega
  have hV6 : w6.heap[O]? = some (.cells #[c0, c1, c2, c3, x] 26 (0, 0)) := (hg.block O (by simp; omega) hneB).trans ((Below.heap_alloc _ _ _ (by omega)).trans ((b5.block O (by omega)).trans h1))
  have hgO : g ≠ O := by have := (hown.lt g rfl).1; omega
  have hoth : ∀ b, b ≠ O → (w6.setCell ⟨O, 4, none⟩ (.slice (some ⟨g, 0, none⟩) (k + 1) cp)).heap[b]? = w6.heap[b]? := fun b hb => Below.heap_setCell w6 ⟨O, 4, none⟩ _ b hb
  have hsz : (w6.setCell ⟨O, 4, none⟩ (.slice (some ⟨g, 0, none⟩) (k + 1) cp)).heap.size = w6.heap.size := by simp [World.setCell]
  have hw6 : ∀ b, b < w5.heap.size → x.ownBlock ≠ some b → w6.heap[b]? = w5.heap[b]? := fun b hb hne => (hg.block b (by simp; omega) (fun e => hne e.symm)).trans (Below.heap_alloc _ _ _ hb)
  have hxN : ∀ b, b < N → x.ownBlock ≠ some b := fun b hb e => by have := hxlt b e; omega
  refine ⟨hV6, heap_setCell_same w6 O 4 _ _ _ hV6, by simp [h2], ?_, fun i hi => ?_, grown_onO h5 b5 hg (fun b hb => (hxlt b hb).1)⟩
  · have hk := hown.kept (w' := w6.setCell ⟨O, 4, none⟩ (.slice (some ⟨g, 0, none⟩) (k + 1) cp)) (grown1 w6 O 4 _) (.inr (by simp [Value.ownBlock]; exact hgO))
    simpa using hk
  · by_cases hin : i < k
    · have e1 : (cs ++ [enc5 e]).getD i [] = cs.getD i [] := by simp [List.getD_eq_getElem?_getD, List.getElem?_append_left (show i < cs.length by omega)]
      rw [e1]
      obtain ⟨e', he, hl, hv'⟩ := h4 i hin
      refine ⟨e', he, hl, VSeg.mono (fun b hb => ?_) d (VSeg.agree (w' := w6.setCell ⟨O, 4, none⟩ (.slice (some ⟨g, 0, none⟩) (k + 1) cp)) (fun b hb => ?_) d hv')⟩
      · rcases hb with hb | ⟨q1, q2, q3, q4⟩
        · exact .inl hb
        · refine .inr ⟨q1, by rw [hsz]; omega, fun e => ?_, q4⟩
          simp [Value.ownBlock] at e
          rcases hat with h' | h'
          · exact q3 (by rw [h', e])
          · omega
      · rcases hb with hb | ⟨q1, q2, q3, q4⟩
        · exact (hoth b (by omega)).trans ((hw6 b (by omega) (hxN b hb)).trans (b5.block b (by omega)))
        · exact (hoth b q4).trans ((hw6 b (by omega) q3).trans (b5.block b q2))
    · have hin' : i = k := by omega
      subst hin'
      have e1 : (cs ++ [enc5 e]).getD i [] = enc5 e := by rw [← h2]; simp [List.getD_eq_getElem?_getD]
      rw [e1]
      refine ⟨e, rfl, hk, VSeg.mono (fun b hb => ?_) d (VSeg.agree (w' := w6.setCell ⟨O, 4, none⟩ (.slice (some ⟨g, 0, none⟩) (i + 1) cp)) (fun b hb => ?_) d hv)⟩
      · rcases hb with hb | ⟨q1, q2⟩
        · exact .inl hb
        · refine .inr ⟨by omega, by rw [hsz]; omega, fun e => ?_, by omega⟩
          simp [Value.ownBlock] at e
          rcases hat with h' | h'
          · have := (hxlt g h').2; omega
          · omega
      · have hne : x.ownBlock ≠ some b := by
          rcases hb with hb | ⟨q1, q2⟩
          · exact hxN b hb
          · intro e; have := (hxlt b e).2; omega
        have hbO : b ≠ O := by rcases hb with hb | ⟨q1, q2⟩ <;> omega
        exact (hoth b hbO).trans (hw6 b (by rcases hb with hb | ⟨q1, q2⟩ <;> omega) hne)

/-- All of it reads as a list of values. -/
theorem RdR.list {N O d : Nat} {w2 wr wf : World} {c0 c1 c2 c3 x : Value} {l : List (Vl d)} {cs : List (List Value)} {B : Nat} (h : RdR N w2 O c0 c1 c2 c3 d l l.length wr x cs) (hB : B ≤ w2.heap.size) (hf : ∀ b, b ≠ O → (b < N ∨ w2.heap.size ≤ b) → b < wr.heap.size → wf.heap[b]? = wr.heap[b]?) (hz : wr.heap.size ≤ wf.heap.size) (hN : N ≤ O) (hO : O < w2.heap.size) : LSeg (fun b => b < N ∨ (B ≤ b ∧ b < wf.heap.size)) wf d x l := by
  obtain ⟨h1, h2, h3, h4, h5⟩ := h
  have hz5 := h5.size
  rcases h3.2 with ⟨rfl, h0⟩ | ⟨g, cap, cur, rfl, hb, hh, hn, hm, hs, ht⟩
  · have hl0 : l = [] := List.eq_nil_of_length_eq_zero h0
    subst hl0
    exact ⟨none, 0, rfl, Nat.le_refl _, by simp [maxLen], fun _ => rfl, .inl rfl⟩
  · have hgl := (Array.getElem?_eq_some_iff.1 hh).1
    refine ⟨some ⟨g, 0, none⟩, cap, rfl, hn, hm, by simp, .inr ⟨g, 0, rfl, .inr ⟨by omega, by omega⟩, fun i hi => ?_⟩⟩
    obtain ⟨e, he, _, hv⟩ := h4 i hi
    have hl5 : ∀ c ∈ cs, c.length = 5 := by
      intro c hc
      obtain ⟨i, hi, e⟩ := getD_of_mem (z := []) hc
      obtain ⟨e', he, _⟩ := h4 i (by omega)
      rw [← e, he]
      rfl
    have hcell : ∀ j, j < 5 → wf.cell? ⟨g, 0 + i * 5 + j, none⟩ = (enc5 e)[j]? := by
      intro j hj
      have hf2 := flatten_at 5 cs hl5 i (by omega) j hj
      rw [he, ← ht, List.getElem?_take_of_lt (by omega), Array.getElem?_toList] at hf2
      have hgf := (hf g (by omega) (.inr hb) hgl).trans hh
      rw [cell_of_row wf g _ cur _ _ hgf, Nat.zero_add]
      exact hf2
    refine ⟨e, ⟨hcell 0 (by omega), hcell 1 (by omega), hcell 2 (by omega), hcell 3 (by omega), hcell 4 (by omega)⟩, ?_⟩
    refine VSeg.mono (fun b hb => ?_) d (VSeg.agree (w' := wf) (fun b hb => ?_) d hv)
    · rcases hb with hb | ⟨q1, q2, _, _⟩
      · exact .inl hb
      · exact .inr ⟨by omega, by omega⟩
    · rcases hb with hb | ⟨q1, q2, _, q4⟩
      · exact hf b (by omega) (.inl hb) (by omega)
      · exact hf b q4 (.inr q1) q2
end Go.Proofs.YtfokidhamjphfaaDoor
