/-
  Values that lie as cells, and a part of them; no statement is proved here.
-/
import Derived.Test.YtkklhdeecamifaaDrpL
namespace Go.Proofs.Ytkklhdeecamifaa
open Go.RowKit Go.Shelf
set_option linter.unusedVariables false
set_option linter.unusedSimpArgs false

abbrev V5 := Value × Value × Value × Value × Value

theorem flat_len : ∀ fs : List V5, ((fs.map enc5).flatten).length = fs.length * 5
  | [] => rfl
  | f :: fs => by have := flat_len fs; simp only [List.map_cons, List.flatten_cons, List.length_append, List.length_cons, this]; simp [enc5]; omega

theorem flat_take : ∀ (fs : List V5) (k : Nat), ((fs.map enc5).flatten).take (k * 5) = ((fs.take k).map enc5).flatten
  | [], k => by simp
  | f :: fs, 0 => by simp
  | f :: fs, k + 1 => by
    have := flat_take fs k
    simp only [List.map_cons, List.flatten_cons, List.take_succ_cons, ← this]
    rw [List.take_append, List.take_of_length_le (by simp [enc5]; omega)]
    congr 2
    simp [enc5]; omega

theorem flat_drop : ∀ (fs : List V5) (k : Nat), ((fs.map enc5).flatten).drop (k * 5) = ((fs.drop k).map enc5).flatten
  | [], k => by simp
  | f :: fs, 0 => by simp
  | f :: fs, k + 1 => by
    have := flat_drop fs k
    simp only [List.map_cons, List.flatten_cons, List.drop_succ_cons, ← this]
    rw [List.drop_append, List.drop_eq_nil_of_le (by simp [enc5]; omega), List.nil_append]
    congr 1
    simp [enc5]; omega

theorem flat_erase (fs : List V5) (k : Nat) : ((fs.map enc5).flatten).take (k * 5) ++ ((fs.map enc5).flatten).drop ((k + 1) * 5) = ((fs.eraseIdx k).map enc5).flatten := by
  rw [flat_take, flat_drop, List.eraseIdx_eq_take_drop_succ, List.map_append, List.flatten_append]

theorem flat5_at (fs : List V5) (i : Nat) (hi : i < fs.length) (r : Nat) (hr : r < 5) : ((fs.map enc5).flatten)[i * 5 + r]? = (enc5 fs[i])[r]? := by
  rw [flatten_at 5 (fs.map enc5) (by intro c hc; simp only [List.mem_map] at hc; obtain ⟨f, _, rfl⟩ := hc; rfl) i (by simpa using hi) r hr]
  simp [List.getD_eq_getElem?_getD, hi]

theorem lie_five {w : World} {b off : Nat} {fs : List V5} (h : ∀ i (hi : i < fs.length), Five w b (off + i * 5) fs[i]) : Lie w b off ((fs.map enc5).flatten) := by
  intro j u hu
  have hj := (List.getElem?_eq_some_iff.1 hu).1
  rw [flat_len] at hj
  have hi : j / 5 < fs.length := by omega
  have hr : j % 5 < 5 := Nat.mod_lt _ (by omega)
  have e : j = j / 5 * 5 + j % 5 := by omega
  rw [e, flat5_at fs (j / 5) hi (j % 5) hr] at hu
  obtain ⟨h0, h1, h2, h3, h4⟩ := h (j / 5) hi
  rw [e, ← Nat.add_assoc]
  generalize j % 5 = r at *
  match r, hr with
  | 0, _ => simp [enc5] at hu; rw [← hu]; exact h0
  | 1, _ => simp [enc5] at hu; rw [← hu]; exact h1
  | 2, _ => simp [enc5] at hu; rw [← hu]; exact h2
  | 3, _ => simp [enc5] at hu; rw [← hu]; exact h3
  | 4, _ => simp [enc5] at hu; rw [← hu]; exact h4

theorem five_lie {w : World} {b off : Nat} {fs : List V5} (h : Lie w b off ((fs.map enc5).flatten)) (i : Nat) (hi : i < fs.length) : Five w b (off + i * 5) fs[i] := by
  have key : ∀ r u, r < 5 → (enc5 fs[i])[r]? = some u → w.cell? ⟨b, off + i * 5 + r, none⟩ = some u := fun r u hr hu => by
    have := h (i * 5 + r) u (by rw [flat5_at fs i hi r hr]; exact hu)
    rw [← Nat.add_assoc] at this
    exact this
  exact ⟨key 0 _ (by omega) rfl, key 1 _ (by omega) rfl, key 2 _ (by omega) rfl, key 3 _ (by omega) rfl, key 4 _ (by omega) rfl⟩

/-- A slice of values lies as cells. -/
theorem LSeg.lie {R : Nat → Prop} {w : World} {d : Nat} {a : Option Addr} {l p : Nat} {vl : List (Vl d)} (h : LSeg R w d (.slice a l p) vl) (hne : vl ≠ []) : l = vl.length ∧ vl.length ≤ p ∧ ∃ b off, ∃ fs : List V5, a = some ⟨b, off, none⟩ ∧ R b ∧ fs.length = vl.length ∧ Lie w b off ((fs.map enc5).flatten) ∧ (∀ u ∈ (fs.map enc5).flatten, u.oneCell' = true) ∧ ∀ i (h : i < fs.length) (h' : i < vl.length), VSeg R w d fs[i] vl[i] := by
  obtain ⟨a', cap, e, h1, h2, h3, h4⟩ := h
  simp only [Value.slice.injEq] at e
  obtain ⟨rfl, rfl, rfl⟩ := e
  rcases h4 with h0 | ⟨b, off, ha, hR, hc⟩
  · exact absurd h0 hne
  · obtain ⟨fs, hl, hu⟩ := list_of (Q := fun i e => Five w b (off + i * 5) e ∧ ∀ h : i < vl.length, VSeg R w d e vl[i]) vl.length (fun i hi => by obtain ⟨e, he, hv⟩ := hc i hi; exact ⟨e, he, fun _ => hv⟩)
    refine ⟨rfl, h1, b, off, fs, ha, hR, hl, lie_five fun i hi => (hu i hi).1, fun u hu' => ?_, fun i hi h' => (hu i hi).2 h'⟩
    simp only [List.mem_flatten, List.mem_map] at hu'
    obtain ⟨_, ⟨f, hf, rfl⟩, hmem⟩ := hu'
    obtain ⟨i, hi, rfl⟩ := List.mem_iff_getElem.1 hf
    have hv := (hu i hi).2 (by omega)
    generalize fs[i] = f at *
    obtain ⟨x0, x1, x2, x3, x4⟩ := f
    obtain ⟨_, _, _, _, _, _, _, _, _, _, _, rfl, rfl, rfl, rfl, rfl⟩ := VSeg.form d hv
    simp only [enc5, List.mem_cons, List.not_mem_nil, or_false] at hmem
    rcases hmem with rfl | rfl | rfl | rfl | rfl <;> rfl

theorem lseg_of {w : World} {base d : Nat} {v : Value} {n : Nat} {fs : List V5} {vl : List (Vl d)} (h : w.ownsRow base 30 5 v n ((fs.map enc5).flatten)) (hn : n = vl.length) (hV : ∀ i (hi : i < fs.length) (h' : i < vl.length), VSeg (fun b => b < w.heap.size) w d fs[i] vl[i]) : LSeg (fun b => b < w.heap.size) w d v vl := by
  have hul : fs.length = n := by have := h.1; rw [flat_len] at this; omega
  have hcell := fun g hg => h.cells (g := g) hg
  rcases h.2 with ⟨rfl, h0⟩ | ⟨g, cap, cur, rfl, hg, hh, hle, hm, _, _⟩
  · have hk : vl = [] := List.eq_nil_of_length_eq_zero (by omega)
    subst hk
    exact ⟨none, 0, rfl, by simp, by simp, fun _ => rfl, .inl rfl⟩
  · subst hn
    refine ⟨some ⟨g, 0, none⟩, cap, rfl, hle, hm, by simp, .inr ⟨g, 0, rfl, (Array.getElem?_eq_some_iff.1 hh).1, fun i hi => ?_⟩⟩
    have hi' : i < fs.length := by omega
    refine ⟨fs[i], five_lie (fun j u hj => ?_) i hi', hV i hi' hi⟩
    have := hcell g rfl j u hj
    rw [Addr.add_lit] at this
    exact this
end Go.Proofs.Ytkklhdeecamifaa
