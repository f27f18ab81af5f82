/-
  The datum of a map of parts whose keys ascend, when one key is taken out of it, and the value that is left; no statement is proved here.
-/
import Derived.Test.YtkklhdeecamifaaLookR
import Derived.Test.YtkklhdeecamifaaGetI
namespace Go.Proofs.Ytkklhdeecamifaa
open Go.RowKit
set_option linter.unusedVariables false
set_option linter.unusedSimpArgs false

theorem getD_erase {α : Type} (l : List α) (k j : Nat) (x : α) : (l.eraseIdx k).getD j x = l.getD (if j < k then j else j + 1) x := by
  simp only [List.getD, List.getElem?_eraseIdx]
  split <;> rfl

theorem asc_ne {vK : List (List Int)} {n : Nat} (h : ∀ i, i < n → stepB vK i = true) {i j : Nat} (hi : i < n) (hj : j < n) (hne : i ≠ j) : vK.getD i [] ≠ vK.getD j [] := by
  intro e
  rcases Nat.lt_or_gt_of_ne hne with hl | hl
  · have := less_ne (asc_lt h j hj i hl); rw [e] at this; simp at this
  · have := less_ne (asc_lt h i hi j hl); rw [e] at this; simp at this

theorem rng_add (a b : Nat) : List.range (a + b) = List.range a ++ (List.range b).map (fun x => a + x) := List.range_add

theorem range_but (k m : Nat) : (List.range (k + (1 + m))).filter (fun i => !decide (i = k)) = List.range k ++ (List.range m).map (fun i => k + (1 + i)) := by
  rw [rng_add k (1 + m), List.filter_append, rng_add 1 m, List.map_append, List.filter_append]
  have h0 : (List.range k).filter (fun i => !decide (i = k)) = List.range k := by
    rw [List.filter_eq_self]; intro i hi; have := List.mem_range.1 hi; simp; omega
  have h1 : ((List.range 1).map (fun x => k + x)).filter (fun i => !decide (i = k)) = [] := by simp [List.range_succ]
  have h2 : (((List.range m).map (fun x => 1 + x)).map (fun x => k + x)).filter (fun i => !decide (i = k)) = (List.range m).map (fun i => k + (1 + i)) := by
    rw [List.filter_eq_self.2, List.map_map]
    · rfl
    · intro i hi; simp only [List.mem_map] at hi; obtain ⟨a, ⟨b, _, rfl⟩, rfl⟩ := hi; simp
  rw [h0, h1, h2, List.nil_append]

/-- The k-th key is taken out. -/
theorem del_ent {vK : List (List Int)} {ps : List Value} {n k : Nat} {key : List Int} (hy : ∀ y ∈ key, Byt y) (hb : ∀ i, i < n → ∀ x ∈ vK.getD i [], Byt x) (hk : k < n) (hu : ∀ i, i < n → i ≠ k → vK.getD i [] ≠ key) (he : vK.getD k [] = key) :
    (DataW.map (entF vK ps n)).del (.string (u8s key)) = .map (entF (vK.eraseIdx k) (ps.eraseIdx k) (n - 1)) := by
  obtain ⟨m, rfl⟩ : ∃ m, n = k + (1 + m) := ⟨n - 1 - k, by omega⟩
  have e1 : k + (1 + m) - 1 = k + m := by omega
  rw [e1]
  show DataW.map ((entF vK ps (k + (1 + m))).filter fun p => !p.1.sameKey (.string (u8s key))) = _
  congr 1
  have hs : ∀ i, i < k + (1 + m) → (Lit.string (u8s (vK.getD i []))).sameKey (.string (u8s key)) = decide (i = k) := by
    intro i hi
    rw [same_u8s (hb i hi) hy]
    by_cases h : i = k
    · subst h; exact (decide_eq_true he).trans (decide_eq_true rfl).symm
    · exact (decide_eq_false (hu i hi h)).trans (decide_eq_false h).symm
  unfold entF
  rw [List.filter_map, List.filter_congr (q := fun i => !decide (i = k)) (fun i hi => by simp only [Function.comp]; rw [hs i (List.mem_range.1 hi)]), range_but, rng_add k m, List.map_append, List.map_append, List.map_map, List.map_map]
  congr 1
  · refine List.map_congr_left fun i hi => ?_
    have := List.mem_range.1 hi
    rw [getD_erase, getD_erase, if_pos this]
  · refine List.map_congr_left fun i hi => ?_
    simp only [Function.comp]
    rw [getD_erase, getD_erase, if_neg (by omega), show k + i + 1 = k + (1 + i) by omega]

/-- A key that is not there is taken out: nothing turns. -/
theorem del_none {vK : List (List Int)} {ps : List Value} {n : Nat} {key : List Int} (hy : ∀ y ∈ key, Byt y) (hb : ∀ i, i < n → ∀ x ∈ vK.getD i [], Byt x) (hu : ∀ i, i < n → vK.getD i [] ≠ key) :
    (DataW.map (entF vK ps n)).del (.string (u8s key)) = .map (entF vK ps n) := by
  show DataW.map ((entF vK ps n).filter fun p => !p.1.sameKey (.string (u8s key))) = _
  congr 1
  rw [List.filter_eq_self]
  intro p hp
  simp only [entF, List.mem_map, List.mem_range] at hp
  obtain ⟨i, hi, rfl⟩ := hp
  rw [same_u8s (hb i hi) hy]
  simpa using hu i hi

theorem asc_erase {vK : List (List Int)} {n k : Nat} (h : ∀ i, i < n → stepB vK i = true) (hk : k < n) : ∀ i, i < n - 1 → stepB (vK.eraseIdx k) i = true := by
  intro i hi
  simp only [stepB, getD_erase, Bool.and_eq_true, Bool.or_eq_true, beq_iff_eq]
  have hn : ∀ j, j < n → nameB (vK.getD j []) = true := fun j hj => by have := h j hj; simp only [stepB, Bool.and_eq_true] at this; exact this.1
  refine ⟨hn _ (by split <;> omega), ?_⟩
  by_cases h0 : i = 0
  · exact .inl h0
  · exact .inr (asc_lt h _ (by split <;> omega) _ (by split <;> split <;> omega))

/-- The map without its k-th key. -/
def dropV (d : Nat) (v : Vl (d + 1)) (k : Nat) : Vl (d + 1) := ((5 : Int), (0 : Int), ([] : List Int), v.2.2.2.1.eraseIdx k, v.2.2.2.2.eraseIdx k)

theorem sum_erase {α : Type} (f : α → Nat) : ∀ (l : List α) (k : Nat), ((l.eraseIdx k).map f).sum ≤ (l.map f).sum
  | [], k => by simp
  | x :: l, 0 => by simp
  | x :: l, k + 1 => by have := sum_erase f l k; simp; omega

theorem drop_sz (d : Nat) (v : Vl (d + 1)) (k : Nat) : szV (d + 1) (dropV d v k) ≤ szV (d + 1) v := by
  have h1 : szV (d + 1) (dropV d v k) = 0 + szK (v.2.2.2.1.eraseIdx k) + ((v.2.2.2.2.eraseIdx k).length + ((v.2.2.2.2.eraseIdx k).map (szV d)).sum) := rfl
  have h2 : szV (d + 1) v = szT v.2.2.1 + szK v.2.2.2.1 + (v.2.2.2.2.length + (v.2.2.2.2.map (szV d)).sum) := rfl
  have h3 := sum_erase (szV d) v.2.2.2.2 k
  have h4 := sum_erase List.length v.2.2.2.1 k
  have h5 : (v.2.2.2.1.eraseIdx k).length ≤ v.2.2.2.1.length := List.length_eraseIdx_le _ _
  have h6 : (v.2.2.2.2.eraseIdx k).length ≤ v.2.2.2.2.length := List.length_eraseIdx_le _ _
  have h7 : ∀ l : List (List Int), szK l = l.length + (l.map List.length).sum := fun l => rfl
  rw [h1, h2, h7, h7]
  omega

theorem drop_parts (d : Nat) (v : Vl (d + 1)) (k : Nat) : partsV (d + 1) (dropV d v k) ≤ partsV (d + 1) v := by
  have h1 : partsV (d + 1) (dropV d v k) = 1 + ((v.2.2.2.2.eraseIdx k).map (partsV d)).sum := rfl
  have h2 : partsV (d + 1) v = 1 + (v.2.2.2.2.map (partsV d)).sum := rfl
  have h3 := sum_erase (partsV d) v.2.2.2.2 k
  omega

theorem drop_good {d : Nat} {vn : Int} {vs : List Int} {vK : List (List Int)} {vL : List (Vl d)} {deep k : Nat} (h : goodB (d + 1) (5, vn, vs, vK, vL) deep = true) (hk : k < vL.length) : goodB (d + 1) (dropV d (5, vn, vs, vK, vL) k) deep = true := by
  obtain ⟨h1, h2, h3⟩ := (good_succ _ _ _ _ _ _ _).1 h
  obtain ⟨hl, ha⟩ := shape_mapB h2
  refine (good_succ _ _ _ _ _ _ _).2 ⟨h1, ?_, fun j hj => ?_⟩
  · have hst : ∀ i, i < vK.length → stepB vK i = true := fun i hi => ascB_at ha hi
    have hl1 : (vK.eraseIdx k).length = vK.length - 1 := List.length_eraseIdx_of_lt (by omega)
    have hl2 : (vL.eraseIdx k).length = vL.length - 1 := List.length_eraseIdx_of_lt hk
    have ha' : ascB (vK.eraseIdx k) = true := ascB_yes (fun i hi => asc_erase hst (by omega) i (by omega))
    simp only [shapeB, Bool.and_eq_true] at h2 ⊢
    refine ⟨?_, ?_⟩
    · have := h2.1
      simp [bareB] at this ⊢
    · simp [ha', hl1, hl2, hl]
  · have hj' : j < (vL.eraseIdx k).length := hj
    show goodB d (vL.eraseIdx k)[j] (deep + 1) = true
    rw [List.getElem_eraseIdx]
    split
    · exact h3 _ _
    · exact h3 _ _
end Go.Proofs.Ytkklhdeecamifaa
