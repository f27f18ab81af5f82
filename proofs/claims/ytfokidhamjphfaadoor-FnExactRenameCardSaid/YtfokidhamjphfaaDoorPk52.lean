/-
  Texts that a law leans on, one behind the other; no statement is proved here.
-/
import Derived.Test.YtfokidhamjphfaaDoorPk44
/-
  How large a renamed expression is. No statement is proved here.
-/
namespace Go.Proofs.YtfokidhamjphfaaDoor
open Go.RowKit
set_option linter.unusedVariables false
set_option linter.unusedSimpArgs false

theorem sum_ten {α : Type} (f g : α → Nat) : ∀ l : List α, (∀ x ∈ l, f x + 10 ≤ 30 * g x) → (l.map f).sum + 10 * l.length ≤ 30 * (l.map g).sum
  | [], _ => by simp
  | x :: l, h => by
    have h1 := h x (by simp)
    have h2 := sum_ten f g l fun y hy => h y (by simp [hy])
    simp only [List.map_cons, List.sum_cons, List.length_cons]
    omega

theorem sum_nine : ∀ l : List (List Int), (∀ x ∈ l, x.length ≤ 8) → (l.map List.length).sum ≤ 8 * l.length
  | [], _ => by simp
  | x :: l, h => by
    have h1 := h x (by simp)
    have h2 := sum_nine l fun y hy => h y (by simp [hy])
    simp only [List.map_cons, List.sum_cons, List.length_cons]
    omega

theorem name_len {xs : List Int} (h : nameB xs = true) : xs.length ≤ 8 := by
  simp only [nameB, Bool.and_eq_true, decide_eq_true_eq] at h
  exact h.1.2
theorem asc_name {ks : List (List Int)} (h : ascB ks = true) : ∀ x ∈ ks, nameB x = true := by
  intro x hx
  obtain ⟨i, hi, e⟩ := getD_of_mem (z := []) hx
  have := ascB_at h hi
  simp only [stepB, Bool.and_eq_true] at this
  rw [← e]
  exact this.1
theorem says_len {c : Int} {s : List Int} (h : saysB c s = true) : s.length ≤ 20 := by
  unfold saysB at h
  split at h
  · simp only [textB, Bool.and_eq_true, decide_eq_true_eq] at h; exact h.1
  · split at h
    · have := name_len h; omega
    · split at h
      · simp only [wordB, Bool.and_eq_true] at h
        have := name_len h.1; omega
      · simp only [decide_eq_true_eq] at h; omega

theorem rn_sz (fr tz : List Int) (ht : tz.length ≤ 20) : ∀ (d : Nat) (v : Vl d) (deep : Nat), goodE d v deep = true → szV d (rnV fr tz d v) + 10 ≤ 30 * partsE d v
  | 0, v, _, _ => v.elim
  | d + 1, (vk, vn, vS, vK, vL), deep, h => by
    obtain ⟨_, hsh, hkids⟩ := (goodE_succ _ _ _ _ _ _ _).1 h
    have ih := sum_ten (fun x => szV d (rnV fr tz d x)) (partsE d) vL fun x hx => rn_sz fr tz ht d x (deep + 1) (by obtain ⟨i, hi, e⟩ := List.getElem_of_mem hx; rw [← e]; exact hkids i hi)
    simp only [shpB, Bool.and_eq_true, decide_eq_true_eq] at hsh
    obtain ⟨⟨⟨⟨⟨⟨_, _⟩, hK⟩, _⟩, _⟩, _⟩, hS⟩ := hsh
    have hKb : vK.length + (vK.map List.length).sum ≤ 9 * vL.length := by
      unfold keysB at hK
      split at hK
      · simp only [Bool.and_eq_true, decide_eq_true_eq] at hK
        have := sum_nine vK fun x hx => name_len (asc_name hK.2 x hx)
        omega
      · simp only [decide_eq_true_eq] at hK
        have : vK = [] := List.eq_nil_of_length_eq_zero hK
        subst this
        simp
    have hSb : (if vk = 6 ∧ vS = fr then tz else vS).length ≤ 20 := by
      split
      · exact ht
      · exact says_len hS
    show szT (if vk = 6 ∧ vS = fr then tz else vS) + szK vK + ((vL.map (rnV fr tz d)).length + ((vL.map (rnV fr tz d)).map (szV d)).sum) + 10 ≤ 30 * (1 + (vL.map (partsE d)).sum)
    have e : ((vL.map (rnV fr tz d)).map (szV d)).sum = (vL.map (fun x => szV d (rnV fr tz d x))).sum := by rw [List.map_map]; rfl
    rw [e, List.length_map]
    unfold szT szK
    omega

theorem rnA_sz (fr tz : List Int) (d : Nat) (v : Vl (d + 1)) : szV (d + 1) (rnA fr tz d v) ≤ 1048576 := by
  unfold rnA
  by_cases h : rnB fr tz d v = true
  · rw [if_pos h]
    simp only [rnB, exprB, Bool.and_eq_true, decide_eq_true_eq] at h
    have := rn_sz fr tz (by have := name_len h.2.2; omega) (d + 1) v 1 h.1.1
    omega
  · rw [if_neg h, sz_vNil]
    omega
end Go.Proofs.YtfokidhamjphfaaDoor
