/-
  A map of parts as its datum: the entries in the order of the keys.
-/
import Derived.Test.YtkklhdeecamifaaMapD
import Derived.Test.YtkklhdeecamifaaFldS
namespace Go.Proofs.Ytkklhdeecamifaa
open Go.RowKit
set_option linter.unusedVariables false
set_option linter.unusedSimpArgs false

theorem before_eq : ∀ a b : List UInt8, bytesBefore a b = Op.bytesLess a b
  | [], [] => rfl
  | [], _ :: _ => rfl
  | _ :: _, [] => rfl
  | x :: a, y :: b => by
    have ih := before_eq a b
    unfold bytesBefore Op.bytesLess
    rw [ih]

/-- Names that ascend one by one ascend. -/
theorem asc_lt {vK : List (List Int)} {k : Nat} (h : ∀ i, i < k → stepB vK i = true) : ∀ j, j < k → ∀ i, i < j → Op.bytesLess (u8s (vK.getD i [])) (u8s (vK.getD j [])) = true := by
  intro j
  induction j with
  | zero => intro _ i hi; omega
  | succ j ih =>
    intro hj i hi
    have hs := h (j + 1) hj
    have h1 : Op.bytesLess (u8s (vK.getD j [])) (u8s (vK.getD (j + 1) [])) = true := by
      unfold stepB at hs
      rw [Bool.and_eq_true] at hs
      have h2 := hs.2
      rw [Nat.add_sub_cancel] at h2
      have e : (j + 1 == 0) = false := by simp
      rw [e, Bool.false_or] at h2
      exact h2
    by_cases e : i = j
    · rw [e]; exact h1
    · exact less_trans _ _ _ (ih (by omega) i (by omega)) h1

theorem less_ne {a b : List UInt8} (h : Op.bytesLess a b = true) : (a == b) = false := by
  rw [beq_eq_false_iff_ne]
  intro e
  rw [e, less_irrefl] at h
  simp at h

theorem less_asymm {a b : List UInt8} (h : Op.bytesLess a b = true) : Op.bytesLess b a = false := by
  cases h2 : Op.bytesLess b a with
  | false => rfl
  | true =>
    have := less_trans _ _ _ h h2
    rw [less_irrefl] at this
    simp at this

theorem insert_last {H : Type} (x : Lit × DataW H) : ∀ l : List (Lit × DataW H), (∀ y ∈ l, x.1.before y.1 = false) → DataW.insert x l = l ++ [x]
  | [], _ => rfl
  | y :: r, h => by
    have h1 := h y (by simp)
    have ih := insert_last x r (fun z hz => h z (by simp [hz]))
    unfold DataW.insert
    rw [h1, ih]
    rfl

/-- The first k entries. -/
def entF (vK : List (List Int)) (ps : List Value) (k : Nat) : List (Lit × DataW Value) := (List.range k).map fun i => (.string (u8s (vK.getD i [])), .held (ps.getD i .nilIface))

theorem mapD_list (vK : List (List Int)) (ps : List Value) : ∀ k, (∀ i, i < k → stepB vK i = true) → mapD vK ps k = .map (entF vK ps k)
  | 0, _ => rfl
  | k + 1, h => by
    have ih := mapD_list vK ps k (fun i hi => h i (by omega))
    show (mapD vK ps k).put _ _ = _
    rw [ih]
    have hl : ∀ y ∈ entF vK ps k, Op.bytesLess (match y.1 with | .string s => s | _ => []) (u8s (vK.getD k [])) = true ∧ ∃ s, y.1 = .string s := by
      intro y hy
      simp only [entF, List.mem_map, List.mem_range] at hy
      obtain ⟨i, hi, rfl⟩ := hy
      exact ⟨asc_lt h k (by omega) i hi, _, rfl⟩
    have hf : (entF vK ps k).filter (fun p => !p.1.sameKey (.string (u8s (vK.getD k [])))) = entF vK ps k := by
      rw [List.filter_eq_self]
      intro y hy
      obtain ⟨h1, s, hs⟩ := hl y hy
      rw [hs] at h1 ⊢
      show (!(s == u8s (vK.getD k []))) = true
      rw [less_ne h1]
      rfl
    show DataW.map (DataW.insert _ ((entF vK ps k).filter _)) = _
    rw [hf, insert_last _ _ (fun y hy => by
      obtain ⟨h1, s, hs⟩ := hl y hy
      rw [hs] at h1 ⊢
      show bytesBefore _ _ = false
      rw [before_eq]
      exact less_asymm h1)]
    simp [entF, List.range_succ]
end Go.Proofs.Ytkklhdeecamifaa
