/-
  Numbers as bytes, plain: what PutNum makes of a number, and what is read back; no Go text here.
-/
import Derived.Test.YtlfbpmnpjbegdaaBase
namespace Go.Proofs.Ytlfbpmnpjbegdaa
set_option linter.unusedVariables false

/-- The bytes of a number, seven bits a byte, the least first; the first argument bounds how many. -/
def digsF : Nat → Nat → List Int
  | 0, n => [(n : Int)]
  | f + 1, n => if n < 128 then [(n : Int)] else ((n % 128 + 128 : Nat) : Int) :: digsF f (n / 128)

/-- The bytes of a number. -/
def digs (n : Nat) : List Int := digsF n n

theorem digsF_small (f n : Nat) (h : n < 128) : digsF f n = [(n : Int)] := by
  cases f with
  | zero => rfl
  | succ f => simp [digsF, h]

theorem digsF_enough (f : Nat) : ∀ (g n : Nat), n ≤ f → n ≤ g → digsF f n = digsF g n := by
  induction f with
  | zero =>
    intro g n h1 h2
    rw [digsF_small 0 n (by omega), digsF_small g n (by omega)]
  | succ f ih =>
    intro g n h1 h2
    by_cases h : n < 128
    · rw [digsF_small _ n h, digsF_small _ n h]
    · cases g with
      | zero => omega
      | succ g =>
        simp only [digsF, if_neg h]
        rw [ih g (n / 128) (by omega) (by omega)]

theorem digs_small (n : Nat) (h : n < 128) : digs n = [(n : Int)] := digsF_small n n h
theorem digs_big (n : Nat) (h : ¬ n < 128) : digs n = ((n % 128 + 128 : Nat) : Int) :: digs (n / 128) := by
  unfold digs
  cases n with
  | zero => omega
  | succ m =>
    rw [digsF, if_neg h, digsF_enough m ((m + 1) / 128) ((m + 1) / 128) (by omega) (by omega)]

theorem digs_byt (n : Nat) : ∀ x ∈ digs n, Byt x := by
  induction n using Nat.strongRecOn with
  | ind n ih =>
    intro x hx
    by_cases h : n < 128
    · rw [digs_small n h] at hx
      simp at hx
      unfold Byt; omega
    · rw [digs_big n h] at hx
      simp at hx
      rcases hx with rfl | hx
      · unfold Byt; omega
      · exact ih (n / 128) (by omega) x hx

theorem digs_len_pos (n : Nat) : 1 ≤ (digs n).length := by
  by_cases h : n < 128
  · rw [digs_small n h]; simp
  · rw [digs_big n h]; simp

theorem digs_len (n : Nat) (h : n ≤ 2147483647) : (digs n).length ≤ 5 := by
  by_cases h1 : n < 128
  · rw [digs_small n h1]; simp
  rw [digs_big n h1]
  by_cases h2 : n / 128 < 128
  · rw [digs_small _ h2]; simp
  rw [digs_big _ h2]
  by_cases h3 : n / 128 / 128 < 128
  · rw [digs_small _ h3]; simp
  rw [digs_big _ h3]
  by_cases h4 : n / 128 / 128 / 128 < 128
  · rw [digs_small _ h4]; simp
  rw [digs_big _ h4, digs_small _ (by omega)]
  simp

/-- What PutNum answers. -/
def putNum (xs : List Int) (n : Int) : List Int := if n < 0 ∨ 2147483647 < n then xs else xs ++ digs n.toNat

theorem putNum_no (xs : List Int) (n : Int) (h : n < 0 ∨ 2147483647 < n) : putNum xs n = xs := by simp [putNum, h]
theorem putNum_yes (xs : List Int) (n : Int) (h0 : 0 ≤ n) (h1 : n ≤ 2147483647) : putNum xs n = xs ++ digs n.toNat := by
  rw [putNum, if_neg (by omega)]

theorem putNum_byt (xs : List Int) (n : Int) (h : ∀ x ∈ xs, Byt x) : ∀ x ∈ putNum xs n, Byt x := by
  intro x hx
  unfold putNum at hx
  split at hx
  · exact h x hx
  · rcases List.mem_append.1 hx with h1 | h1
    · exact h x h1
    · exact digs_byt _ x h1

theorem putNum_len (xs : List Int) (n : Int) : (putNum xs n).length ≤ xs.length + 5 := by
  unfold putNum
  split
  · omega
  · have := digs_len n.toNat (by omega)
    simp; omega

end Go.Proofs.Ytlfbpmnpjbegdaa
