/-
  Reading a number, plain: what GetNum answers; no Go text here.
-/
import Derived.Test.YtlfbpmnpjbegdaaNums
namespace Go.Proofs.Ytlfbpmnpjbegdaa
set_option linter.unusedVariables false

/-- The bytes from place a on are read, k of them behind, each worth s; 'acc' is what they come to. -/
def getFrom (xs : List Int) (a : Nat) : Nat → Nat → Int → Int → Int × Int
  | 0, _, _, _ => (0, -1)
  | fuel + 1, k, s, acc =>
    if a + k < xs.length then
      if xs.getD (a + k) 0 < 128 then
        if (xs.getD (a + k) 0 = 0 ∧ 0 < k) ∨ 2147483647 < acc + xs.getD (a + k) 0 * s then (0, -1) else (acc + xs.getD (a + k) 0 * s, ((a + k + 1 : Nat) : Int))
      else getFrom xs a fuel (k + 1) (s * 128) (acc + (xs.getD (a + k) 0 - 128) * s)
    else (0, -1)

/-- What GetNum answers. -/
def getNum (xs : List Int) (a : Int) : Int × Int := if a < 0 then (0, -1) else getFrom xs a.toNat 5 0 1 0

/-- How many bytes were read, and what the next one is worth. -/
def Place (k : Nat) (s : Int) : Prop := (k = 0 ∧ s = 1) ∨ (k = 1 ∧ s = 128) ∨ (k = 2 ∧ s = 16384) ∨ (k = 3 ∧ s = 2097152) ∨ (k = 4 ∧ s = 268435456) ∨ (k = 5 ∧ s = 34359738368)

theorem getFrom_out (xs : List Int) (a fuel k : Nat) (s acc : Int) (h : ¬ a + k < xs.length) : getFrom xs a fuel k s acc = (0, -1) := by
  cases fuel with
  | zero => rfl
  | succ f => simp [getFrom, h]

theorem getFrom_bad (xs : List Int) (a fuel k : Nat) (s acc : Int) (h : a + k < xs.length) (h1 : xs.getD (a + k) 0 < 128) (h2 : (xs.getD (a + k) 0 = 0 ∧ 0 < k) ∨ 2147483647 < acc + xs.getD (a + k) 0 * s) : getFrom xs a (fuel + 1) k s acc = (0, -1) := by
  rw [getFrom, if_pos h, if_pos h1, if_pos h2]

theorem getFrom_last (xs : List Int) (a fuel k : Nat) (s acc : Int) (h : a + k < xs.length) (h1 : xs.getD (a + k) 0 < 128) (h2 : ¬ ((xs.getD (a + k) 0 = 0 ∧ 0 < k) ∨ 2147483647 < acc + xs.getD (a + k) 0 * s)) : getFrom xs a (fuel + 1) k s acc = (acc + xs.getD (a + k) 0 * s, ((a + k + 1 : Nat) : Int)) := by
  rw [getFrom, if_pos h, if_pos h1, if_neg h2]

theorem getFrom_more (xs : List Int) (a fuel k : Nat) (s acc : Int) (h : a + k < xs.length) (h1 : ¬ xs.getD (a + k) 0 < 128) : getFrom xs a (fuel + 1) k s acc = getFrom xs a fuel (k + 1) (s * 128) (acc + (xs.getD (a + k) 0 - 128) * s) := by
  rw [getFrom, if_pos h, if_neg h1]

theorem getNum_neg (xs : List Int) (a : Int) (h : a < 0) : getNum xs a = (0, -1) := by simp [getNum, h]
theorem getNum_nat (xs : List Int) (a : Nat) : getNum xs a = getFrom xs a 5 0 1 0 := by
  rw [getNum, if_neg (by omega)]
  simp
theorem getNum_out (xs : List Int) (a : Nat) (h : xs.length ≤ a) : getNum xs a = (0, -1) := by
  rw [getNum_nat, getFrom_out _ _ _ _ _ _ (by omega)]

theorem le_of_wf {x : Int} (h : (Lit.int .i64 x).wf = true) : x ≤ 9223372036854775807 := by
  simp [Lit.wf, IntKind.min, IntKind.max, IntKind.bits, IntKind.signed] at h
  omega

/-- What is read as a number fits; the place behind it lies in the bytes. -/
theorem getFrom_fits (xs : List Int) (a fuel k : Nat) (s acc : Int) (hb : ∀ x ∈ xs, Byt x) (hs : 0 ≤ s) (ha : 0 ≤ acc) :
    (getFrom xs a fuel k s acc = (0, -1)) ∨ (0 ≤ (getFrom xs a fuel k s acc).1 ∧ (getFrom xs a fuel k s acc).1 ≤ 2147483647 ∧ ∃ j : Nat, (getFrom xs a fuel k s acc).2 = j ∧ a < j ∧ j ≤ xs.length) := by
  induction fuel generalizing k s acc with
  | zero => exact .inl rfl
  | succ f ih =>
    have hx := getD_byt hb (a + k)
    by_cases h : a + k < xs.length
    · by_cases h1 : xs.getD (a + k) 0 < 128
      · by_cases h2 : (xs.getD (a + k) 0 = 0 ∧ 0 < k) ∨ 2147483647 < acc + xs.getD (a + k) 0 * s
        · exact .inl (getFrom_bad xs a f k s acc h h1 h2)
        · have hm : 0 ≤ xs.getD (a + k) 0 * s := Int.mul_nonneg hx.1 hs
          rw [getFrom_last xs a f k s acc h h1 h2]
          refine .inr ⟨by simp only; omega, by simp only; omega, a + k + 1, rfl, by omega, by omega⟩
      · have hm : 0 ≤ (xs.getD (a + k) 0 - 128) * s := Int.mul_nonneg (by omega) hs
        rw [getFrom_more xs a f k s acc h h1]
        exact ih (k + 1) (s * 128) _ (by omega) (by omega)
    · exact .inl (getFrom_out xs a (f + 1) k s acc h)

theorem getNum_fits (xs : List Int) (a : Int) (hb : ∀ x ∈ xs, Byt x) :
    getNum xs a = (0, -1) ∨ (0 ≤ (getNum xs a).1 ∧ (getNum xs a).1 ≤ 2147483647 ∧ ∃ j : Nat, (getNum xs a).2 = j ∧ a < j ∧ j ≤ xs.length ∧ 0 ≤ a) := by
  by_cases h : a < 0
  · exact .inl (getNum_neg xs a h)
  · obtain ⟨p, rfl⟩ := Int.eq_ofNat_of_zero_le (show 0 ≤ a by omega)
    rw [getNum_nat]
    rcases getFrom_fits xs p 5 0 1 0 hb (by omega) (by omega) with h1 | ⟨h1, h2, j, h3, h4, h5⟩
    · exact .inl h1
    · exact .inr ⟨h1, h2, j, h3, by omega, h5, by omega⟩

end Go.Proofs.Ytlfbpmnpjbegdaa
