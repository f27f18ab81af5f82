/-
  The decimal digits of a number, as bytes.
-/
import Derived.Test.YthmljjebggljmaaDoorBts0
import Derived.Lib.ItoaNum
namespace Go.Proofs.YthmljjebggljmaaDoor
open Go.RowKit
set_option linter.unusedVariables false

/-- The digits of a number that is not below nought. -/
def decI (u : Nat) : List Int := (Lib.decDigits u).map fun b => (b.toNat : Int)
theorem decI_small {u : Nat} (h : u < 10) : decI u = [48 + (u : Int)] := by
  unfold decI
  rw [Lib.decDigits, dif_pos h]
  simp
  omega
theorem decI_big {u : Nat} (h : ¬ u < 10) : decI u = decI (u / 10) ++ [48 + ((u % 10 : Nat) : Int)] := by
  unfold decI
  rw [Lib.decDigits, dif_neg h]
  simp
  omega
theorem decI_byt (u : Nat) : ∀ x ∈ decI u, Byt x := by
  intro x hx
  simp only [decI, List.mem_map] at hx
  obtain ⟨b, _, rfl⟩ := hx
  have := b.toNat_lt
  unfold Byt
  omega
theorem decI_lenK : ∀ (k u : Nat), u < 10 ^ (k + 1) → (decI u).length ≤ k + 1
  | 0, u, h => by rw [decI_small (by simpa using h)]; simp
  | k + 1, u, h => by
    by_cases h1 : u < 10
    · rw [decI_small h1]; simp
    · rw [decI_big h1, List.length_append]
      rw [Nat.pow_succ] at h
      have := decI_lenK k (u / 10) (by omega)
      simp
      omega
theorem decI_len (u : Nat) (h : u < 18446744073709551616) : (decI u).length ≤ 20 := decI_lenK 19 u (by omega)

/-- One byte in a block of its own. -/
theorem bts_one (w : World) (c : Int) (h : Byt c) : Bts (w.alloc (.cells #[.int .u8 c] 5)) w.heap.size (.slice (some ⟨w.heap.size, 0, none⟩) 1 1) [c] :=
  ⟨by simpa using h, by simpa [cellsOf] using World.ownsRow_lit (base := w.heap.size) (e := 5) (size := 1) w #[.int .u8 c] 1 (Nat.le_refl _) (by unfold maxLen; omega) rfl⟩

theorem decI_two {u : Nat} (h : u < 100) : (decI u).length ≤ 2 := by
  by_cases h1 : u < 10
  · rw [decI_small h1]; simp
  · rw [decI_big h1, decI_small (by omega)]; simp
end Go.Proofs.YthmljjebggljmaaDoor
