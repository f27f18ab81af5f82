/-
  A piece of a slice of bytes can be read.
-/
import Derived.Test.YthmljjebggljmaaDoorBase
namespace Go.Proofs.YthmljjebggljmaaDoor
open Go.RowKit
set_option linter.unusedVariables false

theorem Seg.piece {w : World} {b off : Nat} {xs : List Int} (h : Seg w (some ⟨b, off, none⟩) xs) (j s : Nat) (hj : j + s ≤ xs.length) : Seg w (some ⟨b, off + j, none⟩) ((xs.drop j).take s) := by
  refine ⟨fun x hx => h.1 x (List.mem_of_mem_drop (List.mem_of_mem_take hx)), ?_⟩
  by_cases hs : s = 0
  · exact .inl (by simp [hs])
  · rcases h.2 with h0 | ⟨b', off', h1, h2⟩
    · subst h0; simp at hj; omega
    · simp at h1
      obtain ⟨rfl, rfl⟩ := h1
      refine .inr ⟨b, off + j, rfl, fun i hi => ?_⟩
      have hl : i < s := by simp at hi; omega
      have := h2 (j + i) (by omega)
      rw [Nat.add_assoc, this]
      simp [List.getD_eq_getElem?_getD, List.getElem?_drop, hl]
theorem Seg.front {w : World} {a : Option Addr} {xs : List Int} (h : Seg w a xs) (s : Nat) (hs : s ≤ xs.length) : Seg w a (xs.take s) := by
  refine ⟨fun x hx => h.1 x (List.mem_of_mem_take hx), ?_⟩
  rcases h.2 with h0 | ⟨b, off, rfl, h2⟩
  · subst h0; exact .inl (by simp)
  · refine .inr ⟨b, off, rfl, fun i hi => ?_⟩
    have hl : i < s := by simp at hi; omega
    rw [h2 i (by omega)]
    simp [List.getD_eq_getElem?_getD, hl]
end Go.Proofs.YthmljjebggljmaaDoor
