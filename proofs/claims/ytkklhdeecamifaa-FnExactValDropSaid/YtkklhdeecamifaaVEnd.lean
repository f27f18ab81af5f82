/-
  What a call that makes a value leaves; a block of five cells, read behind new blocks.
-/
import Derived.Test.YtkklhdeecamifaaToV2
namespace Go.Proofs.Ytkklhdeecamifaa
open Go.RowKit
set_option linter.unusedVariables false
set_option linter.unusedSimpArgs false

/-- A block of five, read behind a new block. -/
theorem box_later {w : World} {g : Nat} {T : TypeId} {c0 c1 c2 c3 c4 : Value} (h : w.heap[g]? = some (.cells #[c0, c1, c2, c3, c4] T (0, 0))) :
    (∀ o, (w.alloc o).cell? ⟨g, 0, none⟩ = some c0) ∧ (∀ o, (w.alloc o).cell? ⟨g, 1, none⟩ = some c1) ∧ (∀ o, (w.alloc o).cell? ⟨g, 2, none⟩ = some c2) ∧ (∀ o, (w.alloc o).cell? ⟨g, 3, none⟩ = some c3) ∧ (∀ o, (w.alloc o).cell? ⟨g, 4, none⟩ = some c4) ∧ ∀ o j, (w.alloc o).frozen? ⟨g, j, none⟩ = false := by
  have hr : ∀ o, (w.alloc o).heap[g]? = some (.cells #[c0, c1, c2, c3, c4] T (0, 0)) := fun o => (Below.heap_alloc w o g (Array.getElem?_eq_some_iff.1 h).1).trans h
  exact ⟨fun o => (row5 (hr o)).1, fun o => (row5 (hr o)).2.1, fun o => (row5 (hr o)).2.2.1, fun o => (row5 (hr o)).2.2.2.1, fun o => (row5 (hr o)).2.2.2.2.1, fun o j => (row5 (hr o)).2.2.2.2.2 j⟩

/-- What valueOf leaves. -/
def ValEnd (d : Nat) (v : Vl d) (w : World) (e : Ending) (w' : World) : Prop :=
  ∃ u0 u1 u2 u3 u4, e = .returned (.agg #[u0, u1, u2, u3, u4]) ∧ ∃ B, VOwn w' d (u0, u1, u2, u3, u4) v B ∧ (∀ b ∈ B, w.heap.size ≤ b ∧ b < w'.heap.size) ∧ Below w.heap.size w w'

/-- .. and behind two. -/
theorem box_later2 {w : World} {g : Nat} {T : TypeId} {c0 c1 c2 c3 c4 : Value} (h : w.heap[g]? = some (.cells #[c0, c1, c2, c3, c4] T (0, 0))) :
    (∀ o o', ((w.alloc o).alloc o').cell? ⟨g, 0, none⟩ = some c0) ∧ (∀ o o', ((w.alloc o).alloc o').cell? ⟨g, 1, none⟩ = some c1) ∧ (∀ o o', ((w.alloc o).alloc o').cell? ⟨g, 2, none⟩ = some c2) ∧ (∀ o o', ((w.alloc o).alloc o').cell? ⟨g, 3, none⟩ = some c3) ∧ (∀ o o', ((w.alloc o).alloc o').cell? ⟨g, 4, none⟩ = some c4) ∧ ∀ o o' j, ((w.alloc o).alloc o').frozen? ⟨g, j, none⟩ = false := by
  have hr : ∀ o, (w.alloc o).heap[g]? = some (.cells #[c0, c1, c2, c3, c4] T (0, 0)) := fun o => (Below.heap_alloc w o g (Array.getElem?_eq_some_iff.1 h).1).trans h
  exact ⟨fun o => (box_later (hr o)).1, fun o => (box_later (hr o)).2.1, fun o => (box_later (hr o)).2.2.1, fun o => (box_later (hr o)).2.2.2.1, fun o => (box_later (hr o)).2.2.2.2.1, fun o => (box_later (hr o)).2.2.2.2.2⟩

end Go.Proofs.Ytkklhdeecamifaa
