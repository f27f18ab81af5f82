/-
  Rows of bytes of the call's own: an empty one, one byte laid in a block, a nil slice.
-/
import Derived.Test.YtkklhdeecamifaaBase
namespace Go.Proofs.Ytkklhdeecamifaa
open Go.RowKit
set_option linter.unusedVariables false

theorem bts_empty (w : World) : Bts (w.alloc (.cells #[] 5)) w.heap.size (.slice (some ⟨w.heap.size, 0, none⟩) 0 0) [] :=
  ⟨by simp, by simpa [cellsOf] using World.ownsRow_lit (base := w.heap.size) (e := 5) (size := 1) w #[] 0 (Nat.le_refl _) (Nat.zero_le _) rfl⟩

/-- One byte that was laid in a block of its own. -/
theorem seg_one (w : World) (c : Int) (h : Byt c) : Seg (w.alloc (.cells #[.int .u8 c] 5)) (some ⟨w.heap.size, 0, none⟩) [c] := by
  refine ⟨by simpa using h, .inr ⟨w.heap.size, 0, rfl, fun i hi => ?_⟩⟩
  have : i = 0 := by simpa using hi
  subst this
  simp

theorem Bts.alloc {w : World} {base : Nat} {v : Value} {xs : List Int} (h : Bts w base v xs) (o : Obj) : Bts (w.alloc o) base v xs := ⟨h.1, h.2.alloc o⟩

theorem Bts.own {w : World} {base : Nat} {v : Value} {xs : List Int} (h : Bts w base v xs) : ∀ k, v.ownBlock = some k → base ≤ k := fun k hk => (h.2.lt k hk).1

theorem bts_nil (w : World) (base : Nat) : Bts w base (.slice none 0 0) [] := ⟨by simp, by simp [cellsOf], .inl ⟨rfl, rfl⟩⟩

end Go.Proofs.Ytkklhdeecamifaa
