/-
  Texts that a law leans on, one behind the other; no statement is proved here.
-/
import Derived.Test.YthnkedbmfhokiaaGreatDoorPk39
import Derived.Test.YthnkedbmfhokiaaGreatDoorPk19
import Derived.Test.YthnkedbmfhokiaaGreatDoorPk0
/-
  ValRead of the specification: the value whose bytes these are. No statement is proved here.
-/
namespace Go.Proofs.YthnkedbmfhokiaaGreatDoor
open Go.RowKit
set_option linter.unusedVariables false
set_option linter.unusedSimpArgs false

/-- What ValRead answers: the value, of the call's own, or nothing. -/
def ReadEnd (d : Nat) (v : Vl d) (ok : Bool) (w : World) (e : Ending) (w' : World) : Prop :=
  Below w.heap.size w w' ∧ ((ok = true ∧ ∃ (uk un : Int) (s2 : Option Addr) (n2 r2 : Nat) (s3 : Option Addr) (n3 r3 : Nat) (s4 : Option Addr) (n4 r4 : Nat), e = .returned (.tuple #[.agg #[.int .i64 uk, .int .i64 un, .slice s2 n2 r2, .slice s3 n3 r3, .slice s4 n4 r4], .bool true]) ∧ ∃ B, VOwn w' d (.int .i64 uk, .int .i64 un, .slice s2 n2 r2, .slice s3 n3 r3, .slice s4 n4 r4) v B ∧ ∀ b ∈ B, w.heap.size ≤ b ∧ b < w'.heap.size) ∨
    (ok = false ∧ e = .returned (.tuple #[.agg #[.int .i64 0, .int .i64 0, .slice none 0 0, .slice none 0 0, .slice none 0 0], .bool false])))

theorem readEnd_yes {d : Nat} {v : Vl d} {ok : Bool} {w wr : World} {uk un : Int} {s2 : Option Addr} {n2 r2 : Nat} {s3 : Option Addr} {n3 r3 : Nat} {s4 : Option Addr} {n4 r4 : Nat} (hok : ok = true) (hb : Below w.heap.size w wr) (hR : w.heap.size < wr.heap.size)
    (hv : ∃ B, VOwn wr d (.int .i64 uk, .int .i64 un, .slice s2 n2 r2, .slice s3 n3 r3, .slice s4 n4 r4) v B ∧ ∀ b ∈ B, w.heap.size < b ∧ b < wr.heap.size) :
    ReadEnd d v ok w (.returned (.tuple #[.agg #[.int .i64 uk, .int .i64 un, .slice s2 n2 r2, .slice s3 n3 r3, .slice s4 n4 r4], .bool true])) (set5 wr w.heap.size 0 (.int .i64 uk) (.int .i64 un) (.slice s2 n2 r2) (.slice s3 n3 r3) (.slice s4 n4 r4)) := by
  have h5 := set5_grown wr w.heap.size 0 (.int .i64 uk) (.int .i64 un) (.slice s2 n2 r2) (.slice s3 n3 r3) (.slice s4 n4 r4)
  have hz5 := set5_size wr w.heap.size 0 (.int .i64 uk) (.int .i64 un) (.slice s2 n2 r2) (.slice s3 n3 r3) (.slice s4 n4 r4)
  obtain ⟨B, ho, hB⟩ := hv
  exact ⟨hb.grown h5 (by omega) (by intro j hj; simp at hj; omega), .inl ⟨hok, _, _, _, _, _, _, _, _, _, _, _, rfl, B, VOwn.agree d ho fun b h => h5.block b (hB b h).2 (by have := (hB b h).1; simp; omega), fun b h => by have := hB b h; omega⟩⟩
theorem readEnd_no {d : Nat} {v : Vl d} {ok : Bool} {w wr : World} (hok : ok = false) (hb : Below w.heap.size w wr) (hR : w.heap.size < wr.heap.size) :
    ReadEnd d v ok w (.returned (.tuple #[.agg #[.int .i64 0, .int .i64 0, .slice none 0 0, .slice none 0 0, .slice none 0 0], .bool false])) (set5 wr w.heap.size 0 (.int .i64 0) (.int .i64 0) (.slice none 0 0) (.slice none 0 0) (.slice none 0 0)) :=
  ⟨hb.grown (set5_grown wr w.heap.size 0 (.int .i64 0) (.int .i64 0) (.slice none 0 0) (.slice none 0 0) (.slice none 0 0)) (by omega) (by intro j hj; simp at hj; omega), .inr ⟨hok, rfl⟩⟩

end Go.Proofs.YthnkedbmfhokiaaGreatDoor
