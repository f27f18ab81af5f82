/-
  valueOf of the program at a list.
-/
import Derived.Test.YtkklhdeecamifaaValT
import Derived.Test.YtkklhdeecamifaaRowW
import Derived.Test.YtkklhdeecamifaaPLs
import Derived.Deep.RegionHeld3
namespace Go.Proofs.Ytkklhdeecamifaa
open Go.RowKit Go.Shelf
set_option linter.unusedVariables false
set_option linter.unusedSimpArgs false

theorem info_valueT : (Try.prog.info? 30).map (fun i => (i.zero, i.size, i.bytes)) = some (some (.agg #[.int .i64 0, .int .i64 0, .slice none 0 0, .slice none 0 0, .slice none 0 0]), 5, 88) := by kernel_rfl

/-- The contract of valueOf, at depth d. -/
def ValAt (d : Nat) : Prop := ∀ (N : Nat) (p : Value) (v : Vl d) (deep : Nat) (w : World), PSeg (fun b => b < N) w d p v → N ≤ w.heap.size → goodB d v deep = true → partsV d v ≤ 40 → Calls Try.prog 32 #[p] w (ValEnd d v w)

/-- After k rounds: V's box (block B) holds a list of k values of the call's own, in blocks from 'base' on. -/
def VInv (w1 : World) (B base : Nat) (d : Nat) (l : List (Vl d)) (kk : Int) (y3 : Value) (k : Nat) (wr : World) (x : Value) (cs : List (List Value)) (Bi : List (List Nat)) : Prop :=
  wr.heap[B]? = some (.cells #[.int .i64 kk, .int .i64 0, .slice none 0 0, y3, x] 30 (0, 0)) ∧ RW 30 5 (ItV d l) wr base x k cs Bi ∧ Below B w1 wr ∧ base ≤ wr.heap.size

theorem vinv_step {w1 wr w5 w6 : World} {B base d : Nat} {l : List (Vl d)} {kk : Int} {y3 : Value} {k : Nat} {x : Value} {cs : List (List Value)} {Bi : List (List Nat)} {c : List Value} {Bv : List Nat} {g cp : Nat} {o : Obj} (h : VInv w1 B base d l kk y3 k wr x cs Bi) (hB : B < base)
    (b5 : Below wr.heap.size wr w5) (hv : ItV d l w5 k c Bv) (hBv : ∀ b ∈ Bv, wr.heap.size ≤ b ∧ b < w5.heap.size) (hBn : Bv.Nodup)
    (hown : w6.ownsRow base 30 5 (.slice (some ⟨g, 0, none⟩) (k + 1) cp) (k + 1) (cs.flatten ++ c)) (hg : (w5.alloc o).grownBy w6 x.ownBlock) (hat : x.ownBlock = some g ∨ g = w5.heap.size + 1) :
    w6.heap[B]? = some (.cells #[.int .i64 kk, .int .i64 0, .slice none 0 0, y3, x] 30 (0, 0)) ∧ VInv w1 B base d l kk y3 (k + 1) (w6.setCell ⟨B, 4, none⟩ (.slice (some ⟨g, 0, none⟩) (k + 1) cp)) (.slice (some ⟨g, 0, none⟩) (k + 1) cp) (cs ++ [c]) (Bi ++ [Bv]) ∧ Below wr.heap.size wr w5 := by
  obtain ⟨h1, h2, h3, h4⟩ := h
  have hz5 := b5.size
  have hz6 := hg.size
  simp at hz6
  have hxlt := h2.2.2.1.lt
  have hBw : B < wr.heap.size := by omega
  have hneB : some B ≠ x.ownBlock := fun e => by have := hxlt B e.symm; omega
  have hV6 : w6.heap[B]? = some (.cells #[.int .i64 kk, .int .i64 0, .slice none 0 0, y3, x] 30 (0, 0)) := (hg.block B (by simp; omega) hneB).trans ((Below.heap_alloc _ _ _ (by omega)).trans ((b5.block B hBw).trans h1))
  have hA := grown1 w6 B 4 (.slice (some ⟨g, 0, none⟩) (k + 1) cp)
  have hR := RW.add (w2 := w5.alloc o) (ItV.agree d l) h2 (fun b hb => (Below.heap_alloc _ _ _ (by omega)).trans (b5.block b hb)) (by simp; omega) (ItV.agree d l _ _ _ _ _ hv fun b hb => Below.heap_alloc _ _ _ (hBv b hb).2) (fun b hb => by have := hBv b hb; simp; omega) hBn h4 hown hg (by simpa using hat)
  refine ⟨hV6, ⟨heap_setCell_same w6 B 4 _ _ _ hV6, ?_, ?_, ?_⟩, b5⟩
  · refine hR.agree (ItV.agree d l) (fun b hb => ?_) (by simp [World.setCell])
    have := hR.2.2.2.2.2 b hb
    exact Below.heap_setCell w6 _ _ b (by show b ≠ B; omega)
  · have hb1 : Below B w1 (w5.alloc o) := (Below.trans h3 (b5.mono (by omega))).alloc (by have := h3.size; omega) o
    have hb2 := hb1.grown hg (by simp; omega) (fun j hj => by have := hxlt j hj; omega)
    exact hb2.grown hA (by omega) (by intro j hj; simp at hj; omega)
  · show base ≤ (w6.setCell _ _).heap.size
    simp [World.setCell]
    omega

/-- What a call of valueOf leaves of it. -/
def VCall (B base : Nat) (d : Nat) (l : List (Vl d)) (k : Nat) (wr : World) (x : Value) (xs : List Value) (e : Ending) (w5 : World) : Prop :=
  ∃ (uk un : Int) (s2 : Option Addr) (n2 r2 : Nat) (s3 : Option Addr) (n3 r3 : Nat) (s4 : Option Addr) (n4 r4 : Nat), e = .returned (.agg #[.int .i64 uk, .int .i64 un, .slice s2 n2 r2, .slice s3 n3 r3, .slice s4 n4 r4]) ∧
    ∃ Bv, ItV d l w5 k [.int .i64 uk, .int .i64 un, .slice s2 n2 r2, .slice s3 n3 r3, .slice s4 n4 r4] Bv ∧ (∀ b ∈ Bv, wr.heap.size ≤ b ∧ b < w5.heap.size) ∧ Bv.Nodup ∧ Below wr.heap.size wr w5 ∧ w5.cell? ⟨B, 4, none⟩ = some x ∧ w5.ownsRow base 30 5 x k xs

theorem vinv_call {w1 wr wy w5 : World} {B base d : Nat} {l : List (Vl d)} {kk : Int} {y3 : Value} {k : Nat} {x : Value} {cs : List (List Value)} {Bi : List (List Nat)} {e : Ending} (h : VInv w1 B base d l kk y3 k wr x cs Bi) (hB : B < base) (hk : k < l.length)
    (hy : Below wr.heap.size wr wy) (he : ValEnd d l[k] wy e w5) : VCall B base d l k wr x cs.flatten e w5 := by
  obtain ⟨u0, u1, u2, u3, u4, rfl, Bv, hv, hb, h5⟩ := he
  obtain ⟨uk, un, s2, n2, r2, s3, n3, r3, s4, n4, r4, rfl, rfl, rfl, rfl, rfl⟩ := VOwn.form d hv
  have hb5 := Below.on hy h5
  have hz := hy.size
  refine ⟨uk, un, s2, n2, r2, s3, n3, r3, s4, n4, r4, rfl, Bv, ⟨_, rfl, hk, hv⟩, fun b hm => ?_, VOwn.nodup d hv, hb5, ?_, ?_⟩
  · have := hb b hm; omega
  · exact (World.cell?_of_block (hb5.block B (by have := h.2.2.2; omega))).trans (row5 h.1).2.2.2.2.1
  · exact h.2.1.2.2.1.kept (row := none) ⟨hb5.os, hb5.tape, hb5.output, hb5.size, fun k hk _ => hb5.block k hk⟩ (by cases hv : x.ownBlock <;> simp)
end Go.Proofs.Ytkklhdeecamifaa
