/-
  Texts that a law leans on, one behind the other; no statement is proved here.
-/
import Derived.Test.YteafpgaefphkfaaGreatDoorPk7
import Derived.Test.YteafpgaefphkfaaGreatDoorPk3
import Derived.Test.YteafpgaefphkfaaGreatDoorPk4
import Derived.Test.YteafpgaefphkfaaGreatDoorPk5
import Derived.Test.YteafpgaefphkfaaGreatDoorPk0
/-
  What is drawn: once, and one number of several; no statement is proved here.
-/
namespace Go.Proofs.YteafpgaefphkfaaGreatDoor
open Go.RowKit
set_option linter.unusedVariables false
set_option linter.unusedSimpArgs false

theorem Below.cursor {w w1 w2 : World} (h : Below w.heap.size w w1) (hg : w1.grownBy w2 (some w.heap.size)) : Below w.heap.size w w2 := h.grown hg h.size (by intro k hk; simp at hk; omega)

end Go.Proofs.YteafpgaefphkfaaGreatDoor
/-
  markByteS over a row that may bear a mark of the run-time behind its last cell.
-/
namespace Go.Proofs.YteafpgaefphkfaaGreatDoor
open Go.RowKit
set_option linter.unusedVariables false

end Go.Proofs.YteafpgaefphkfaaGreatDoor
/-
  What marking turns: blocks of the call's own alone.
-/
namespace Go.Proofs.YteafpgaefphkfaaGreatDoor
open Go.RowKit
set_option linter.unusedVariables false
set_option linter.unusedSimpArgs false

/-- Nothing has turned but what lies in the blocks B. -/
structure Turned (B : List Nat) (w w' : World) : Prop where
  os : w'.os = w.os
  tape : w'.tape = w.tape
  output : w'.output = w.output
  size : w.heap.size ≤ w'.heap.size
  block : ∀ b, b < w.heap.size → b ∉ B → w'.heap[b]? = w.heap[b]?

theorem Turned.refl (B : List Nat) (w : World) : Turned B w w := ⟨rfl, rfl, rfl, Nat.le_refl _, fun _ _ _ => rfl⟩
theorem Turned.trans {B : List Nat} {w w1 w2 : World} (h : Turned B w w1) (k : Turned B w1 w2) : Turned B w w2 :=
  ⟨k.os.trans h.os, k.tape.trans h.tape, k.output.trans h.output, Nat.le_trans h.size k.size, fun b hb hn => (k.block b (Nat.lt_of_lt_of_le hb h.size) hn).trans (h.block b hb hn)⟩
theorem Turned.mono {B B' : List Nat} {w w' : World} (h : Turned B w w') (hb : ∀ b ∈ B, b ∈ B') : Turned B' w w' := ⟨h.os, h.tape, h.output, h.size, fun b hl hn => h.block b hl fun hm => hn (hb b hm)⟩
theorem Turned.of_grown {w w' : World} {r : Option Nat} {B : List Nat} (h : w.grownBy w' r) (hr : ∀ g, r = some g → g ∈ B) : Turned B w w' :=
  ⟨h.os, h.tape, h.output, h.size, fun b hb hn => h.block b hb fun e => hn (hr b e.symm)⟩
theorem Turned.below {B : List Nat} {N : Nat} {w w1 w2 : World} (h : Below N w w1) (k : Turned B w1 w2) (hN : N ≤ w.heap.size) (hB : ∀ b ∈ B, N ≤ b) : Below N w w2 :=
  ⟨k.os.trans h.os, k.tape.trans h.tape, k.output.trans h.output, Nat.le_trans h.size k.size, fun b hb => (k.block b (by have := h.size; omega) fun hm => by have := hB b hm; omega).trans (h.block b hb)⟩

/-- A text of the call's own, marked. -/
theorem TOwn.marked {w w' : World} {a : Option Addr} {c : Nat} {xs : List Int} {B : List Nat} {m : Nat} (h : TOwn w (.slice a xs.length c) xs B) (hb : BtsF w' (.slice a xs.length c) (marks m xs.length)) : TOwn w' (.slice a xs.length c) (marks m xs.length) B := by
  refine ⟨hb, ?_⟩
  rcases h.2 with ⟨h1, h2⟩ | ⟨g, cap, h1, h2⟩
  · exact .inl ⟨h1, h2⟩
  · exact .inr ⟨g, cap, by rw [length_marks]; exact h1, h2⟩

theorem TOwn.turned {w w' : World} {v : Value} {xs : List Int} {B : List Nat} (h : TOwn w v xs B) (hg : w.grownBy w' v.ownBlock) : Turned B w w' := by
  refine Turned.of_grown hg fun g e => ?_
  rcases h.2 with ⟨rfl, _⟩ | ⟨g', cap, rfl, rfl⟩
  · simp [Value.ownBlock] at e
  · simp [Value.ownBlock] at e
    simp [e]

end Go.Proofs.YteafpgaefphkfaaGreatDoor
/-
  markByteSS of the laws: a list of texts of the call's own, marked.
-/
namespace Go.Proofs.YteafpgaefphkfaaGreatDoor
open Go.RowKit
set_option linter.unusedVariables false
set_option linter.unusedSimpArgs false

end Go.Proofs.YteafpgaefphkfaaGreatDoor
/-
  A list marked item by item. Plain mathematics, and small laws.
-/
namespace Go.Proofs.YteafpgaefphkfaaGreatDoor
open Go.RowKit
set_option linter.unusedVariables false
set_option linter.unusedSimpArgs false

end Go.Proofs.YteafpgaefphkfaaGreatDoor
/-
  toStep, toStepS of the laws: they make a path of their own that holds what their argument holds.
-/
namespace Go.Proofs.YteafpgaefphkfaaGreatDoor
open Go.RowKit
set_option linter.unusedVariables false

/-- The cells of a block of three that is known. -/
theorem row3 {w : World} {g : Nat} {T : TypeId} {c0 c1 c2 : Value} (h : w.heap[g]? = some (.cells #[c0, c1, c2] T (0, 0))) :
    w.cell? ⟨g, 0, none⟩ = some c0 ∧ w.cell? ⟨g, 1, none⟩ = some c1 ∧ w.cell? ⟨g, 2, none⟩ = some c2 ∧ ∀ j, w.frozen? ⟨g, j, none⟩ = false := by
  refine ⟨?_, ?_, ?_, fun j => frozen_of_row w g j _ T h⟩ <;> rw [cell_of_row w g _ _ T (0, 0) h] <;> rfl

/-- Three blocks, one behind the other. -/
theorem three_boxes (w : World) (o1 o2 o3 : Obj) : (((w.alloc o1).alloc o2).alloc o3).heap[w.heap.size]? = some o1 ∧ (((w.alloc o1).alloc o2).alloc o3).heap[w.heap.size + 1]? = some o2 ∧ (((w.alloc o1).alloc o2).alloc o3).heap[w.heap.size + 1 + 1]? = some o3 ∧ (((w.alloc o1).alloc o2).alloc o3).heap.size = w.heap.size + 3 ∧ Below w.heap.size w (((w.alloc o1).alloc o2).alloc o3) := by
  obtain ⟨h1, h2⟩ := two_boxes w o1 o2
  have z2 := size2 w o1 o2
  have hb : Below ((w.alloc o1).alloc o2).heap.size ((w.alloc o1).alloc o2) (((w.alloc o1).alloc o2).alloc o3) := (Below.refl _ _).alloc (Nat.le_refl _) o3
  refine ⟨(hb.block _ (by omega)).trans h1, (hb.block _ (by omega)).trans h2, ?_, by simp, ((((Below.refl _ _).alloc (Nat.le_refl _) o1).alloc (by simp) o2).alloc (by simp; omega) o3)⟩
  have h := (MapKept.heap_alloc ((w.alloc o1).alloc o2) o3).1
  rw [z2] at h
  exact h

theorem StOwn.form {w : World} {c0 c1 c2 : Value} {s : Stp} {B : List Nat} (h : StOwn w (c0, c1, c2) s B) : ∃ (k i : Int) (a : Option Addr) (n p : Nat), c0 = .int .i64 k ∧ c1 = .slice a n p ∧ c2 = .int .i64 i := by
  obtain ⟨e0, ht, e2⟩ := h
  obtain ⟨a2, p2, e1, _⟩ := ht.1.shape
  exact ⟨_, _, _, _, _, e0, e1, e2⟩

end Go.Proofs.YteafpgaefphkfaaGreatDoor
/-
  An append to a slice that lies on such a heap leaves such a heap. No statement is proved here.
-/
namespace Go.Proofs.YteafpgaefphkfaaGreatDoor
open Go.RowKit
set_option linter.unusedVariables false
set_option linter.unusedSimpArgs false

/-- Each five of these cells fulfil Q. -/
def Gps (Q : Value × Value × Value × Value × Value → Prop) (l : List Value) : Prop := ∀ (j : Nat) (c0 c1 c2 c3 c4 : Value), l[j * 5]? = some c0 → l[j * 5 + 1]? = some c1 → l[j * 5 + 2]? = some c2 → l[j * 5 + 3]? = some c3 → l[j * 5 + 4]? = some c4 → Q (c0, c1, c2, c3, c4)

theorem Gps.app {Q : Value × Value × Value × Value × Value → Prop} {xs ys : List Value} (k : Nat) (hk : xs.length = k * 5) (h1 : Gps Q xs) (h2 : Gps Q ys) : Gps Q (xs ++ ys) := by
  intro j c0 c1 c2 c3 c4 g0 g1 g2 g3 g4
  by_cases hj : j < k
  · rw [List.getElem?_append_left (by omega)] at g0 g1 g2 g3 g4
    exact h1 j _ _ _ _ _ g0 g1 g2 g3 g4
  · rw [List.getElem?_append_right (by omega)] at g0 g1 g2 g3 g4
    have e : ∀ q, j * 5 + q - xs.length = (j - k) * 5 + q := fun q => by omega
    have e0 : j * 5 - xs.length = (j - k) * 5 := by omega
    rw [e0] at g0
    rw [e] at g1 g2 g3 g4
    exact h2 (j - k) _ _ _ _ _ g0 g1 g2 g3 g4

theorem take_some {l : List Value} {n j : Nat} {c : Value} (h : (l.take n)[j]? = some c) : l[j]? = some c := by
  rw [List.getElem?_take] at h
  split at h
  · exact h
  · cases h
theorem Gps.take {Q : Value × Value × Value × Value × Value → Prop} {xs : List Value} (n : Nat) (h : Gps Q xs) : Gps Q (xs.take n) := fun j c0 c1 c2 c3 c4 g0 g1 g2 g3 g4 => h j _ _ _ _ _ (take_some g0) (take_some g1) (take_some g2) (take_some g3) (take_some g4)
theorem Gps.drop {Q : Value × Value × Value × Value × Value → Prop} {xs : List Value} (k : Nat) (h : Gps Q xs) : Gps Q (xs.drop (k * 5)) := fun j c0 c1 c2 c3 c4 g0 g1 g2 g3 g4 => by
  rw [List.getElem?_drop] at g0 g1 g2 g3 g4
  have e : ∀ q, k * 5 + (j * 5 + q) = (k + j) * 5 + q := fun q => by omega
  have e0 : k * 5 + j * 5 = (k + j) * 5 := by omega
  rw [e0] at g0
  rw [e] at g1 g2 g3 g4
  exact h (k + j) _ _ _ _ _ g0 g1 g2 g3 g4
theorem Gps.one {Q : Value × Value × Value × Value × Value → Prop} {c0 c1 c2 c3 c4 : Value} (h : Q (c0, c1, c2, c3, c4)) : Gps Q [c0, c1, c2, c3, c4] := fun j d0 d1 d2 d3 d4 g0 g1 g2 g3 g4 => by
  have hj : j = 0 := by
    have := (List.getElem?_eq_some_iff.1 g0).1
    simp at this
    omega
  subst hj
  simp at g0 g1 g2 g3 g4
  subst g0 g1 g2 g3 g4
  exact h
theorem zeroCells_at {z : Array Value} {n j : Nat} {c : Value} (h : (Builtin.zeroCells z n).toList[j]? = some c) : c = z[j % z.size]! := by
  unfold Builtin.zeroCells at h
  rw [Array.getElem?_toList] at h
  have hl := (Array.getElem?_eq_some_iff.1 h).1
  simp at hl
  simp [hl] at h
  exact h.symm
theorem Gps.zero {Q : Value × Value × Value × Value × Value → Prop} (n : Nat) (h : Q (.int .i64 0, .int .i64 0, .slice none 0 0, .slice none 0 0, .slice none 0 0)) : Gps Q (Builtin.zeroCells (Value.cells (.agg #[.int .i64 0, .int .i64 0, .slice none 0 0, .slice none 0 0, .slice none 0 0])) n).toList := fun j d0 d1 d2 d3 d4 g0 g1 g2 g3 g4 => by
  have e : (Value.cells (.agg #[.int .i64 0, .int .i64 0, .slice none 0 0, .slice none 0 0, .slice none 0 0])) = #[.int .i64 0, .int .i64 0, .slice none 0 0, .slice none 0 0, .slice none 0 0] := by rfl
  rw [e] at g0 g1 g2 g3 g4
  have a0 := zeroCells_at g0
  have a1 := zeroCells_at g1
  have a2 := zeroCells_at g2
  have a3 := zeroCells_at g3
  have a4 := zeroCells_at g4
  have m0 : j * 5 % 5 = 0 := by omega
  have m1 : (j * 5 + 1) % 5 = 1 := by omega
  have m2 : (j * 5 + 2) % 5 = 2 := by omega
  have m3 : (j * 5 + 3) % 5 = 3 := by omega
  have m4 : (j * 5 + 4) % 5 = 4 := by omega
  simp only [List.size_toArray, List.length_cons, List.length_nil] at a0 a1 a2 a3 a4
  simp only [Nat.zero_add, Nat.reduceAdd, m0, m1, m2, m3, m4] at a0 a1 a2 a3 a4
  simp at a0 a1 a2 a3 a4
  subst a0 a1 a2 a3 a4
  exact h

theorem sli_nil (B M : Nat) (T : TypeId) (s : Nat) (p : Nat → Prop) (w : World) : Sli B M T s p w (.slice none 0 0) := ⟨none, 0, 0, rfl, Nat.zero_le _, Nat.le_refl _, Nat.zero_le _, .inl ⟨rfl, rfl⟩⟩
theorem grp_leaf (B M : Nat) (rk : Nat → Nat) (r : Nat) (w : World) (k n : Int) : Grp B M rk r w (.int .i64 k, .int .i64 n, .slice none 0 0, .slice none 0 0, .slice none 0 0) :=
  ⟨⟨k, rfl⟩, ⟨n, rfl⟩, sli_nil _ _ _ _ _ _, sli_nil _ _ _ _ _ _, sli_nil _ _ _ _ _ _⟩

theorem Sli.one {B M s : Nat} {T : TypeId} {p : Nat → Prop} {w : World} {v : Value} (h : Sli B M T s p w v) : v.oneCell' = true := by
  obtain ⟨a, n, cap, rfl, _⟩ := h
  rfl
theorem Grp.one {B M : Nat} {rk : Nat → Nat} {r : Nat} {w : World} {c0 c1 c2 c3 c4 : Value} (h : Grp B M rk r w (c0, c1, c2, c3, c4)) : ∀ u ∈ [c0, c1, c2, c3, c4], u.oneCell' = true := by
  obtain ⟨⟨x0, h0⟩, ⟨x1, h1⟩, h2, h3, h4⟩ := h
  simp only at h0 h1 h2 h3 h4
  intro u hu
  simp at hu
  rcases hu with rfl | rfl | rfl | rfl | rfl
  · rw [h0]; rfl
  · rw [h1]; rfl
  · exact h2.one
  · exact h3.one
  · exact h4.one

/-- A row is written anew in its place. -/
theorem Hw.setRow {B M : Nat} {rk : Nat → Nat} {w : World} {g : Nat} {cur new : Array Value} {T : TypeId} {fr : Nat × Nat} (h : Hw B M rk w) (hB : B ≤ g) (hg : w.heap[g]? = some (.cells cur T fr)) (hs : new.size = cur.size) (hn : Okc B M rk (w.setRow g new) g new T fr) : Hw B M rk (w.setRow g new) := by
  refine h.step (Shp.setRow hg hs) (Rks.refl _ _) fun b hb hbz => ?_
  by_cases he : b = g
  · subst he
    refine .inr fun c T' fr' hh => ?_
    rw [setRow_heap w b cur new T fr hg] at hh
    simp only [Option.some.injEq, Obj.cells.injEq] at hh
    obtain ⟨rfl, rfl, rfl⟩ := hh
    exact hn
  · exact .inl ⟨by simpa using hbz, setRow_other w g b new he⟩

theorem grownBy_setRow (w : World) (g : Nat) (new : Array Value) : w.grownBy (w.setRow g new) (some g) := ⟨rfl, rfl, rfl, by simp, fun k _ hk => setRow_other w g k _ (fun e => hk (by simp [e]))⟩
theorem grownBy_drewAlloc (w : World) (o : Obj) (row : Option Nat) : w.grownBy (w.drew.alloc o) row := ⟨rfl, rfl, rfl, by simp, fun k hk _ => Below.heap_alloc w.drew o k hk⟩

/-- 'append(l, x)' of a value. -/
theorem run_append_hv (w : World) (ty : TypeId) (B2 B M : Nat) (rk : Nat → Nat) (r R : Nat) (a : Option Addr) (n cap : Nat) (hv : Sli B2 M 29 5 (fun g => r ≤ rk g ∧ rk g < R) w (.slice a n cap)) (hH : Hw B M rk w) (hB2 : B ≤ B2) (hBw : B2 ≤ w.heap.size) (hn : n ≤ 1000000)
    (c0 c1 c2 c3 c4 : Value) (hc : Grp B M rk r w (c0, c1, c2, c3, c4)) (hrR : r < R) (ad : Addr) (c : Nat) (hnews : ∀ (j : Nat) (u : Value), [c0, c1, c2, c3, c4][j]? = some u → w.cell? (ad.add j) = some u) :
    ∃ (g' cap' : Nat) (w' : World) (rk' : Nat → Nat), (Builtin.append_ #[27, 27] ty #[.slice a n cap, .slice (some ad) 1 c]).run Tryz.prog w = .ok (.slice (some ⟨g', 0, none⟩) (n + 1) cap') w' ∧ Hw B M rk' w' ∧ Rks rk rk' w.heap.size ∧
      (∀ M', n + 1 ≤ M' → Sli B2 M' 29 5 (fun g => r ≤ rk' g ∧ rk' g < R) w' (.slice (some ⟨g', 0, none⟩) (n + 1) cap')) ∧ Shp w w' ∧ w.grownBy w' (Value.slice a n cap).ownBlock := by
  obtain ⟨i, hi, hz0, hz1, hz2⟩ := info_parts info_valueT
  have hfr : ∀ (g : Nat) (cur : Array Value) (fr : Nat × Nat), B ≤ g → w.heap[g]? = some (.cells cur 29 fr) → fr.2 = 0 ∨ cur.size ≤ fr.1 := fun g cur fr hB hg => .inl (by rw [((hH g hB cur _ fr hg).2.2 rfl).1])
  obtain ⟨g', cap', w', hrun, k1, k2, hcase⟩ := run_append_sl w 27 ty 29 i _ 5 88 Tryz.underlying27 hi hz0 hz1 hz2 (by omega) (by rfl) B2 M _ a n cap hv (fun g cur fr hB hg => hfr g cur fr (by omega) hg) hn ad 1 c [c0, c1, c2, c3, c4] rfl hnews hc.one (by omega) (by omega)
  rcases hcase with ⟨cur, fr, rfl, hB, hp, rfl, hg, hcz, hfit, rfl⟩ | ⟨rfl, old, hol, hold, rfl⟩
  · obtain rfl : fr = (0, 0) := ((hH g' (by omega) cur _ fr hg).2.2 rfl).1
    have hQ : Gps (Grp B M rk (rk g') w) cur.toList := fun j d0 d1 d2 d3 d4 e0 e1 e2 e3 e4 => ((hH g' (by omega) cur _ _ hg).2.2 rfl).2 j d0 d1 d2 d3 d4 (by rwa [Array.getElem?_toList] at e0) (by rwa [Array.getElem?_toList] at e1) (by rwa [Array.getElem?_toList] at e2) (by rwa [Array.getElem?_toList] at e3) (by rwa [Array.getElem?_toList] at e4)
    have hsz : (cur.toList.take (n * 5) ++ [c0, c1, c2, c3, c4] ++ cur.toList.drop (n * 5 + 1 * 5)).toArray.size = cur.size := by
      simp only [List.size_toArray, List.length_append, List.length_take, List.length_drop, Array.length_toList, List.length_cons, List.length_nil]
      omega
    have hS := Shp.setRow (new := (cur.toList.take (n * 5) ++ [c0, c1, c2, c3, c4] ++ cur.toList.drop (n * 5 + 1 * 5)).toArray) hg hsz
    refine ⟨g', cap', _, rk, hrun, hH.setRow (by omega) hg hsz ⟨fun h => absurd h (by decide), fun h => absurd h (by decide), fun _ => ⟨rfl, fun j d0 d1 d2 d3 d4 e0 e1 e2 e3 e4 => ?_⟩⟩, Rks.refl _ _, fun M' hM' => ⟨_, _, _, rfl, hM', k1, k2, .inr ⟨g', _, (0, 0), rfl, hB, hp, setRow_heap w g' cur _ _ _ hg, hsz.trans hcz⟩⟩, hS, ?_⟩
    · have hA : Gps (Grp B M rk (rk g') w) (cur.toList.take (n * 5) ++ [c0, c1, c2, c3, c4] ++ cur.toList.drop (n * 5 + 1 * 5)) := by
        refine Gps.app (n + 1) (by simp only [List.length_append, List.length_take, Array.length_toList, List.length_cons, List.length_nil]; omega) (Gps.app n (by simp only [List.length_take, Array.length_toList]; omega) (hQ.take _) (Gps.one (hc.shp (Shp.refl _) (Rks.refl _ _) hp.1))) ?_
        have e : n * 5 + 1 * 5 = (n + 1) * 5 := by omega
        rw [e]
        exact hQ.drop _
      simp only [List.getElem?_toArray] at e0 e1 e2 e3 e4
      exact (hA j _ _ _ _ _ e0 e1 e2 e3 e4).shp hS (Rks.refl _ _) (Nat.le_refl _)
    · exact grownBy_setRow _ _ _
  · have hQ : ∃ ρ, r ≤ ρ ∧ ρ < R ∧ Gps (Grp B M rk ρ w) old := by
      rcases hold with ⟨_, rfl⟩ | ⟨g, cur, fr, _, hB, hp, hg, rfl⟩
      · exact ⟨r, Nat.le_refl _, hrR, fun j d0 d1 d2 d3 d4 e0 => by simp at e0⟩
      · refine ⟨rk g, hp.1, hp.2, Gps.take _ fun j d0 d1 d2 d3 d4 e0 e1 e2 e3 e4 => ((hH g (by omega) cur _ _ hg).2.2 rfl).2 j d0 d1 d2 d3 d4 (by rwa [Array.getElem?_toList] at e0) (by rwa [Array.getElem?_toList] at e1) (by rwa [Array.getElem?_toList] at e2) (by rwa [Array.getElem?_toList] at e3) (by rwa [Array.getElem?_toList] at e4)⟩
    obtain ⟨ρ, hρ1, hρ2, hQ⟩ := hQ
    have hA : Gps (Grp B M rk ρ w) (old ++ [c0, c1, c2, c3, c4] ++ (Builtin.zeroCells (Value.cells (.agg #[.int .i64 0, .int .i64 0, .slice none 0 0, .slice none 0 0, .slice none 0 0])) (cap' - (n + 1))).toList) :=
      Gps.app (n + 1) (by simp only [List.length_append, List.length_cons, List.length_nil]; omega) (Gps.app n hol hQ (Gps.one (hc.shp (Shp.refl _) (Rks.refl _ _) hρ1))) (Gps.zero _ (grp_leaf _ _ _ _ _ _ _))
    have hS : Shp w.drew (w.drew.alloc (.cells (old.toArray ++ #[c0, c1, c2, c3, c4] ++ Builtin.zeroCells (Value.cells (.agg #[.int .i64 0, .int .i64 0, .slice none 0 0, .slice none 0 0, .slice none 0 0])) (cap' - (n + 1))) 29)) := Shp.alloc _ _
    have hK : Rks rk (rkUp rk w.heap.size ρ) w.heap.size := rkUp_old _ _ _
    refine ⟨w.heap.size, cap', _, rkUp rk w.heap.size ρ, hrun, Hw.alloc (w := w.drew) hH _ hK fun cur T fr e => ?_, hK, fun M' hM' => ⟨_, _, _, rfl, hM', k1, k2, .inr ⟨w.heap.size, _, (0, 0), rfl, hBw, ⟨by rw [rkUp_at]; exact hρ1, by rw [rkUp_at]; exact hρ2⟩, heap_alloc_new w.drew _, ?_⟩⟩, hS, grownBy_drewAlloc _ _ _⟩
    · simp only [Obj.cells.injEq] at e
      obtain ⟨rfl, rfl, rfl⟩ := e
      refine ⟨fun h => absurd h (by decide), fun h => absurd h (by decide), fun _ => ⟨rfl, fun j d0 d1 d2 d3 d4 e0 e1 e2 e3 e4 => ?_⟩⟩
      have el : (old.toArray ++ [c0, c1, c2, c3, c4].toArray ++ Builtin.zeroCells (Value.cells (.agg #[.int .i64 0, .int .i64 0, .slice none 0 0, .slice none 0 0, .slice none 0 0])) (cap' - (n + 1))).toList = old ++ [c0, c1, c2, c3, c4] ++ (Builtin.zeroCells (Value.cells (.agg #[.int .i64 0, .int .i64 0, .slice none 0 0, .slice none 0 0, .slice none 0 0])) (cap' - (n + 1))).toList := by simp
      have hA2 := hA j d0 d1 d2 d3 d4
      rw [← el] at hA2
      simp only [Array.getElem?_toList] at hA2
      exact (hA2 e0 e1 e2 e3 e4).shp hS hK (by rw [show (w.drew).heap.size = w.heap.size from rfl, rkUp_at]; exact Nat.le_refl _)
    · simp only [Array.size_append, List.size_toArray, size_zeroCells, hol]
      simp [Value.cells]
      omega

/-- 'append(l, x)' of a text. -/
theorem run_append_hk (w : World) (ty : TypeId) (B2 B M : Nat) (rk : Nat → Nat) (a : Option Addr) (n cap : Nat) (hv : Sli B2 M 22 1 (fun _ => True) w (.slice a n cap)) (hH : Hw B M rk w) (hB2 : B ≤ B2) (hBw : B2 ≤ w.heap.size) (hn : n ≤ 1000000)
    (c0 : Value) (hc : Sli B M 5 1 (fun _ => True) w c0) (ad : Addr) (c : Nat) (hnews : ∀ (j : Nat) (u : Value), [c0][j]? = some u → w.cell? (ad.add j) = some u) :
    ∃ (g' cap' : Nat) (w' : World), (Builtin.append_ #[26, 26] ty #[.slice a n cap, .slice (some ad) 1 c]).run Tryz.prog w = .ok (.slice (some ⟨g', 0, none⟩) (n + 1) cap') w' ∧ Hw B M rk w' ∧
      (∀ M', n + 1 ≤ M' → Sli B2 M' 22 1 (fun _ => True) w' (.slice (some ⟨g', 0, none⟩) (n + 1) cap')) ∧ Shp w w' ∧ w.grownBy w' (Value.slice a n cap).ownBlock := by
  obtain ⟨i, hi, hz0, hz1, hz2⟩ := info_parts infoT
  have hfr : ∀ (g : Nat) (cur : Array Value) (fr : Nat × Nat), B ≤ g → w.heap[g]? = some (.cells cur 22 fr) → fr.2 = 0 ∨ cur.size ≤ fr.1 := fun g cur fr hB hg => .inl (by rw [((hH g hB cur _ fr hg).2.1 rfl).1])
  obtain ⟨g', cap', w', hrun, k1, k2, hcase⟩ := run_append_sl w 26 ty 22 i _ 1 24 Tryz.underlying26 hi hz0 hz1 hz2 (by omega) (by rfl) B2 M _ a n cap hv (fun g cur fr hB hg => hfr g cur fr (by omega) hg) hn ad 1 c [c0] rfl hnews (fun u hu => by simp at hu; subst hu; exact hc.one) (by omega) (by omega)
  rcases hcase with ⟨cur, fr, rfl, hB, hp, rfl, hg, hcz, hfit, rfl⟩ | ⟨rfl, old, hol, hold, rfl⟩
  · obtain rfl : fr = (0, 0) := ((hH g' (by omega) cur _ fr hg).2.1 rfl).1
    have hQ := ((hH g' (by omega) cur _ _ hg).2.1 rfl).2
    have hsz : (cur.toList.take (n * 1) ++ [c0] ++ cur.toList.drop (n * 1 + 1 * 1)).toArray.size = cur.size := by
      simp only [List.size_toArray, List.length_append, List.length_take, List.length_drop, Array.length_toList, List.length_cons, List.length_nil]
      omega
    have hS := Shp.setRow (new := (cur.toList.take (n * 1) ++ [c0] ++ cur.toList.drop (n * 1 + 1 * 1)).toArray) hg hsz
    refine ⟨g', cap', _, hrun, hH.setRow (by omega) hg hsz ⟨fun h => absurd h (by decide), fun _ => ⟨rfl, fun j d e => ?_⟩, fun h => absurd h (by decide)⟩, fun M' hM' => ⟨_, _, _, rfl, hM', k1, k2, .inr ⟨g', _, (0, 0), rfl, hB, trivial, setRow_heap w g' cur _ _ _ hg, hsz.trans hcz⟩⟩, hS, grownBy_setRow _ _ _⟩
    simp only [List.getElem?_toArray] at e
    have hm := List.mem_of_getElem? e
    rcases List.mem_append.1 hm with hm | hm
    · rcases List.mem_append.1 hm with hm | hm
      · obtain ⟨q, hq⟩ := List.getElem?_of_mem (List.mem_of_mem_take hm)
        exact (hQ q d (by rwa [Array.getElem?_toList] at hq)).shp row3_b hS fun _ _ h => h
      · simp at hm
        subst hm
        exact hc.shp row3_b hS fun _ _ h => h
    · obtain ⟨q, hq⟩ := List.getElem?_of_mem (List.mem_of_mem_drop hm)
      exact (hQ q d (by rwa [Array.getElem?_toList] at hq)).shp row3_b hS fun _ _ h => h
  · have hQ : ∀ u ∈ old, Sli B M 5 1 (fun _ => True) w u := by
      intro u hu
      rcases hold with ⟨_, rfl⟩ | ⟨g, cur, fr, _, hB, hp, hg, rfl⟩
      · simp at hu
      · obtain ⟨q, hq⟩ := List.getElem?_of_mem (List.mem_of_mem_take hu)
        exact ((hH g (by omega) cur _ _ hg).2.1 rfl).2 q u (by rwa [Array.getElem?_toList] at hq)
    have hS : Shp w.drew (w.drew.alloc (.cells (old.toArray ++ [c0].toArray ++ Builtin.zeroCells (Value.cells (.slice none 0 0)) (cap' - (n + 1))) 22)) := Shp.alloc _ _
    refine ⟨w.heap.size, cap', _, hrun, Hw.alloc (w := w.drew) hH _ (Rks.refl _ _) fun cur T fr e => ?_, fun M' hM' => ⟨_, _, _, rfl, hM', k1, k2, .inr ⟨w.heap.size, _, (0, 0), rfl, hBw, trivial, heap_alloc_new w.drew _, ?_⟩⟩, hS, grownBy_drewAlloc _ _ _⟩
    · simp only [Obj.cells.injEq] at e
      obtain ⟨rfl, rfl, rfl⟩ := e
      refine ⟨fun h => absurd h (by decide), fun _ => ⟨rfl, fun j d e => ?_⟩, fun h => absurd h (by decide)⟩
      rw [← Array.getElem?_toList] at e
      have e' : (old ++ [c0] ++ (Builtin.zeroCells (Value.cells (.slice none 0 0)) (cap' - (n + 1))).toList)[j]? = some d := by simpa using e
      have hm := List.mem_of_getElem? e'
      rcases List.mem_append.1 hm with hm | hm
      · rcases List.mem_append.1 hm with hm | hm
        · exact Sli.shp (w := w) (hQ d hm) row3_b hS fun _ _ h => h
        · simp at hm
          subst hm
          exact Sli.shp (w := w) hc row3_b hS fun _ _ h => h
      · obtain ⟨q, hq⟩ := List.getElem?_of_mem hm
        have := zeroCells_at hq
        have ez : (Value.cells (.slice none 0 0)) = #[.slice none 0 0] := by rfl
        rw [ez] at this
        simp [Nat.mod_one] at this
        subst this
        exact sli_nil _ _ _ _ _ _
    · simp only [Array.size_append, List.size_toArray, size_zeroCells, hol]
      simp [Value.cells]
      omega
end Go.Proofs.YteafpgaefphkfaaGreatDoor
/-
  The draws' cursor on such a heap: nothing is made, and no block but the cursor's turns. No statement is proved here.
-/
namespace Go.Proofs.YteafpgaefphkfaaGreatDoor
open Go.RowKit
set_option linter.unusedVariables false
set_option linter.unusedSimpArgs false

/-- Nothing but the cursor's block has turned. -/
def Cus (g : Nat) (w w' : World) : Prop := w.grownBy w' (some g) ∧ w'.heap.size = w.heap.size

theorem Cus.trans {g : Nat} {w w1 w2 : World} (h : Cus g w w1) (k : Cus g w1 w2) : Cus g w w2 := ⟨grownBy_trans h.1 k.1, k.2.trans h.2⟩
theorem cus_one {w : World} {g : Nat} {a : Option Addr} {n cap i : Nat} {h : Int} (hh : w.heap[g]? = some (.cells #[.slice a n cap, .int .i64 i, .int .i64 h] 65 (0, 0))) (h' : Int) (m1 m2 : Nat) (hi : i ≤ n) :
    Cur (((w.setCell ⟨g, 2, none⟩ (.int .i64 h')).drewN m1).drewN m2) g a n cap ∧ Cus g w (((w.setCell ⟨g, 2, none⟩ (.int .i64 h')).drewN m1).drewN m2) := by
  have k := cur_one hh h' m1 m2 hi
  exact ⟨k.1, k.2, by show (w.setCell ⟨g, 2, none⟩ (.int .i64 h')).heap.size = _; simp [World.setCell]⟩
theorem cus_two {w : World} {g : Nat} {a : Option Addr} {n cap i : Nat} {h : Int} (hh : w.heap[g]? = some (.cells #[.slice a n cap, .int .i64 i, .int .i64 h] 65 (0, 0))) (h' : Int) (m : Nat) (hi : i < n) :
    Cur (((w.setCell ⟨g, 2, none⟩ (.int .i64 h')).drewN m).setCell ⟨g, 1, none⟩ (.int .i64 ((i : Int) + 1))) g a n cap ∧ Cus g w (((w.setCell ⟨g, 2, none⟩ (.int .i64 h')).drewN m).setCell ⟨g, 1, none⟩ (.int .i64 ((i : Int) + 1))) := by
  have k := cur_two hh h' m hi
  exact ⟨k.1, k.2, by simp [World.setCell, World.drewN]⟩

set_option maxHeartbeats 1600000 in
theorem l1Byte_cus (g : Nat) (a : Option Addr) (cap : Nat) (xs : List Int) (w : World) (ha : Seg w a xs) (hl : xs.length ≤ maxLen) (hC : Cur w g a xs.length cap) (hne : ∀ x, a = some x → xs ≠ [] → x.block ≠ g) :
    Calls Tryz.prog 34 #[.pointer (some ⟨g, 0, none⟩)] w fun e w' => ∃ x : Int, e = .returned (.int .i64 x) ∧ 0 ≤ x ∧ x ≤ 255 ∧ Cur w' g a xs.length cap ∧ Cus g w w' := by
  unfold maxLen at hl
  obtain ⟨i, h, hh, hi⟩ := hC
  have c0 : w.cell? ⟨g, 0, none⟩ = some (.slice a xs.length cap) := by rw [cell_of_row w g 0 _ 65 (0, 0) hh]; rfl
  have c1 : w.cell? ⟨g, 1, none⟩ = some (.int .i64 i) := by rw [cell_of_row w g 1 _ 65 (0, 0) hh]; rfl
  have c2 : w.cell? ⟨g, 2, none⟩ = some (.int .i64 h) := by rw [cell_of_row w g 2 _ 65 (0, 0) hh]; rfl
  have f1 : w.frozen? ⟨g, 1, none⟩ = false := frozen_of_row w g 1 _ 65 hh
  have f2 : w.frozen? ⟨g, 2, none⟩ = false := frozen_of_row w g 2 _ 65 hh
  generalize hn : xs.length = n at *
  have Hn : Hid (xs.length = n) := hn
  have Hh : Hid (w.heap[g]? = some (.cells #[.slice a n cap, .int .i64 i, .int .i64 h] 65 (0, 0))) := hh
  clear hn hh
  by_cases hlt : i < n
  · have hlt' : (i : Int) < (n : Int) := by omega
    obtain ⟨b, off, rfl, hc⟩ := ha.at (k := i) (by have := Hn.out; omega)
    have hbg : b ≠ g := hne _ rfl (by intro e; have := Hn.out; rw [e] at this; simp at this; omega)
    generalize xs.getD i 0 = c at hc
    have hcs : ∀ v, (w.setCell ⟨g, 2, none⟩ v).cell? ⟨b, off + i, none⟩ = some (.int .u8 c) := fun v => (World.cell?_of_block (Below.heap_setCell w ⟨g, 2, none⟩ v b hbg)).trans hc
    go_enter Tryz.func34, Tryz.ntmps34
    go_wp2
    go_quiet (fail)
    go_wp2
    go_quiet (fail)
    go_wp2
    go_quiet (fail)
    go_wp2
    go_ret
    exact ⟨_, rfl, (and_bound _ _ 255 (by omega) rfl).1, (and_bound _ _ 255 (by omega) rfl).2, cus_two Hh.out _ _ hlt⟩
  · have hlt' : ¬ (i : Int) < (n : Int) := by omega
    go_enter Tryz.func34, Tryz.ntmps34
    go_wp2
    go_quiet (fail)
    go_wp2
    go_quiet (fail)
    go_wp2
    go_ret
    exact ⟨_, rfl, (and_bound _ _ 255 (by omega) rfl).1, (and_bound _ _ 255 (by omega) rfl).2, cus_one Hh.out _ _ _ hi⟩

theorem l1Byte_dc (g : Nat) (a : Option Addr) (cap : Nat) (xs : List Int) (w : World) (h : Drw w g a cap xs) :
    Calls Tryz.prog 34 #[.pointer (some ⟨g, 0, none⟩)] w fun e w' => ∃ x : Int, e = .returned (.int .i64 x) ∧ 0 ≤ x ∧ x ≤ 255 ∧ Drw w' g a cap xs ∧ Cus g w w' := by
  refine (l1Byte_cus g a cap xs w h.1 h.2.1 h.2.2.1 h.2.2.2).mono ?_
  rintro e w1 ⟨x, rfl, h0, h1, hc, hg⟩
  exact ⟨x, rfl, h0, h1, ⟨h.1.away hg.1 (fun y hy he e => h.2.2.2 y hy he (by simpa using e.symm)), h.2.1, hc, h.2.2.2⟩, hg⟩

set_option maxHeartbeats 1600000 in
theorem l1Below_dc (g : Nat) (a : Option Addr) (cap : Nat) (xs : List Int) (n : Int) (w : World) (h : Drw w g a cap xs) (hn : n ≤ 9223372036854775807) :
    Calls Tryz.prog 18 #[.pointer (some ⟨g, 0, none⟩), .int .i64 n] w fun e w' => ∃ x : Int, e = .returned (.int .i64 x) ∧ 0 ≤ x ∧ (0 < n → x < n) ∧ (n ≤ 0 → x = 0) ∧ Drw w' g a cap xs ∧ Cus g w w' := by
  by_cases h0 : n ≤ 0
  · go_enter Tryz.func18, Tryz.ntmps18
    go_wp2
    go_ret
    exact ⟨0, rfl, by omega, by omega, fun _ => rfl, h, ⟨World.grownBy.refl _ _, rfl⟩⟩
  · have hp : 0 < n := by omega
    by_cases h1 : n ≤ 256
    · go_enter Tryz.func18, Tryz.ntmps18
      go_wp2_with fail
      refine (l1Byte_dc g a cap xs _ h).mono ?_
      rintro e w1 ⟨x, rfl, hx0, hx1, hd, hg⟩
      go_wp2
      go_ret
      exact ⟨_, rfl, Int.emod_nonneg _ (by omega), fun _ => Int.emod_lt_of_pos _ hp, by omega, hd, hg⟩
    · go_enter Tryz.func18, Tryz.ntmps18
      go_wp2_with fail
      refine (l1Byte_dc g a cap xs _ h).mono ?_
      rintro e w1 ⟨x1, rfl, hx0, hx1, hd1, hg1⟩
      go_wp2_with fail
      refine (l1Byte_dc g a cap xs _ hd1).mono ?_
      rintro e w2 ⟨x2, rfl, hy0, hy1, hd2, hg2⟩
      go_wp2_with fail
      refine (l1Byte_dc g a cap xs _ hd2).mono ?_
      rintro e w3 ⟨x3, rfl, hz0, hz1, hd3, hg3⟩
      go_wp2_with fail
      refine (l1Byte_dc g a cap xs _ hd3).mono ?_
      rintro e w4 ⟨x4, rfl, ht0, ht1, hd4, hg4⟩
      have G := ((hg1.trans hg2).trans hg3).trans hg4
      clear hg1 hg2 hg3 hg4 hd1 hd2 hd3
      go_wp2
      go_ret
      exact ⟨_, rfl, Int.emod_nonneg _ (by omega), fun _ => Int.emod_lt_of_pos _ hp, by omega, hd4, G⟩
set_option maxHeartbeats 400000 in
theorem l1Once_dc (g : Nat) (a : Option Addr) (cap : Nat) (cs : List Int) (n : Int) (w : World) (h : Drw w g a cap cs) (hn : n ≤ 9223372036854775807) :
    Calls Tryz.prog 17 #[.pointer (some ⟨g, 0, none⟩), .int .i64 n] w fun e w' => ∃ b : Bool, e = .returned (.bool b) ∧ Drw w' g a cap cs ∧ Cus g w w' := by
  have HL := hide' (l1Below_dc g a cap cs n w h hn)
  clear h
  go_enter Tryz.func17, Tryz.ntmps17
  go_wp2_with fail
  refine HL.out.mono ?_
  rintro e w1 ⟨x, rfl, _, _, _, hd, hg⟩
  go_wp2
  go_ret
  exact ⟨_, rfl, hd, hg⟩

set_option maxHeartbeats 400000 in
theorem l1PickInt_dc (g b n lc : Nat) (a : Option Addr) (cap : Nat) (cs : List Int) (w : World) (h : Drw w g a cap cs) (hn : 0 < n) (hn2 : n ≤ 1000) (hbg : b ≠ g) (hb : b < w.heap.size) (hc : ∀ k, k < n → ∃ z : Int, w.cell? ⟨b, k, none⟩ = some (.int .i64 z)) :
    Calls Tryz.prog 33 #[.pointer (some ⟨g, 0, none⟩), .slice (some ⟨b, 0, none⟩) n lc] w fun e w' => ∃ z : Int, e = .returned (.int .i64 z) ∧ Drw w' g a cap cs ∧ Cus g w w' := by
  have HL := hide' (l1Below_dc g a cap cs (n : Int) w h (by omega))
  clear h
  go_enter Tryz.func33, Tryz.ntmps33
  go_wp2_with fail
  refine HL.out.mono ?_
  rintro e w1 ⟨x, rfl, h0, h1, _, hd, hg⟩
  obtain ⟨k, rfl⟩ : ∃ k : Nat, x = k := ⟨x.toNat, by omega⟩
  have hk : k < n := by have := h1 (by omega); omega
  obtain ⟨z, hz⟩ := hc k hk
  have hz1 : w1.cell? ⟨b, k, none⟩ = some (.int .i64 z) := (World.cell?_of_block (hg.1.block b hb (by simp; omega))).trans hz
  have hk' : (k : Int) < (n : Int) := by omega
  clear h1 HL hc
  go_wp2
  go_ret
  exact ⟨_, rfl, hd, hg⟩

/-- Such a heap, and a cursor on it over a code that lies below it. -/
def Hs (B M : Nat) (rk : Nat → Nat) (w : World) (g : Nat) (a : Option Addr) (cap : Nat) (cs : List Int) : Prop := Hw B M rk w ∧ Drw w g a cap cs ∧ B ≤ g ∧ ∀ x, a = some x → cs ≠ [] → x.block < B

theorem Cur.type {w : World} {g : Nat} {a : Option Addr} {n cap : Nat} (h : Cur w g a n cap) {cur : Array Value} {T : TypeId} {fr : Nat × Nat} (hg : w.heap[g]? = some (.cells cur T fr)) : ¬ Row3 T := by
  obtain ⟨i, k, hh, _⟩ := h
  rw [hh] at hg
  simp only [Option.some.injEq, Obj.cells.injEq] at hg
  obtain ⟨_, rfl, _⟩ := hg
  intro h
  rcases h with h | h | h <;> exact absurd h (by decide)

theorem Cus.shp {w w' : World} {g : Nat} {a : Option Addr} {cap : Nat} {cs : List Int} (h : Drw w g a cap cs) (hc : Cus g w w') : Shp w w' := fun b cur T fr hT hb => by
  have hl := (Array.getElem?_eq_some_iff.1 hb).1
  have hne : b ≠ g := by rintro rfl; exact h.2.2.1.type hb hT
  exact ⟨cur, (hc.1.block b hl (by simpa using hne)).trans hb, rfl⟩

theorem Hs.cus {B M : Nat} {rk : Nat → Nat} {w w' : World} {g : Nat} {a : Option Addr} {cap : Nat} {cs : List Int} (h : Hs B M rk w g a cap cs) (hd : Drw w' g a cap cs) (hc : Cus g w w') : Hs B M rk w' g a cap cs := by
  refine ⟨h.1.step (hc.shp h.2.1) (Rks.refl _ _) fun b hb hbz => ?_, hd, h.2.2⟩
  by_cases he : b = g
  · subst he
    refine .inr fun cur T fr hh => ?_
    have := hd.2.2.1.type hh
    exact ⟨fun h => absurd (.inl h) this, fun h => absurd (.inr (.inl h)) this, fun h => absurd (.inr (.inr h)) this⟩
  · exact .inl ⟨by have := hc.2; omega, hc.1.block b (by have := hc.2; omega) (by simpa using he)⟩

/-- The cursor stands behind what leaves its block and the code as they were. -/
theorem Drw.keep {w w' : World} {g : Nat} {a : Option Addr} {cap : Nat} {cs : List Int} (h : Drw w g a cap cs) (h1 : w'.heap[g]? = w.heap[g]?) (h2 : ∀ x, a = some x → cs ≠ [] → w'.heap[x.block]? = w.heap[x.block]?) : Drw w' g a cap cs := by
  refine ⟨⟨h.1.1, ?_⟩, h.2.1, ?_, h.2.2.2⟩
  · rcases h.1.2 with h0 | ⟨b, off, rfl, hc⟩
    · exact .inl h0
    · by_cases he : cs = []
      · exact .inl he
      · exact .inr ⟨b, off, rfl, fun i hi => (World.cell?_of_block (a := ⟨b, off + i, none⟩) (h2 ⟨b, off, none⟩ rfl he)).trans (hc i hi)⟩
  · obtain ⟨i, k, hh, hi⟩ := h.2.2.1
    exact ⟨i, k, h1.trans hh, hi⟩

section
variable {B M : Nat} {rk : Nat → Nat} {w : World} {g : Nat} {a : Option Addr} {cap : Nat} {cs : List Int}

theorem Hs.lt (h : Hs B M rk w g a cap cs) : g < w.heap.size := h.2.1.lt
theorem Hs.base (h : Hs B M rk w g a cap cs) : B ≤ w.heap.size := by have := h.2.1.lt; have := h.2.2.1; omega

/-- What leaves all blocks below the heap's end but rows of the three types. -/
theorem Hs.on {rk' : Nat → Nat} {w' : World} (h : Hs B M rk w g a cap cs) (hw : Hw B M rk' w') (h1 : w'.heap[g]? = w.heap[g]?) (h2 : ∀ b, b < B → w'.heap[b]? = w.heap[b]?) : Hs B M rk' w' g a cap cs :=
  ⟨hw, h.2.1.keep h1 fun x hx he => h2 _ (h.2.2.2 x hx he), h.2.2⟩

theorem l1Below_hs (h : Hs B M rk w g a cap cs) (n : Int) (hn : n ≤ 9223372036854775807) :
    Calls Tryz.prog 18 #[.pointer (some ⟨g, 0, none⟩), .int .i64 n] w fun e w' => ∃ x : Int, e = .returned (.int .i64 x) ∧ 0 ≤ x ∧ (0 < n → x < n) ∧ (n ≤ 0 → x = 0) ∧ Hs B M rk w' g a cap cs ∧ Cus g w w' ∧ Shp w w' := by
  refine (l1Below_dc g a cap cs n w h.2.1 hn).mono ?_
  rintro e w' ⟨x, rfl, h0, h1, h2, hd, hc⟩
  exact ⟨x, rfl, h0, h1, h2, h.cus hd hc, hc, hc.shp h.2.1⟩
theorem l1Once_hs (h : Hs B M rk w g a cap cs) (n : Int) (hn : n ≤ 9223372036854775807) :
    Calls Tryz.prog 17 #[.pointer (some ⟨g, 0, none⟩), .int .i64 n] w fun e w' => ∃ b : Bool, e = .returned (.bool b) ∧ Hs B M rk w' g a cap cs ∧ Cus g w w' ∧ Shp w w' := by
  refine (l1Once_dc g a cap cs n w h.2.1 hn).mono ?_
  rintro e w' ⟨b, rfl, hd, hc⟩
  exact ⟨b, rfl, h.cus hd hc, hc, hc.shp h.2.1⟩
theorem l1PickInt_hs (h : Hs B M rk w g a cap cs) (b n lc : Nat) (hn : 0 < n) (hn2 : n ≤ 1000) (hbg : b ≠ g) (hb : b < w.heap.size) (hc : ∀ k, k < n → ∃ z : Int, w.cell? ⟨b, k, none⟩ = some (.int .i64 z)) :
    Calls Tryz.prog 33 #[.pointer (some ⟨g, 0, none⟩), .slice (some ⟨b, 0, none⟩) n lc] w fun e w' => ∃ z : Int, e = .returned (.int .i64 z) ∧ Hs B M rk w' g a cap cs ∧ Cus g w w' ∧ Shp w w' := by
  refine (l1PickInt_dc g b n lc a cap cs w h.2.1 hn hn2 hbg hb hc).mono ?_
  rintro e w' ⟨z, rfl, hd, hc⟩
  exact ⟨z, rfl, h.cus hd hc, hc, hc.shp h.2.1⟩
end
end Go.Proofs.YteafpgaefphkfaaGreatDoor
