/-
  Texts that a law leans on, one behind the other; no statement is proved here.
-/
import Derived.Test.YtcdonbepfmhdpaaProg
import Derived.WalkKit
import Derived.WalkSpells
import Derived.WalkLawsBesides
import Derived.Deep.QuietTactic
import Derived.BigQuiet
import Derived.Below
import Derived.Laws.AppendOwnNone
import Derived.Deep.RegionWith
import Derived.Deep.Cut
/-
  Graphs: rows of numbers and of edges in memory, read ('NSeg', 'ESeg') and owned ('NOwn', 'EOwn'); small laws on worlds; no statement is proved here. (A seat over graphs has no texts: this text stands in Base's place.)
-/
namespace Go.Proofs.Ytcdonbepfmhdpaa
open Go.RowKit
set_option linter.unusedVariables false
set_option linter.unusedSimpArgs false

theorem hide' {p : Prop} (h : p) : Hid p := h

/-- Two steps that each make new blocks alone. -/
theorem Below.on {w w1 w2 : World} (h : Below w.heap.size w w1) (k : Below w1.heap.size w1 w2) : Below w.heap.size w w2 := h.trans (k.mono h.size)

theorem ret_i64 {x y : Int} (h : x = y) : Ending.returned (.int .i64 x) = .returned (.int .i64 y) := by rw [h]

theorem ret_bool {x y : Bool} (h : x = y) : Ending.returned (.bool x) = .returned (.bool y) := by rw [h]

/-- The blocks in which something lies all fulfil R, and may be read alike in two worlds. -/
def Agree (R : Nat → Prop) (w w' : World) : Prop := ∀ b, R b → w'.heap[b]? = w.heap[b]?

/-- What lies below N is read alike behind whatever leaves what is below N. -/
theorem agree_below {N : Nat} {w w' : World} (h : Below N w w') : Agree (fun b => b < N) w w' := fun b hb => h.block b hb

theorem cell_agree {R : Nat → Prop} {w w' : World} (h : Agree R w w') {b o : Nat} (hb : R b) : w'.cell? ⟨b, o, none⟩ = w.cell? ⟨b, o, none⟩ := World.cell?_of_block (h b hb)

theorem grownBy_trans {w0 w1 w2 : World} {row : Option Nat} (h : w0.grownBy w1 row) (k : w1.grownBy w2 row) : w0.grownBy w2 row :=
  ⟨k.os.trans h.os, k.tape.trans h.tape, k.output.trans h.output, Nat.le_trans h.size k.size, fun i hi hne => (k.block i (Nat.lt_of_lt_of_le hi h.size) hne).trans (h.block i hi hne)⟩

theorem grown1 (w : World) (g j : Nat) (v : Value) : w.grownBy (w.setCell ⟨g, j, none⟩ v) (some g) :=
  ⟨rfl, rfl, rfl, by simp [World.setCell], fun k _ hk => Below.heap_setCell w ⟨g, j, none⟩ v k (fun e => hk (by simp [e]))⟩

theorem two_boxes (w : World) (o o' : Obj) : ((w.alloc o).alloc o').heap[w.heap.size]? = some o ∧ ((w.alloc o).alloc o').heap[w.heap.size + 1]? = some o' := by
  have e : (w.alloc o).heap.size = w.heap.size + 1 := by simp
  constructor
  · exact (((Below.refl (w.alloc o).heap.size (w.alloc o)).alloc (Nat.le_refl _) o').block w.heap.size (by omega)).trans (MapKept.heap_alloc w o).1
  · have h := (MapKept.heap_alloc (w.alloc o) o').1
    rw [e] at h
    exact h

/-- The box of a value that was handed in. -/
theorem box_row {w wr : World} {o : Obj} (h : Below (w.alloc o).heap.size (w.alloc o) wr) : wr.heap[w.heap.size]? = some o :=
  (h.block w.heap.size (by simp)).trans (MapKept.heap_alloc w o).1

theorem quiet_same {P : Program} {f : FuncId} {args : Array Value} {w : World} {n : Nat} {v : Value}
    (h : Calls P f args (w.drewN n) fun e w' => e = .returned v ∧ w.drewN n = w') : Calls P f args (w.drewN n) fun e w'' => e = .returned v ∧ ∃ m, w'' = w.drewN m :=
  Calls.quiet_of_same (h.mono fun _ _ ⟨he, hm⟩ => ⟨he, hm.symm⟩)

theorem row2 {w : World} {g : Nat} {T : TypeId} {c0 c1 : Value} (h : w.heap[g]? = some (.cells #[c0, c1] T (0, 0))) : w.cell? ⟨g, 0, none⟩ = some c0 ∧ w.cell? ⟨g, 1, none⟩ = some c1 ∧ ∀ j, w.frozen? ⟨g, j, none⟩ = false :=
  ⟨by rw [cell_of_row w g 0 _ _ _ h]; rfl, by rw [cell_of_row w g 1 _ _ _ h]; rfl, fun j => frozen_of_row w g j _ _ h⟩

/-- Numbers as cells. -/
def iC (l : List Int) : List Value := l.map (Value.int .i64)
/-- An edge: where it begins, where it ends. -/
abbrev Edg : Type := Int × Int
/-- Edges as cells. -/
def eC (l : List Edg) : List Value := (l.map fun e => [Value.int .i64 e.1, Value.int .i64 e.2]).flatten

theorem iC_len (l : List Int) : (iC l).length = l.length := by simp [iC]
theorem iC_add (l : List Int) (x : Int) : iC (l ++ [x]) = iC l ++ [.int .i64 x] := by simp [iC]
theorem iC_at {l : List Int} {i : Nat} (h : i < l.length) : (iC l)[i]? = some (.int .i64 l[i]) := by simp [iC, h]
theorem eC_len : ∀ l : List Edg, (eC l).length = l.length * 2
  | [] => rfl
  | x :: r => by
    have := eC_len r
    simp only [eC, List.map_cons, List.flatten_cons, List.length_append, List.length_cons, List.length_nil] at this ⊢
    omega
theorem eC_add (l : List Edg) (x : Edg) : eC (l ++ [x]) = eC l ++ [.int .i64 x.1, .int .i64 x.2] := by simp [eC]
theorem eC_cons (x : Edg) (l : List Edg) : eC (x :: l) = .int .i64 x.1 :: .int .i64 x.2 :: eC l := by simp [eC]
theorem eC_at : ∀ {l : List Edg} {i : Nat} (h : i < l.length), (eC l)[i * 2]? = some (.int .i64 l[i].1) ∧ (eC l)[i * 2 + 1]? = some (.int .i64 l[i].2)
  | [], i, h => by simp at h
  | x :: r, 0, h => by rw [eC_cons]; exact ⟨rfl, rfl⟩
  | x :: r, i + 1, h => by
    obtain ⟨h1, h2⟩ := eC_at (l := r) (i := i) (by simp at h; omega)
    have e : (i + 1) * 2 = i * 2 + 1 + 1 := by omega
    rw [eC_cons, e]
    exact ⟨h1, h2⟩

/-- A slice of numbers, read. -/
def NSeg (R : Nat → Prop) (w : World) (x : Value) (l : List Int) : Prop := ∃ a cap, x = .slice a l.length cap ∧ l.length ≤ cap ∧ cap ≤ maxLen ∧ (a = none → cap = 0) ∧
  (l = [] ∨ ∃ b off, a = some ⟨b, off, none⟩ ∧ R b ∧ ∀ i (h : i < l.length), w.cell? ⟨b, off + i, none⟩ = some (.int .i64 l[i]))
/-- A slice of edges, read. -/
def ESeg (R : Nat → Prop) (w : World) (x : Value) (l : List Edg) : Prop := ∃ a cap, x = .slice a l.length cap ∧ l.length ≤ cap ∧ cap ≤ maxLen ∧ (a = none → cap = 0) ∧
  (l = [] ∨ ∃ b off, a = some ⟨b, off, none⟩ ∧ R b ∧ ∀ i (h : i < l.length), w.cell? ⟨b, off + i * 2, none⟩ = some (.int .i64 l[i].1) ∧ w.cell? ⟨b, off + i * 2 + 1, none⟩ = some (.int .i64 l[i].2))

section
variable {R R' : Nat → Prop} {w w' : World} {x : Value}
theorem NSeg.agree {l : List Int} (h : NSeg R w x l) (ha : Agree R w w') : NSeg R w' x l := by
  obtain ⟨a, cap, g1, g2, g3, g4, g5⟩ := h
  refine ⟨a, cap, g1, g2, g3, g4, ?_⟩
  rcases g5 with e | ⟨b, off, hb, hR, hc⟩
  · exact .inl e
  · exact .inr ⟨b, off, hb, hR, fun i hi => (cell_agree ha hR).trans (hc i hi)⟩
theorem ESeg.agree {l : List Edg} (h : ESeg R w x l) (ha : Agree R w w') : ESeg R w' x l := by
  obtain ⟨a, cap, g1, g2, g3, g4, g5⟩ := h
  refine ⟨a, cap, g1, g2, g3, g4, ?_⟩
  rcases g5 with e | ⟨b, off, hb, hR, hc⟩
  · exact .inl e
  · exact .inr ⟨b, off, hb, hR, fun i hi => ⟨(cell_agree ha hR).trans (hc i hi).1, (cell_agree ha hR).trans (hc i hi).2⟩⟩
theorem NSeg.mono {l : List Int} (h : NSeg R w x l) (hr : ∀ b, R b → R' b) : NSeg R' w x l := by
  obtain ⟨a, cap, g1, g2, g3, g4, g5⟩ := h
  refine ⟨a, cap, g1, g2, g3, g4, ?_⟩
  rcases g5 with e | ⟨b, off, hb, hR, hc⟩
  · exact .inl e
  · exact .inr ⟨b, off, hb, hr b hR, hc⟩
theorem ESeg.mono {l : List Edg} (h : ESeg R w x l) (hr : ∀ b, R b → R' b) : ESeg R' w x l := by
  obtain ⟨a, cap, g1, g2, g3, g4, g5⟩ := h
  refine ⟨a, cap, g1, g2, g3, g4, ?_⟩
  rcases g5 with e | ⟨b, off, hb, hR, hc⟩
  · exact .inl e
  · exact .inr ⟨b, off, hb, hr b hR, hc⟩
theorem NSeg.at {l : List Int} {a : Option Addr} {n cap : Nat} (h : NSeg R w (.slice a n cap) l) {k : Nat} (hk : k < l.length) : ∃ b off, a = some ⟨b, off, none⟩ ∧ R b ∧ w.cell? ⟨b, off + k, none⟩ = some (.int .i64 l[k]) := by
  obtain ⟨a', cap', g1, _, _, _, g5⟩ := h
  simp only [Value.slice.injEq] at g1
  obtain ⟨rfl, _, _⟩ := g1
  rcases g5 with e | ⟨b, off, hb, hR, hc⟩
  · rw [e] at hk; simp at hk
  · exact ⟨b, off, hb, hR, hc k hk⟩
theorem ESeg.at {l : List Edg} {a : Option Addr} {n cap : Nat} (h : ESeg R w (.slice a n cap) l) {k : Nat} (hk : k < l.length) : ∃ b off, a = some ⟨b, off, none⟩ ∧ R b ∧ w.cell? ⟨b, off + k * 2, none⟩ = some (.int .i64 l[k].1) ∧ w.cell? ⟨b, off + k * 2 + 1, none⟩ = some (.int .i64 l[k].2) := by
  obtain ⟨a', cap', g1, _, _, _, g5⟩ := h
  simp only [Value.slice.injEq] at g1
  obtain ⟨rfl, _, _⟩ := g1
  rcases g5 with e | ⟨b, off, hb, hR, hc⟩
  · rw [e] at hk; simp at hk
  · exact ⟨b, off, hb, hR, (hc k hk).1, (hc k hk).2⟩
theorem NSeg.form {l : List Int} (h : NSeg R w x l) : ∃ a c, x = .slice a l.length c := by
  obtain ⟨a, c, e, _⟩ := h
  exact ⟨a, c, e⟩
theorem ESeg.form {l : List Edg} (h : ESeg R w x l) : ∃ a c, x = .slice a l.length c := by
  obtain ⟨a, c, e, _⟩ := h
  exact ⟨a, c, e⟩
end

/-- Numbers of the call's own, in a row from block 'base' on. -/
def NOwn (w : World) (base : Nat) (v : Value) (l : List Int) : Prop := w.ownsRow base 3 1 v l.length (iC l)
/-- Edges of the call's own. -/
def EOwn (w : World) (base : Nat) (v : Value) (l : List Edg) : Prop := w.ownsRow base 36 2 v l.length (eC l)

section
variable {w w' : World} {base : Nat} {v : Value}
theorem NOwn.seg {l : List Int} (h : NOwn w base v l) : NSeg (fun b => v.ownBlock = some b) w v l := by
  obtain ⟨h1, ⟨rfl, h2⟩ | ⟨g, cap, cur, rfl, hb, hg, hn, hm, hs, ht⟩⟩ := h
  · obtain rfl := List.length_eq_zero_iff.1 h2
    exact ⟨none, 0, rfl, Nat.le_refl _, Nat.zero_le _, fun _ => rfl, .inl rfl⟩
  · refine ⟨some ⟨g, 0, none⟩, cap, rfl, hn, hm, by simp, .inr ⟨g, 0, rfl, rfl, fun i hi => ?_⟩⟩
    rw [Nat.zero_add, cell_of_row w g i _ _ _ hg]
    have h3 : (cur.toList.take (l.length * 1))[i]? = (iC l)[i]? := by rw [ht]
    rw [List.getElem?_take, if_pos (by omega), iC_at hi] at h3
    simpa using h3
theorem EOwn.seg {l : List Edg} (h : EOwn w base v l) : ESeg (fun b => v.ownBlock = some b) w v l := by
  obtain ⟨h1, ⟨rfl, h2⟩ | ⟨g, cap, cur, rfl, hb, hg, hn, hm, hs, ht⟩⟩ := h
  · obtain rfl := List.length_eq_zero_iff.1 h2
    exact ⟨none, 0, rfl, Nat.le_refl _, Nat.zero_le _, fun _ => rfl, .inl rfl⟩
  · refine ⟨some ⟨g, 0, none⟩, cap, rfl, hn, hm, by simp, .inr ⟨g, 0, rfl, rfl, fun i hi => ?_⟩⟩
    have h3 : (cur.toList.take (l.length * 2))[i * 2]? = (eC l)[i * 2]? := by rw [ht]
    have h4 : (cur.toList.take (l.length * 2))[i * 2 + 1]? = (eC l)[i * 2 + 1]? := by rw [ht]
    rw [List.getElem?_take, if_pos (by omega), (eC_at hi).1] at h3
    rw [List.getElem?_take, if_pos (by omega), (eC_at hi).2] at h4
    constructor
    · rw [Nat.zero_add, cell_of_row w g _ _ _ _ hg]
      simpa using h3
    · rw [Nat.zero_add, cell_of_row w g _ _ _ _ hg]
      simpa using h4
theorem NOwn.on {l : List Int} (h : NOwn w base v l) (hb : Below w.heap.size w w') : NOwn w' base v l := World.ownsRow.kept h (row := none) ⟨hb.os, hb.tape, hb.output, hb.size, fun k hk _ => hb.block k hk⟩ (by cases hv : v.ownBlock <;> simp)
theorem EOwn.on {l : List Edg} (h : EOwn w base v l) (hb : Below w.heap.size w w') : EOwn w' base v l := World.ownsRow.kept h (row := none) ⟨hb.os, hb.tape, hb.output, hb.size, fun k hk _ => hb.block k hk⟩ (by cases hv : v.ownBlock <;> simp)
theorem NOwn.lt {l : List Int} (h : NOwn w base v l) : ∀ k, v.ownBlock = some k → base ≤ k ∧ k < w.heap.size := World.ownsRow.lt h
theorem EOwn.lt {l : List Edg} (h : EOwn w base v l) : ∀ k, v.ownBlock = some k → base ≤ k ∧ k < w.heap.size := World.ownsRow.lt h
theorem NOwn.read {l : List Int} (h : NOwn w base v l) : NSeg (fun b => b < w.heap.size) w v l := h.seg.mono fun b hb => (h.lt b hb).2
theorem EOwn.read {l : List Edg} (h : EOwn w base v l) : ESeg (fun b => b < w.heap.size) w v l := h.seg.mono fun b hb => (h.lt b hb).2
theorem NOwn.far {l : List Int} {r : Option Nat} (h : NOwn w base v l) (hg : w.grownBy w' r) (hr : ∀ k, v.ownBlock = some k → r ≠ some k) : NOwn w' base v l := World.ownsRow.kept h hg (by
  cases hv : v.ownBlock with
  | none => exact .inl rfl
  | some k => exact .inr fun e => hr k hv e.symm)
theorem EOwn.far {l : List Edg} {r : Option Nat} (h : EOwn w base v l) (hg : w.grownBy w' r) (hr : ∀ k, v.ownBlock = some k → r ≠ some k) : EOwn w' base v l := World.ownsRow.kept h hg (by
  cases hv : v.ownBlock with
  | none => exact .inl rfl
  | some k => exact .inr fun e => hr k hv e.symm)
theorem NOwn.nil (w : World) (base : Nat) : NOwn w base (.slice none 0 0) [] := ⟨rfl, .inl ⟨rfl, rfl⟩⟩
theorem EOwn.nil (w : World) (base : Nat) : EOwn w base (.slice none 0 0) [] := ⟨rfl, .inl ⟨rfl, rfl⟩⟩
theorem NOwn.form {l : List Int} (h : NOwn w base v l) : ∃ a c, v = .slice a l.length c := h.seg.form
theorem EOwn.form {l : List Edg} (h : EOwn w base v l) : ∃ a c, v = .slice a l.length c := h.seg.form
theorem NOwn.down {l : List Int} {base' : Nat} (h : NOwn w base v l) (hb : base' ≤ base) : NOwn w base' v l := by
  obtain ⟨h1, h2 | ⟨g, cap, cur, e, hb', r⟩⟩ := h
  · exact ⟨h1, .inl h2⟩
  · exact ⟨h1, .inr ⟨g, cap, cur, e, by omega, r⟩⟩
theorem EOwn.down {l : List Edg} {base' : Nat} (h : EOwn w base v l) (hb : base' ≤ base) : EOwn w base' v l := by
  obtain ⟨h1, h2 | ⟨g, cap, cur, e, hb', r⟩⟩ := h
  · exact ⟨h1, .inl h2⟩
  · exact ⟨h1, .inr ⟨g, cap, cur, e, by omega, r⟩⟩
end
end Go.Proofs.Ytcdonbepfmhdpaa
/-
  Graphs: their size (szGraph), an edge copied (toEdge).
-/
namespace Go.Proofs.Ytcdonbepfmhdpaa
open Go.RowKit
set_option linter.unusedVariables false
set_option linter.unusedSimpArgs false

/-- What is left of m, n being taken off. -/
def lessN (m : Int) (n : Nat) : Int := if m < (n : Int) then -1 else m - n

theorem three_boxes (w : World) (o1 o2 o3 : Obj) : (((w.alloc o1).alloc o2).alloc o3).heap[w.heap.size]? = some o1 ∧ (((w.alloc o1).alloc o2).alloc o3).heap[w.heap.size + 1]? = some o2 ∧ (((w.alloc o1).alloc o2).alloc o3).heap[w.heap.size + 1 + 1]? = some o3 ∧ (((w.alloc o1).alloc o2).alloc o3).heap.size = w.heap.size + 3 ∧ Below w.heap.size w (((w.alloc o1).alloc o2).alloc o3) := by
  obtain ⟨h1, h2⟩ := two_boxes w o1 o2
  have z2 : ((w.alloc o1).alloc o2).heap.size = w.heap.size + 2 := by simp
  have hb : Below ((w.alloc o1).alloc o2).heap.size ((w.alloc o1).alloc o2) (((w.alloc o1).alloc o2).alloc o3) := (Below.refl _ _).alloc (Nat.le_refl _) o3
  refine ⟨(hb.block _ (by omega)).trans h1, (hb.block _ (by omega)).trans h2, ?_, by simp, ((((Below.refl _ _).alloc (Nat.le_refl _) o1).alloc (by simp) o2).alloc (by simp; omega) o3)⟩
  have h := (MapKept.heap_alloc ((w.alloc o1).alloc o2) o3).1
  rw [z2] at h
  exact h

/-- Two cells set in a row. -/
def set2 (w : World) (g j : Nat) (a b : Value) : World := (w.setCell ⟨g, j, none⟩ a).setCell ⟨g, j + 1, none⟩ b
theorem set2_grown (w : World) (g j : Nat) (a b : Value) : w.grownBy (set2 w g j a b) (some g) := grownBy_trans (grown1 w g j a) (grown1 _ g (j + 1) b)
theorem set2_size (w : World) (g j : Nat) (a b : Value) : (set2 w g j a b).heap.size = w.heap.size := by simp [set2, World.setCell]
theorem set2_heap {w : World} {g j : Nat} {cur : Array Value} {T : TypeId} (a b : Value) (h : w.heap[g]? = some (.cells cur T (0, 0))) : (set2 w g j a b).heap[g]? = some (.cells ((cur.setIfInBounds j a).setIfInBounds (j + 1) b) T (0, 0)) :=
  heap_setCell_same _ g (j + 1) _ _ _ (heap_setCell_same w g j _ _ _ h)

end Go.Proofs.Ytcdonbepfmhdpaa
/-
  Graphs copied: toEdgeS, toIntS, toGraph.
-/
namespace Go.Proofs.Ytcdonbepfmhdpaa
open Go.RowKit
set_option linter.unusedVariables false
set_option linter.unusedSimpArgs false

theorem infoE : (Try.prog.info? 36).map (fun i => (i.zero, i.size, i.bytes)) = some (some (.agg #[.int .i64 0, .int .i64 0]), 2, 16) := by kernel_rfl
theorem infoI : (Try.prog.info? 3).map (fun i => (i.zero, i.size, i.bytes)) = some (some (.int .i64 0), 1, 8) := by kernel_rfl

/-- The first k of a row of n edges are laid. -/
def EPart (w : World) (g n : Nat) (l : List Edg) (k : Nat) : Prop := ∃ cur : Array Value, w.heap[g]? = some (.cells cur 36 (0, 0)) ∧ cur.size = n * 2 ∧ ∀ i (h : i < l.length), i < k → cur[i * 2]? = some (.int .i64 l[i].1) ∧ cur[i * 2 + 1]? = some (.int .i64 l[i].2)
/-- The first k of a row of n numbers are laid. -/
def NPart (w : World) (g n : Nat) (l : List Int) (k : Nat) : Prop := ∃ cur : Array Value, w.heap[g]? = some (.cells cur 3 (0, 0)) ∧ cur.size = n ∧ ∀ i (h : i < l.length), i < k → cur[i]? = some (.int .i64 l[i])

theorem ePart_next {w w2 : World} {g n k : Nat} {l : List Edg} (h : EPart w g n l k) (hg : g < w.heap.size) (hb : Below w.heap.size w w2) (hk : k < l.length) (hn : l.length = n) : EPart (set2 w2 g (k * 2) (.int .i64 l[k].1) (.int .i64 l[k].2)) g n l (k + 1) := by
  obtain ⟨cur, h1, h2, h3⟩ := h
  refine ⟨_, set2_heap _ _ ((hb.block g hg).trans h1), by simp [h2], fun i hi hik => ?_⟩
  by_cases e : i = k
  · subst e
    constructor
    · rw [Array.getElem?_setIfInBounds_ne (by omega), Array.getElem?_setIfInBounds_self_of_lt (by omega)]
    · rw [Array.getElem?_setIfInBounds_self_of_lt (by simp; omega)]
  · obtain ⟨q1, q2⟩ := h3 i hi (by omega)
    constructor
    · rw [Array.getElem?_setIfInBounds_ne (by omega), Array.getElem?_setIfInBounds_ne (by omega)]
      exact q1
    · rw [Array.getElem?_setIfInBounds_ne (by omega), Array.getElem?_setIfInBounds_ne (by omega)]
      exact q2
theorem nPart_next {w : World} {g n k : Nat} {l : List Int} (h : NPart w g n l k) (hk : k < l.length) (hn : l.length = n) : NPart (w.setCell ⟨g, k, none⟩ (.int .i64 l[k])) g n l (k + 1) := by
  obtain ⟨cur, h1, h2, h3⟩ := h
  refine ⟨_, heap_setCell_same w g k _ _ _ h1, by simp [h2], fun i hi hik => ?_⟩
  by_cases e : i = k
  · subst e
    rw [Array.getElem?_setIfInBounds_self_of_lt (by omega)]
  · rw [Array.getElem?_setIfInBounds_ne (by omega)]
    exact h3 i hi (by omega)

theorem ePart_own {w : World} {g base : Nat} {l : List Edg} (h : EPart w g l.length l l.length) (hb : base ≤ g) (hm : l.length ≤ maxLen) : EOwn w base (.slice (some ⟨g, 0, none⟩) l.length l.length) l := by
  obtain ⟨cur, h1, h2, h3⟩ := h
  refine ⟨eC_len l, .inr ⟨g, l.length, cur, rfl, hb, h1, Nat.le_refl _, hm, h2, ?_⟩⟩
  rw [List.take_of_length_le (by simp [h2])]
  apply List.ext_getElem?
  intro j
  by_cases hj : j < l.length * 2
  · obtain ⟨q1, q2⟩ := h3 (j / 2) (by omega) (by omega)
    obtain ⟨r1, r2⟩ := eC_at (l := l) (i := j / 2) (by omega)
    rcases Nat.mod_two_eq_zero_or_one j with e | e
    · have e2 : j / 2 * 2 = j := by omega
      rw [e2] at q1 r1
      rw [Array.getElem?_toList, q1, r1]
    · have e2 : j / 2 * 2 + 1 = j := by omega
      rw [e2] at q2 r2
      rw [Array.getElem?_toList, q2, r2]
  · rw [List.getElem?_eq_none (by simp [h2]; omega), List.getElem?_eq_none (by rw [eC_len]; omega)]
theorem nPart_own {w : World} {g base : Nat} {l : List Int} (h : NPart w g l.length l l.length) (hb : base ≤ g) (hm : l.length ≤ maxLen) : NOwn w base (.slice (some ⟨g, 0, none⟩) l.length l.length) l := by
  obtain ⟨cur, h1, h2, h3⟩ := h
  refine ⟨by rw [iC_len]; omega, .inr ⟨g, l.length, cur, rfl, hb, h1, Nat.le_refl _, hm, by omega, ?_⟩⟩
  rw [List.take_of_length_le (by simp [h2])]
  apply List.ext_getElem?
  intro j
  by_cases hj : j < l.length
  · rw [Array.getElem?_toList, h3 j hj hj, iC_at hj]
  · rw [List.getElem?_eq_none (by simp [h2]; omega), List.getElem?_eq_none (by rw [iC_len]; omega)]

end Go.Proofs.Ytcdonbepfmhdpaa
/-
  Draws over a seat of graphs: a code that is read, the draws' cursor, and what is drawn of it (what Draw1 and DrwO hold, over G0).
-/
namespace Go.Proofs.Ytcdonbepfmhdpaa
open Go.RowKit
set_option linter.unusedVariables false
set_option linter.unusedSimpArgs false

/-- A byte. -/
def Byt (x : Int) : Prop := 0 ≤ x ∧ x ≤ 255
/-- The slice at 'a' of 'xs.length' bytes reads as 'xs'. -/
def Seg (w : World) (a : Option Addr) (xs : List Int) : Prop :=
  (∀ x ∈ xs, Byt x) ∧ (xs = [] ∨ ∃ b off, a = some ⟨b, off, none⟩ ∧ ∀ i, i < xs.length → w.cell? ⟨b, off + i, none⟩ = some (.int .u8 (xs.getD i 0)))
theorem Seg.below {w w' : World} {B : Nat} {a : Option Addr} {xs : List Int} (h : Seg w a xs) (hb : Below B w w') (ha : ∀ x, a = some x → xs ≠ [] → x.block < B) : Seg w' a xs := by
  refine ⟨h.1, ?_⟩
  rcases h.2 with h0 | ⟨b, off, rfl, hc⟩
  · exact .inl h0
  · by_cases he : xs = []
    · exact .inl he
    · exact .inr ⟨b, off, rfl, fun i hi => (hb.cell (p := ⟨b, off + i, none⟩) (ha ⟨b, off, none⟩ rfl he)).trans (hc i hi)⟩
/-- What can be read lies in a block that is there. -/
theorem Seg.lt {w : World} {a : Option Addr} {xs : List Int} (h : Seg w a xs) : ∀ x, a = some x → xs ≠ [] → x.block < w.heap.size := by
  intro x hx he
  rcases h.2 with h0 | ⟨b, off, rfl, hc⟩
  · exact absurd h0 he
  · simp at hx
    subst hx
    have hp : 0 < xs.length := List.length_pos_iff.2 he
    exact World.block_lt_of_cell? w _ (hc 0 hp)
/-- What can be read can be read behind whatever makes new blocks alone. -/
theorem Seg.grow {w w' : World} {a : Option Addr} {xs : List Int} (h : Seg w a xs) (hb : Below w.heap.size w w') : Seg w' a xs := h.below hb h.lt
theorem Seg.away {w w' : World} {a : Option Addr} {xs : List Int} {row : Option Nat} (h : Seg w a xs) (hg : w.grownBy w' row) (hne : ∀ x, a = some x → xs ≠ [] → row ≠ some x.block) : Seg w' a xs := by
  refine ⟨h.1, ?_⟩
  rcases h.2 with h0 | ⟨b, off, rfl, hc⟩
  · exact .inl h0
  · by_cases he : xs = []
    · exact .inl he
    · exact .inr ⟨b, off, rfl, fun i hi => hg.cell (hc i hi) (fun e => hne ⟨b, off, none⟩ rfl he e.symm)⟩
/-- A slice of bytes that came in can be read. -/
theorem seg_of_row {w : World} {a : Option Addr} {len cap : Nat} {zs : List Int} (h : (a = none ∧ len = 0 ∧ cap = 0 ∧ zs = []) ∨
    ∃ x, a = some x ∧ len ≤ cap ∧ cap ≤ maxLen ∧ zs.length = cap ∧ (∀ i, i < zs.length → w.cell? (x.add i) = some (.int .u8 (zs.getD i 0))) ∧ ∀ n ∈ zs, (Lit.int .u8 n).wf = true) :
    ∃ xs : List Int, len = xs.length ∧ Seg w a xs ∧ len ≤ cap ∧ cap ≤ maxLen ∧ (a = none → cap = 0) := by
  rcases h with ⟨rfl, rfl, rfl, rfl⟩ | ⟨x, rfl, hlc, hm, hz, hcell, hwf⟩
  · exact ⟨[], rfl, ⟨by simp, .inl rfl⟩, Nat.le_refl _, Nat.zero_le _, fun _ => rfl⟩
  · have hl : len = (zs.take len).length := by simp; omega
    refine ⟨zs.take len, hl, ⟨?_, ?_⟩, hlc, hm, by simp⟩
    · intro n hn
      have := hwf n (List.mem_of_mem_take hn)
      unfold Byt
      simp [Lit.wf, IntKind.min, IntKind.max, IntKind.bits, IntKind.signed] at this
      omega
    · by_cases h0 : len = 0
      · exact .inl (by simp [h0])
      · obtain ⟨b, off, spot⟩ := x
        have hc := hcell 0 (by omega)
        have hspot : spot = none := by simpa [Addr.add] using World.cell?_spot hc
        subst hspot
        refine .inr ⟨b, off, rfl, fun i hi => ?_⟩
        have hi' : i < len := by omega
        have := hcell i (by omega)
        have e : (⟨b, off, none⟩ : Addr).add i = ⟨b, off + i, none⟩ := Addr.add_lit b off i
        rw [e] at this
        rw [this]
        simp [List.getD_eq_getElem?_getD, hi']
theorem Seg.at {w : World} {a : Option Addr} {xs : List Int} (h : Seg w a xs) {k : Nat} (hk : k < xs.length) : ∃ b off, a = some ⟨b, off, none⟩ ∧ w.cell? ⟨b, off + k, none⟩ = some (.int .u8 (xs.getD k 0)) := by
  rcases h.2 with h0 | ⟨b, off, h1, h2⟩
  · subst h0; simp at hk
  · exact ⟨b, off, h1, h2 k hk⟩

theorem and_bound (x y : Int) (m : Nat) (hm : m < 4294967296) (hy : y = m) : 0 ≤ bits .and .i64 x y ∧ bits .and .i64 x y ≤ m := by
  subst hy
  have h1 : (BitVec.ofInt 64 x &&& BitVec.ofInt 64 (m : Int)).toNat ≤ m := by
    rw [BitVec.toNat_and]
    refine Nat.le_trans Nat.and_le_right ?_
    simp
    omega
  show 0 ≤ IntKind.i64.wrap ((BitVec.ofInt 64 x &&& BitVec.ofInt 64 (m : Int)).toNat : Int) ∧ IntKind.i64.wrap ((BitVec.ofInt 64 x &&& BitVec.ofInt 64 (m : Int)).toNat : Int) ≤ (m : Int)
  generalize (BitVec.ofInt 64 x &&& BitVec.ofInt 64 (m : Int)).toNat = q at h1
  simp only [IntKind.wrap, IntKind.bits, IntKind.signed]
  simp
  omega

/-- The cursor in block g over the code at a. -/
def Cur (w : World) (g : Nat) (a : Option Addr) (n cap : Nat) : Prop :=
  ∃ (i : Nat) (h : Int), w.heap[g]? = some (.cells #[.slice a n cap, .int .i64 i, .int .i64 h] 66 (0, 0)) ∧ i ≤ n

theorem Cur.lt {w : World} {g : Nat} {a : Option Addr} {n cap : Nat} (h : Cur w g a n cap) : g < w.heap.size := by
  obtain ⟨i, h, hh, _⟩ := h
  exact (Array.getElem?_eq_some_iff.1 hh).1

theorem Cur.grow {w w' : World} {g : Nat} {a : Option Addr} {n cap : Nat} (h : Cur w g a n cap) (hb : Below w.heap.size w w') : Cur w' g a n cap := by
  have hl := h.lt
  obtain ⟨i, h, hh, hi⟩ := h
  exact ⟨i, h, (hb.block g hl).trans hh, hi⟩

theorem Cur.away {w w' : World} {g : Nat} {a : Option Addr} {n cap : Nat} {row : Option Nat} (h : Cur w g a n cap) (hg : w.grownBy w' row) (hne : row ≠ some g) : Cur w' g a n cap := by
  have hl := h.lt
  obtain ⟨i, h, hh, hi⟩ := h
  exact ⟨i, h, (hg.block g hl (fun e => hne e.symm)).trans hh, hi⟩

set_option maxHeartbeats 800000 in
theorem l1New_any (a : Option Addr) (cap : Nat) (xs : List Int) (w : World) (ha : Seg w a xs) (hl : xs.length ≤ maxLen) :
    Calls Try.prog 19 #[.slice a xs.length cap] w fun e w' => e = .returned (.pointer (some ⟨w.heap.size, 0, none⟩)) ∧ Cur w' w.heap.size a xs.length cap ∧ Below w.heap.size w w' := by
  unfold maxLen at hl
  generalize hn : xs.length = n at *
  have Hn : Hid (xs.length = n) := hn
  clear hn
  go_enter Try.func19, Try.ntmps19
  go_wp2
  go_loopw [3, 4] (fun h i wr => ∃ (k : Nat) (hv : Int), k ≤ n ∧ k ≤ 4000 ∧ i = .int .i64 k ∧ h = .int .i64 hv ∧ wr = w) (fun _ i _ => n - (intOf i).toNat)
  case atStart => exact ⟨0, _, Nat.zero_le _, Nat.zero_le _, rfl, rfl, rfl⟩
  case round =>
    obtain ⟨k, hv, hk, hk4, rfl, rfl, rfl⟩ := hrel
    by_cases hlt : k < n ∧ k < 4000
    · obtain ⟨hlt1, hlt2⟩ := hlt
      have hlt1' : (k : Int) < (n : Int) := by omega
      have hlt2' : (k : Int) < 4000 := by omega
      obtain ⟨b, off, rfl, hc⟩ := ha.at (k := k) (by have := Hn.out; omega)
      generalize xs.getD k 0 = c at hc
      go_wp2
      go_roundw
      case rel => exact ⟨k + 1, _, by omega, by omega, by go_num, by first | exact ⟨rfl, rfl⟩ | exact ⟨rfl, trivial⟩⟩
      case measure => simp [intOf]; omega
    · by_cases h1 : (k : Int) < (n : Int)
      · have h2 : ¬ (k : Int) < 4000 := by omega
        clear hlt
        go_wp2
        go_ret
        exact ⟨rfl, ⟨0, hv, heap_alloc_new _ _, Nat.zero_le _⟩, (Below.refl _ _).alloc (Nat.le_refl _) _⟩
      · clear hlt
        go_wp2
        go_ret
        exact ⟨rfl, ⟨0, hv, heap_alloc_new _ _, Nat.zero_le _⟩, (Below.refl _ _).alloc (Nat.le_refl _) _⟩

theorem grownBy_set (w : World) (g j : Nat) (v : Value) : w.grownBy (w.setCell ⟨g, j, none⟩ v) (some g) :=
  ⟨rfl, rfl, rfl, by simp [World.setCell], fun k _ hk => Below.heap_setCell w ⟨g, j, none⟩ v k (fun e => hk (by simp [e]))⟩
theorem grownBy_drewN {w w1 : World} {row : Option Nat} (h : w.grownBy w1 row) (n : Nat) : w.grownBy (w1.drewN n) row := ⟨h.os, h.tape, h.output, h.size, h.block⟩

theorem cur_one {w : World} {g : Nat} {a : Option Addr} {n cap i : Nat} {h : Int} (hh : w.heap[g]? = some (.cells #[.slice a n cap, .int .i64 i, .int .i64 h] 66 (0, 0))) (h' : Int) (m1 m2 : Nat) (hi : i ≤ n) :
    Cur (((w.setCell ⟨g, 2, none⟩ (.int .i64 h')).drewN m1).drewN m2) g a n cap ∧ w.grownBy (((w.setCell ⟨g, 2, none⟩ (.int .i64 h')).drewN m1).drewN m2) (some g) := by
  refine ⟨⟨i, h', ?_, hi⟩, grownBy_drewN (grownBy_drewN (grownBy_set w g 2 _) _) _⟩
  exact heap_setCell_same w g 2 _ 66 _ hh

theorem cur_two {w : World} {g : Nat} {a : Option Addr} {n cap i : Nat} {h : Int} (hh : w.heap[g]? = some (.cells #[.slice a n cap, .int .i64 i, .int .i64 h] 66 (0, 0))) (h' : Int) (m : Nat) (hi : i < n) :
    Cur (((w.setCell ⟨g, 2, none⟩ (.int .i64 h')).drewN m).setCell ⟨g, 1, none⟩ (.int .i64 ((i : Int) + 1))) g a n cap ∧ w.grownBy (((w.setCell ⟨g, 2, none⟩ (.int .i64 h')).drewN m).setCell ⟨g, 1, none⟩ (.int .i64 ((i : Int) + 1))) (some g) := by
  refine ⟨⟨i + 1, h', ?_, hi⟩, grownBy_trans (grownBy_drewN (grownBy_set w g 2 _) _) (grownBy_set _ g 1 _)⟩
  have h1 : ((w.setCell ⟨g, 2, none⟩ (.int .i64 h')).drewN m).heap[g]? = some (.cells #[.slice a n cap, .int .i64 i, .int .i64 h'] 66 (0, 0)) := heap_setCell_same w g 2 _ 66 _ hh
  exact heap_setCell_same _ g 1 _ 66 _ h1

set_option maxHeartbeats 1600000 in
theorem l1Byte_any (g : Nat) (a : Option Addr) (cap : Nat) (xs : List Int) (w : World) (ha : Seg w a xs) (hl : xs.length ≤ maxLen) (hC : Cur w g a xs.length cap) (hne : ∀ x, a = some x → xs ≠ [] → x.block ≠ g) :
    Calls Try.prog 48 #[.pointer (some ⟨g, 0, none⟩)] w fun e w' => ∃ x : Int, e = .returned (.int .i64 x) ∧ 0 ≤ x ∧ x ≤ 255 ∧ Cur w' g a xs.length cap ∧ w.grownBy w' (some g) := by
  unfold maxLen at hl
  obtain ⟨i, h, hh, hi⟩ := hC
  have c0 : w.cell? ⟨g, 0, none⟩ = some (.slice a xs.length cap) := by rw [cell_of_row w g 0 _ 66 (0, 0) hh]; rfl
  have c1 : w.cell? ⟨g, 1, none⟩ = some (.int .i64 i) := by rw [cell_of_row w g 1 _ 66 (0, 0) hh]; rfl
  have c2 : w.cell? ⟨g, 2, none⟩ = some (.int .i64 h) := by rw [cell_of_row w g 2 _ 66 (0, 0) hh]; rfl
  have f1 : w.frozen? ⟨g, 1, none⟩ = false := frozen_of_row w g 1 _ 66 hh
  have f2 : w.frozen? ⟨g, 2, none⟩ = false := frozen_of_row w g 2 _ 66 hh
  generalize hn : xs.length = n at *
  have Hn : Hid (xs.length = n) := hn
  have Hh : Hid (w.heap[g]? = some (.cells #[.slice a n cap, .int .i64 i, .int .i64 h] 66 (0, 0))) := hh
  clear hn hh
  by_cases hlt : i < n
  · have hlt' : (i : Int) < (n : Int) := by omega
    obtain ⟨b, off, rfl, hc⟩ := ha.at (k := i) (by have := Hn.out; omega)
    have hbg : b ≠ g := hne _ rfl (by intro e; have := Hn.out; rw [e] at this; simp at this; omega)
    generalize xs.getD i 0 = c at hc
    have hcs : ∀ v, (w.setCell ⟨g, 2, none⟩ v).cell? ⟨b, off + i, none⟩ = some (.int .u8 c) := fun v => (World.cell?_of_block (Below.heap_setCell w ⟨g, 2, none⟩ v b hbg)).trans hc
    go_enter Try.func48, Try.ntmps48
    go_wp2
    go_quiet (fail)
    go_wp2
    go_quiet (fail)
    go_wp2
    go_quiet (fail)
    go_wp2
    go_ret
    exact ⟨_, rfl, (and_bound _ _ 255 (by omega) rfl).1, (and_bound _ _ 255 (by omega) rfl).2, cur_two Hh.out _ _ hlt⟩
  · have hlt' : ¬ (i : Int) < (n : Int) := by omega
    go_enter Try.func48, Try.ntmps48
    go_wp2
    go_quiet (fail)
    go_wp2
    go_quiet (fail)
    go_wp2
    go_ret
    exact ⟨_, rfl, (and_bound _ _ 255 (by omega) rfl).1, (and_bound _ _ 255 (by omega) rfl).2, cur_one Hh.out _ _ _ hi⟩

/-- The cursor stands, and the code can be read. -/
def Drw (w : World) (g : Nat) (a : Option Addr) (cap : Nat) (xs : List Int) : Prop :=
  Seg w a xs ∧ xs.length ≤ maxLen ∧ Cur w g a xs.length cap ∧ ∀ x, a = some x → xs ≠ [] → x.block ≠ g

theorem Drw.grow {w w' : World} {g : Nat} {a : Option Addr} {cap : Nat} {xs : List Int} (h : Drw w g a cap xs) (hb : Below w.heap.size w w') : Drw w' g a cap xs :=
  ⟨h.1.grow hb, h.2.1, h.2.2.1.grow hb, h.2.2.2⟩

/-- Other blocks were written, or made: the cursor stands. -/
theorem Drw.away {w w' : World} {g : Nat} {a : Option Addr} {cap : Nat} {xs : List Int} {row : Option Nat} (h : Drw w g a cap xs) (hg : w.grownBy w' row) (h1 : row ≠ some g) (h2 : ∀ x, a = some x → xs ≠ [] → row ≠ some x.block) : Drw w' g a cap xs :=
  ⟨h.1.away hg h2, h.2.1, h.2.2.1.away hg h1, h.2.2.2⟩

theorem Drw.lt {w : World} {g : Nat} {a : Option Addr} {cap : Nat} {xs : List Int} (h : Drw w g a cap xs) : g < w.heap.size := h.2.2.1.lt

theorem l1New_drw (a : Option Addr) (cap : Nat) (xs : List Int) (w : World) (ha : Seg w a xs) (hl : xs.length ≤ maxLen) :
    Calls Try.prog 19 #[.slice a xs.length cap] w fun e w' => e = .returned (.pointer (some ⟨w.heap.size, 0, none⟩)) ∧ Drw w' w.heap.size a cap xs ∧ Below w.heap.size w w' := by
  refine (l1New_any a cap xs w ha hl).mono ?_
  rintro e w1 ⟨rfl, hc, b1⟩
  exact ⟨rfl, ⟨ha.grow b1, hl, hc, fun x hx he => by have := ha.lt x hx he; omega⟩, b1⟩

theorem l1Byte_drw (g : Nat) (a : Option Addr) (cap : Nat) (xs : List Int) (w : World) (h : Drw w g a cap xs) :
    Calls Try.prog 48 #[.pointer (some ⟨g, 0, none⟩)] w fun e w' => ∃ x : Int, e = .returned (.int .i64 x) ∧ 0 ≤ x ∧ x ≤ 255 ∧ Drw w' g a cap xs ∧ w.grownBy w' (some g) := by
  refine (l1Byte_any g a cap xs w h.1 h.2.1 h.2.2.1 h.2.2.2).mono ?_
  rintro e w1 ⟨x, rfl, h0, h1, hc, hg⟩
  exact ⟨x, rfl, h0, h1, ⟨h.1.away hg (fun y hy he e => h.2.2.2 y hy he (by simpa using e.symm)), h.2.1, hc, h.2.2.2⟩, hg⟩

set_option maxHeartbeats 1600000 in
theorem l1Below_drw (g : Nat) (a : Option Addr) (cap : Nat) (xs : List Int) (n : Int) (w : World) (h : Drw w g a cap xs) (hn : n ≤ 9223372036854775807) :
    Calls Try.prog 29 #[.pointer (some ⟨g, 0, none⟩), .int .i64 n] w fun e w' => ∃ x : Int, e = .returned (.int .i64 x) ∧ 0 ≤ x ∧ (0 < n → x < n) ∧ (n ≤ 0 → x = 0) ∧ Drw w' g a cap xs ∧ w.grownBy w' (some g) := by
  by_cases h0 : n ≤ 0
  · go_enter Try.func29, Try.ntmps29
    go_wp2
    go_ret
    exact ⟨0, rfl, by omega, by omega, fun _ => rfl, h, World.grownBy.refl _ _⟩
  · have hp : 0 < n := by omega
    by_cases h1 : n ≤ 256
    · go_enter Try.func29, Try.ntmps29
      go_wp2_with fail
      refine (l1Byte_drw g a cap xs _ h).mono ?_
      rintro e w1 ⟨x, rfl, hx0, hx1, hd, hg⟩
      go_wp2
      go_ret
      exact ⟨_, rfl, Int.emod_nonneg _ (by omega), fun _ => Int.emod_lt_of_pos _ hp, by omega, hd, hg⟩
    · go_enter Try.func29, Try.ntmps29
      go_wp2_with fail
      refine (l1Byte_drw g a cap xs _ h).mono ?_
      rintro e w1 ⟨x1, rfl, hx0, hx1, hd1, hg1⟩
      go_wp2_with fail
      refine (l1Byte_drw g a cap xs _ hd1).mono ?_
      rintro e w2 ⟨x2, rfl, hy0, hy1, hd2, hg2⟩
      go_wp2_with fail
      refine (l1Byte_drw g a cap xs _ hd2).mono ?_
      rintro e w3 ⟨x3, rfl, hz0, hz1, hd3, hg3⟩
      go_wp2_with fail
      refine (l1Byte_drw g a cap xs _ hd3).mono ?_
      rintro e w4 ⟨x4, rfl, ht0, ht1, hd4, hg4⟩
      have G := grownBy_trans (grownBy_trans (grownBy_trans hg1 hg2) hg3) hg4
      clear hg1 hg2 hg3 hg4 hd1 hd2 hd3
      go_wp2
      go_ret
      exact ⟨_, rfl, Int.emod_nonneg _ (by omega), fun _ => Int.emod_lt_of_pos _ hp, by omega, hd4, G⟩

theorem Below.cursor {w w1 w2 : World} (h : Below w.heap.size w w1) (hg : w1.grownBy w2 (some w.heap.size)) : Below w.heap.size w w2 := h.grown hg h.size (by intro k hk; simp at hk; omega)

set_option maxHeartbeats 400000 in
theorem l1Once_drw (g : Nat) (a : Option Addr) (cap : Nat) (cs : List Int) (n : Int) (w : World) (h : Drw w g a cap cs) (hn : n ≤ 9223372036854775807) :
    Calls Try.prog 30 #[.pointer (some ⟨g, 0, none⟩), .int .i64 n] w fun e w' => ∃ b : Bool, e = .returned (.bool b) ∧ Drw w' g a cap cs ∧ w.grownBy w' (some g) := by
  have HL := hide' (l1Below_drw g a cap cs n w h hn)
  clear h
  go_enter Try.func30, Try.ntmps30
  go_wp2_with fail
  refine HL.out.mono ?_
  rintro e w1 ⟨x, rfl, _, _, _, hd, hg⟩
  go_wp2
  go_ret
  exact ⟨_, rfl, hd, hg⟩

set_option maxHeartbeats 400000 in
theorem l1PickInt_drw (g b n lc : Nat) (a : Option Addr) (cap : Nat) (cs : List Int) (w : World) (h : Drw w g a cap cs) (hn : 0 < n) (hn2 : n ≤ 1000) (hbg : b ≠ g) (hb : b < w.heap.size) (hc : ∀ k, k < n → ∃ z : Int, w.cell? ⟨b, k, none⟩ = some (.int .i64 z)) :
    Calls Try.prog 38 #[.pointer (some ⟨g, 0, none⟩), .slice (some ⟨b, 0, none⟩) n lc] w fun e w' => ∃ z : Int, e = .returned (.int .i64 z) ∧ Drw w' g a cap cs ∧ w.grownBy w' (some g) := by
  have HL := hide' (l1Below_drw g a cap cs (n : Int) w h (by omega))
  clear h
  go_enter Try.func38, Try.ntmps38
  go_wp2_with fail
  refine HL.out.mono ?_
  rintro e w1 ⟨x, rfl, h0, h1, _, hd, hg⟩
  obtain ⟨k, rfl⟩ : ∃ k : Nat, x = k := ⟨x.toNat, by omega⟩
  have hk : k < n := by have := h1 (by omega); omega
  obtain ⟨z, hz⟩ := hc k hk
  have hz1 : w1.cell? ⟨b, k, none⟩ = some (.int .i64 z) := (World.cell?_of_block (hg.block b hb (by simp; omega))).trans hz
  have hk' : (k : Int) < (n : Int) := by omega
  clear h1 HL hc
  go_wp2
  go_ret
  exact ⟨_, rfl, hd, hg⟩
end Go.Proofs.Ytcdonbepfmhdpaa
/-
  Two readings of one graph are the same: eqEdgeS, eqGraph; of one row of numbers: eqIntS; numbers copied: toIntS.
-/
namespace Go.Proofs.Ytcdonbepfmhdpaa
open Go.RowKit
set_option linter.unusedVariables false
set_option linter.unusedSimpArgs false

end Go.Proofs.Ytcdonbepfmhdpaa
/-
  Graphs: what GraphOk answers; plain mathematics, and l9less of the specification.
-/
namespace Go.Proofs.Ytcdonbepfmhdpaa
open Go.RowKit
set_option linter.unusedVariables false
set_option linter.unusedSimpArgs false

/-- One edge is ahead of another. -/
def lessE (a b : Edg) : Bool := decide (a.1 < b.1) || (decide (a.1 = b.1) && decide (a.2 < b.2))
/-- Edge i has its ends among the n, and is behind the one ahead of it. -/
def stepG (n : Int) (E : List Edg) (i : Nat) : Bool :=
  decide (0 ≤ (E.getD i (0, 0)).1) && (decide ((E.getD i (0, 0)).1 < n) && (decide (0 ≤ (E.getD i (0, 0)).2) && (decide ((E.getD i (0, 0)).2 < n) && (decide (i = 0) || lessE (E.getD (i - 1) (0, 0)) (E.getD i (0, 0))))))
/-- What GraphOk answers. -/
def gB (n : Int) (E : List Edg) : Bool := decide (0 ≤ n ∧ n ≤ 20 ∧ E.length ≤ 400 ∧ ∀ i, i < E.length → stepG n E i = true)

theorem g_head {n : Int} {E : List Edg} (h : ¬ (0 ≤ n ∧ n ≤ 20 ∧ E.length ≤ 400)) : gB n E = false := by
  unfold gB
  rw [decide_eq_false_iff_not]
  rintro ⟨h1, h2, h3, _⟩
  exact h ⟨h1, h2, h3⟩
theorem g_step {n : Int} {E : List Edg} {i : Nat} (hi : i < E.length) (h : stepG n E i = false) : gB n E = false := by
  unfold gB
  rw [decide_eq_false_iff_not]
  rintro ⟨_, _, _, h4⟩
  rw [h4 i hi] at h
  cases h
theorem g_yes {n : Int} {E : List Edg} (h0 : 0 ≤ n) (h1 : n ≤ 20) (h2 : E.length ≤ 400) (h3 : ∀ i, i < E.length → stepG n E i = true) : gB n E = true := by
  unfold gB
  rw [decide_eq_true_eq]
  exact ⟨h0, h1, h2, h3⟩
theorem gB_iff {n : Int} {E : List Edg} : gB n E = true ↔ 0 ≤ n ∧ n ≤ 20 ∧ E.length ≤ 400 ∧ ∀ i, i < E.length → stepG n E i = true := by
  unfold gB
  rw [decide_eq_true_eq]
theorem g_ends {n : Int} {E : List Edg} (h : gB n E = true) {e : Edg} (he : e ∈ E) : 0 ≤ e.1 ∧ e.1 < n ∧ 0 ≤ e.2 ∧ e.2 < n := by
  obtain ⟨_, _, _, h4⟩ := gB_iff.1 h
  obtain ⟨i, hi, rfl⟩ := List.getElem_of_mem he
  have := h4 i hi
  have e1 : E.getD i (0, 0) = E[i] := by simp [List.getD_eq_getElem?_getD, hi]
  simp only [stepG, e1, Bool.and_eq_true, decide_eq_true_eq] at this
  exact ⟨this.1, this.2.1, this.2.2.1, this.2.2.2.1⟩

set_option maxHeartbeats 1600000 in
theorem l9less_any (a b : Edg) (w : World) :
    Calls Try.prog 21 #[.agg #[.int .i64 a.1, .int .i64 a.2], .agg #[.int .i64 b.1, .int .i64 b.2]] w fun e w' => e = .returned (.bool (lessE a b)) ∧ Below w.heap.size w w' := by
  obtain ⟨a1, a2⟩ := a
  obtain ⟨b1, b2⟩ := b
  simp only [lessE]
  have Hb : Hid (∀ o o' : Obj, Below w.heap.size w ((w.alloc o).alloc o')) := fun o o' => ((Below.refl _ _).alloc (Nat.le_refl _) o).alloc (by simp) o'
  by_cases h1 : a1 < b1
  · go_enter Try.func21, Try.ntmps21
    go_wp2
    go_ret
    exact ⟨ret_bool (by simp [h1]), Hb.out _ _⟩
  · by_cases h2 : a1 = b1
    · subst h2
      go_enter Try.func21, Try.ntmps21
      go_wp2
      go_ret
      exact ⟨ret_bool (by simp [h1]), Hb.out _ _⟩
    · have h2' : (a1 == b1) = false := by simpa using h2
      go_enter Try.func21, Try.ntmps21
      go_wp2
      go_ret
      exact ⟨ret_bool (by simp [h1, h2]), Hb.out _ _⟩
end Go.Proofs.Ytcdonbepfmhdpaa
