/-
  Texts that a law leans on, one behind the other; no statement is proved here.
-/
import Derived.Test.YtpnohgncnmbkdaaProg
import Derived.WalkKit
import Derived.WalkSpells
import Derived.WalkLawsBesides
import Derived.Deep.QuietTactic
import Derived.BigQuiet
import Derived.Below
import Derived.Laws.AppendOwnNone
import Derived.Deep.RegionWith
import Derived.Deep.Cut
/-
  Graphs: rows of numbers and of edges in memory, read ('NSeg', 'ESeg') and owned ('NOwn', 'EOwn'); small laws on worlds; no statement is proved here. (A seat over graphs has no texts: this text stands in Base's place.)
-/
namespace Go.Proofs.Ytpnohgncnmbkdaa
open Go.RowKit
set_option linter.unusedVariables false
set_option linter.unusedSimpArgs false

theorem hide' {p : Prop} (h : p) : Hid p := h

/-- Two steps that each make new blocks alone. -/
theorem Below.on {w w1 w2 : World} (h : Below w.heap.size w w1) (k : Below w1.heap.size w1 w2) : Below w.heap.size w w2 := h.trans (k.mono h.size)

theorem ret_i64 {x y : Int} (h : x = y) : Ending.returned (.int .i64 x) = .returned (.int .i64 y) := by rw [h]

theorem ret_bool {x y : Bool} (h : x = y) : Ending.returned (.bool x) = .returned (.bool y) := by rw [h]

/-- The blocks in which something lies all fulfil R, and may be read alike in two worlds. -/
def Agree (R : Nat → Prop) (w w' : World) : Prop := ∀ b, R b → w'.heap[b]? = w.heap[b]?

/-- What lies below N is read alike behind whatever leaves what is below N. -/
theorem agree_below {N : Nat} {w w' : World} (h : Below N w w') : Agree (fun b => b < N) w w' := fun b hb => h.block b hb

theorem cell_agree {R : Nat → Prop} {w w' : World} (h : Agree R w w') {b o : Nat} (hb : R b) : w'.cell? ⟨b, o, none⟩ = w.cell? ⟨b, o, none⟩ := World.cell?_of_block (h b hb)

theorem grownBy_trans {w0 w1 w2 : World} {row : Option Nat} (h : w0.grownBy w1 row) (k : w1.grownBy w2 row) : w0.grownBy w2 row :=
  ⟨k.os.trans h.os, k.tape.trans h.tape, k.output.trans h.output, Nat.le_trans h.size k.size, fun i hi hne => (k.block i (Nat.lt_of_lt_of_le hi h.size) hne).trans (h.block i hi hne)⟩

theorem grown1 (w : World) (g j : Nat) (v : Value) : w.grownBy (w.setCell ⟨g, j, none⟩ v) (some g) :=
  ⟨rfl, rfl, rfl, by simp [World.setCell], fun k _ hk => Below.heap_setCell w ⟨g, j, none⟩ v k (fun e => hk (by simp [e]))⟩

theorem two_boxes (w : World) (o o' : Obj) : ((w.alloc o).alloc o').heap[w.heap.size]? = some o ∧ ((w.alloc o).alloc o').heap[w.heap.size + 1]? = some o' := by
  have e : (w.alloc o).heap.size = w.heap.size + 1 := by simp
  constructor
  · exact (((Below.refl (w.alloc o).heap.size (w.alloc o)).alloc (Nat.le_refl _) o').block w.heap.size (by omega)).trans (MapKept.heap_alloc w o).1
  · have h := (MapKept.heap_alloc (w.alloc o) o').1
    rw [e] at h
    exact h

/-- The box of a value that was handed in. -/
theorem box_row {w wr : World} {o : Obj} (h : Below (w.alloc o).heap.size (w.alloc o) wr) : wr.heap[w.heap.size]? = some o :=
  (h.block w.heap.size (by simp)).trans (MapKept.heap_alloc w o).1

theorem quiet_same {P : Program} {f : FuncId} {args : Array Value} {w : World} {n : Nat} {v : Value}
    (h : Calls P f args (w.drewN n) fun e w' => e = .returned v ∧ w.drewN n = w') : Calls P f args (w.drewN n) fun e w'' => e = .returned v ∧ ∃ m, w'' = w.drewN m :=
  Calls.quiet_of_same (h.mono fun _ _ ⟨he, hm⟩ => ⟨he, hm.symm⟩)

theorem row2 {w : World} {g : Nat} {T : TypeId} {c0 c1 : Value} (h : w.heap[g]? = some (.cells #[c0, c1] T (0, 0))) : w.cell? ⟨g, 0, none⟩ = some c0 ∧ w.cell? ⟨g, 1, none⟩ = some c1 ∧ ∀ j, w.frozen? ⟨g, j, none⟩ = false :=
  ⟨by rw [cell_of_row w g 0 _ _ _ h]; rfl, by rw [cell_of_row w g 1 _ _ _ h]; rfl, fun j => frozen_of_row w g j _ _ h⟩

/-- Numbers as cells. -/
def iC (l : List Int) : List Value := l.map (Value.int .i64)
/-- An edge: where it begins, where it ends. -/
abbrev Edg : Type := Int × Int
/-- Edges as cells. -/
def eC (l : List Edg) : List Value := (l.map fun e => [Value.int .i64 e.1, Value.int .i64 e.2]).flatten

theorem iC_len (l : List Int) : (iC l).length = l.length := by simp [iC]
theorem iC_add (l : List Int) (x : Int) : iC (l ++ [x]) = iC l ++ [.int .i64 x] := by simp [iC]
theorem iC_at {l : List Int} {i : Nat} (h : i < l.length) : (iC l)[i]? = some (.int .i64 l[i]) := by simp [iC, h]
theorem eC_len : ∀ l : List Edg, (eC l).length = l.length * 2
  | [] => rfl
  | x :: r => by
    have := eC_len r
    simp only [eC, List.map_cons, List.flatten_cons, List.length_append, List.length_cons, List.length_nil] at this ⊢
    omega
theorem eC_add (l : List Edg) (x : Edg) : eC (l ++ [x]) = eC l ++ [.int .i64 x.1, .int .i64 x.2] := by simp [eC]
theorem eC_cons (x : Edg) (l : List Edg) : eC (x :: l) = .int .i64 x.1 :: .int .i64 x.2 :: eC l := by simp [eC]
theorem eC_at : ∀ {l : List Edg} {i : Nat} (h : i < l.length), (eC l)[i * 2]? = some (.int .i64 l[i].1) ∧ (eC l)[i * 2 + 1]? = some (.int .i64 l[i].2)
  | [], i, h => by simp at h
  | x :: r, 0, h => by rw [eC_cons]; exact ⟨rfl, rfl⟩
  | x :: r, i + 1, h => by
    obtain ⟨h1, h2⟩ := eC_at (l := r) (i := i) (by simp at h; omega)
    have e : (i + 1) * 2 = i * 2 + 1 + 1 := by omega
    rw [eC_cons, e]
    exact ⟨h1, h2⟩

/-- A slice of numbers, read. -/
def NSeg (R : Nat → Prop) (w : World) (x : Value) (l : List Int) : Prop := ∃ a cap, x = .slice a l.length cap ∧ l.length ≤ cap ∧ cap ≤ maxLen ∧ (a = none → cap = 0) ∧
  (l = [] ∨ ∃ b off, a = some ⟨b, off, none⟩ ∧ R b ∧ ∀ i (h : i < l.length), w.cell? ⟨b, off + i, none⟩ = some (.int .i64 l[i]))
/-- A slice of edges, read. -/
def ESeg (R : Nat → Prop) (w : World) (x : Value) (l : List Edg) : Prop := ∃ a cap, x = .slice a l.length cap ∧ l.length ≤ cap ∧ cap ≤ maxLen ∧ (a = none → cap = 0) ∧
  (l = [] ∨ ∃ b off, a = some ⟨b, off, none⟩ ∧ R b ∧ ∀ i (h : i < l.length), w.cell? ⟨b, off + i * 2, none⟩ = some (.int .i64 l[i].1) ∧ w.cell? ⟨b, off + i * 2 + 1, none⟩ = some (.int .i64 l[i].2))

section
variable {R R' : Nat → Prop} {w w' : World} {x : Value}
theorem NSeg.agree {l : List Int} (h : NSeg R w x l) (ha : Agree R w w') : NSeg R w' x l := by
  obtain ⟨a, cap, g1, g2, g3, g4, g5⟩ := h
  refine ⟨a, cap, g1, g2, g3, g4, ?_⟩
  rcases g5 with e | ⟨b, off, hb, hR, hc⟩
  · exact .inl e
  · exact .inr ⟨b, off, hb, hR, fun i hi => (cell_agree ha hR).trans (hc i hi)⟩
theorem ESeg.agree {l : List Edg} (h : ESeg R w x l) (ha : Agree R w w') : ESeg R w' x l := by
  obtain ⟨a, cap, g1, g2, g3, g4, g5⟩ := h
  refine ⟨a, cap, g1, g2, g3, g4, ?_⟩
  rcases g5 with e | ⟨b, off, hb, hR, hc⟩
  · exact .inl e
  · exact .inr ⟨b, off, hb, hR, fun i hi => ⟨(cell_agree ha hR).trans (hc i hi).1, (cell_agree ha hR).trans (hc i hi).2⟩⟩
theorem NSeg.mono {l : List Int} (h : NSeg R w x l) (hr : ∀ b, R b → R' b) : NSeg R' w x l := by
  obtain ⟨a, cap, g1, g2, g3, g4, g5⟩ := h
  refine ⟨a, cap, g1, g2, g3, g4, ?_⟩
  rcases g5 with e | ⟨b, off, hb, hR, hc⟩
  · exact .inl e
  · exact .inr ⟨b, off, hb, hr b hR, hc⟩
theorem ESeg.mono {l : List Edg} (h : ESeg R w x l) (hr : ∀ b, R b → R' b) : ESeg R' w x l := by
  obtain ⟨a, cap, g1, g2, g3, g4, g5⟩ := h
  refine ⟨a, cap, g1, g2, g3, g4, ?_⟩
  rcases g5 with e | ⟨b, off, hb, hR, hc⟩
  · exact .inl e
  · exact .inr ⟨b, off, hb, hr b hR, hc⟩
theorem NSeg.at {l : List Int} {a : Option Addr} {n cap : Nat} (h : NSeg R w (.slice a n cap) l) {k : Nat} (hk : k < l.length) : ∃ b off, a = some ⟨b, off, none⟩ ∧ R b ∧ w.cell? ⟨b, off + k, none⟩ = some (.int .i64 l[k]) := by
  obtain ⟨a', cap', g1, _, _, _, g5⟩ := h
  simp only [Value.slice.injEq] at g1
  obtain ⟨rfl, _, _⟩ := g1
  rcases g5 with e | ⟨b, off, hb, hR, hc⟩
  · rw [e] at hk; simp at hk
  · exact ⟨b, off, hb, hR, hc k hk⟩
theorem ESeg.at {l : List Edg} {a : Option Addr} {n cap : Nat} (h : ESeg R w (.slice a n cap) l) {k : Nat} (hk : k < l.length) : ∃ b off, a = some ⟨b, off, none⟩ ∧ R b ∧ w.cell? ⟨b, off + k * 2, none⟩ = some (.int .i64 l[k].1) ∧ w.cell? ⟨b, off + k * 2 + 1, none⟩ = some (.int .i64 l[k].2) := by
  obtain ⟨a', cap', g1, _, _, _, g5⟩ := h
  simp only [Value.slice.injEq] at g1
  obtain ⟨rfl, _, _⟩ := g1
  rcases g5 with e | ⟨b, off, hb, hR, hc⟩
  · rw [e] at hk; simp at hk
  · exact ⟨b, off, hb, hR, (hc k hk).1, (hc k hk).2⟩
theorem NSeg.form {l : List Int} (h : NSeg R w x l) : ∃ a c, x = .slice a l.length c := by
  obtain ⟨a, c, e, _⟩ := h
  exact ⟨a, c, e⟩
theorem ESeg.form {l : List Edg} (h : ESeg R w x l) : ∃ a c, x = .slice a l.length c := by
  obtain ⟨a, c, e, _⟩ := h
  exact ⟨a, c, e⟩
end

/-- Numbers of the call's own, in a row from block 'base' on. -/
def NOwn (w : World) (base : Nat) (v : Value) (l : List Int) : Prop := w.ownsRow base 3 1 v l.length (iC l)
/-- Edges of the call's own. -/
def EOwn (w : World) (base : Nat) (v : Value) (l : List Edg) : Prop := w.ownsRow base 36 2 v l.length (eC l)

section
variable {w w' : World} {base : Nat} {v : Value}
theorem NOwn.seg {l : List Int} (h : NOwn w base v l) : NSeg (fun b => v.ownBlock = some b) w v l := by
  obtain ⟨h1, ⟨rfl, h2⟩ | ⟨g, cap, cur, rfl, hb, hg, hn, hm, hs, ht⟩⟩ := h
  · obtain rfl := List.length_eq_zero_iff.1 h2
    exact ⟨none, 0, rfl, Nat.le_refl _, Nat.zero_le _, fun _ => rfl, .inl rfl⟩
  · refine ⟨some ⟨g, 0, none⟩, cap, rfl, hn, hm, by simp, .inr ⟨g, 0, rfl, rfl, fun i hi => ?_⟩⟩
    rw [Nat.zero_add, cell_of_row w g i _ _ _ hg]
    have h3 : (cur.toList.take (l.length * 1))[i]? = (iC l)[i]? := by rw [ht]
    rw [List.getElem?_take, if_pos (by omega), iC_at hi] at h3
    simpa using h3
theorem EOwn.seg {l : List Edg} (h : EOwn w base v l) : ESeg (fun b => v.ownBlock = some b) w v l := by
  obtain ⟨h1, ⟨rfl, h2⟩ | ⟨g, cap, cur, rfl, hb, hg, hn, hm, hs, ht⟩⟩ := h
  · obtain rfl := List.length_eq_zero_iff.1 h2
    exact ⟨none, 0, rfl, Nat.le_refl _, Nat.zero_le _, fun _ => rfl, .inl rfl⟩
  · refine ⟨some ⟨g, 0, none⟩, cap, rfl, hn, hm, by simp, .inr ⟨g, 0, rfl, rfl, fun i hi => ?_⟩⟩
    have h3 : (cur.toList.take (l.length * 2))[i * 2]? = (eC l)[i * 2]? := by rw [ht]
    have h4 : (cur.toList.take (l.length * 2))[i * 2 + 1]? = (eC l)[i * 2 + 1]? := by rw [ht]
    rw [List.getElem?_take, if_pos (by omega), (eC_at hi).1] at h3
    rw [List.getElem?_take, if_pos (by omega), (eC_at hi).2] at h4
    constructor
    · rw [Nat.zero_add, cell_of_row w g _ _ _ _ hg]
      simpa using h3
    · rw [Nat.zero_add, cell_of_row w g _ _ _ _ hg]
      simpa using h4
theorem NOwn.on {l : List Int} (h : NOwn w base v l) (hb : Below w.heap.size w w') : NOwn w' base v l := World.ownsRow.kept h (row := none) ⟨hb.os, hb.tape, hb.output, hb.size, fun k hk _ => hb.block k hk⟩ (by cases hv : v.ownBlock <;> simp)
theorem EOwn.on {l : List Edg} (h : EOwn w base v l) (hb : Below w.heap.size w w') : EOwn w' base v l := World.ownsRow.kept h (row := none) ⟨hb.os, hb.tape, hb.output, hb.size, fun k hk _ => hb.block k hk⟩ (by cases hv : v.ownBlock <;> simp)
theorem NOwn.lt {l : List Int} (h : NOwn w base v l) : ∀ k, v.ownBlock = some k → base ≤ k ∧ k < w.heap.size := World.ownsRow.lt h
theorem EOwn.lt {l : List Edg} (h : EOwn w base v l) : ∀ k, v.ownBlock = some k → base ≤ k ∧ k < w.heap.size := World.ownsRow.lt h
theorem NOwn.read {l : List Int} (h : NOwn w base v l) : NSeg (fun b => b < w.heap.size) w v l := h.seg.mono fun b hb => (h.lt b hb).2
theorem EOwn.read {l : List Edg} (h : EOwn w base v l) : ESeg (fun b => b < w.heap.size) w v l := h.seg.mono fun b hb => (h.lt b hb).2
theorem NOwn.far {l : List Int} {r : Option Nat} (h : NOwn w base v l) (hg : w.grownBy w' r) (hr : ∀ k, v.ownBlock = some k → r ≠ some k) : NOwn w' base v l := World.ownsRow.kept h hg (by
  cases hv : v.ownBlock with
  | none => exact .inl rfl
  | some k => exact .inr fun e => hr k hv e.symm)
theorem EOwn.far {l : List Edg} {r : Option Nat} (h : EOwn w base v l) (hg : w.grownBy w' r) (hr : ∀ k, v.ownBlock = some k → r ≠ some k) : EOwn w' base v l := World.ownsRow.kept h hg (by
  cases hv : v.ownBlock with
  | none => exact .inl rfl
  | some k => exact .inr fun e => hr k hv e.symm)
theorem NOwn.nil (w : World) (base : Nat) : NOwn w base (.slice none 0 0) [] := ⟨rfl, .inl ⟨rfl, rfl⟩⟩
theorem EOwn.nil (w : World) (base : Nat) : EOwn w base (.slice none 0 0) [] := ⟨rfl, .inl ⟨rfl, rfl⟩⟩
theorem NOwn.form {l : List Int} (h : NOwn w base v l) : ∃ a c, v = .slice a l.length c := h.seg.form
theorem EOwn.form {l : List Edg} (h : EOwn w base v l) : ∃ a c, v = .slice a l.length c := h.seg.form
theorem NOwn.down {l : List Int} {base' : Nat} (h : NOwn w base v l) (hb : base' ≤ base) : NOwn w base' v l := by
  obtain ⟨h1, h2 | ⟨g, cap, cur, e, hb', r⟩⟩ := h
  · exact ⟨h1, .inl h2⟩
  · exact ⟨h1, .inr ⟨g, cap, cur, e, by omega, r⟩⟩
theorem EOwn.down {l : List Edg} {base' : Nat} (h : EOwn w base v l) (hb : base' ≤ base) : EOwn w base' v l := by
  obtain ⟨h1, h2 | ⟨g, cap, cur, e, hb', r⟩⟩ := h
  · exact ⟨h1, .inl h2⟩
  · exact ⟨h1, .inr ⟨g, cap, cur, e, by omega, r⟩⟩
end
end Go.Proofs.Ytpnohgncnmbkdaa
/-
  Graphs: their size (szGraph), an edge copied (toEdge).
-/
namespace Go.Proofs.Ytpnohgncnmbkdaa
open Go.RowKit
set_option linter.unusedVariables false
set_option linter.unusedSimpArgs false

/-- What is left of m, n being taken off. -/
def lessN (m : Int) (n : Nat) : Int := if m < (n : Int) then -1 else m - n

set_option maxHeartbeats 1600000 in
theorem szEdgeS_any (R : Nat → Prop) (x : Value) (l : List Edg) (m : Int) (w : World) (hx : ESeg R w x l) (h0 : 0 ≤ m) (h1 : m ≤ 1048576) :
    Calls Try.prog 64 #[x, .int .i64 m] w fun e w' => e = .returned (.int .i64 (lessN m l.length)) ∧ w = w' := by
  obtain ⟨a, cap, rfl, hl, hm, -, -⟩ := hx
  unfold maxLen at hm
  by_cases h : m < (l.length : Int)
  · have hn : lessN m l.length = -1 := if_pos h
    have h' : m - (l.length : Int) < 0 := by omega
    rw [hn]
    clear hn
    generalize l.length = n at *
    go_enter Try.func64, Try.ntmps64
    go_wp2
    go_ret
    exact ⟨rfl, rfl⟩
  · have hn : lessN m l.length = m - l.length := if_neg h
    have h' : ¬ m - (l.length : Int) < 0 := by omega
    rw [hn]
    clear hn
    generalize l.length = n at *
    go_enter Try.func64, Try.ntmps64
    go_wp2
    go_ret
    exact ⟨rfl, rfl⟩

set_option maxHeartbeats 1600000 in
theorem szGraph_any (R : Nat → Prop) (N : Int) (x : Value) (l : List Edg) (w : World) (hx : ESeg R w x l) (hR : ∀ b, R b → b < w.heap.size) :
    Calls Try.prog 27 #[.agg #[.int .i64 N, x], .int .i64 1048576] w fun e w' => e = .returned (.int .i64 (lessN 1048576 l.length)) ∧ Below w.heap.size w w' := by
  have Hb : Hid (∀ o : Obj, Below w.heap.size w (w.alloc o)) := fun o => (Below.refl _ _).alloc (Nat.le_refl _) o
  have HC : Hid (∀ o : Obj, Calls Try.prog 64 #[x, .int .i64 1048576] (w.alloc o) fun e w' => e = .returned (.int .i64 (lessN 1048576 l.length)) ∧ w.alloc o = w') := fun o => szEdgeS_any R x l 1048576 _ (hx.agree fun b hb => Below.heap_alloc w o b (hR b hb)) (by omega) (by omega)
  obtain ⟨a, cap, rfl, -⟩ := hx
  by_cases h : (1048576 : Int) < (l.length : Int)
  · have hn : lessN 1048576 l.length = -1 := if_pos h
    rw [hn] at HC
    rw [hn]
    clear hn
    generalize l.length = n at *
    go_enter Try.func27, Try.ntmps27
    go_wp2_with fail
    refine (HC.out _).mono ?_
    rintro e w1 ⟨rfl, e1⟩
    obtain rfl := e1
    go_wp2
    go_ret
    exact ⟨rfl, Hb.out _⟩
  · have hn : lessN 1048576 l.length = 1048576 - l.length := if_neg h
    rw [hn] at HC
    rw [hn]
    clear hn
    generalize l.length = n at *
    have h2 : (0 : Int) ≤ 1048576 - (n : Int) := by omega
    have h3 : (1048576 : Int) - (n : Int) ≤ 1048576 := by omega
    generalize (1048576 : Int) - (n : Int) = m at *
    go_enter Try.func27, Try.ntmps27
    go_wp2_with fail
    refine (HC.out _).mono ?_
    rintro e w1 ⟨rfl, e1⟩
    obtain rfl := e1
    go_wp2
    go_ret
    exact ⟨rfl, Hb.out _⟩

theorem three_boxes (w : World) (o1 o2 o3 : Obj) : (((w.alloc o1).alloc o2).alloc o3).heap[w.heap.size]? = some o1 ∧ (((w.alloc o1).alloc o2).alloc o3).heap[w.heap.size + 1]? = some o2 ∧ (((w.alloc o1).alloc o2).alloc o3).heap[w.heap.size + 1 + 1]? = some o3 ∧ (((w.alloc o1).alloc o2).alloc o3).heap.size = w.heap.size + 3 ∧ Below w.heap.size w (((w.alloc o1).alloc o2).alloc o3) := by
  obtain ⟨h1, h2⟩ := two_boxes w o1 o2
  have z2 : ((w.alloc o1).alloc o2).heap.size = w.heap.size + 2 := by simp
  have hb : Below ((w.alloc o1).alloc o2).heap.size ((w.alloc o1).alloc o2) (((w.alloc o1).alloc o2).alloc o3) := (Below.refl _ _).alloc (Nat.le_refl _) o3
  refine ⟨(hb.block _ (by omega)).trans h1, (hb.block _ (by omega)).trans h2, ?_, by simp, ((((Below.refl _ _).alloc (Nat.le_refl _) o1).alloc (by simp) o2).alloc (by simp; omega) o3)⟩
  have h := (MapKept.heap_alloc ((w.alloc o1).alloc o2) o3).1
  rw [z2] at h
  exact h

/-- Two cells set in a row. -/
def set2 (w : World) (g j : Nat) (a b : Value) : World := (w.setCell ⟨g, j, none⟩ a).setCell ⟨g, j + 1, none⟩ b
theorem set2_grown (w : World) (g j : Nat) (a b : Value) : w.grownBy (set2 w g j a b) (some g) := grownBy_trans (grown1 w g j a) (grown1 _ g (j + 1) b)
theorem set2_size (w : World) (g j : Nat) (a b : Value) : (set2 w g j a b).heap.size = w.heap.size := by simp [set2, World.setCell]
theorem set2_heap {w : World} {g j : Nat} {cur : Array Value} {T : TypeId} (a b : Value) (h : w.heap[g]? = some (.cells cur T (0, 0))) : (set2 w g j a b).heap[g]? = some (.cells ((cur.setIfInBounds j a).setIfInBounds (j + 1) b) T (0, 0)) :=
  heap_setCell_same _ g (j + 1) _ _ _ (heap_setCell_same w g j _ _ _ h)

set_option maxHeartbeats 1600000 in
theorem toEdge_any (f t : Int) (w : World) :
    Calls Try.prog 88 #[.agg #[.int .i64 f, .int .i64 t]] w fun e w' => e = .returned (.agg #[.int .i64 f, .int .i64 t]) ∧ Below w.heap.size w w' := by
  have H3 := hide' (three_boxes w (.cells #[.int .i64 f, .int .i64 t] 101) (.cells #[.int .i64 f, .int .i64 t] 36) (.cells #[.int .i64 f, .int .i64 t] 36))
  go_enter Try.func88, Try.ntmps88
  go_wp2_with fail
  obtain ⟨hr1, hr2, hr3, hsz, hb0⟩ := H3.out
  obtain ⟨u0, u1, _⟩ := row2 hr2
  refine bodyPost_ret (v := .agg #[.int .i64 f, .int .i64 t]) (by simp [results, Try.results88, go_sem, u0, u1]) rfl ?_
  exact ⟨rfl, hb0⟩
end Go.Proofs.Ytpnohgncnmbkdaa
/-
  Graphs copied: toEdgeS, toIntS, toGraph.
-/
namespace Go.Proofs.Ytpnohgncnmbkdaa
open Go.RowKit
set_option linter.unusedVariables false
set_option linter.unusedSimpArgs false

theorem infoE : (Try.prog.info? 36).map (fun i => (i.zero, i.size, i.bytes)) = some (some (.agg #[.int .i64 0, .int .i64 0]), 2, 16) := by kernel_rfl
theorem infoI : (Try.prog.info? 3).map (fun i => (i.zero, i.size, i.bytes)) = some (some (.int .i64 0), 1, 8) := by kernel_rfl

/-- The first k of a row of n edges are laid. -/
def EPart (w : World) (g n : Nat) (l : List Edg) (k : Nat) : Prop := ∃ cur : Array Value, w.heap[g]? = some (.cells cur 36 (0, 0)) ∧ cur.size = n * 2 ∧ ∀ i (h : i < l.length), i < k → cur[i * 2]? = some (.int .i64 l[i].1) ∧ cur[i * 2 + 1]? = some (.int .i64 l[i].2)
/-- The first k of a row of n numbers are laid. -/
def NPart (w : World) (g n : Nat) (l : List Int) (k : Nat) : Prop := ∃ cur : Array Value, w.heap[g]? = some (.cells cur 3 (0, 0)) ∧ cur.size = n ∧ ∀ i (h : i < l.length), i < k → cur[i]? = some (.int .i64 l[i])

theorem ePart_next {w w2 : World} {g n k : Nat} {l : List Edg} (h : EPart w g n l k) (hg : g < w.heap.size) (hb : Below w.heap.size w w2) (hk : k < l.length) (hn : l.length = n) : EPart (set2 w2 g (k * 2) (.int .i64 l[k].1) (.int .i64 l[k].2)) g n l (k + 1) := by
  obtain ⟨cur, h1, h2, h3⟩ := h
  refine ⟨_, set2_heap _ _ ((hb.block g hg).trans h1), by simp [h2], fun i hi hik => ?_⟩
  by_cases e : i = k
  · subst e
    constructor
    · rw [Array.getElem?_setIfInBounds_ne (by omega), Array.getElem?_setIfInBounds_self_of_lt (by omega)]
    · rw [Array.getElem?_setIfInBounds_self_of_lt (by simp; omega)]
  · obtain ⟨q1, q2⟩ := h3 i hi (by omega)
    constructor
    · rw [Array.getElem?_setIfInBounds_ne (by omega), Array.getElem?_setIfInBounds_ne (by omega)]
      exact q1
    · rw [Array.getElem?_setIfInBounds_ne (by omega), Array.getElem?_setIfInBounds_ne (by omega)]
      exact q2
theorem nPart_next {w : World} {g n k : Nat} {l : List Int} (h : NPart w g n l k) (hk : k < l.length) (hn : l.length = n) : NPart (w.setCell ⟨g, k, none⟩ (.int .i64 l[k])) g n l (k + 1) := by
  obtain ⟨cur, h1, h2, h3⟩ := h
  refine ⟨_, heap_setCell_same w g k _ _ _ h1, by simp [h2], fun i hi hik => ?_⟩
  by_cases e : i = k
  · subst e
    rw [Array.getElem?_setIfInBounds_self_of_lt (by omega)]
  · rw [Array.getElem?_setIfInBounds_ne (by omega)]
    exact h3 i hi (by omega)

theorem ePart_own {w : World} {g base : Nat} {l : List Edg} (h : EPart w g l.length l l.length) (hb : base ≤ g) (hm : l.length ≤ maxLen) : EOwn w base (.slice (some ⟨g, 0, none⟩) l.length l.length) l := by
  obtain ⟨cur, h1, h2, h3⟩ := h
  refine ⟨eC_len l, .inr ⟨g, l.length, cur, rfl, hb, h1, Nat.le_refl _, hm, h2, ?_⟩⟩
  rw [List.take_of_length_le (by simp [h2])]
  apply List.ext_getElem?
  intro j
  by_cases hj : j < l.length * 2
  · obtain ⟨q1, q2⟩ := h3 (j / 2) (by omega) (by omega)
    obtain ⟨r1, r2⟩ := eC_at (l := l) (i := j / 2) (by omega)
    rcases Nat.mod_two_eq_zero_or_one j with e | e
    · have e2 : j / 2 * 2 = j := by omega
      rw [e2] at q1 r1
      rw [Array.getElem?_toList, q1, r1]
    · have e2 : j / 2 * 2 + 1 = j := by omega
      rw [e2] at q2 r2
      rw [Array.getElem?_toList, q2, r2]
  · rw [List.getElem?_eq_none (by simp [h2]; omega), List.getElem?_eq_none (by rw [eC_len]; omega)]
theorem nPart_own {w : World} {g base : Nat} {l : List Int} (h : NPart w g l.length l l.length) (hb : base ≤ g) (hm : l.length ≤ maxLen) : NOwn w base (.slice (some ⟨g, 0, none⟩) l.length l.length) l := by
  obtain ⟨cur, h1, h2, h3⟩ := h
  refine ⟨by rw [iC_len]; omega, .inr ⟨g, l.length, cur, rfl, hb, h1, Nat.le_refl _, hm, by omega, ?_⟩⟩
  rw [List.take_of_length_le (by simp [h2])]
  apply List.ext_getElem?
  intro j
  by_cases hj : j < l.length
  · rw [Array.getElem?_toList, h3 j hj hj, iC_at hj]
  · rw [List.getElem?_eq_none (by simp [h2]; omega), List.getElem?_eq_none (by rw [iC_len]; omega)]

set_option maxHeartbeats 1600000 in
theorem toEdgeS_any (N : Nat) (x : Value) (l : List Edg) (w : World) (hx : ESeg (fun b => b < N) w x l) (hN : N ≤ w.heap.size) (hn : l.length ≤ 1048576) :
    Calls Try.prog 65 #[x] w fun e w' => ∃ u, e = .returned u ∧ EOwn w' w.heap.size u l ∧ Below w.heap.size w w' := by
  have HC := hide' hx
  obtain ⟨a, cap, rfl, hlc, hcm, -, -⟩ := hx
  unfold maxLen at hcm
  obtain ⟨i0, hi, hz0, hz1, hz2⟩ := info_parts infoE
  go_enter Try.func65, Try.ntmps65
  go_wp2_with (refine wpList_make_full _ rfl _ _ 23 rfl w.heap.size 36 i0 (.agg #[.int .i64 0, .int .i64 0]) 2 Try.underlying23 hi hz0 hz1 .i64 .i64 _ _ l.length rfl rfl rfl rfl (by rw [hz2]; omega) (by unfold maxLen; omega) (Nat.le_refl _) ?_; intro w1 hown hgrow)
  have hK0 : EPart w1 w.heap.size l.length l 0 := by
    rcases hown.2 with ⟨h1, _⟩ | ⟨g, cp, cur, h1, _, h3, _, _, h6, _⟩
    · simp at h1
    · simp only [Value.slice.injEq, Option.some.injEq, Addr.mk.injEq, and_true, true_and] at h1
      obtain ⟨e1, e2⟩ := h1
      subst e1
      exact ⟨cur, h3, by omega, by intro i _ h; omega⟩
  have hb1 : Below w.heap.size w w1 := (Below.refl _ _).grown hgrow (Nat.le_refl _) (by simp)
  clear hown hgrow
  go_loopw [4] (fun i wr => ∃ k : Nat, k ≤ l.length ∧ i = .int .i64 k ∧ EPart wr w.heap.size l.length l k ∧ Below w.heap.size w wr) (fun i _ => l.length - (intOf i).toNat)
  case atStart => exact ⟨0, Nat.zero_le _, rfl, hK0, hb1⟩
  case round =>
    obtain ⟨k, hk, rfl, hK, hbel⟩ := hrel
    clear hK0 hb1
    by_cases hlt : k < l.length
    · have hlt' : (k : Int) < (l.length : Int) := by omega
      obtain ⟨b, off, rfl, _, q0, q1⟩ := (HC.out.agree (agree_below (hbel.mono hN))).at hlt
      have hgw : w.heap.size < wr.heap.size := by
        obtain ⟨cur, h1, _⟩ := hK
        exact (Array.getElem?_eq_some_iff.1 h1).1
      have HT := hide' (toEdge_any l[k].1 l[k].2 wr)
      have HK := hide' hK
      have HL : Hid (∀ w2, Below wr.heap.size wr w2 → EPart (set2 w2 w.heap.size (k * 2) (.int .i64 l[k].1) (.int .i64 l[k].2)) w.heap.size l.length l (k + 1)) := fun w2 b2 => ePart_next HK.out hgw b2 hlt rfl
      clear hK
      generalize l[k].1 = ef at *
      generalize l[k].2 = et at *
      go_wp2_with fail
      refine HT.out.mono ?_
      rintro e w2 ⟨rfl, b2⟩
      clear q0 q1 HT
      have hcells : ∃ cur : Array Value, w2.heap[w.heap.size]? = some (.cells cur 36 (0, 0)) ∧ cur.size = l.length * 2 := by
        obtain ⟨cur, h1, h2, _⟩ := HK.out
        exact ⟨cur, (b2.block _ hgw).trans h1, h2⟩
      obtain ⟨cur, hcur, hcs⟩ := hcells
      have hx : ∀ j, j < l.length * 2 → ∃ x, w2.cell? ⟨w.heap.size, j, none⟩ = some x := by
        intro j hj
        rw [cell_of_row w2 _ j cur _ (0, 0) hcur]
        exact ⟨_, Array.getElem?_eq_getElem (by omega)⟩
      obtain ⟨x0, hx0⟩ := hx (k * 2) (by omega)
      obtain ⟨x1, hx1⟩ := hx (k * 2 + 1) (by omega)
      have f0 := frozen_of_row w2 _ (k * 2) cur _ hcur
      have f1 := frozen_of_row w2 _ (k * 2 + 1) cur _ hcur
      have hL := hide' (HL.out w2 b2)
      have hb2 := Below.on hbel b2
      have hb3 := hide' (hb2.grown (set2_grown w2 w.heap.size (k * 2) (.int .i64 ef) (.int .i64 et)) hb2.size (by intro j hj; simp at hj; omega))
      clear hx hcur hb2 HK HL b2
      go_wp2
      go_roundw
      case rel => exact ⟨k + 1, by omega, by go_num, hL.out, hb3.out⟩
      case measure => simp [intOf]; omega
    · have hkn : k = l.length := by omega
      have hkn' : ¬ (k : Int) < (l.length : Int) := by omega
      rw [hkn] at hK
      have HF := hide' (ePart_own (base := w.heap.size) hK (Nat.le_refl _) (by unfold maxLen; omega))
      clear hkn hK
      go_wp2
      go_ret
      exact ⟨_, rfl, HF.out, hbel⟩

set_option maxHeartbeats 1600000 in
theorem toGraph_any (N : Nat) (n : Int) (x : Value) (l : List Edg) (w : World) (hx : ESeg (fun b => b < N) w x l) (hN : N ≤ w.heap.size) (hn : l.length ≤ 1048576) :
    Calls Try.prog 28 #[.agg #[.int .i64 n, x]] w fun e w' => ∃ u, e = .returned (.agg #[.int .i64 n, u]) ∧ EOwn w' w.heap.size u l ∧ Below w.heap.size w w' := by
  have H3 := hide' (three_boxes w (.cells #[.int .i64 n, x] 45) (.cells #[.int .i64 0, .slice none 0 0] 25) (.cells #[.int .i64 n, .slice none 0 0] 25))
  have HX : Hid (∀ wx, Below w.heap.size w wx → Calls Try.prog 65 #[x] wx fun e w' => ∃ u, e = .returned u ∧ EOwn w' wx.heap.size u l ∧ Below wx.heap.size wx w') := fun wx hb => toEdgeS_any N x l wx (hx.agree (agree_below (hb.mono hN))) (by have := hb.size; omega) hn
  obtain ⟨a, cap, rfl, -⟩ := hx
  generalize hll : l.length = ll at *
  clear hll
  go_enter Try.func28, Try.ntmps28
  go_wp2_with fail
  obtain ⟨hr1, hr2, hr3, hsz, hb0⟩ := H3.out
  refine (HX.out _ hb0).mono ?_
  rintro e w1 ⟨u, rfl, hO, b1⟩
  generalize ((w.alloc (.cells #[.int .i64 n, .slice a ll cap] 45)).alloc (.cells #[.int .i64 0, .slice none 0 0] 25)).alloc (.cells #[.int .i64 n, .slice none 0 0] 25) = w0 at *
  have hr2' := (b1.block _ (by omega)).trans hr2
  have hr3' := (b1.block _ (by omega)).trans hr3
  obtain ⟨y0, y1, yf⟩ := row2 hr2'
  obtain ⟨z0, z1, zf⟩ := row2 hr3'
  have zf1 := zf 1
  have yf0 := yf 0
  have yf1 := yf 1
  obtain ⟨ua, uc, hu⟩ := hO.form
  have HO := hide' hO
  have B1 := hide' (Below.on hb0 b1)
  have hrow : (set2 (w1.setCell ⟨w.heap.size + 1 + 1, 1, none⟩ u) (w.heap.size + 1) 0 (.int .i64 n) u).heap[w.heap.size + 1]? = some (.cells #[.int .i64 n, u] 25 (0, 0)) :=
    set2_heap (j := 0) (.int .i64 n) u ((Below.heap_setCell w1 _ _ _ (by show w.heap.size + 1 ≠ w.heap.size + 1 + 1; omega)).trans hr2')
  have hk := row2 hrow
  simp only [set2, Nat.zero_add] at hk
  have Hk := hide' hk
  have gA := grown1 w1 (w.heap.size + 1 + 1) 1 u
  have gB := set2_grown (w1.setCell ⟨w.heap.size + 1 + 1, 1, none⟩ u) (w.heap.size + 1) 0 (.int .i64 n) u
  have hz1 := b1.size
  have hbl : ∀ k, u.ownBlock = some k → w0.heap.size ≤ k := fun k hk => (hO.lt k hk).1
  have HF : Hid (EOwn (set2 (w1.setCell ⟨w.heap.size + 1 + 1, 1, none⟩ u) (w.heap.size + 1) 0 (.int .i64 n) u) w.heap.size u l) := ((hO.far gA (fun k hk => by have := hbl k hk; simp; omega)).far gB (fun k hk => by have := hbl k hk; simp; omega)).down (by omega)
  have HB : Hid (Below w.heap.size w (set2 (w1.setCell ⟨w.heap.size + 1 + 1, 1, none⟩ u) (w.heap.size + 1) 0 (.int .i64 n) u)) := (B1.out.grown gA B1.out.size (by intro j hj; simp at hj; omega)).grown gB (by have := gA.size; have := B1.out.size; omega) (by intro j hj; simp at hj; omega)
  subst hu
  clear hrow hk hr1 hr2 hr3 hr2' hr3' zf yf H3 hO b1 gA gB hbl
  go_wp2_with fail
  obtain ⟨u0, u1, _⟩ := Hk.out
  refine bodyPost_ret (v := .agg #[.int .i64 n, .slice ua l.length uc]) (by simp [results, Try.results28, go_sem, u0, u1]) rfl ?_
  exact ⟨_, rfl, HF.out, HB.out⟩
end Go.Proofs.Ytpnohgncnmbkdaa
/-
  Two readings of one graph are the same: eqEdgeS, eqGraph; of one row of numbers: eqIntS; numbers copied: toIntS.
-/
namespace Go.Proofs.Ytpnohgncnmbkdaa
open Go.RowKit
set_option linter.unusedVariables false
set_option linter.unusedSimpArgs false

set_option maxHeartbeats 1600000 in
theorem eqEdge_same (f t : Int) (w : World) :
    Calls Try.prog 89 #[.agg #[.int .i64 f, .int .i64 t], .agg #[.int .i64 f, .int .i64 t]] w fun e w' => e = .returned (.bool true) ∧ Below w.heap.size w w' := by
  have Hb : Hid (∀ o o' : Obj, Below w.heap.size w ((w.alloc o).alloc o')) := fun o o' => ((Below.refl _ _).alloc (Nat.le_refl _) o).alloc (by simp) o'
  go_enter Try.func89, Try.ntmps89
  go_wp2
  go_ret
  exact ⟨rfl, Hb.out _ _⟩

set_option maxHeartbeats 1600000 in
theorem eqEdgeS_same (N : Nat) (x y : Value) (l : List Edg) (w : World) (hx : ESeg (fun b => b < N) w x l) (hy : ESeg (fun b => b < N) w y l) (hN : N ≤ w.heap.size) :
    Calls Try.prog 66 #[x, y] w fun e w' => e = .returned (.bool true) ∧ Below w.heap.size w w' := by
  have HC := hide' hx
  have HC' := hide' hy
  obtain ⟨a, cap, rfl, hlc, hcm, -, -⟩ := hx
  obtain ⟨a', cap', rfl, hlc', hcm', -, -⟩ := hy
  unfold maxLen at hcm hcm'
  go_enter Try.func66, Try.ntmps66
  go_wp2
  go_loopw [5] (fun i wr => ∃ k : Nat, k ≤ l.length ∧ i = .int .i64 k ∧ Below w.heap.size w wr) (fun i _ => l.length - (intOf i).toNat)
  case atStart => exact ⟨0, Nat.zero_le _, rfl, Below.refl _ _⟩
  case round =>
    obtain ⟨k, hk, rfl, hbel⟩ := hrel
    have hsz2 := hbel.size
    by_cases hlt : k < l.length
    · obtain ⟨b, off, rfl, _, q0, q1⟩ := (HC.out.agree (agree_below (hbel.mono hN))).at hlt
      obtain ⟨b', off', rfl, _, r0, r1⟩ := (HC'.out.agree (agree_below (hbel.mono hN))).at hlt
      have hlt' : (k : Int) < (l.length : Int) := by omega
      have hE := hide' (eqEdge_same l[k].1 l[k].2 wr.drew)
      generalize l[k].1 = ef at *
      generalize l[k].2 = et at *
      go_wp2_with fail
      go_region_with (go_at_call 89; refine hE.out.mono ?_; rintro e w1 ⟨rfl, b1⟩)
      all_goals
        have B1 : Below w.heap.size w w1 := Below.on hbel.drew b1
        clear q0 q1 r0 r1
        go_wp2
        go_roundw
        case rel => exact ⟨k + 1, by omega, by go_num, B1⟩
        case measure => simp [intOf]; omega
    · have hlt' : ¬ (k : Int) < (l.length : Int) := by omega
      go_wp2
      go_ret
      exact ⟨rfl, hbel⟩

set_option maxHeartbeats 1600000 in
theorem eqGraph_same (N : Nat) (n : Int) (x y : Value) (l : List Edg) (w : World) (hx : ESeg (fun b => b < N) w x l) (hy : ESeg (fun b => b < N) w y l) (hN : N ≤ w.heap.size) :
    Calls Try.prog 29 #[.agg #[.int .i64 n, x], .agg #[.int .i64 n, y]] w fun e w' => e = .returned (.bool true) ∧ Below w.heap.size w w' := by
  have Hb : Hid (∀ o o' : Obj, Below w.heap.size w ((w.alloc o).alloc o')) := fun o o' => ((Below.refl _ _).alloc (Nat.le_refl _) o).alloc (by simp) o'
  have HC : Hid (∀ wx, Below w.heap.size w wx → Calls Try.prog 66 #[x, y] wx fun e w' => e = .returned (.bool true) ∧ Below wx.heap.size wx w') := fun wx hb => eqEdgeS_same N x y l wx (hx.agree (agree_below (hb.mono hN))) (hy.agree (agree_below (hb.mono hN))) (by have := hb.size; omega)
  obtain ⟨a, cap, rfl, -⟩ := hx
  obtain ⟨a', cap', rfl, -⟩ := hy
  generalize l.length = ll at *
  go_enter Try.func29, Try.ntmps29
  go_wp2_with fail
  refine (HC.out _ (Hb.out _ _)).mono ?_
  rintro e w1 ⟨rfl, b1⟩
  have B1 := hide' (Below.on (Hb.out _ _) b1)
  clear b1
  go_wp2
  go_ret
  exact ⟨rfl, B1.out⟩

set_option maxHeartbeats 1600000 in
theorem eqIntS_same (N : Nat) (x y : Value) (l : List Int) (w : World) (hx : NSeg (fun b => b < N) w x l) (hy : NSeg (fun b => b < N) w y l) (hN : N ≤ w.heap.size) :
    Calls Try.prog 31 #[x, y] w fun e w' => e = .returned (.bool true) ∧ Below w.heap.size w w' := by
  have HC := hide' hx
  have HC' := hide' hy
  obtain ⟨a, cap, rfl, hlc, hcm, -, -⟩ := hx
  obtain ⟨a', cap', rfl, hlc', hcm', -, -⟩ := hy
  unfold maxLen at hcm hcm'
  go_enter Try.func31, Try.ntmps31
  go_wp2
  go_loopw [5] (fun i wr => ∃ k : Nat, k ≤ l.length ∧ i = .int .i64 k ∧ Below w.heap.size w wr) (fun i _ => l.length - (intOf i).toNat)
  case atStart => exact ⟨0, Nat.zero_le _, rfl, Below.refl _ _⟩
  case round =>
    obtain ⟨k, hk, rfl, hbel⟩ := hrel
    by_cases hlt : k < l.length
    · obtain ⟨b, off, rfl, _, q0⟩ := (HC.out.agree (agree_below (hbel.mono hN))).at hlt
      obtain ⟨b', off', rfl, _, r0⟩ := (HC'.out.agree (agree_below (hbel.mono hN))).at hlt
      have hlt' : (k : Int) < (l.length : Int) := by omega
      generalize l[k] = ev at *
      go_wp2_with fail
      go_quiet (fail)
      go_wp2
      go_roundw
      case rel => exact ⟨k + 1, by omega, by go_num, below_drewN hbel _⟩
      case measure => simp [intOf]; omega
    · have hlt' : ¬ (k : Int) < (l.length : Int) := by omega
      go_wp2
      go_ret
      exact ⟨rfl, hbel⟩
end Go.Proofs.Ytpnohgncnmbkdaa
