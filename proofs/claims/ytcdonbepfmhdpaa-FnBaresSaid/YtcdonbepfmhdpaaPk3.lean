/-
  Texts that a law leans on, one behind the other; no statement is proved here.
-/
import Derived.Test.YtcdonbepfmhdpaaPk0
import Derived.Laws.OwnMore
import Derived.Deep.AppendLies
import Derived.Deep.RegionHeld3
import Derived.Deep.Cut
/-
  Graphs: what can be come to, as l9reach reckons it; plain mathematics. The rounds come to an end: what is left is closed, and has nothing that can't be come to.
-/
namespace Go.Proofs.Ytcdonbepfmhdpaa
open Go.RowKit
set_option linter.unusedVariables false
set_option linter.unusedSimpArgs false

/-- Marks: is it so of v? -/
def bAt (is : List Bool) (v : Int) : Bool := is.getD v.toNat false
/-- v is marked. -/
def bSet (is : List Bool) (v : Int) : List Bool := is.set v.toNat true
/-- Those told are marked. -/
def markF (from' : List Int) (is : List Bool) : List Bool := from'.foldl bSet is
/-- One edge. -/
def edgeF (is : List Bool) (e : Edg) : List Bool := if bAt is e.1 = true then bSet is e.2 else is
/-- One round over all edges. -/
def roundF (E : List Edg) (is : List Bool) : List Bool := E.foldl edgeF is
/-- k rounds. -/
def roundsF (E : List Edg) : Nat → List Bool → List Bool
  | 0, is => is
  | k + 1, is => roundF E (roundsF E k is)
/-- Those that are marked, ascending. -/
def outF (is : List Bool) (n : Nat) : List Int := ((List.range n).filter fun v => is.getD v false).map fun v : Nat => (v : Int)
/-- What l9reach answers. -/
def reachF (n : Nat) (E : List Edg) (from' : List Int) : List Int := outF (roundsF E n (markF from' (List.replicate n false))) n

theorem bSet_len (is : List Bool) (v : Int) : (bSet is v).length = is.length := by simp [bSet]
theorem markF_len : ∀ (l : List Int) (is : List Bool), (markF l is).length = is.length
  | [], _ => rfl
  | x :: r, is => by
    show (markF r (bSet is x)).length = _
    rw [markF_len r, bSet_len]
theorem edgeF_len (is : List Bool) (e : Edg) : (edgeF is e).length = is.length := by
  unfold edgeF
  split
  · exact bSet_len _ _
  · rfl
theorem roundF_len : ∀ (E : List Edg) (is : List Bool), (roundF E is).length = is.length
  | [], _ => rfl
  | x :: r, is => by
    show (roundF r (edgeF is x)).length = _
    rw [roundF_len r, edgeF_len]
theorem roundsF_len (E : List Edg) : ∀ (k : Nat) (is : List Bool), (roundsF E k is).length = is.length
  | 0, _ => rfl
  | k + 1, is => by
    show (roundF E (roundsF E k is)).length = _
    rw [roundF_len, roundsF_len E k]
theorem roundF_succ (E : List Edg) (is : List Bool) (k : Nat) (h : k < E.length) : roundF (E.take (k + 1)) is = edgeF (roundF (E.take k) is) E[k] := by
  unfold roundF
  rw [List.take_succ_eq_append_getElem h, List.foldl_append]
  rfl
theorem markF_succ (l : List Int) (is : List Bool) (k : Nat) (h : k < l.length) : markF (l.take (k + 1)) is = bSet (markF (l.take k) is) l[k] := by
  unfold markF
  rw [List.take_succ_eq_append_getElem h, List.foldl_append]
  rfl
theorem outF_zero (is : List Bool) : outF is 0 = [] := rfl
theorem outF_succ (is : List Bool) (n : Nat) : outF is (n + 1) = outF is n ++ (if is.getD n false = true then [(n : Int)] else []) := by
  unfold outF
  rw [List.range_succ, List.filter_append, List.map_append, List.filter_cons, List.filter_nil]
  by_cases h : is.getD n false = true
  · rw [if_pos h, if_pos h]
    rfl
  · rw [if_neg h, if_neg h]
    rfl

theorem bAt_set {is : List Bool} {v u : Int} (hv : 0 ≤ v) (hu : 0 ≤ u) (hl : v.toNat < is.length) : bAt (bSet is v) u = (bAt is u || decide (u = v)) := by
  unfold bAt bSet
  by_cases e : u = v
  · subst e
    simp [hl]
  · have hne : v.toNat ≠ u.toNat := by omega
    simp [List.getD_eq_getElem?_getD, List.getElem?_set_ne hne, e]

/-- What can be come to from those told. -/
inductive Rch (E : List Edg) (from' : List Int) : Int → Prop
  | told {v : Int} : v ∈ from' → Rch E from' v
  | edge {e : Edg} : e ∈ E → Rch E from' e.1 → Rch E from' e.2

/-- All ends are in the bounds. -/
def InG (n : Nat) (E : List Edg) : Prop := ∀ e ∈ E, 0 ≤ e.1 ∧ e.1 < n ∧ 0 ≤ e.2 ∧ e.2 < n

theorem edge_keeps {n : Nat} {is : List Bool} {e : Edg} {u : Int} (hl : is.length = n) (he : 0 ≤ e.1 ∧ e.1 < n ∧ 0 ≤ e.2 ∧ e.2 < n) (hu : 0 ≤ u) (h : bAt is u = true) : bAt (edgeF is e) u = true := by
  unfold edgeF
  split
  · rw [bAt_set he.2.2.1 hu (by omega), h]
    rfl
  · exact h
theorem round_keeps {n : Nat} : ∀ (E : List Edg) (is : List Bool) {u : Int}, is.length = n → InG n E → 0 ≤ u → bAt is u = true → bAt (roundF E is) u = true
  | [], _, _, _, _, _, h => h
  | e :: r, is, u, hl, hE, hu, h => round_keeps r (edgeF is e) (by rw [edgeF_len, hl]) (fun x hx => hE x (List.mem_cons_of_mem _ hx)) hu (edge_keeps hl (hE e (by simp)) hu h)
/-- A round does each edge, at least as far as the marks were there at its beginning. -/
theorem round_does {n : Nat} : ∀ (E : List Edg) (is : List Bool) {e : Edg}, is.length = n → InG n E → e ∈ E → bAt is e.1 = true → bAt (roundF E is) e.2 = true
  | [], _, _, _, _, he, _ => by simp at he
  | x :: r, is, e, hl, hE, he, h => by
    have hx := hE x (by simp)
    have hl' : (edgeF is x).length = n := by rw [edgeF_len, hl]
    have hr : InG n r := fun y hy => hE y (List.mem_cons_of_mem _ hy)
    rcases List.mem_cons.1 he with rfl | he
    · refine round_keeps r _ hl' hr hx.2.2.1 ?_
      unfold edgeF
      rw [if_pos h, bAt_set hx.2.2.1 hx.2.2.1 (by omega)]
      simp
    · exact round_does r _ hl' hr he (edge_keeps hl hx (hE e (List.mem_cons_of_mem _ he)).1 h)
/-- What is marked can be come to. -/
def Sound (E : List Edg) (from' : List Int) (is : List Bool) : Prop := ∀ u : Int, 0 ≤ u → bAt is u = true → Rch E from' u
theorem edge_sound {n : Nat} {E : List Edg} {from' : List Int} {is : List Bool} {e : Edg} (hl : is.length = n) (he : 0 ≤ e.1 ∧ e.1 < n ∧ 0 ≤ e.2 ∧ e.2 < n) (hm : e ∈ E) (h : Sound E from' is) : Sound E from' (edgeF is e) := by
  intro u hu hb
  unfold edgeF at hb
  split at hb
  · next hc =>
    rw [bAt_set he.2.2.1 hu (by omega), Bool.or_eq_true, decide_eq_true_eq] at hb
    rcases hb with hb | rfl
    · exact h u hu hb
    · exact .edge hm (h e.1 he.1 hc)
  · exact h u hu hb
theorem round_sound {n : Nat} {E : List Edg} {from' : List Int} : ∀ (l : List Edg) (is : List Bool), is.length = n → InG n l → (∀ e ∈ l, e ∈ E) → Sound E from' is → Sound E from' (roundF l is)
  | [], _, _, _, _, h => h
  | e :: r, is, hl, hE, hm, h => round_sound r (edgeF is e) (by rw [edgeF_len, hl]) (fun x hx => hE x (List.mem_cons_of_mem _ hx)) (fun x hx => hm x (List.mem_cons_of_mem _ hx)) (edge_sound hl (hE e (by simp)) (hm e (by simp)) h)
theorem rounds_sound {n : Nat} {E : List Edg} {from' : List Int} (hE : InG n E) : ∀ (k : Nat) (is : List Bool), is.length = n → Sound E from' is → Sound E from' (roundsF E k is)
  | 0, _, _, h => h
  | k + 1, is, hl, h => round_sound E _ (by rw [roundsF_len, hl]) hE (fun e he => he) (rounds_sound hE k is hl h)
theorem mark_at {n : Nat} : ∀ (l : List Int) (is : List Bool) {u : Int}, is.length = n → (∀ v ∈ l, 0 ≤ v ∧ v < n) → 0 ≤ u → (bAt (markF l is) u = true ↔ bAt is u = true ∨ u ∈ l)
  | [], is, u, hl, hf, hu => by simp [markF]
  | x :: r, is, u, hl, hf, hu => by
    have hx := hf x (by simp)
    have h1 := mark_at r (bSet is x) (u := u) (by rw [bSet_len, hl]) (fun v hv => hf v (List.mem_cons_of_mem _ hv)) hu
    show bAt (markF r (bSet is x)) u = true ↔ _
    rw [h1, bAt_set hx.1 hu (by omega), Bool.or_eq_true, decide_eq_true_eq, List.mem_cons]
    constructor
    · rintro ((h | h) | h)
      · exact .inl h
      · exact .inr (.inl h)
      · exact .inr (.inr h)
    · rintro (h | h | h)
      · exact .inl (.inl h)
      · exact .inl (.inr h)
      · exact .inr h

/-- How many are marked. -/
def cntB (is : List Bool) : Nat := is.count true
theorem cnt_le (is : List Bool) : cntB is ≤ is.length := List.count_le_length
theorem cnt_set : ∀ (is : List Bool) (k : Nat), cntB is ≤ cntB (is.set k true) ∧ (k < is.length → is.getD k false = false → cntB (is.set k true) = cntB is + 1)
  | [], k => ⟨Nat.le_refl _, fun h => by simp at h⟩
  | b :: r, 0 => by
    constructor
    · cases b <;> simp [cntB]
    · intro _ h
      simp at h
      subst h
      simp [cntB]
  | b :: r, k + 1 => by
    obtain ⟨h1, h2⟩ := cnt_set r k
    have e1 : cntB (b :: r) = cntB r + (if b = true then 1 else 0) := by cases b <;> simp [cntB]
    have e2 : cntB (b :: r.set k true) = cntB (r.set k true) + (if b = true then 1 else 0) := by cases b <;> simp [cntB]
    constructor
    · show cntB (b :: r) ≤ cntB (b :: r.set k true)
      rw [e1, e2]
      omega
    · intro hk hb
      show cntB (b :: r.set k true) = cntB (b :: r) + 1
      rw [e1, e2, h2 (by simp at hk; omega) (by simpa using hb)]
      omega
theorem cnt_edge (is : List Bool) (e : Edg) : cntB is ≤ cntB (edgeF is e) ∧ (cntB (edgeF is e) = cntB is → e.2.toNat < is.length → edgeF is e = is) := by
  unfold edgeF
  split
  · next h =>
    have h1 := cnt_set is e.2.toNat
    refine ⟨h1.1, fun he hl => ?_⟩
    cases hb : is.getD e.2.toNat false with
    | false =>
      have := h1.2 hl hb
      unfold bSet at he
      omega
    | true =>
      unfold bSet
      apply List.ext_getElem?
      intro j
      by_cases ej : e.2.toNat = j
      · subst ej
        rw [List.getElem?_set_self hl]
        rw [List.getD_eq_getElem?_getD, List.getElem?_eq_getElem hl] at hb
        rw [List.getElem?_eq_getElem hl]
        simpa using hb.symm
      · rw [List.getElem?_set_ne ej]
  · exact ⟨Nat.le_refl _, fun _ _ => rfl⟩
theorem cnt_round {n : Nat} : ∀ (E : List Edg) (is : List Bool), is.length = n → InG n E → cntB is ≤ cntB (roundF E is) ∧ (cntB (roundF E is) = cntB is → roundF E is = is)
  | [], _, _, _ => ⟨Nat.le_refl _, fun _ => rfl⟩
  | e :: r, is, hl, hE => by
    have he := hE e (by simp)
    obtain ⟨h1, h2⟩ := cnt_edge is e
    obtain ⟨h3, h4⟩ := cnt_round r (edgeF is e) (by rw [edgeF_len, hl]) fun x hx => hE x (List.mem_cons_of_mem _ hx)
    constructor
    · show cntB is ≤ cntB (roundF r (edgeF is e))
      omega
    · intro heq
      have heq' : cntB (roundF r (edgeF is e)) = cntB is := heq
      show roundF r (edgeF is e) = is
      rw [h4 (by omega), h2 (by omega) (by omega)]
/-- After k rounds: nothing more comes, or there are at least k marks. -/
theorem rounds_grow {n : Nat} {E : List Edg} (hE : InG n E) (is : List Bool) (hl : is.length = n) : ∀ k, roundF E (roundsF E k is) = roundsF E k is ∨ k < cntB (roundsF E (k + 1) is)
  | 0 => by
    obtain ⟨h1, h2⟩ := cnt_round E is hl hE
    by_cases h : cntB (roundF E is) = cntB is
    · exact .inl (h2 h)
    · refine .inr ?_
      show 0 < cntB (roundF E is)
      omega
  | k + 1 => by
    have hl' : (roundsF E (k + 1) is).length = n := by rw [roundsF_len, hl]
    obtain ⟨h1, h2⟩ := cnt_round E (roundsF E (k + 1) is) hl' hE
    rcases rounds_grow hE is hl k with h | h
    · refine .inl ?_
      show roundF E (roundF E (roundsF E k is)) = roundF E (roundsF E k is)
      rw [h, h]
    · by_cases hc : cntB (roundF E (roundsF E (k + 1) is)) = cntB (roundsF E (k + 1) is)
      · exact .inl (h2 hc)
      · refine .inr ?_
        show k + 1 < cntB (roundF E (roundsF E (k + 1) is))
        omega
/-- n rounds are enough. -/
theorem rounds_still {n : Nat} {E : List Edg} (hE : InG n E) (is : List Bool) (hl : is.length = n) : roundF E (roundsF E n is) = roundsF E n is := by
  rcases rounds_grow hE is hl n with h | h
  · exact h
  · have h1 := cnt_le (roundsF E (n + 1) is)
    rw [roundsF_len, hl] at h1
    omega

/-- l9reach answers what can be come to. -/
theorem reach_iff {n : Nat} {E : List Edg} {from' : List Int} (hE : InG n E) (hf : ∀ v ∈ from', 0 ≤ v ∧ v < n) {u : Int} (hu : 0 ≤ u) : bAt (roundsF E n (markF from' (List.replicate n false))) u = true ↔ Rch E from' u := by
  have hl : (markF from' (List.replicate n false)).length = n := by rw [markF_len]; simp
  have h0 : ∀ u : Int, 0 ≤ u → (bAt (markF from' (List.replicate n false)) u = true ↔ u ∈ from') := fun u hu => by
    rw [mark_at from' _ (by simp) hf hu]
    simp [bAt, List.getD_eq_getElem?_getD, List.getElem?_replicate]
    intro h
    split at h <;> simp at h
  constructor
  · exact rounds_sound hE n _ hl (fun u hu hb => .told ((h0 u hu).1 hb)) u hu
  · intro hr
    have hst := rounds_still hE _ hl
    clear hu
    induction hr with
    | told hv =>
      have hv' := hf _ hv
      have hk : ∀ k, bAt (roundsF E k (markF from' (List.replicate n false))) _ = true := fun k => by
        induction k with
        | zero => exact (h0 _ hv'.1).2 hv
        | succ k ih => exact round_keeps E _ (by rw [roundsF_len, hl]) hE hv'.1 ih
      exact hk n
    | edge he _ ih =>
      rw [← hst]
      exact round_does E _ (by rw [roundsF_len, hl]) hE he ih
theorem mem_outF {is : List Bool} {n : Nat} {u : Int} : u ∈ outF is n ↔ 0 ≤ u ∧ u < n ∧ bAt is u = true := by
  unfold outF
  simp only [List.mem_map, List.mem_filter, List.mem_range]
  constructor
  · rintro ⟨v, ⟨h1, h2⟩, rfl⟩
    exact ⟨by omega, by omega, by simpa [bAt] using h2⟩
  · rintro ⟨h1, h2, h3⟩
    exact ⟨u.toNat, ⟨by omega, h3⟩, by omega⟩
end Go.Proofs.Ytcdonbepfmhdpaa
/-
  l9reach of the specification.
-/
namespace Go.Proofs.Ytcdonbepfmhdpaa
open Go.RowKit
set_option linter.unusedVariables false
set_option linter.unusedSimpArgs false

theorem infoB : (Try.prog.info? 4).map (fun i => (i.zero, i.size, i.bytes)) = some (some (.bool false), 1, 1) := by kernel_rfl

/-- A row of bools in block D. -/
def BRow (D : Nat) (dn : List Bool) (w : World) : Prop := w.heap[D]? = some (.cells (dn.map Value.bool).toArray 4 (0, 0))
theorem BRow.at {D : Nat} {dn : List Bool} {w : World} (h : BRow D dn w) {m : Nat} (hm : m < dn.length) : w.cell? ⟨D, m, none⟩ = some (.bool (dn.getD m false)) ∧ w.frozen? ⟨D, m, none⟩ = false := by
  refine ⟨?_, frozen_of_row w D m _ _ h⟩
  rw [cell_of_row w D m _ _ _ h]
  simp [hm, List.getD_eq_getElem?_getD]
theorem BRow.set {D : Nat} {dn : List Bool} {w : World} (h : BRow D dn w) (m : Nat) (b : Bool) : BRow D (dn.set m b) (w.setCell ⟨D, m, none⟩ (.bool b)) := by
  unfold BRow
  rw [heap_setCell_same w D m _ _ _ h]
  simp [List.map_set]
theorem BRow.keep {D : Nat} {dn : List Bool} {w w' : World} {r : Option Nat} (h : BRow D dn w) (hg : w.grownBy w' r) (hr : r ≠ some D) : BRow D dn w' := (hg.block D (Array.getElem?_eq_some_iff.1 h).1 (fun e => hr e.symm)).trans h

/-- A box, a row of bools behind it, and all ahead of both as it was. -/
def RSt (w : World) (o : Obj) (dn : List Bool) (wr : World) : Prop := BRow (w.heap.size + 1) dn wr ∧ wr.heap[w.heap.size]? = some o ∧ Below w.heap.size w wr ∧ w.heap.size + 2 ≤ wr.heap.size
theorem RSt.set {w wr : World} {o : Obj} {dn : List Bool} (h : RSt w o dn wr) (m : Nat) (b : Bool) : RSt w o (dn.set m b) (wr.setCell ⟨w.heap.size + 1, m, none⟩ (.bool b)) := by
  obtain ⟨h1, h2, h3, h4⟩ := h
  refine ⟨h1.set m b, (Below.heap_setCell wr _ _ _ (by show w.heap.size ≠ w.heap.size + 1; omega)).trans h2, h3.setCell (by show w.heap.size ≤ w.heap.size + 1; omega) _, by simp [World.setCell]; omega⟩
theorem RSt.grown {w wr w' : World} {o : Obj} {dn : List Bool} {r : Option Nat} (h : RSt w o dn wr) (hg : wr.grownBy w' r) (hr : ∀ k, r = some k → w.heap.size + 2 ≤ k) : RSt w o dn w' := by
  obtain ⟨h1, h2, h3, h4⟩ := h
  exact ⟨h1.keep hg (fun e => by have := hr _ e; omega), (hg.block _ (by omega) (fun e => by have := hr _ e.symm; omega)).trans h2, h3.grown hg (by omega) (fun k hk => by have := hr k hk; omega), by have := hg.size; omega⟩
theorem rSt_made {w w1 : World} {o : Obj} {n : Nat} (hown : w1.ownsRow (w.heap.size + 1) 4 1 (.slice (some ⟨(w.alloc o).heap.size, 0, none⟩) n n) n (madeCells (Value.cells (.bool false)) (n * 1)).toList) (hg : (w.alloc o).grownBy w1 none) : RSt w o (List.replicate n false) w1 := by
  have hsz : (w.alloc o).heap.size = w.heap.size + 1 := by simp
  have hb : Below w.heap.size w (w.alloc o) := (Below.refl _ _).alloc (Nat.le_refl _) o
  rcases hown.2 with ⟨h1, _⟩ | ⟨g, cp, cur, h1, _, h3, _, _, h6, h7⟩
  · simp at h1
  · simp only [Value.slice.injEq, Option.some.injEq, Addr.mk.injEq, and_true, true_and] at h1
    obtain ⟨e1, e2⟩ := h1
    rw [hsz] at e1
    subst e1
    subst e2
    have hlt : w.heap.size + 1 < w1.heap.size := (Array.getElem?_eq_some_iff.1 h3).1
    refine ⟨?_, (hg.block w.heap.size (by simp) (by simp)).trans (MapKept.heap_alloc w o).1, hb.grown hg (by simp) (by simp), by omega⟩
    unfold BRow
    rw [h3]
    have hc : cur.toList = List.replicate n (.bool false) := by
      rw [List.take_of_length_le (by simp [h6])] at h7
      rw [h7]
      have : (Value.bool false).cells = #[.bool false] := rfl
      rw [this, toList_madeCells_one, Nat.mul_one]
    congr 2
    rw [List.map_replicate, ← hc]
theorem bSet_nat (is : List Bool) (m : Nat) : bSet is (m : Int) = is.set m true := by simp [bSet]
theorem bAt_nat (is : List Bool) (m : Nat) : bAt is (m : Int) = is.getD m false := by simp [bAt]

end Go.Proofs.Ytcdonbepfmhdpaa
/-
  GraphOk of the specification.
-/
namespace Go.Proofs.Ytcdonbepfmhdpaa
open Go.RowKit
set_option linter.unusedVariables false
set_option linter.unusedSimpArgs false

set_option maxHeartbeats 6400000 in
set_option maxRecDepth 100000 in
theorem spec_GraphOk_any (N : Nat) (n : Int) (x : Value) (E : List Edg) (w : World) (hx : ESeg (fun b => b < N) w x E) (hN : N ≤ w.heap.size) :
    Calls Try.prog 8 #[.agg #[.int .i64 n, x]] w fun e w' => e = .returned (.bool (gB n E)) ∧ Below w.heap.size w w' := by
  have HX := hide' hx
  have Hb : Hid (∀ o : Obj, Below w.heap.size w (w.alloc o)) := fun o => (Below.refl _ _).alloc (Nat.le_refl _) o
  have Hbox : Hid (∀ o wx, Below (w.alloc o).heap.size (w.alloc o) wx → wx.heap[w.heap.size]? = some o) := fun o wx h => box_row h
  obtain ⟨a, cap, rfl, hlc, hcm, -, -⟩ := hx
  unfold maxLen at hcm
  by_cases h0 : n < 0
  · have HF := hide' (g_head (n := n) (E := E) (by omega))
    generalize E.length = ll at *
    go_enter Try.func8, Try.ntmps8
    go_wp2
    go_ret
    exact ⟨ret_bool HF.out.symm, Hb.out _⟩
  by_cases h1 : 20 < n
  · have HF := hide' (g_head (n := n) (E := E) (by omega))
    generalize E.length = ll at *
    go_enter Try.func8, Try.ntmps8
    go_wp2
    go_ret
    exact ⟨ret_bool HF.out.symm, Hb.out _⟩
  by_cases h2 : 400 < E.length
  · have HF := hide' (g_head (n := n) (E := E) (by omega))
    have h2' : (400 : Int) < (E.length : Int) := by omega
    go_enter Try.func8, Try.ntmps8
    go_wp2
    go_ret
    exact ⟨ret_bool HF.out.symm, Hb.out _⟩
  have h2' : ¬ (400 : Int) < (E.length : Int) := by omega
  go_enter Try.func8, Try.ntmps8
  go_wp2
  go_loopw [3] (fun i wr => ∃ k : Nat, i = .int .i64 k ∧ k ≤ E.length ∧ Hid (∀ j, j < k → stepG n E j = true) ∧ Hid (Below (w.alloc (.cells #[.int .i64 n, .slice a E.length cap] 25)).heap.size (w.alloc (.cells #[.int .i64 n, .slice a E.length cap] 25)) wr)) (fun i _ => E.length - (intOf i).toNat)
  case atStart => exact ⟨0, rfl, Nat.zero_le _, fun j hj => by omega, Below.refl _ _⟩
  case round =>
    obtain ⟨k, rfl, hk, hall, hbel⟩ := hrel
    obtain ⟨g0, g1, -⟩ := row2 (Hbox.out _ _ hbel.out)
    have B := hide' (Below.on (Hb.out (.cells #[.int .i64 n, .slice a E.length cap] 25)) hbel.out)
    by_cases hlt : k < E.length
    rotate_left
    · have hlt' : ¬ (k : Int) < (E.length : Int) := by omega
      have HF : Hid (gB n E = true) := g_yes (by omega) (by omega) (by omega) (fun i hi => hall.out i (by omega))
      go_wp2
      go_ret
      exact ⟨ret_bool HF.out.symm, B.out⟩
    have hlt' : (k : Int) < (E.length : Int) := by omega
    have hag := agree_below (B.out.mono hN)
    obtain ⟨b, off, rfl, hbN, q0, q1⟩ := (HX.out.agree hag).at hlt
    have hgd : E.getD k (0, 0) = E[k] := by simp [List.getD_eq_getElem?_getD, hlt]
    have hst : stepG n E k = (decide (0 ≤ E[k].1) && (decide (E[k].1 < n) && (decide (0 ≤ E[k].2) && (decide (E[k].2 < n) && (decide (k = 0) || lessE (E.getD (k - 1) (0, 0)) E[k]))))) := by simp only [stepG, hgd]
    have HNo : Hid (stepG n E k = false → gB n E = false) := fun h => g_step hlt h
    have HYes : Hid (stepG n E k = true → ∀ j, j < k + 1 → stepG n E j = true) := fun h j hj => by
      by_cases e : j = k
      · subst e; exact h
      · exact hall.out j (by omega)
    have hz := B.out.size
    have hwr := hbel.out.size
    have BW := hide' (hbel.out.alloc hwr (.cells #[.int .i64 E[k].1, .int .i64 E[k].2] 36))
    have BW2 := hide' (B.out.alloc hz (.cells #[.int .i64 E[k].1, .int .i64 E[k].2] 36))
    obtain ⟨w0, w1, -⟩ := row2 (Hbox.out _ _ BW.out)
    obtain ⟨e0, e1, -⟩ := row2 (MapKept.heap_alloc wr (.cells #[.int .i64 E[k].1, .int .i64 E[k].2] 36)).1
    have HP : Hid (∀ j (h : j < E.length), (wr.alloc (.cells #[.int .i64 E[k].1, .int .i64 E[k].2] 36)).cell? ⟨b, off + j * 2, none⟩ = some (.int .i64 E[j].1) ∧ (wr.alloc (.cells #[.int .i64 E[k].1, .int .i64 E[k].2] 36)).cell? ⟨b, off + j * 2 + 1, none⟩ = some (.int .i64 E[j].2)) := fun j h => by
      obtain ⟨b', off', e', _, p0, p1⟩ := (HX.out.agree (agree_below (BW2.out.mono hN))).at h
      simp only [Option.some.injEq, Addr.mk.injEq, and_true] at e'
      obtain ⟨rfl, rfl⟩ := e'
      exact ⟨p0, p1⟩
    have HLs : Hid (lessE (E.getD (k - 1) (0, 0)) E[k] = lessE (E.getD (k - 1) (0, 0)) (E[k].1, E[k].2)) := rfl
    rw [hst] at HNo HYes
    rw [HLs.out] at HNo HYes
    clear hst hag hgd HLs
    generalize E[k].1 = ef at *
    generalize E[k].2 = et at *
    go_wp2_with fail
    generalize wr.alloc (.cells #[.int .i64 ef, .int .i64 et] 36) = W at *
    generalize wr.heap.size = eb at *
    clear q0 q1 g0 g1 B hbel hz hwr HX Hb Hbox
    by_cases c0 : 0 ≤ ef
    rotate_left
    · have HF := hide' (HNo.out (by simp [c0]))
      have c0' : ef < 0 := by omega
      clear HNo HYes hall
      go_quiet (fail)
      go_wp2
      go_ret
      exact ⟨ret_bool HF.out.symm, below_drewN BW2.out _⟩
    have c0' : ¬ ef < 0 := by omega
    by_cases c1 : ef < n
    rotate_left
    · have HF := hide' (HNo.out (by simp [c1]))
      have c1' : n ≤ ef := by omega
      clear HNo HYes hall
      go_quiet (fail)
      go_wp2
      go_ret
      exact ⟨ret_bool HF.out.symm, below_drewN BW2.out _⟩
    have c1' : ¬ n ≤ ef := by omega
    by_cases c2 : 0 ≤ et
    rotate_left
    · have HF := hide' (HNo.out (by simp [c2]))
      have c2' : et < 0 := by omega
      clear HNo HYes hall
      go_quiet (fail)
      go_wp2
      go_ret
      exact ⟨ret_bool HF.out.symm, below_drewN BW2.out _⟩
    have c2' : ¬ et < 0 := by omega
    by_cases c3 : et < n
    rotate_left
    · have HF := hide' (HNo.out (by simp [c3]))
      have c3' : n ≤ et := by omega
      clear HNo HYes hall
      go_quiet (fail)
      go_wp2
      go_ret
      exact ⟨ret_bool HF.out.symm, below_drewN BW2.out _⟩
    have c3' : ¬ n ≤ et := by omega
    cases k with
    | zero =>
      have HF := hide' (HYes.out (by simp [c0, c1, c2, c3]))
      clear HNo HYes hall
      go_quiet (fail)
      go_wp2
      go_roundw
      case rel => exact ⟨0 + 1, by go_num, by omega, HF, below_drewN BW.out _⟩
      case measure => simp [intOf]; omega
    | succ j =>
      have hjl : j < E.length := by omega
      obtain ⟨p0, p1⟩ := HP.out j hjl
      have hgj : E.getD (j + 1 - 1) (0, 0) = (E[j].1, E[j].2) := by simp [List.getD_eq_getElem?_getD, hjl]
      rw [hgj] at HNo HYes
      have hpos : (0 : Int) < ((j + 1 : Nat) : Int) := by omega
      have hj1 : ((j + 1 : Nat) : Int) - 1 = (j : Int) := by omega
      have hj2 : (j : Int) < (E.length : Int) := by omega
      have hj3 : (0 : Int) ≤ (j : Int) := by omega
      have hj4 : IntKind.i64.wrap (j : Int) = (j : Int) := by rw [IntKind.wrap_i64]; omega
      have hj5 : IntKind.i64.wrap ((j : Int) + 1 - 1) = (j : Int) := by rw [IntKind.wrap_i64]; omega
      generalize E[j].1 = pf at *
      generalize E[j].2 = pt at *
      have HC : Hid (Calls Try.prog 21 #[.agg #[.int .i64 pf, .int .i64 pt], .agg #[.int .i64 ef, .int .i64 et]] W.drew fun e w2 => e = .returned (.bool (lessE (pf, pt) (ef, et))) ∧
          (w2.cell? ⟨eb, 0, none⟩ = some (.int .i64 ef) ∧ w2.cell? ⟨eb, 1, none⟩ = some (.int .i64 et) ∧ w2.cell? ⟨w.heap.size, 0, none⟩ = some (.int .i64 n) ∧ w2.cell? ⟨w.heap.size, 1, none⟩ = some (.slice (some ⟨b, off, none⟩) E.length cap) ∧ w2.cell? ⟨b, off + j * 2, none⟩ = some (.int .i64 pf) ∧ w2.cell? ⟨b, off + j * 2 + 1, none⟩ = some (.int .i64 pt)) ∧ Hid (Below W.heap.size W w2)) := by
        refine (l9less_any (pf, pt) (ef, et) _).mono ?_
        rintro e w2 ⟨rfl, b2⟩
        have b2' : Below W.heap.size W w2 := Below.on (Below.refl _ _).drew b2
        have hkp : ∀ q v, W.cell? q = some v → w2.cell? q = some v := fun q v h => (b2'.cell (World.block_lt_of_cell? W _ h)).trans h
        exact ⟨rfl, ⟨hkp _ _ e0, hkp _ _ e1, hkp _ _ w0, hkp _ _ w1, hkp _ _ p0, hkp _ _ p1⟩, b2'⟩
      clear hgj HP
      generalize hls : lessE (pf, pt) (ef, et) = ls at *
      cases ls with
      | true =>
        have HF := hide' (HYes.out (by simp [c0, c1, c2, c3]))
        clear HNo HYes hall hls
        go_region_held3 (fun wx => wx.cell? ⟨eb, 0, none⟩ = some (.int .i64 ef) ∧ wx.cell? ⟨eb, 1, none⟩ = some (.int .i64 et) ∧ wx.cell? ⟨w.heap.size, 0, none⟩ = some (.int .i64 n) ∧ wx.cell? ⟨w.heap.size, 1, none⟩ = some (.slice (some ⟨b, off, none⟩) E.length cap) ∧ wx.cell? ⟨b, off + j * 2, none⟩ = some (.int .i64 pf) ∧ wx.cell? ⟨b, off + j * 2 + 1, none⟩ = some (.int .i64 pt)) (go_keep) (first
          | (go_at_call 21; refine HC.out.mono ?_; rintro e w2 ⟨rfl, ⟨i0, i1, i2, i3, i4, i5⟩, hB2⟩)
          | fail)
        all_goals
          go_wp2
          go_roundw
          case rel => exact ⟨j + 1 + 1, by go_num, by omega, HF, Below.on BW.out hB2.out⟩
          case measure => simp [intOf]; omega
      | false =>
        have HF := hide' (HNo.out (by simp))
        clear HNo HYes hall hls
        go_region_held3 (fun wx => wx.cell? ⟨eb, 0, none⟩ = some (.int .i64 ef) ∧ wx.cell? ⟨eb, 1, none⟩ = some (.int .i64 et) ∧ wx.cell? ⟨w.heap.size, 0, none⟩ = some (.int .i64 n) ∧ wx.cell? ⟨w.heap.size, 1, none⟩ = some (.slice (some ⟨b, off, none⟩) E.length cap) ∧ wx.cell? ⟨b, off + j * 2, none⟩ = some (.int .i64 pf) ∧ wx.cell? ⟨b, off + j * 2 + 1, none⟩ = some (.int .i64 pt)) (go_keep) (first
          | (go_at_call 21; refine HC.out.mono ?_; rintro e w2 ⟨rfl, ⟨i0, i1, i2, i3, i4, i5⟩, hB2⟩)
          | fail)
        all_goals
          go_wp2
          go_ret
          exact ⟨ret_bool HF.out.symm, Below.on BW2.out hB2.out⟩
end Go.Proofs.Ytcdonbepfmhdpaa
/-
  Reach of the specification.
-/
namespace Go.Proofs.Ytcdonbepfmhdpaa
open Go.RowKit
set_option linter.unusedVariables false
set_option linter.unusedSimpArgs false

/-- May Reach answer? -/
def rchB (n : Int) (E : List Edg) (l : List Int) : Bool := decide (gB n E = true ∧ l.length ≤ 20 ∧ ∀ v ∈ l, 0 ≤ v ∧ v < n)
/-- What Reach answers. -/
def rchA (n : Int) (E : List Edg) (l : List Int) : List Int := if rchB n E l = true then reachF n.toNat E l else []

theorem rch_no {n : Int} {E : List Edg} {l : List Int} (h : ¬ (gB n E = true ∧ l.length ≤ 20 ∧ ∀ v ∈ l, 0 ≤ v ∧ v < n)) : rchA n E l = [] := by
  unfold rchA rchB
  rw [decide_eq_false h]
  rfl
theorem rch_yes {n : Nat} {E : List Edg} {l : List Int} (h : gB (n : Int) E = true ∧ l.length ≤ 20 ∧ ∀ v ∈ l, 0 ≤ v ∧ v < (n : Int)) : rchA (n : Int) E l = reachF n E l := by
  unfold rchA rchB
  rw [decide_eq_true h]
  simp
theorem g_in {n : Nat} {E : List Edg} (h : gB (n : Int) E = true) : InG n E := fun e he => g_ends h he

end Go.Proofs.Ytcdonbepfmhdpaa
/-
  What Reach answers: its members, closed, ascending, and what Reach answers of it (mathematics).
-/
namespace Go.Proofs.Ytcdonbepfmhdpaa
open Go.RowKit
set_option linter.unusedVariables false
set_option linter.unusedSimpArgs false

theorem Rch.again {E : List Edg} {l q : List Int} (hq : ∀ v ∈ q, Rch E l v) {u : Int} (h : Rch E q u) : Rch E l u := by
  induction h with
  | told hv => exact hq _ hv
  | edge he _ ih => exact .edge he ih
theorem outF_congr {a b : List Bool} {n : Nat} (h : ∀ v, v < n → a.getD v false = b.getD v false) : outF a n = outF b n := by
  unfold outF
  congr 1
  refine List.filter_congr fun v hv => ?_
  rw [h v (by simpa using hv)]
theorem outF_lenX (is : List Bool) (n : Nat) : (outF is n).length ≤ n := by
  unfold outF
  rw [List.length_map]
  exact Nat.le_trans (List.length_filter_le _ _) (by simp)
theorem outF_asc (is : List Bool) (n : Nat) : (outF is n).Pairwise (· < ·) := by
  unfold outF
  rw [List.pairwise_map]
  refine List.Pairwise.filter _ ?_
  refine (List.pairwise_lt_range (n := n)).imp ?_
  intro a b h
  omega
section
variable {n : Nat} {E : List Edg} {l : List Int}
theorem mem_reachFX (hE : InG n E) (hf : ∀ v ∈ l, 0 ≤ v ∧ v < n) {u : Int} : u ∈ reachF n E l ↔ 0 ≤ u ∧ u < n ∧ Rch E l u := by
  unfold reachF
  rw [mem_outF]
  constructor
  · rintro ⟨h1, h2, h3⟩
    exact ⟨h1, h2, (reach_iff hE hf h1).1 h3⟩
  · rintro ⟨h1, h2, h3⟩
    exact ⟨h1, h2, (reach_iff hE hf h1).2 h3⟩
theorem reachF_told (hE : InG n E) (hf : ∀ v ∈ l, 0 ≤ v ∧ v < n) {v : Int} (hv : v ∈ l) : v ∈ reachF n E l := (mem_reachFX hE hf).2 ⟨(hf v hv).1, (hf v hv).2, .told hv⟩
theorem reachF_shut (hE : InG n E) (hf : ∀ v ∈ l, 0 ≤ v ∧ v < n) {e : Edg} (he : e ∈ E) (h : e.1 ∈ reachF n E l) : e.2 ∈ reachF n E l := by
  have h1 := (mem_reachFX hE hf).1 h
  have h2 := hE e he
  exact (mem_reachFX hE hf).2 ⟨h2.2.2.1, h2.2.2.2, .edge he h1.2.2⟩
theorem reachF_again (hE : InG n E) (hf : ∀ v ∈ l, 0 ≤ v ∧ v < n) : reachF n E (reachF n E l) = reachF n E l := by
  have hf2 : ∀ v ∈ reachF n E l, 0 ≤ v ∧ v < n := fun v hv => ⟨((mem_reachFX hE hf).1 hv).1, ((mem_reachFX hE hf).1 hv).2.1⟩
  show outF _ n = outF _ n
  refine outF_congr fun v hv => ?_
  have h1 := reach_iff (u := (v : Int)) hE hf2 (by omega)
  have h2 := reach_iff (u := (v : Int)) hE hf (by omega)
  have h3 : Rch E (reachF n E l) (v : Int) ↔ Rch E l (v : Int) := ⟨fun h => h.again fun u hu => ((mem_reachFX hE hf).1 hu).2.2, fun h => .told ((mem_reachFX hE hf).2 ⟨by omega, by omega, h⟩)⟩
  rw [h3, ← h2] at h1
  simpa [bAt] using Bool.eq_iff_iff.2 h1
end

theorem mark_mem {m : Nat} {L : List Int} (hL : ∀ v ∈ L, 0 ≤ v ∧ v < (m : Int)) {u : Int} (hu : 0 ≤ u) : bAt (markF L (List.replicate m false)) u = true ↔ u ∈ L := by
  rw [mark_at L _ (by simp) hL hu]
  simp [bAt, List.getD_eq_getElem?_getD, List.getElem?_replicate]
  intro h
  split at h <;> simp at h

/-- Where Reach answers something: all that the law asks. -/
theorem rch_all {n : Int} {E : List Edg} {l : List Int} (hne : rchA n E l ≠ []) : ∃ m : Nat, n = (m : Int) ∧ m ≤ 20 ∧ gB n E = true ∧ InG m E ∧ (∀ v ∈ l, 0 ≤ v ∧ v < (m : Int)) ∧ (∀ v ∈ rchA n E l, 0 ≤ v ∧ v < (m : Int)) ∧ (rchA n E l).Pairwise (· < ·) ∧ (rchA n E l).length ≤ 20 ∧ (∀ v ∈ l, v ∈ rchA n E l) ∧ (∀ e ∈ E, e.1 ∈ rchA n E l → e.2 ∈ rchA n E l) ∧ rchA n E (rchA n E l) = rchA n E l := by
  by_cases h : gB n E = true ∧ l.length ≤ 20 ∧ ∀ v ∈ l, 0 ≤ v ∧ v < n
  · obtain ⟨h0, h1, _⟩ := gB_iff.1 h.1
    obtain ⟨m, rfl⟩ : ∃ m : Nat, n = (m : Int) := ⟨n.toNat, by omega⟩
    have hE := g_in h.1
    have hf := h.2.2
    have hL : ∀ v ∈ reachF m E l, 0 ≤ v ∧ v < (m : Int) := fun v hv => ⟨((mem_reachFX hE hf).1 hv).1, ((mem_reachFX hE hf).1 hv).2.1⟩
    have hl20 : (reachF m E l).length ≤ 20 := Nat.le_trans (outF_lenX _ _) (by omega)
    rw [rch_yes h]
    refine ⟨m, rfl, by omega, h.1, hE, hf, hL, outF_asc _ _, hl20, fun v hv => reachF_told hE hf hv, fun e he h1 => reachF_shut hE hf he h1, ?_⟩
    rw [rch_yes ⟨h.1, hl20, hL⟩]
    exact reachF_again hE hf
  · exact absurd (rch_no h) hne
theorem rch_bad {n : Int} {E : List Edg} {l : List Int} (h : gB n E = false) : rchA n E l = [] := rch_no fun h2 => by rw [h] at h2; exact Bool.noConfusion h2.1
theorem rch_one : rchA 1 [] [0] = [0] := by decide
end Go.Proofs.Ytcdonbepfmhdpaa
/-
  Graphs: the order, as l9order reckons it; plain mathematics.
-/
namespace Go.Proofs.Ytcdonbepfmhdpaa
open Go.RowKit
set_option linter.unusedVariables false
set_option linter.unusedSimpArgs false

/-- One edge does not bar v: it does not come to v, or it comes from one that is told. -/
def barB (dn : List Bool) (v : Nat) (e : Edg) : Bool := !(decide (e.2 = (v : Int))) || bAt dn e.1
/-- v is not told, and none of these edges bars it. -/
def freeD (E : List Edg) (dn : List Bool) (v : Nat) : Bool := !(dn.getD v false) && E.all (barB dn v)
/-- The least of v, v + 1 .. (k of them) that f holds of; -1: none. -/
def lF (f : Nat → Bool) : Nat → Nat → Int
  | 0, _ => -1
  | k + 1, v => if f v = true then (v : Int) else lF f k (v + 1)
/-- The rounds of l9order. -/
def ordD (E : List Edg) (n : Nat) : Nat → List Bool → List Int → List Int
  | 0, _, out => out
  | k + 1, dn, out => if lF (freeD E dn) n 0 < 0 then out else ordD E n k (dn.set (lF (freeD E dn) n 0).toNat true) (out ++ [lF (freeD E dn) n 0])
/-- What l9order answers. -/
def ordR (n : Nat) (E : List Edg) : List Int := ordD E n (n + 1) (List.replicate n false) []

theorem freeD_succ (E : List Edg) (dn : List Bool) (v j : Nat) (h : j < E.length) : freeD (E.take (j + 1)) dn v = (freeD (E.take j) dn v && barB dn v E[j]) := by
  unfold freeD
  rw [List.take_succ_eq_append_getElem h, List.all_append, Bool.and_assoc]
  simp
theorem freeD_zero (E : List Edg) (dn : List Bool) (v : Nat) : freeD (E.take 0) dn v = !(dn.getD v false) := by simp [freeD]
theorem lF_cases (f : Nat → Bool) : ∀ k v, lF f k v = -1 ∨ ∃ u : Nat, lF f k v = (u : Int) ∧ v ≤ u ∧ u < v + k ∧ f u = true
  | 0, v => .inl rfl
  | k + 1, v => by
    unfold lF
    by_cases h : f v = true
    · rw [if_pos h]
      exact .inr ⟨v, rfl, Nat.le_refl _, by omega, h⟩
    · rw [if_neg h]
      rcases lF_cases f k (v + 1) with e | ⟨u, e, h1, h2, h3⟩
      · exact .inl e
      · exact .inr ⟨u, e, by omega, by omega, h3⟩
theorem lF_step (f : Nat → Bool) (n c : Nat) (hc : c + 1 ≤ n) : lF f (n - c) c = if f c = true then (c : Int) else lF f (n - (c + 1)) (c + 1) := by
  have e : n - c = n - (c + 1) + 1 := by omega
  rw [e]
  rfl
theorem ordD_stop {E : List Edg} {n k : Nat} {dn : List Bool} {out : List Int} (h : lF (freeD E dn) n 0 < 0) : ordD E n (k + 1) dn out = out := by
  show (if _ then _ else _) = _
  rw [if_pos h]
theorem ordD_next {E : List Edg} {n k u : Nat} {dn : List Bool} {out : List Int} (h : lF (freeD E dn) n 0 = (u : Int)) : ordD E n (k + 1) dn out = ordD E n k (dn.set u true) (out ++ [(u : Int)]) := by
  show (if _ then _ else _) = _
  rw [h, if_neg (by omega)]
  simp
theorem free_not {E : List Edg} {dn : List Bool} {v : Nat} (h : freeD E dn v = true) : dn.getD v false = false := by
  unfold freeD at h
  rw [Bool.and_eq_true] at h
  simpa using h.1
theorem cnt_repl (n : Nat) : cntB (List.replicate n false) = 0 := by
  unfold cntB
  rw [List.count_replicate]
  simp
end Go.Proofs.Ytcdonbepfmhdpaa
/-
  l9order of the specification.
-/
namespace Go.Proofs.Ytcdonbepfmhdpaa
open Go.RowKit
set_option linter.unusedVariables false
set_option linter.unusedSimpArgs false

end Go.Proofs.Ytcdonbepfmhdpaa
/-
  Order of the specification.
-/
namespace Go.Proofs.Ytcdonbepfmhdpaa
open Go.RowKit
set_option linter.unusedVariables false
set_option linter.unusedSimpArgs false

/-- Is there an order? -/
def ordB (n : Int) (E : List Edg) : Bool := gB n E && decide (n.toNat ≤ (ordR n.toNat E).length)
/-- What Order answers beside it. -/
def ordA (n : Int) (E : List Edg) : List Int := if ordB n E = true then ordR n.toNat E else []

theorem ordR_len (n : Nat) (E : List Edg) : (ordR n E).length ≤ n := by
  have key : ∀ k dn out, dn.length = n → out.length = cntB dn → (ordD E n k dn out).length ≤ n := by
    intro k
    induction k with
    | zero =>
      intro dn out h1 h2
      have := cnt_le dn
      show out.length ≤ n
      omega
    | succ k ih =>
      intro dn out h1 h2
      rcases lF_cases (freeD E dn) n 0 with e | ⟨u, e, _, hu, hfu⟩
      · rw [ordD_stop (by rw [e]; omega)]
        have := cnt_le dn
        omega
      · rw [ordD_next e]
        refine ih _ _ (by simp [h1]) ?_
        rw [List.length_append, (cnt_set dn u).2 (by omega) (free_not hfu), h2]
        rfl
  exact key _ _ _ (by simp) (by rw [cnt_repl]; rfl)

/-- What Order leaves. -/
def OrEnd (n : Int) (E : List Edg) (w : World) (e : Ending) (w' : World) : Prop := ∃ u, e = .returned (.tuple #[u, .bool (ordB n E)]) ∧ NOwn w' w.heap.size u (ordA n E) ∧ Below w.heap.size w w'

end Go.Proofs.Ytcdonbepfmhdpaa
/-
  Graphs: layers, as Layer of the specification reckons them; plain mathematics.
-/
namespace Go.Proofs.Ytcdonbepfmhdpaa
open Go.RowKit
set_option linter.unusedVariables false
set_option linter.unusedSimpArgs false

/-- One edge. -/
def edgeL (v : Int) (far : List Int) (e : Edg) : List Int := if e.1 = v ∧ far.getD e.2.toNat 0 < far.getD e.1.toNat 0 + 1 then far.set e.2.toNat (far.getD e.1.toNat 0 + 1) else far
/-- All edges, from v. -/
def roundL (E : List Edg) (far : List Int) (v : Int) : List Int := E.foldl (edgeL v) far
/-- All of an order. -/
def roundsL (E : List Edg) (l : List Int) (far : List Int) : List Int := l.foldl (roundL E) far
/-- What Layer answers. -/
def layA (n : Int) (E : List Edg) (v : Int) : Int := if ordB n E = true ∧ 0 ≤ v ∧ v < n then (roundsL E (ordR n.toNat E) (List.replicate n.toNat 0)).getD v.toNat 0 else -1

theorem edgeL_len (v : Int) (far : List Int) (e : Edg) : (edgeL v far e).length = far.length := by
  unfold edgeL
  split <;> simp
theorem roundL_len : ∀ (E : List Edg) (far : List Int) (v : Int), (roundL E far v).length = far.length
  | [], _, _ => rfl
  | e :: r, far, v => by
    show (roundL r (edgeL v far e) v).length = _
    rw [roundL_len r, edgeL_len]
theorem roundsL_len (E : List Edg) : ∀ (l far : List Int), (roundsL E l far).length = far.length
  | [], _ => rfl
  | v :: r, far => by
    show (roundsL E r (roundL E far v)).length = _
    rw [roundsL_len E r, roundL_len]
theorem roundL_succ (E : List Edg) (far : List Int) (v : Int) (k : Nat) (h : k < E.length) : roundL (E.take (k + 1)) far v = edgeL v (roundL (E.take k) far v) E[k] := by
  unfold roundL
  rw [List.take_succ_eq_append_getElem h, List.foldl_append]
  rfl
theorem roundsL_succ (E : List Edg) (l far : List Int) (k : Nat) (h : k < l.length) : roundsL E (l.take (k + 1)) far = roundL E (roundsL E (l.take k) far) l[k] := by
  unfold roundsL
  rw [List.take_succ_eq_append_getElem h, List.foldl_append]
  rfl
/-- All numbers are from 0 to t. -/
def UpTo (t : Int) (far : List Int) : Prop := ∀ k, 0 ≤ far.getD k 0 ∧ far.getD k 0 ≤ t
theorem UpTo.mono {t t' : Int} {far : List Int} (h : UpTo t far) (ht : t ≤ t') : UpTo t' far := fun k => by have := h k; omega
theorem upTo_repl (n : Nat) : UpTo 0 (List.replicate n 0) := fun k => by
  simp only [List.getD_eq_getElem?_getD, List.getElem?_replicate]
  split <;> simp
theorem upTo_set {t x : Int} {far : List Int} {j : Nat} (h : UpTo t far) (h0 : 0 ≤ x) (h1 : x ≤ t) : UpTo t (far.set j x) := fun k => by
  simp only [List.getD_eq_getElem?_getD, List.getElem?_set]
  split
  · split
    · exact ⟨h0, h1⟩
    · simp
      exact Int.le_trans h0 h1
  · have := h k
    simpa [List.getD_eq_getElem?_getD] using this
theorem upTo_edge {t v : Int} {far : List Int} {e : Edg} (h : UpTo t far) : UpTo (t + 1) (edgeL v far e) := by
  unfold edgeL
  have h1 := h e.1.toNat
  split
  · exact upTo_set (h.mono (by omega)) (by omega) (by omega)
  · exact h.mono (by omega)
theorem upTo_round {t v : Int} : ∀ (E : List Edg) {far : List Int}, UpTo t far → UpTo (t + E.length) (roundL E far v)
  | [], far, h => by simpa [roundL] using h
  | e :: r, far, h => by
    have := upTo_round (v := v) r (upTo_edge (v := v) (e := e) h)
    show UpTo _ (roundL r (edgeL v far e) v)
    refine this.mono ?_
    simp
    omega
theorem upTo_rounds {t : Int} (E : List Edg) : ∀ (l : List Int) {far : List Int}, UpTo t far → UpTo (t + l.length * E.length) (roundsL E l far)
  | [], far, h => by simpa [roundsL] using h
  | v :: r, far, h => by
    have := upTo_rounds E r (upTo_round (v := v) E h)
    show UpTo _ (roundsL E r (roundL E far v))
    refine this.mono ?_
    rw [List.length_cons]
    have e1 : ((r.length + 1 : Nat) : Int) * (E.length : Int) = (r.length : Int) * (E.length : Int) + (E.length : Int) := by
      rw [Int.natCast_add, Int.add_mul]
      simp
    omega
end Go.Proofs.Ytcdonbepfmhdpaa
