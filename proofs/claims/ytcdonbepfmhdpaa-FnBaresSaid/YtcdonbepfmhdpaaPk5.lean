/-
  Texts that a law leans on, one behind the other; no statement is proved here.
-/
import Derived.Test.YtcdonbepfmhdpaaPk4
import Derived.Deep.RegionHeld3
import Derived.Deep.Cut
/-
  Graphs: layers, as the program reckons them (n rounds over all edges); plain mathematics: where there is an order they are what Layer answers.
-/
namespace Go.Proofs.Ytcdonbepfmhdpaa
open Go.RowKit
set_option linter.unusedVariables false
set_option linter.unusedSimpArgs false

/-- The greater one of x and y + 1. -/
def max1 (x y : Int) : Int := if x < y + 1 then y + 1 else x
/-- One edge. -/
def maxE (f : List Int) (e : Edg) : List Int := f.set e.2.toNat (max1 (fV f e.2) (fV f e.1))
/-- One round. -/
def maxR (E : List Edg) (f : List Int) : List Int := E.foldl maxE f
/-- k rounds. -/
def maxS (E : List Edg) : Nat → List Int → List Int
  | 0, f => f
  | k + 1, f => maxR E (maxS E k f)

theorem maxE_len (f : List Int) (e : Edg) : (maxE f e).length = f.length := by simp [maxE]
theorem maxR_len : ∀ (E : List Edg) (f : List Int), (maxR E f).length = f.length
  | [], _ => rfl
  | e :: r, f => by
    show (maxR r (maxE f e)).length = _
    rw [maxR_len r, maxE_len]
theorem maxS_len (E : List Edg) : ∀ (k : Nat) (f : List Int), (maxS E k f).length = f.length
  | 0, _ => rfl
  | k + 1, f => by
    show (maxR E (maxS E k f)).length = _
    rw [maxR_len, maxS_len E k]
theorem max1_le (x y : Int) : x ≤ max1 x y ∧ y + 1 ≤ max1 x y := by
  unfold max1
  split <;> omega
theorem max1_up {x y t : Int} (h : x ≤ t) (h' : y + 1 ≤ t) : max1 x y ≤ t := by
  unfold max1
  split <;> omega
theorem maxE_at {n : Nat} {f : List Int} {e : Edg} (hf : f.length = n) (he : 0 ≤ e.2 ∧ e.2 < (n : Int)) {u : Int} (hu : 0 ≤ u) : fV (maxE f e) u = if u = e.2 then max1 (fV f e.2) (fV f e.1) else fV f u := fV_set he.1 hu (by omega)
theorem maxE_up {n : Nat} {f : List Int} {e : Edg} (hf : f.length = n) (he : 0 ≤ e.2 ∧ e.2 < (n : Int)) {u : Int} (hu : 0 ≤ u) : fV f u ≤ fV (maxE f e) u := by
  rw [maxE_at hf he hu]
  split
  · next c => rw [c]; exact (max1_le _ _).1
  · exact Int.le_refl _
theorem maxR_up {n : Nat} : ∀ (E : List Edg) {f : List Int}, f.length = n → InG n E → ∀ {u : Int}, 0 ≤ u → fV f u ≤ fV (maxR E f) u
  | [], _, _, _, _, _ => Int.le_refl _
  | e :: r, f, hf, hE, u, hu => Int.le_trans (maxE_up hf ⟨(hE e (by simp)).2.2.1, (hE e (by simp)).2.2.2⟩ hu) (maxR_up r (by rw [maxE_len, hf]) (fun x hx => hE x (List.mem_cons_of_mem _ hx)) hu)
theorem maxR_does {n : Nat} : ∀ (E : List Edg) {f : List Int}, f.length = n → InG n E → ∀ {e : Edg}, e ∈ E → fV f e.1 + 1 ≤ fV (maxR E f) e.2
  | [], _, _, _, _, he => by simp at he
  | x :: r, f, hf, hE, e, he => by
    have hx := hE x (by simp)
    have hr : InG n r := fun y hy => hE y (List.mem_cons_of_mem _ hy)
    have hl : (maxE f x).length = n := by rw [maxE_len, hf]
    show fV f e.1 + 1 ≤ fV (maxR r (maxE f x)) e.2
    rcases List.mem_cons.1 he with rfl | he
    · refine Int.le_trans ?_ (maxR_up r hl hr hx.2.2.1)
      rw [maxE_at hf ⟨hx.2.2.1, hx.2.2.2⟩ hx.2.2.1, if_pos rfl]
      exact (max1_le _ _).2
    · have h1 := maxR_does r hl hr he
      have h2 := maxE_up (f := f) (e := x) hf ⟨hx.2.2.1, hx.2.2.2⟩ (u := e.1) (hr e he).1
      omega
theorem maxR_sound {n : Nat} {g : Int → Int} {E0 : List Edg} (hg : Lay E0 g) : ∀ (E : List Edg) {f : List Int}, f.length = n → InG n E → (∀ e ∈ E, e ∈ E0) → (∀ u : Int, 0 ≤ u → fV f u ≤ g u) → ∀ u : Int, 0 ≤ u → fV (maxR E f) u ≤ g u
  | [], _, _, _, _, h => h
  | e :: r, f, hf, hE, hm, h => by
    have he := hE e (by simp)
    refine maxR_sound hg r (f := maxE f e) (by rw [maxE_len, hf]) (fun x hx => hE x (List.mem_cons_of_mem _ hx)) (fun x hx => hm x (List.mem_cons_of_mem _ hx)) (fun u hu => ?_)
    rw [maxE_at hf ⟨he.2.2.1, he.2.2.2⟩ hu]
    split
    · next c =>
      rw [c]
      have h1 := hg.2.1 e (hm e (by simp))
      have h2 := h e.1 he.1
      exact max1_up (h e.2 he.2.2.1) (by omega)
    · exact h u hu
theorem maxS_sound {n : Nat} {g : Int → Int} {E : List Edg} (hg : Lay E g) (hE : InG n E) : ∀ (k : Nat) {f : List Int}, f.length = n → (∀ u : Int, 0 ≤ u → fV f u ≤ g u) → ∀ u : Int, 0 ≤ u → fV (maxS E k f) u ≤ g u
  | 0, _, _, h => h
  | k + 1, f, hf, h => maxR_sound hg E (by rw [maxS_len, hf]) hE (fun e he => he) (maxS_sound hg hE k hf h)
theorem maxS_does {n : Nat} {g : Int → Int} {E : List Edg} (hg : Lay E g) (hE : InG n E) {f : List Int} (hf : f.length = n) (h0 : ∀ u : Int, 0 ≤ u → 0 ≤ fV f u) : ∀ (k : Nat) (u : Int), 0 ≤ u → g u ≤ (k : Int) → g u ≤ fV (maxS E k f) u
  | 0, u, hu, h => Int.le_trans h (h0 u hu)
  | k + 1, u, hu, h => by
    have hl : (maxS E k f).length = n := by rw [maxS_len, hf]
    show g u ≤ fV (maxR E (maxS E k f)) u
    by_cases c : g u ≤ (k : Int)
    · exact Int.le_trans (maxS_does hg hE hf h0 k u hu c) (maxR_up E hl hE hu)
    · rcases hg.2.2 u with h1 | ⟨e, he, h1, h2⟩
      · omega
      · have h3 := maxS_does hg hE hf h0 k e.1 (hE e he).1 (by omega)
        have h4 := maxR_does E hl hE he
        rw [h1] at h4
        omega
/-- No layer is above how many there are. -/
theorem lay_bound {E : List Edg} {g : Int → Int} (hg : Lay E g) {l : List Int} (ht : Topo E l) : ∀ (i : Nat) (h : i < l.length), g l[i] ≤ (i : Int) := by
  intro i
  induction i using Nat.strongRecOn with
  | ind i ih =>
    intro h
    rcases hg.2.2 l[i] with h0 | ⟨e, he, h1, h2⟩
    · omega
    · obtain ⟨j, hj, hje⟩ := List.getElem_of_mem (ht i h e he h1)
      have hji : j < i := by simp at hj; omega
      rw [List.getElem_take] at hje
      have h3 := ih j hji (by omega)
      rw [hje] at h3
      omega
theorem ord_lay {n : Nat} {E : List Edg} (hE : InG n E) (hb : ordB (n : Int) E = true) : ∃ g, Lay E g ∧ ∀ v : Int, 0 ≤ v → v < (n : Int) → g v ≤ (n : Int) := by
  have hle : n ≤ (ordR n E).length := by
    unfold ordB at hb
    rw [Bool.and_eq_true, decide_eq_true_eq] at hb
    simpa using hb.2
  obtain ⟨hnd, hbd, hall⟩ := ordR_full (n := n) (E := E)
  have hl := rounds_lay hE (ordR_topo hE) hnd (fun v hv => (hbd v hv).1) (fun e he => hall hle e.1 (hE e he).1 (hE e he).2.1)
  refine ⟨_, hl, fun v h0 h1 => ?_⟩
  obtain ⟨i, hi, hie⟩ := List.getElem_of_mem (hall hle v h0 h1)
  have h2 := lay_bound hl (ordR_topo hE) i hi
  rw [hie] at h2
  have h3 := ordR_len n E
  exact Int.le_trans h2 (by omega)
/-- n rounds give the layers. -/
theorem maxS_lay {n : Nat} {E : List Edg} (hE : InG n E) (hb : ordB (n : Int) E = true) {v : Int} (h0 : 0 ≤ v) (h1 : v < (n : Int)) : fV (maxS E n (List.replicate n 0)) v = layA (n : Int) E v := by
  obtain ⟨g, hg, hbd⟩ := ord_lay hE hb
  have hz : ∀ u : Int, fV (List.replicate n 0) u = 0 := fun u => by
    unfold fV
    simp only [List.getD_eq_getElem?_getD, List.getElem?_replicate]
    split <;> rfl
  rw [layA_lay hE hb hg h0 h1]
  have h2 := maxS_sound hg hE n (f := List.replicate n 0) (by simp) (fun u hu => by rw [hz]; exact hg.1 u) v h0
  have h3 := maxS_does hg hE (f := List.replicate n 0) (by simp) (fun u hu => by rw [hz]; exact Int.le_refl _) n v h0 (hbd v h0 h1)
  omega
/-- All numbers stay small. -/
theorem upTo_max {t : Int} {f : List Int} {e : Edg} (h : UpTo t f) : UpTo (t + 1) (maxE f e) := by
  have h1 := h e.1.toNat
  have h2 := h e.2.toNat
  have h3 : max1 (fV f e.2) (fV f e.1) ≤ t + 1 := max1_up (by unfold fV; omega) (by unfold fV; omega)
  have h4 := (max1_le (fV f e.2) (fV f e.1)).1
  refine upTo_set (h.mono (by omega)) ?_ h3
  unfold fV at h4 ⊢
  omega
theorem upTo_maxR {t : Int} : ∀ (E : List Edg) {f : List Int}, UpTo t f → UpTo (t + E.length) (maxR E f)
  | [], f, h => by simpa [maxR] using h
  | e :: r, f, h => by
    have := upTo_maxR r (upTo_max (e := e) h)
    show UpTo _ (maxR r (maxE f e))
    refine this.mono ?_
    simp
    omega
theorem upTo_maxS {t : Int} (E : List Edg) : ∀ (k : Nat) {f : List Int}, UpTo t f → UpTo (t + k * E.length) (maxS E k f)
  | 0, f, h => by simpa [maxS] using h
  | k + 1, f, h => by
    have := upTo_maxR E (upTo_maxS E k h)
    show UpTo _ (maxR E (maxS E k f))
    refine this.mono ?_
    have e1 : ((k + 1 : Nat) : Int) * (E.length : Int) = (k : Int) * (E.length : Int) + (E.length : Int) := by
      rw [Int.natCast_add, Int.add_mul]
      simp
    omega
/-- Where there is an order no way leads back. -/
theorem no_ring {n : Nat} {E : List Edg} (hE : InG n E) (hb : ordB (n : Int) E = true) (v : Int) : ¬ Way E v v := by
  obtain ⟨g, hg, _⟩ := ord_lay hE hb
  have key : ∀ b, Way E v b → g v < g b := fun b h => by
    induction h with
    | one he ha =>
      have := hg.2.1 _ he
      rw [ha] at this
      omega
    | more he _ ih =>
      have := hg.2.1 _ he
      omega
  intro h
  have := key v h
  omega
end Go.Proofs.Ytcdonbepfmhdpaa
/-
  Regions that draw, walked by hand in the order of the text: the library's 'wpAnyH_take' with the slot said; no statement is proved here. For guarded operations that are not wanted.
-/
namespace Go.Proofs.Ytcdonbepfmhdpaa
set_option linter.unusedVariables false

section
variable {P : Program} {ops : Array Oper} {Q : Exit → Act → World → Prop} {md : Region.Mode} {S : World → Prop}
theorem take_yes {i : Nat} (d : Nat) {oi : Oper} {v : Value} {fuel : Nat} {listed : Array Bool} {a : Act} {w : World} (hi : ops[i]? = some oi) (hd : oi.dst = some d)
    (hs : Region.noSelect ops = true) (hf : Region.free md ops listed i = true) (hr : (Region.ready md ops listed).contains i = true)
    (hQ : ∀ c a w, Q (.panic c) (a.put (some d) v) w → Q (.panic c) a w) (hw : Region.wanted oi (yielded ops a.tmps) = true) (hS : S w)
    (hy : ∀ w, S w → (execOp a.eval oi).run P w = .ok (.value v) w)
    (h : wpAnyH P md ops Q S fuel (listed.setIfInBounds i true) (a.put (some d) v) w) : wpAnyH P md ops Q S (fuel + 1) listed a w :=
  wpAnyH_take hi hs hf hr (by rw [hd]; exact hQ) (Or.inl ⟨hw, hy⟩) hS (by rw [hd]; exact h)
theorem take_not {i : Nat} (d : Nat) {oi : Oper} {fuel : Nat} {listed : Array Bool} {a : Act} {w : World} (hi : ops[i]? = some oi) (hd : oi.dst = some d)
    (hs : Region.noSelect ops = true) (hf : Region.free md ops listed i = true) (hr : (Region.ready md ops listed).contains i = true)
    (hQ : ∀ c a w, Q (.panic c) (a.put (some d) undef) w → Q (.panic c) a w) (hw : Region.wanted oi (yielded ops a.tmps) = false) (hS : S w)
    (h : wpAnyH P md ops Q S fuel (listed.setIfInBounds i true) (a.put (some d) undef) w) : wpAnyH P md ops Q S (fuel + 1) listed a w :=
  wpAnyH_take hi hs hf hr (by rw [hd]; exact hQ) (Or.inr ⟨hw, rfl⟩) hS (by rw [hd]; exact h)
end
end Go.Proofs.Ytcdonbepfmhdpaa
/-
  Graphs: what carry of the program leaves, whatever is carried: rounds over all edges; a row that is written, and all else as it was.
-/
namespace Go.Proofs.Ytcdonbepfmhdpaa
open Go.RowKit
set_option linter.unusedVariables false
set_option linter.unusedSimpArgs false

section
variable {α : Type}
/-- One edge. -/
def setE (mt : α → α → α) (d : α) (s : List α) (e : Edg) : List α := s.set e.2.toNat (mt (s.getD e.2.toNat d) (s.getD e.1.toNat d))
/-- k rounds. -/
def itE (g : List α → Edg → List α) (E : List Edg) : Nat → List α → List α
  | 0, s => s
  | k + 1, s => E.foldl g (itE g E k s)
theorem setE_len (mt : α → α → α) (d : α) (s : List α) (e : Edg) : (setE mt d s e).length = s.length := by simp [setE]
theorem foldS_len (mt : α → α → α) (d : α) : ∀ (E : List Edg) (s : List α), (E.foldl (setE mt d) s).length = s.length
  | [], _ => rfl
  | e :: r, s => by
    show (r.foldl (setE mt d) (setE mt d s e)).length = _
    rw [foldS_len mt d r, setE_len]
theorem itE_len (mt : α → α → α) (d : α) (E : List Edg) : ∀ (k : Nat) (s : List α), (itE (setE mt d) E k s).length = s.length
  | 0, _ => rfl
  | k + 1, s => by
    show (E.foldl (setE mt d) (itE (setE mt d) E k s)).length = _
    rw [foldS_len, itE_len mt d E k]
end
theorem itE_car (E : List Edg) : ∀ (k : Nat) (s : List BV), itE (setE (· ||| ·) 0) E k s = carS E k s
  | 0, _ => rfl
  | k + 1, s => by
    show E.foldl (setE (· ||| ·) 0) (itE (setE (· ||| ·) 0) E k s) = carR E (carS E k s)
    rw [itE_car E k s]
    rfl
theorem itE_max (E : List Edg) : ∀ (k : Nat) (s : List Int), itE (setE max1 0) E k s = maxS E k s
  | 0, _ => rfl
  | k + 1, s => by
    show E.foldl (setE max1 0) (itE (setE max1 0) E k s) = maxR E (maxS E k s)
    rw [itE_max E k s]
    rfl
theorem setE_edge {n : Nat} {s : List Bool} {e : Edg} (hs : s.length = n) (he : 0 ≤ e.2 ∧ e.2 < (n : Int)) : setE (· || ·) false s e = edgeF s e := by
  unfold setE edgeF bAt bSet
  cases h1 : s.getD e.1.toNat false with
  | true => simp
  | false =>
    show s.set e.2.toNat (s.getD e.2.toNat false || false) = _
    rw [Bool.or_false, if_neg (by simp)]
    exact set_same (by omega)
theorem foldS_round {n : Nat} : ∀ (E : List Edg) {s : List Bool}, s.length = n → InG n E → E.foldl (setE (· || ·) false) s = roundF E s
  | [], _, _, _ => rfl
  | e :: r, s, hs, hE => by
    show r.foldl (setE (· || ·) false) (setE (· || ·) false s e) = roundF r (edgeF s e)
    rw [setE_edge hs ⟨(hE e (by simp)).2.2.1, (hE e (by simp)).2.2.2⟩]
    exact foldS_round r (by rw [edgeF_len, hs]) (fun x hx => hE x (List.mem_cons_of_mem _ hx))
theorem itE_or {n : Nat} {E : List Edg} (hE : InG n E) : ∀ (k : Nat) {s : List Bool}, s.length = n → itE (setE (· || ·) false) E k s = roundsF E k s
  | 0, _, _ => rfl
  | k + 1, s, hs => by
    show E.foldl (setE (· || ·) false) (itE (setE (· || ·) false) E k s) = roundF E (roundsF E k s)
    rw [itE_or hE k hs]
    exact foldS_round E (by rw [roundsF_len, hs]) hE

/-- A row of one-celled values in block D. -/
def VRow {α : Type} (V : α → Value) (ty D : Nat) (s : List α) (w : World) : Prop := w.heap[D]? = some (.cells (s.map V).toArray ty (0, 0))
section
variable {α : Type} {V : α → Value} {ty D : Nat} {s : List α} {w w' : World}
theorem VRow.at (h : VRow V ty D s w) {m : Nat} (hm : m < s.length) (d : α) : w.cell? ⟨D, m, none⟩ = some (V (s.getD m d)) ∧ w.frozen? ⟨D, m, none⟩ = false := by
  refine ⟨?_, frozen_of_row w D m _ _ h⟩
  rw [cell_of_row w D m _ _ _ h]
  simp [hm, List.getD_eq_getElem?_getD]
theorem VRow.set (h : VRow V ty D s w) (m : Nat) (x : α) : VRow V ty D (s.set m x) (w.setCell ⟨D, m, none⟩ (V x)) := by
  unfold VRow
  rw [heap_setCell_same w D m _ _ _ h]
  simp [List.map_set]
theorem VRow.keep {r : Option Nat} (h : VRow V ty D s w) (hg : w.grownBy w' r) (hr : r ≠ some D) : VRow V ty D s w' := (hg.block D (Array.getElem?_eq_some_iff.1 h).1 (fun e => hr e.symm)).trans h
theorem VRow.lt (h : VRow V ty D s w) : D < w.heap.size := (Array.getElem?_eq_some_iff.1 h).1
/-- The box of a call, a row that it writes, and all else as it was. -/
def CSt (V : α → Value) (ty D : Nat) (w : World) (o : Obj) (s : List α) (wr : World) : Prop := VRow V ty D s wr ∧ wr.heap[w.heap.size]? = some o ∧ w.grownBy wr (some D) ∧ w.heap.size + 1 ≤ wr.heap.size
variable {o : Obj} {wr : World}
theorem CSt.begin (h : VRow V ty D s w) (o : Obj) : CSt V ty D w o s (w.alloc o) :=
  ⟨h.keep (World.grownBy_alloc w o none) (by simp), (MapKept.heap_alloc w o).1, World.grownBy_alloc w o (some D), by simp⟩
theorem CSt.alloc (h : CSt V ty D w o s wr) (o' : Obj) : CSt V ty D w o s (wr.alloc o') := by
  obtain ⟨h1, h2, h3, h4⟩ := h
  exact ⟨h1.keep (World.grownBy_alloc wr o' none) (by simp), ((World.grownBy_alloc wr o' none).block _ (by omega) (by simp)).trans h2, grownBy_trans h3 (World.grownBy_alloc wr o' (some D)), by simp; omega⟩
theorem CSt.drew (h : CSt V ty D w o s wr) : CSt V ty D w o s wr.drew := by
  obtain ⟨h1, h2, h3, h4⟩ := h
  exact ⟨h1, h2, ⟨h3.os, h3.tape, h3.output, h3.size, h3.block⟩, h4⟩
theorem CSt.set (h : CSt V ty D w o s wr) (hD : D < w.heap.size) (m : Nat) (x : α) : CSt V ty D w o (s.set m x) (wr.setCell ⟨D, m, none⟩ (V x)) := by
  obtain ⟨h1, h2, h3, h4⟩ := h
  exact ⟨h1.set m x, (Below.heap_setCell wr _ _ _ (by show w.heap.size ≠ D; omega)).trans h2, grownBy_trans h3 (grown1 wr D m _), by simp [World.setCell]; omega⟩
theorem CSt.agree {N : Nat} (h : CSt V ty D w o s wr) (hN : N ≤ D) (hD : D < w.heap.size) : Agree (fun b => b < N) w wr := fun b hb => h.2.2.1.block b (by omega) (fun e => by simp at e; omega)
end
end Go.Proofs.Ytcdonbepfmhdpaa
/-
  carry of the program over bools.
-/
namespace Go.Proofs.Ytcdonbepfmhdpaa
open Go.RowKit
set_option linter.unusedVariables false
set_option linter.unusedSimpArgs false

set_option maxHeartbeats 6400000 in
set_option maxRecDepth 100000 in
theorem carryB_any (N n D : Nat) (x : Value) (E : List Edg) (mt : Bool → Bool → Bool) (s : List Bool) (w : World) (hx : ESeg (fun b => b < N) w x E) (hN : N ≤ D) (hn : n ≤ 20) (hE : InG n E) (hs : s.length = n) (hrow : VRow Value.bool 4 D s w)
    (HM : ∀ k j, k < n → (hj : j < E.length) → ∀ wx, Calls Try.prog 32 #[(.bool ((((E.take j).foldl (setE mt false) (itE (setE mt false) E k s)).getD E[j].2.toNat false))), (.bool ((((E.take j).foldl (setE mt false) (itE (setE mt false) E k s)).getD E[j].1.toNat false)))] wx fun e w' => e = .returned (.bool ((mt (((E.take j).foldl (setE mt false) (itE (setE mt false) E k s)).getD E[j].2.toNat false) (((E.take j).foldl (setE mt false) (itE (setE mt false) E k s)).getD E[j].1.toNat false)))) ∧ wx = w') :
    Calls Try.prog 31 #[.agg #[.int .i64 (n : Int), x], .slice (some ⟨D, 0, none⟩) n n, .func (.func 32) #[] #[]] w fun e w' => e = .returned (.tuple #[]) ∧ VRow Value.bool 4 D (itE (setE mt false) E n s) w' ∧ w.grownBy w' (some D) := by
  have hDw := hrow.lt
  have HX := hide' hx
  have HE := hide' hE
  have HMh := hide' HM
  have HD := hide' hDw
  have hS0 := hide' (fun o => CSt.begin hrow o)
  obtain ⟨a, cap, rfl, hlc, hcm, -, -⟩ := hx
  unfold maxLen at hcm
  have hnn : (0 : Int) ≤ (n : Int) := by omega
  have hn20 : (n : Int) ≤ 20 := by omega
  clear hE HM hrow hDw
  go_enter Try.func31, Try.ntmps31
  go_wp2_with fail
  go_loopw [10] (fun i wr => ∃ k : Nat, i = .int .i64 k ∧ k ≤ n ∧ Hid (CSt Value.bool 4 D w (.cells #[.int .i64 (n : Int), .slice a E.length cap] 25) (itE (setE mt false) E k s) wr)) (fun i _ => n - (intOf i).toNat)
  case atStart => exact ⟨0, rfl, Nat.zero_le _, hS0.out _⟩
  case round =>
    clear hS0
    obtain ⟨k, rfl, hk, hS⟩ := hrel
    obtain ⟨g0, g1, -⟩ := row2 hS.out.2.1
    by_cases hkn : k < n
    rotate_left
    · have hkn' : ¬ (k : Int) < (n : Int) := by omega
      obtain rfl : k = n := by omega
      have HF := hide' (And.intro hS.out.1 hS.out.2.2.1)
      clear hS
      go_wp2
      go_end0
      exact ⟨rfl, HF.out⟩
    have hkn' : (k : Int) < (n : Int) := by omega
    have hdl : (itE (setE mt false) E k s).length = n := by rw [itE_len, hs]
    have hS2 : Hid (CSt Value.bool 4 D w (.cells #[.int .i64 (n : Int), .slice a E.length cap] 25) ((E.take 0).foldl (setE mt false) (itE (setE mt false) E k s)) wr) := hS.out
    have HNx : Hid (E.foldl (setE mt false) (itE (setE mt false) E k s) = itE (setE mt false) E (k + 1) s) := rfl
    have HMk := hide' (fun j => HMh.out k j hkn)
    clear hS HMh
    generalize itE (setE mt false) E k s = dk at *
    go_wp2_with fail
    go_loopw [15] (fun i wz => ∃ j : Nat, i = .int .i64 j ∧ j ≤ E.length ∧ Hid (CSt Value.bool 4 D w (.cells #[.int .i64 (n : Int), .slice a E.length cap] 25) ((E.take j).foldl (setE mt false) dk) wz)) (fun i _ => E.length - (intOf i).toNat)
    case atStart => exact ⟨0, rfl, Nat.zero_le _, hS2⟩
    case round =>
      clear hS2 g0 g1
      obtain ⟨j, rfl, hj, hS⟩ := hrel
      obtain ⟨g0, g1, -⟩ := row2 hS.out.2.1
      by_cases hjl : j < E.length
      rotate_left
      · have hjl' : ¬ (j : Int) < (E.length : Int) := by omega
        obtain rfl : j = E.length := by omega
        have HN := hS
        rw [List.take_length, HNx.out] at HN
        clear hS
        go_wp2
        go_roundw
        case rel => exact ⟨k + 1, by go_num, by omega, HN⟩
        case measure => simp [intOf]; omega
      have hjl' : (j : Int) < (E.length : Int) := by omega
      have hag := hS.out.agree hN HD.out
      obtain ⟨b, off, rfl, _, q0, q1⟩ := (HX.out.agree hag).at hjl
      have he := HE.out E[j] (List.getElem_mem hjl)
      obtain ⟨m, hm⟩ : ∃ m : Nat, E[j].1 = (m : Int) := ⟨E[j].1.toNat, by omega⟩
      obtain ⟨m1, hm'⟩ : ∃ m : Nat, E[j].2 = (m : Int) := ⟨E[j].2.toNat, by omega⟩
      have hrl : ((E.take j).foldl (setE mt false) dk).length = n := by rw [foldS_len, hdl]
      have hs : (E.take (j + 1)).foldl (setE mt false) dk = ((E.take j).foldl (setE mt false) dk).set m1 (mt (((E.take j).foldl (setE mt false) dk).getD m1 false) (((E.take j).foldl (setE mt false) dk).getD m false)) := by
        rw [foldE_succ (setE mt false) E dk j hjl]
        show ((E.take j).foldl (setE mt false) dk).set E[j].2.toNat (mt (((E.take j).foldl (setE mt false) dk).getD E[j].2.toNat false) (((E.take j).foldl (setE mt false) dk).getD E[j].1.toNat false)) = _
        rw [hm, hm', Int.toNat_natCast, Int.toNat_natCast]
      have HM1 := hide' (HMk.out j hjl)
      rw [hm] at q0
      rw [hm'] at q1
      rw [hm, hm', Int.toNat_natCast, Int.toNat_natCast] at HM1
      have hm1 : (0 : Int) ≤ (m : Int) := by omega
      have hm2 : (m : Int) < (n : Int) := by omega
      have hm3 : (0 : Int) ≤ (m1 : Int) := by omega
      have hm4 : (m1 : Int) < (n : Int) := by omega
      have hS' := hS.out.alloc (.cells #[.int .i64 (m : Int), .int .i64 (m1 : Int)] 36)
      obtain ⟨e0, e1, -⟩ := row2 (MapKept.heap_alloc wr (.cells #[.int .i64 (m : Int), .int .i64 (m1 : Int)] 36)).1
      obtain ⟨r0, -⟩ := hS'.1.at (m := m) (by omega) false
      obtain ⟨t0, t1⟩ := hS'.1.at (m := m1) (by omega) false
      have HN := hide' (hS'.set HD.out m1 (mt (((E.take j).foldl (setE mt false) dk).getD m1 false) (((E.take j).foldl (setE mt false) dk).getD m false))).drew
      rw [← hs] at HN
      have hDz : D ≠ wr.heap.size := by have := hS.out.1.lt; omega
      (try dsimp only at r0 t0)
      clear hS hS' hag hm hm' hs he
      generalize ((E.take j).foldl (setE mt false) dk).getD m1 false = x1 at *
      generalize ((E.take j).foldl (setE mt false) dk).getD m false = x0 at *
      go_wp2_with fail
      generalize wr.alloc (.cells #[.int .i64 (m : Int), .int .i64 (m1 : Int)] 36) = W at *
      generalize wr.heap.size = eb at *
      have HSt : Hid (∀ v, (W.drew.setCell ⟨D, m1, none⟩ v).cell? ⟨eb, 0, none⟩ = some (.int .i64 (m : Int)) ∧ (W.drew.setCell ⟨D, m1, none⟩ v).cell? ⟨eb, 1, none⟩ = some (.int .i64 (m1 : Int))) := fun v => by
        have hh := Below.heap_setCell W.drew ⟨D, m1, none⟩ v eb (fun h => hDz h.symm)
        exact ⟨(World.cell?_of_block hh).trans e0, (World.cell?_of_block hh).trans e1⟩
      clear q0 q1 g0 g1 HX HE HMk HNx
      refine wp_region_held_drew (S := (fun wx => wx.cell? ⟨eb, 0, none⟩ = some (.int .i64 (m : Int)) ∧ wx.cell? ⟨eb, 1, none⟩ = some (.int .i64 (m1 : Int)))) (by kernel_rfl) ⟨e0, e1⟩ (fun hHeld => ?_)
      refine take_yes (i := 0) 19 (v := ?_) rfl rfl (by kernel_rfl) (by kernel_rfl) (by kernel_rfl) (fun _ _ _ h => h) (by kernel_rfl) hHeld ?_ ?_
      rotate_left
      focus (intro w hSw; (try dsimp only at hSw); go_simp; (try with_reducible rfl))
      simp only [Act.put, List.setIfInBounds_toArray, List.set_cons_zero, List.set_cons_succ]
      refine take_yes (i := 1) 20 (v := ?_) rfl rfl (by kernel_rfl) (by kernel_rfl) (by kernel_rfl) (fun _ _ _ h => h) (by kernel_rfl) hHeld ?_ ?_
      rotate_left
      focus (intro w hSw; (try dsimp only at hSw); go_simp; (try with_reducible rfl))
      simp only [Act.put, List.setIfInBounds_toArray, List.set_cons_zero, List.set_cons_succ]
      refine take_yes (i := 2) 21 (v := ?_) rfl rfl (by kernel_rfl) (by kernel_rfl) (by kernel_rfl) (fun _ _ _ h => h) (by kernel_rfl) hHeld ?_ ?_
      rotate_left
      focus (intro w hSw; (try dsimp only at hSw); go_simp; (try with_reducible rfl))
      simp only [Act.put, List.setIfInBounds_toArray, List.set_cons_zero, List.set_cons_succ]
      refine take_yes (i := 3) 22 (v := ?_) rfl rfl (by kernel_rfl) (by kernel_rfl) (by kernel_rfl) (fun _ _ _ h => h) (by kernel_rfl) hHeld ?_ ?_
      rotate_left
      focus (intro w hSw; (try dsimp only at hSw); go_simp; (try with_reducible rfl))
      simp only [Act.put, List.setIfInBounds_toArray, List.set_cons_zero, List.set_cons_succ]
      refine take_yes (i := 4) 23 (v := ?_) rfl rfl (by kernel_rfl) (by kernel_rfl) (by kernel_rfl) (fun _ _ _ h => h) (by kernel_rfl) hHeld ?_ ?_
      rotate_left
      focus (intro w hSw; (try dsimp only at hSw); go_simp; (try with_reducible rfl))
      simp only [Act.put, List.setIfInBounds_toArray, List.set_cons_zero, List.set_cons_succ]
      refine take_yes (i := 5) 24 (v := ?_) rfl rfl (by kernel_rfl) (by kernel_rfl) (by kernel_rfl) (fun _ _ _ h => h) (by kernel_rfl) hHeld ?_ ?_
      rotate_left
      focus (intro w hSw; (try dsimp only at hSw); go_simp; (try with_reducible rfl))
      simp only [Act.put, List.setIfInBounds_toArray, List.set_cons_zero, List.set_cons_succ]
      refine take_yes (i := 6) 25 (v := ?_) rfl rfl (by kernel_rfl) (by kernel_rfl) (by kernel_rfl) (fun _ _ _ h => h) (by kernel_rfl) hHeld ?_ ?_
      rotate_left
      focus (intro w hSw; (try dsimp only at hSw); go_simp; (try with_reducible rfl))
      simp only [Act.put, List.setIfInBounds_toArray, List.set_cons_zero, List.set_cons_succ]
      refine take_yes (i := 7) 26 (v := ?_) rfl rfl (by kernel_rfl) (by kernel_rfl) (by kernel_rfl) (fun _ _ _ h => h) (by kernel_rfl) hHeld ?_ ?_
      rotate_left
      focus (intro w hSw; (try dsimp only at hSw); go_simp; (try with_reducible rfl))
      simp only [Act.put, List.setIfInBounds_toArray, List.set_cons_zero, List.set_cons_succ]
      refine take_yes (i := 9) 28 (v := ?_) rfl rfl (by kernel_rfl) (by kernel_rfl) (by kernel_rfl) (fun _ _ _ h => h) (by kernel_rfl) hHeld ?_ ?_
      rotate_left
      focus (intro w hSw; (try dsimp only at hSw); go_simp; (try with_reducible rfl))
      simp only [Act.put, List.setIfInBounds_toArray, List.set_cons_zero, List.set_cons_succ]
      refine take_yes (i := 10) 29 (v := ?_) rfl rfl (by kernel_rfl) (by kernel_rfl) (by kernel_rfl) (fun _ _ _ h => h) (by kernel_rfl) hHeld ?_ ?_
      rotate_left
      focus (intro w hSw; (try dsimp only at hSw); go_simp; (try with_reducible rfl))
      simp only [Act.put, List.setIfInBounds_toArray, List.set_cons_zero, List.set_cons_succ]
      refine take_yes (i := 11) 30 (v := ?_) rfl rfl (by kernel_rfl) (by kernel_rfl) (by kernel_rfl) (fun _ _ _ h => h) (by kernel_rfl) hHeld ?_ ?_
      rotate_left
      focus (intro w hSw; (try dsimp only at hSw); go_simp; (try with_reducible rfl))
      simp only [Act.put, List.setIfInBounds_toArray, List.set_cons_zero, List.set_cons_succ]
      refine take_yes (i := 12) 31 (v := ?_) rfl rfl (by kernel_rfl) (by kernel_rfl) (by kernel_rfl) (fun _ _ _ h => h) (by kernel_rfl) hHeld ?_ ?_
      rotate_left
      focus (intro w hSw; (try dsimp only at hSw); go_simp; (try with_reducible rfl))
      simp only [Act.put, List.setIfInBounds_toArray, List.set_cons_zero, List.set_cons_succ]
      refine wpAnyH_ready (rs := [8, 13]) (by kernel_rfl) (by simp) ?_
      refine AllReadyH.cons rfl (fun K hK => ?_) (AllReadyH.cons rfl (fun K hK => ?_) AllReadyH.nil)
      all_goals
        go_simp
        refine hK.out _ _ hHeld (fun hHeld => ?_)
        clear hK
        (try simp only [Act.put, List.setIfInBounds_toArray, List.set_cons_zero, List.set_cons_succ])
      focus
        refine wpAnyH_ready (rs := [13]) (by kernel_rfl) (by simp) ?_
        refine AllReadyH.cons rfl (fun K hK => ?_) AllReadyH.nil
        go_simp
        refine hK.out _ _ hHeld (fun hHeld => ?_)
        clear hK
        (try simp only [Act.put, List.setIfInBounds_toArray, List.set_cons_zero, List.set_cons_succ])
      rotate_left
      focus
        refine wpAnyH_ready (rs := [8]) (by kernel_rfl) (by simp) ?_
        refine AllReadyH.cons rfl (fun K hK => ?_) AllReadyH.nil
        go_simp
        refine hK.out _ _ hHeld (fun hHeld => ?_)
        clear hK
        (try simp only [Act.put, List.setIfInBounds_toArray, List.set_cons_zero, List.set_cons_succ])
      rotate_left
      all_goals
        refine wpAnyH_ready (rs := [14]) (by kernel_rfl) (by simp) ?_
        refine AllReadyH.cons rfl (fun K hK => ?_) AllReadyH.nil
        go_simp
        go_at_call 32
        refine (HM1.out _).mono ?_
        rintro e w5 ⟨rfl, e5⟩
        obtain rfl := e5
        have hS := hHeld
        go_wp2_with fail
        refine hK.out _ _ hS (fun hHeld => ?_)
        clear hK
        (try simp only [Act.put, List.setIfInBounds_toArray, List.set_cons_zero, List.set_cons_succ])
        refine take_yes (i := 15) 34 (v := ?_) rfl rfl (by kernel_rfl) (by kernel_rfl) (by kernel_rfl) (fun _ _ _ h => h) (by kernel_rfl) hHeld ?_ ?_
        rotate_left
        focus (intro w hSw; (try dsimp only at hSw); go_simp; (try with_reducible rfl))
        simp only [Act.put, List.setIfInBounds_toArray, List.set_cons_zero, List.set_cons_succ]
        refine wpAnyH_ready (rs := [16]) (by kernel_rfl) (by simp) ?_
        refine AllReadyH.cons rfl (fun K hK => ?_) AllReadyH.nil
        go_simp
        refine hK.out _ _ (HSt.out _) (fun hHeld => ?_)
        clear hK
        (try simp only [Act.put, List.setIfInBounds_toArray, List.set_cons_zero, List.set_cons_succ])
        refine wpAnyH_done (by kernel_rfl) ?_ _
        go_wp2
        go_roundw
        case rel => exact ⟨j + 1, by go_num, by omega, HN⟩
        case measure => simp [intOf]; omega
end Go.Proofs.Ytcdonbepfmhdpaa
/-
  carry of the program over sets of vertices.
-/
namespace Go.Proofs.Ytcdonbepfmhdpaa
open Go.RowKit
set_option linter.unusedVariables false
set_option linter.unusedSimpArgs false

set_option maxHeartbeats 6400000 in
set_option maxRecDepth 100000 in
theorem carryV_any (N n D : Nat) (x : Value) (E : List Edg) (mt : BV → BV → BV) (s : List BV) (w : World) (hx : ESeg (fun b => b < N) w x E) (hN : N ≤ D) (hn : n ≤ 20) (hE : InG n E) (hs : s.length = n) (hrow : VRow (fun x : BV => Value.int .u32 (x.toNat : Int)) 53 D s w)
    (HM : ∀ k j, k < n → (hj : j < E.length) → ∀ wx, Calls Try.prog 47 #[(.int .u32 ((((E.take j).foldl (setE mt 0) (itE (setE mt 0) E k s)).getD E[j].2.toNat 0).toNat : Int)), (.int .u32 ((((E.take j).foldl (setE mt 0) (itE (setE mt 0) E k s)).getD E[j].1.toNat 0).toNat : Int))] wx fun e w' => e = .returned (.int .u32 ((mt (((E.take j).foldl (setE mt 0) (itE (setE mt 0) E k s)).getD E[j].2.toNat 0) (((E.take j).foldl (setE mt 0) (itE (setE mt 0) E k s)).getD E[j].1.toNat 0)).toNat : Int)) ∧ wx = w') :
    Calls Try.prog 46 #[.agg #[.int .i64 (n : Int), x], .slice (some ⟨D, 0, none⟩) n n, .func (.func 47) #[] #[]] w fun e w' => e = .returned (.tuple #[]) ∧ VRow (fun x : BV => Value.int .u32 (x.toNat : Int)) 53 D (itE (setE mt 0) E n s) w' ∧ w.grownBy w' (some D) := by
  have hDw := hrow.lt
  have HX := hide' hx
  have HE := hide' hE
  have HMh := hide' HM
  have HD := hide' hDw
  have hS0 := hide' (fun o => CSt.begin hrow o)
  obtain ⟨a, cap, rfl, hlc, hcm, -, -⟩ := hx
  unfold maxLen at hcm
  have hnn : (0 : Int) ≤ (n : Int) := by omega
  have hn20 : (n : Int) ≤ 20 := by omega
  clear hE HM hrow hDw
  go_enter Try.func46, Try.ntmps46
  go_wp2_with fail
  go_loopw [10] (fun i wr => ∃ k : Nat, i = .int .i64 k ∧ k ≤ n ∧ Hid (CSt (fun x : BV => Value.int .u32 (x.toNat : Int)) 53 D w (.cells #[.int .i64 (n : Int), .slice a E.length cap] 25) (itE (setE mt 0) E k s) wr)) (fun i _ => n - (intOf i).toNat)
  case atStart => exact ⟨0, rfl, Nat.zero_le _, hS0.out _⟩
  case round =>
    clear hS0
    obtain ⟨k, rfl, hk, hS⟩ := hrel
    obtain ⟨g0, g1, -⟩ := row2 hS.out.2.1
    by_cases hkn : k < n
    rotate_left
    · have hkn' : ¬ (k : Int) < (n : Int) := by omega
      obtain rfl : k = n := by omega
      have HF := hide' (And.intro hS.out.1 hS.out.2.2.1)
      clear hS
      go_wp2
      go_end0
      exact ⟨rfl, HF.out⟩
    have hkn' : (k : Int) < (n : Int) := by omega
    have hdl : (itE (setE mt 0) E k s).length = n := by rw [itE_len, hs]
    have hS2 : Hid (CSt (fun x : BV => Value.int .u32 (x.toNat : Int)) 53 D w (.cells #[.int .i64 (n : Int), .slice a E.length cap] 25) ((E.take 0).foldl (setE mt 0) (itE (setE mt 0) E k s)) wr) := hS.out
    have HNx : Hid (E.foldl (setE mt 0) (itE (setE mt 0) E k s) = itE (setE mt 0) E (k + 1) s) := rfl
    have HMk := hide' (fun j => HMh.out k j hkn)
    clear hS HMh
    generalize itE (setE mt 0) E k s = dk at *
    go_wp2_with fail
    go_loopw [15] (fun i wz => ∃ j : Nat, i = .int .i64 j ∧ j ≤ E.length ∧ Hid (CSt (fun x : BV => Value.int .u32 (x.toNat : Int)) 53 D w (.cells #[.int .i64 (n : Int), .slice a E.length cap] 25) ((E.take j).foldl (setE mt 0) dk) wz)) (fun i _ => E.length - (intOf i).toNat)
    case atStart => exact ⟨0, rfl, Nat.zero_le _, hS2⟩
    case round =>
      clear hS2 g0 g1
      obtain ⟨j, rfl, hj, hS⟩ := hrel
      obtain ⟨g0, g1, -⟩ := row2 hS.out.2.1
      by_cases hjl : j < E.length
      rotate_left
      · have hjl' : ¬ (j : Int) < (E.length : Int) := by omega
        obtain rfl : j = E.length := by omega
        have HN := hS
        rw [List.take_length, HNx.out] at HN
        clear hS
        go_wp2
        go_roundw
        case rel => exact ⟨k + 1, by go_num, by omega, HN⟩
        case measure => simp [intOf]; omega
      have hjl' : (j : Int) < (E.length : Int) := by omega
      have hag := hS.out.agree hN HD.out
      obtain ⟨b, off, rfl, _, q0, q1⟩ := (HX.out.agree hag).at hjl
      have he := HE.out E[j] (List.getElem_mem hjl)
      obtain ⟨m, hm⟩ : ∃ m : Nat, E[j].1 = (m : Int) := ⟨E[j].1.toNat, by omega⟩
      obtain ⟨m1, hm'⟩ : ∃ m : Nat, E[j].2 = (m : Int) := ⟨E[j].2.toNat, by omega⟩
      have hrl : ((E.take j).foldl (setE mt 0) dk).length = n := by rw [foldS_len, hdl]
      have hs : (E.take (j + 1)).foldl (setE mt 0) dk = ((E.take j).foldl (setE mt 0) dk).set m1 (mt (((E.take j).foldl (setE mt 0) dk).getD m1 0) (((E.take j).foldl (setE mt 0) dk).getD m 0)) := by
        rw [foldE_succ (setE mt 0) E dk j hjl]
        show ((E.take j).foldl (setE mt 0) dk).set E[j].2.toNat (mt (((E.take j).foldl (setE mt 0) dk).getD E[j].2.toNat 0) (((E.take j).foldl (setE mt 0) dk).getD E[j].1.toNat 0)) = _
        rw [hm, hm', Int.toNat_natCast, Int.toNat_natCast]
      have HM1 := hide' (HMk.out j hjl)
      rw [hm] at q0
      rw [hm'] at q1
      rw [hm, hm', Int.toNat_natCast, Int.toNat_natCast] at HM1
      have hm1 : (0 : Int) ≤ (m : Int) := by omega
      have hm2 : (m : Int) < (n : Int) := by omega
      have hm3 : (0 : Int) ≤ (m1 : Int) := by omega
      have hm4 : (m1 : Int) < (n : Int) := by omega
      have hS' := hS.out.alloc (.cells #[.int .i64 (m : Int), .int .i64 (m1 : Int)] 36)
      obtain ⟨e0, e1, -⟩ := row2 (MapKept.heap_alloc wr (.cells #[.int .i64 (m : Int), .int .i64 (m1 : Int)] 36)).1
      obtain ⟨r0, -⟩ := hS'.1.at (m := m) (by omega) 0
      obtain ⟨t0, t1⟩ := hS'.1.at (m := m1) (by omega) 0
      have HN := hide' (hS'.set HD.out m1 (mt (((E.take j).foldl (setE mt 0) dk).getD m1 0) (((E.take j).foldl (setE mt 0) dk).getD m 0))).drew
      rw [← hs] at HN
      have hDz : D ≠ wr.heap.size := by have := hS.out.1.lt; omega
      (try dsimp only at r0 t0)
      clear hS hS' hag hm hm' hs he
      generalize ((E.take j).foldl (setE mt 0) dk).getD m1 0 = x1 at *
      generalize ((E.take j).foldl (setE mt 0) dk).getD m 0 = x0 at *
      go_wp2_with fail
      generalize wr.alloc (.cells #[.int .i64 (m : Int), .int .i64 (m1 : Int)] 36) = W at *
      generalize wr.heap.size = eb at *
      have HSt : Hid (∀ v, (W.drew.setCell ⟨D, m1, none⟩ v).cell? ⟨eb, 0, none⟩ = some (.int .i64 (m : Int)) ∧ (W.drew.setCell ⟨D, m1, none⟩ v).cell? ⟨eb, 1, none⟩ = some (.int .i64 (m1 : Int))) := fun v => by
        have hh := Below.heap_setCell W.drew ⟨D, m1, none⟩ v eb (fun h => hDz h.symm)
        exact ⟨(World.cell?_of_block hh).trans e0, (World.cell?_of_block hh).trans e1⟩
      clear q0 q1 g0 g1 HX HE HMk HNx
      refine wp_region_held_drew (S := (fun wx => wx.cell? ⟨eb, 0, none⟩ = some (.int .i64 (m : Int)) ∧ wx.cell? ⟨eb, 1, none⟩ = some (.int .i64 (m1 : Int)))) (by kernel_rfl) ⟨e0, e1⟩ (fun hHeld => ?_)
      refine take_yes (i := 0) 19 (v := ?_) rfl rfl (by kernel_rfl) (by kernel_rfl) (by kernel_rfl) (fun _ _ _ h => h) (by kernel_rfl) hHeld ?_ ?_
      rotate_left
      focus (intro w hSw; (try dsimp only at hSw); go_simp; (try with_reducible rfl))
      simp only [Act.put, List.setIfInBounds_toArray, List.set_cons_zero, List.set_cons_succ]
      refine take_yes (i := 1) 20 (v := ?_) rfl rfl (by kernel_rfl) (by kernel_rfl) (by kernel_rfl) (fun _ _ _ h => h) (by kernel_rfl) hHeld ?_ ?_
      rotate_left
      focus (intro w hSw; (try dsimp only at hSw); go_simp; (try with_reducible rfl))
      simp only [Act.put, List.setIfInBounds_toArray, List.set_cons_zero, List.set_cons_succ]
      refine take_yes (i := 2) 21 (v := ?_) rfl rfl (by kernel_rfl) (by kernel_rfl) (by kernel_rfl) (fun _ _ _ h => h) (by kernel_rfl) hHeld ?_ ?_
      rotate_left
      focus (intro w hSw; (try dsimp only at hSw); go_simp; (try with_reducible rfl))
      simp only [Act.put, List.setIfInBounds_toArray, List.set_cons_zero, List.set_cons_succ]
      refine take_yes (i := 3) 22 (v := ?_) rfl rfl (by kernel_rfl) (by kernel_rfl) (by kernel_rfl) (fun _ _ _ h => h) (by kernel_rfl) hHeld ?_ ?_
      rotate_left
      focus (intro w hSw; (try dsimp only at hSw); go_simp; (try with_reducible rfl))
      simp only [Act.put, List.setIfInBounds_toArray, List.set_cons_zero, List.set_cons_succ]
      refine take_yes (i := 4) 23 (v := ?_) rfl rfl (by kernel_rfl) (by kernel_rfl) (by kernel_rfl) (fun _ _ _ h => h) (by kernel_rfl) hHeld ?_ ?_
      rotate_left
      focus (intro w hSw; (try dsimp only at hSw); go_simp; (try with_reducible rfl))
      simp only [Act.put, List.setIfInBounds_toArray, List.set_cons_zero, List.set_cons_succ]
      refine take_yes (i := 5) 24 (v := ?_) rfl rfl (by kernel_rfl) (by kernel_rfl) (by kernel_rfl) (fun _ _ _ h => h) (by kernel_rfl) hHeld ?_ ?_
      rotate_left
      focus (intro w hSw; (try dsimp only at hSw); go_simp; (try with_reducible rfl))
      simp only [Act.put, List.setIfInBounds_toArray, List.set_cons_zero, List.set_cons_succ]
      refine take_yes (i := 6) 25 (v := ?_) rfl rfl (by kernel_rfl) (by kernel_rfl) (by kernel_rfl) (fun _ _ _ h => h) (by kernel_rfl) hHeld ?_ ?_
      rotate_left
      focus (intro w hSw; (try dsimp only at hSw); go_simp; (try with_reducible rfl))
      simp only [Act.put, List.setIfInBounds_toArray, List.set_cons_zero, List.set_cons_succ]
      refine take_yes (i := 7) 26 (v := ?_) rfl rfl (by kernel_rfl) (by kernel_rfl) (by kernel_rfl) (fun _ _ _ h => h) (by kernel_rfl) hHeld ?_ ?_
      rotate_left
      focus (intro w hSw; (try dsimp only at hSw); go_simp; (try with_reducible rfl))
      simp only [Act.put, List.setIfInBounds_toArray, List.set_cons_zero, List.set_cons_succ]
      refine take_yes (i := 9) 28 (v := ?_) rfl rfl (by kernel_rfl) (by kernel_rfl) (by kernel_rfl) (fun _ _ _ h => h) (by kernel_rfl) hHeld ?_ ?_
      rotate_left
      focus (intro w hSw; (try dsimp only at hSw); go_simp; (try with_reducible rfl))
      simp only [Act.put, List.setIfInBounds_toArray, List.set_cons_zero, List.set_cons_succ]
      refine take_yes (i := 10) 29 (v := ?_) rfl rfl (by kernel_rfl) (by kernel_rfl) (by kernel_rfl) (fun _ _ _ h => h) (by kernel_rfl) hHeld ?_ ?_
      rotate_left
      focus (intro w hSw; (try dsimp only at hSw); go_simp; (try with_reducible rfl))
      simp only [Act.put, List.setIfInBounds_toArray, List.set_cons_zero, List.set_cons_succ]
      refine take_yes (i := 11) 30 (v := ?_) rfl rfl (by kernel_rfl) (by kernel_rfl) (by kernel_rfl) (fun _ _ _ h => h) (by kernel_rfl) hHeld ?_ ?_
      rotate_left
      focus (intro w hSw; (try dsimp only at hSw); go_simp; (try with_reducible rfl))
      simp only [Act.put, List.setIfInBounds_toArray, List.set_cons_zero, List.set_cons_succ]
      refine take_yes (i := 12) 31 (v := ?_) rfl rfl (by kernel_rfl) (by kernel_rfl) (by kernel_rfl) (fun _ _ _ h => h) (by kernel_rfl) hHeld ?_ ?_
      rotate_left
      focus (intro w hSw; (try dsimp only at hSw); go_simp; (try with_reducible rfl))
      simp only [Act.put, List.setIfInBounds_toArray, List.set_cons_zero, List.set_cons_succ]
      refine wpAnyH_ready (rs := [8, 13]) (by kernel_rfl) (by simp) ?_
      refine AllReadyH.cons rfl (fun K hK => ?_) (AllReadyH.cons rfl (fun K hK => ?_) AllReadyH.nil)
      all_goals
        go_simp
        refine hK.out _ _ hHeld (fun hHeld => ?_)
        clear hK
        (try simp only [Act.put, List.setIfInBounds_toArray, List.set_cons_zero, List.set_cons_succ])
      focus
        refine wpAnyH_ready (rs := [13]) (by kernel_rfl) (by simp) ?_
        refine AllReadyH.cons rfl (fun K hK => ?_) AllReadyH.nil
        go_simp
        refine hK.out _ _ hHeld (fun hHeld => ?_)
        clear hK
        (try simp only [Act.put, List.setIfInBounds_toArray, List.set_cons_zero, List.set_cons_succ])
      rotate_left
      focus
        refine wpAnyH_ready (rs := [8]) (by kernel_rfl) (by simp) ?_
        refine AllReadyH.cons rfl (fun K hK => ?_) AllReadyH.nil
        go_simp
        refine hK.out _ _ hHeld (fun hHeld => ?_)
        clear hK
        (try simp only [Act.put, List.setIfInBounds_toArray, List.set_cons_zero, List.set_cons_succ])
      rotate_left
      all_goals
        refine wpAnyH_ready (rs := [14]) (by kernel_rfl) (by simp) ?_
        refine AllReadyH.cons rfl (fun K hK => ?_) AllReadyH.nil
        go_simp
        go_at_call 47
        refine (HM1.out _).mono ?_
        rintro e w5 ⟨rfl, e5⟩
        obtain rfl := e5
        have hS := hHeld
        go_wp2_with fail
        refine hK.out _ _ hS (fun hHeld => ?_)
        clear hK
        (try simp only [Act.put, List.setIfInBounds_toArray, List.set_cons_zero, List.set_cons_succ])
        refine take_yes (i := 15) 34 (v := ?_) rfl rfl (by kernel_rfl) (by kernel_rfl) (by kernel_rfl) (fun _ _ _ h => h) (by kernel_rfl) hHeld ?_ ?_
        rotate_left
        focus (intro w hSw; (try dsimp only at hSw); go_simp; (try with_reducible rfl))
        simp only [Act.put, List.setIfInBounds_toArray, List.set_cons_zero, List.set_cons_succ]
        refine wpAnyH_ready (rs := [16]) (by kernel_rfl) (by simp) ?_
        refine AllReadyH.cons rfl (fun K hK => ?_) AllReadyH.nil
        go_simp
        refine hK.out _ _ (HSt.out _) (fun hHeld => ?_)
        clear hK
        (try simp only [Act.put, List.setIfInBounds_toArray, List.set_cons_zero, List.set_cons_succ])
        refine wpAnyH_done (by kernel_rfl) ?_ _
        go_wp2
        go_roundw
        case rel => exact ⟨j + 1, by go_num, by omega, HN⟩
        case measure => simp [intOf]; omega
end Go.Proofs.Ytcdonbepfmhdpaa
