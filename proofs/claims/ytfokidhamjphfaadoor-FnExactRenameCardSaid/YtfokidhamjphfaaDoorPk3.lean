/-
  Texts that a law leans on, one behind the other; no statement is proved here.
-/
import Derived.Test.YtfokidhamjphfaaDoorPk2
/-
  szByteS of the laws: what is left of a bound behind a text's weight, or -1.
-/
namespace Go.Proofs.YtfokidhamjphfaaDoor
open Go.RowKit
set_option linter.unusedVariables false

/-- What is left. -/
def less (l : Int) (n : Nat) : Int := if l < n then -1 else l - n
theorem less_no (l : Int) (n : Nat) (h : l < n) : less l n = -1 := by simp [less, h]
theorem less_yes (l : Int) (n : Nat) (h : ¬ l < n) : less l n = l - n := by simp [less, h]

/-- The weight of the first k. -/
def pre {α : Type} (f : α → Nat) (l : List α) (k : Nat) : Nat := ((l.take k).map f).sum
theorem pre_zero {α : Type} (f : α → Nat) (l : List α) : pre f l 0 = 0 := by simp [pre]
theorem pre_succ {α : Type} (f : α → Nat) (l : List α) (k : Nat) (h : k < l.length) : pre f l (k + 1) = pre f l k + f l[k] := by
  unfold pre
  rw [List.take_succ_eq_append_getElem h, List.map_append, List.sum_append]
  simp only [List.map_cons, List.map_nil, List.sum_cons, List.sum_nil, Nat.add_zero]
theorem pre_all {α : Type} (f : α → Nat) (l : List α) : pre f l l.length = (l.map f).sum := by simp [pre]
theorem pre_le {α : Type} (f : α → Nat) (l : List α) (k : Nat) : pre f l k ≤ (l.map f).sum := by
  unfold pre
  have : (l.map f).sum = ((l.take k).map f).sum + ((l.drop k).map f).sum := by
    rw [← List.sum_append, ← List.map_append, List.take_append_drop]
  omega

set_option maxHeartbeats 800000 in
theorem szByteS_any (a : Option Addr) (n cap : Nat) (l : Int) (w : World) (h0 : 0 ≤ l) (h1 : l ≤ 1048576) (hn : n ≤ maxLen) :
    Calls Tryd.prog 32 #[.slice a n cap, .int .i64 l] w fun e w' => e = .returned (.int .i64 (less l n)) ∧ w = w' := by
  unfold maxLen at hn
  by_cases h : l < n
  · have HO : Hid (less l n = -1) := less_no l n h
    have h' : l - (n : Int) < 0 := by omega
    go_enter Tryd.func32, Tryd.ntmps32
    go_wp2
    go_ret
    exact ⟨ret_i64 (by rw [HO.out]), rfl⟩
  · have HO : Hid (less l n = l - n) := less_yes l n h
    have h' : ¬ l - (n : Int) < 0 := by omega
    go_enter Tryd.func32, Tryd.ntmps32
    go_wp2
    go_ret
    exact ⟨ret_i64 (by rw [HO.out]), rfl⟩

theorem grown1 (w : World) (g j : Nat) (v : Value) : w.grownBy (w.setCell ⟨g, j, none⟩ v) (some g) :=
  ⟨rfl, rfl, rfl, by simp [World.setCell], fun k _ hk => Below.heap_setCell w ⟨g, j, none⟩ v k (fun e => hk (by simp [e]))⟩

theorem size2 (w : World) (o o' : Obj) : ((w.alloc o).alloc o').heap.size = w.heap.size + 2 := by simp
theorem two_boxes (w : World) (o o' : Obj) : ((w.alloc o).alloc o').heap[w.heap.size]? = some o ∧ ((w.alloc o).alloc o').heap[w.heap.size + 1]? = some o' := by
  have e : (w.alloc o).heap.size = w.heap.size + 1 := by simp
  constructor
  · exact (((Below.refl (w.alloc o).heap.size (w.alloc o)).alloc (Nat.le_refl _) o').block w.heap.size (by omega)).trans (MapKept.heap_alloc w o).1
  · have h := (MapKept.heap_alloc (w.alloc o) o').1
    rw [e] at h
    exact h

end Go.Proofs.YtfokidhamjphfaaDoor
/-
  A row of bytes of the call's own that may bear a mark of the run-time behind its last cell (as '[]byte(s)' lays one): it is read and written as any other.
-/
namespace Go.Proofs.YtfokidhamjphfaaDoor
open Go.RowKit
set_option linter.unusedVariables false

/-- A row of the call's own; no cell of it is frozen. -/
def RowF (w : World) (v : Value) (n : Nat) (xs : List Value) : Prop :=
  xs.length = n ∧ ((v = .slice none 0 0 ∧ n = 0) ∨
    ∃ (g cap : Nat) (cur : Array Value) (fr : Nat × Nat), v = .slice (some ⟨g, 0, none⟩) n cap ∧ w.heap[g]? = some (.cells cur 5 fr) ∧ (fr.2 = 0 ∨ cap ≤ fr.1) ∧ n ≤ cap ∧ cap ≤ maxLen ∧ cur.size = cap ∧ cur.toList.take n = xs)

/-- The slice value 'v' owns such a row, that holds 'xs'. -/
def BtsF (w : World) (v : Value) (xs : List Int) : Prop := (∀ x ∈ xs, Byt x) ∧ RowF w v xs.length (cellsOf xs)

theorem Bts.free {w : World} {base : Nat} {v : Value} {xs : List Int} (h : Bts w base v xs) : BtsF w v xs := by
  obtain ⟨hb, hl, h0 | ⟨g, cap, cur, h1, _, h3, h4, h5, h6, h7⟩⟩ := h
  · exact ⟨hb, by simp [cellsOf], .inl h0⟩
  · exact ⟨hb, by simp [cellsOf], .inr ⟨g, cap, cur, (0, 0), h1, h3, .inl rfl, h4, h5, by omega, by rw [Nat.mul_one] at h7; exact h7⟩⟩

theorem RowF.cellAt {w : World} {g n cap : Nat} {xs : List Value} (h : RowF w (.slice (some ⟨g, 0, none⟩) n cap) n xs) (j : Nat) (hj : j < n) : w.cell? ⟨g, j, none⟩ = xs[j]? := by
  rcases h.2 with ⟨h', _⟩ | ⟨g', cap', cur, fr, h', hg, _, _, _, _, htake⟩
  · simp at h'
  · simp only [Value.slice.injEq, Option.some.injEq, Addr.mk.injEq, and_true, true_and] at h'
    obtain ⟨rfl, rfl⟩ := h'
    rw [cell_of_row w g j cur 5 fr hg, ← htake, List.getElem?_take, if_pos hj]
    simp

theorem RowF.frozenAt {w : World} {g n cap : Nat} {xs : List Value} (h : RowF w (.slice (some ⟨g, 0, none⟩) n cap) n xs) (j : Nat) (hj : j < n) : w.frozen? ⟨g, j, none⟩ = false := by
  rcases h.2 with ⟨h', _⟩ | ⟨g', cap', cur, fr, h', hg, hf, hn, _⟩
  · simp at h'
  · simp only [Value.slice.injEq, Option.some.injEq, Addr.mk.injEq, and_true, true_and] at h'
    obtain ⟨rfl, rfl⟩ := h'
    obtain ⟨lo, hi⟩ := fr
    simp only [World.frozen?, hg]
    simp only at hf
    simp
    omega

theorem heap_setCell_fr (w : World) (g i : Nat) (cs : Array Value) (t : TypeId) (fr : Nat × Nat) (v : Value) (hg : w.heap[g]? = some (.cells cs t fr)) : (w.setCell ⟨g, i, none⟩ v).heap[g]? = some (.cells (cs.setIfInBounds i v) t fr) := by
  have h2 := (Array.getElem?_eq_some_iff.1 hg).1
  simp [World.setCell, Array.getElem?_modify, hg]

theorem RowF.stored {w : World} {g n cap : Nat} {xs : List Value} (h : RowF w (.slice (some ⟨g, 0, none⟩) n cap) n xs) (j : Nat) (u : Value) :
    RowF (w.setCell ⟨g, j, none⟩ u) (.slice (some ⟨g, 0, none⟩) n cap) n (xs.set j u) ∧ w.grownBy (w.setCell ⟨g, j, none⟩ u) (some g) := by
  rcases h.2 with ⟨h', _⟩ | ⟨g', cap', cur, fr, h', hg, hf, hn, hm, hs, htake⟩
  · simp at h'
  · simp only [Value.slice.injEq, Option.some.injEq, Addr.mk.injEq, and_true, true_and] at h'
    obtain ⟨rfl, rfl⟩ := h'
    refine ⟨⟨by simpa using h.1, .inr ⟨g, cap, cur.setIfInBounds j u, fr, rfl, heap_setCell_fr w g j cur 5 fr u hg, hf, hn, hm, by simpa using hs, ?_⟩⟩, ⟨rfl, rfl, rfl, by simp [World.setCell], fun k _ hk => Below.heap_setCell w ⟨g, j, none⟩ u k (fun e => hk (by simp [e]))⟩⟩
    rw [Array.toList_setIfInBounds, ← htake, List.take_set]

theorem BtsF.shape {w : World} {v : Value} {xs : List Int} (h : BtsF w v xs) : ∃ a cap, v = .slice a xs.length cap ∧ Seg w a xs ∧ xs.length ≤ cap ∧ cap ≤ maxLen ∧ (∀ x, a = some x → 0 ≤ x.block ∧ x.block < w.heap.size ∧ x.off = 0 ∧ x.spot = none) ∧ (a = none → cap = 0) := by
  obtain ⟨hb, ho⟩ := h
  have ho' := ho
  obtain ⟨hl, hc⟩ := ho
  rcases hc with ⟨rfl, h0⟩ | ⟨g, cap, cur, fr, rfl, hh, hf, hle, hm, hsz, htake⟩
  · have : xs = [] := List.eq_nil_of_length_eq_zero h0
    subst this
    exact ⟨none, 0, rfl, ⟨hb, .inl rfl⟩, Nat.le_refl _, Nat.zero_le _, by simp, fun _ => rfl⟩
  · refine ⟨some ⟨g, 0, none⟩, cap, rfl, ⟨hb, .inr ⟨g, 0, rfl, fun i hi => ?_⟩⟩, hle, hm, ?_, by simp⟩
    · have := RowF.cellAt ho' i (by omega)
      rw [Nat.zero_add, this]
      simp [cellsOf, hi]
    · rintro x hx
      simp at hx
      subst hx
      exact ⟨Nat.zero_le _, (Array.getElem?_eq_some_iff.1 hh).1, rfl, rfl⟩

theorem RowF.lt {w : World} {v : Value} {n : Nat} {xs : List Value} (h : RowF w v n xs) : ∀ k, v.ownBlock = some k → k < w.heap.size := by
  intro k hk
  rcases h.2 with ⟨rfl, _⟩ | ⟨g, cap, cur, fr, rfl, hh, _⟩
  · simp [Value.ownBlock] at hk
  · simp [Value.ownBlock] at hk
    subst hk
    exact (Array.getElem?_eq_some_iff.1 hh).1
end Go.Proofs.YtfokidhamjphfaaDoor
