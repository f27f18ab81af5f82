/-
  Paths: a list of steps (kind, key, place), as it is read ('PthSeg') and as a call owns it ('PthOwn'); no statement is proved here.
-/
import Derived.Test.YtliheeiooppnbaaOwn
namespace Go.Proofs.Ytliheeiooppnbaa
open Go.RowKit
set_option linter.unusedVariables false

/-- A step: its kind, its key, its place. -/
abbrev Stp : Type := Int × List Int × Int

/-- The three cells of a step at a place. -/
def Three (w : World) (b off : Nat) (c : Value × Value × Value) : Prop :=
  w.cell? ⟨b, off, none⟩ = some c.1 ∧ w.cell? ⟨b, off + 1, none⟩ = some c.2.1 ∧ w.cell? ⟨b, off + 2, none⟩ = some c.2.2

/-- Three cells read as a step. -/
def StSeg (R : Nat → Prop) (w : World) (c : Value × Value × Value) (s : Stp) : Prop := c.1 = .int .i64 s.1 ∧ TSeg R w c.2.1 s.2.1 ∧ c.2.2 = .int .i64 s.2.2

/-- A slice of steps. -/
def PthSeg (R : Nat → Prop) (w : World) (x : Value) (l : List Stp) : Prop := ∃ a cap, x = .slice a l.length cap ∧ l.length ≤ cap ∧ cap ≤ maxLen ∧ (a = none → cap = 0) ∧
  (l = [] ∨ ∃ b off, a = some ⟨b, off, none⟩ ∧ R b ∧ ∀ i (h : i < l.length), ∃ e, Three w b (off + i * 3) e ∧ StSeg R w e (l[i]))

theorem Three.agree {R : Nat → Prop} {w w' : World} {b off : Nat} {c : Value × Value × Value} (h : Three w b off c) (ha : Agree R w w') (hb : R b) : Three w' b off c := by
  obtain ⟨h0, h1, h2⟩ := h
  exact ⟨(cell_agree ha hb).trans h0, (cell_agree ha hb).trans h1, (cell_agree ha hb).trans h2⟩

theorem StSeg.agree {R : Nat → Prop} {w w' : World} {c : Value × Value × Value} {s : Stp} (h : StSeg R w c s) (ha : Agree R w w') : StSeg R w' c s := ⟨h.1, h.2.1.agree ha, h.2.2⟩

theorem StSeg.mono {R R' : Nat → Prop} {w : World} {c : Value × Value × Value} {s : Stp} (h : StSeg R w c s) (hr : ∀ b, R b → R' b) : StSeg R' w c s := ⟨h.1, h.2.1.mono hr, h.2.2⟩

theorem PthSeg.agree {R : Nat → Prop} {w w' : World} {x : Value} {l : List Stp} (h : PthSeg R w x l) (ha : Agree R w w') : PthSeg R w' x l := by
  obtain ⟨a, cap, g1, g2, g3, g4, g5⟩ := h
  refine ⟨a, cap, g1, g2, g3, g4, ?_⟩
  rcases g5 with e | ⟨b, off, hb, hR, hc⟩
  · exact .inl e
  · refine .inr ⟨b, off, hb, hR, fun i hi => ?_⟩
    obtain ⟨e, he, hv⟩ := hc i hi
    exact ⟨e, he.agree ha hR, hv.agree ha⟩

theorem PthSeg.mono {R R' : Nat → Prop} {w : World} {x : Value} {l : List Stp} (h : PthSeg R w x l) (hr : ∀ b, R b → R' b) : PthSeg R' w x l := by
  obtain ⟨a, cap, g1, g2, g3, g4, g5⟩ := h
  refine ⟨a, cap, g1, g2, g3, g4, ?_⟩
  rcases g5 with e | ⟨b, off, hb, hR, hc⟩
  · exact .inl e
  · refine .inr ⟨b, off, hb, hr b hR, fun i hi => ?_⟩
    obtain ⟨e, he, hv⟩ := hc i hi
    exact ⟨e, he, hv.mono hr⟩

/-- The k-th step, in the world of then. -/
theorem PthSeg.at {R : Nat → Prop} {w : World} {a : Option Addr} {n cap : Nat} {l : List Stp} (h : PthSeg R w (.slice a n cap) l) {k : Nat} (hk : k < l.length) :
    ∃ b off c0 c1 c2, a = some ⟨b, off, none⟩ ∧ R b ∧ Three w b (off + k * 3) (c0, c1, c2) ∧ StSeg R w (c0, c1, c2) (l[k]) := by
  obtain ⟨a', cap', g1, _, _, _, g5⟩ := h
  simp only [Value.slice.injEq] at g1
  obtain ⟨rfl, _, _⟩ := g1
  rcases g5 with e | ⟨b, off, hb, hR, hc⟩
  · rw [e] at hk; simp at hk
  · obtain ⟨⟨c0, c1, c2⟩, he, hv⟩ := hc k hk
    exact ⟨b, off, c0, c1, c2, hb, hR, he, hv⟩

/-- What szStepS takes off. -/
def szP (l : List Stp) : Nat := l.length + (l.map fun s => s.2.1.length).sum

/-- The three cells of a step in an array of cells. -/
def Cells3 (cur : Array Value) (j : Nat) (e : Value × Value × Value) : Prop := cur[j]? = some e.1 ∧ cur[j + 1]? = some e.2.1 ∧ cur[j + 2]? = some e.2.2

/-- A step of the call's own. -/
def StOwn (w : World) (c : Value × Value × Value) (s : Stp) (B : List Nat) : Prop := c.1 = .int .i64 s.1 ∧ TOwn w c.2.1 s.2.1 B ∧ c.2.2 = .int .i64 s.2.2

/-- A list of steps of the call's own. -/
def PthOwn (w : World) (x : Value) (l : List Stp) (B : List Nat) : Prop :=
  ∃ (g cap : Nat) (cur : Array Value) (Bi : List (List Nat)), x = .slice (some ⟨g, 0, none⟩) l.length cap ∧ w.heap[g]? = some (.cells cur 35 (0, 0)) ∧ l.length ≤ cap ∧ cap ≤ maxLen ∧ cur.size = cap * 3 ∧ Bi.length = l.length ∧
    (∀ i (h : i < l.length), ∃ e, Cells3 cur (i * 3) e ∧ StOwn w e (l[i]) (Bi.getD i [])) ∧ B = g :: Bi.flatten ∧ B.Nodup

theorem StOwn.agree {w w' : World} {c : Value × Value × Value} {s : Stp} {B : List Nat} (h : StOwn w c s B) (ha : Agree (fun b => b ∈ B) w w') : StOwn w' c s B := ⟨h.1, h.2.1.agree ha, h.2.2⟩

theorem PthOwn.agree {w w' : World} {x : Value} {l : List Stp} {B : List Nat} (h : PthOwn w x l B) (ha : Agree (fun b => b ∈ B) w w') : PthOwn w' x l B := by
  obtain ⟨g, cap, cur, Bi, h1, h2, h3, h4, h5, h6, h7, rfl, h9⟩ := h
  refine ⟨g, cap, cur, Bi, h1, (ha g (by simp)).trans h2, h3, h4, h5, h6, fun i hi => ?_, rfl, h9⟩
  obtain ⟨e, he, hv⟩ := h7 i hi
  exact ⟨e, he, hv.agree fun b hb => ha b (List.mem_cons_of_mem _ (flatten_mem_getD (by omega) hb))⟩

theorem PthOwn.lt {w : World} {x : Value} {l : List Stp} {B : List Nat} (h : PthOwn w x l B) : ∀ b ∈ B, b < w.heap.size := by
  intro b hb
  obtain ⟨g, cap, cur, Bi, h1, h2, h3, h4, h5, h6, h7, rfl, h9⟩ := h
  rcases List.mem_cons.1 hb with rfl | hb
  · exact (Array.getElem?_eq_some_iff.1 h2).1
  · obtain ⟨q, hq, hbq⟩ := List.mem_flatten.1 hb
    obtain ⟨i, hi, rfl⟩ := List.getElem_of_mem hq
    obtain ⟨u, _, ht⟩ := h7 i (by omega)
    exact ht.2.1.lt b (by simpa [List.getD_eq_getElem?_getD, hi] using hbq)

theorem Cells3.three {w : World} {g : Nat} {cur : Array Value} {T : TypeId} (h : w.heap[g]? = some (.cells cur T (0, 0))) {j : Nat} {e : Value × Value × Value} (he : Cells3 cur j e) : Three w g j e := by
  obtain ⟨h0, h1, h2⟩ := he
  refine ⟨?_, ?_, ?_⟩ <;> rw [cell_of_row w g _ cur _ (0, 0) h] <;> assumption

theorem PthOwn.seg {w : World} {x : Value} {l : List Stp} {B : List Nat} (h : PthOwn w x l B) : PthSeg (fun b => b ∈ B) w x l := by
  obtain ⟨g, cap, cur, Bi, h1, h2, h3, h4, h5, h6, h7, rfl, h9⟩ := h
  refine ⟨some ⟨g, 0, none⟩, cap, h1, h3, h4, by simp, .inr ⟨g, 0, rfl, by simp, fun i hi => ?_⟩⟩
  obtain ⟨e, he, hv⟩ := h7 i hi
  exact ⟨e, by rw [Nat.zero_add]; exact he.three h2, hv.1, hv.2.1.seg.mono fun b hb => List.mem_cons_of_mem _ (flatten_mem_getD (by omega) hb), hv.2.2⟩

/-- What a call has made for itself can be read by whoever comes behind it. -/
theorem PthOwn.below {w w' : World} {x : Value} {l : List Stp} {B : List Nat} (h : PthOwn w x l B) (hb : Below w.heap.size w w') : PthSeg (fun b => b < w.heap.size) w' x l :=
  (h.seg.mono fun b hb => h.lt b hb).agree (agree_below hb)

/-- After k rounds of toStepS. -/
def PPart (w : World) (g n : Nat) (l : List Stp) (k : Nat) (N : Nat) : Prop :=
  ∃ (cur : Array Value) (Bi : List (List Nat)), w.heap[g]? = some (.cells cur 35 (0, 0)) ∧ cur.size = n * 3 ∧ Bi.length = k ∧
    (∀ i (h : i < l.length), i < k → ∃ e, Cells3 cur (i * 3) e ∧ StOwn w e (l[i]) (Bi.getD i [])) ∧ (∀ b ∈ Bi.flatten, N ≤ b ∧ b < w.heap.size) ∧ Bi.flatten.Nodup

/-- Three cells stored one behind the other. -/
def set3 (w : World) (g j : Nat) (c0 c1 c2 : Value) : World := ((w.setCell ⟨g, j, none⟩ c0).setCell ⟨g, j + 1, none⟩ c1).setCell ⟨g, j + 2, none⟩ c2

/-- The array behind it. -/
def arrSet3 (cur : Array Value) (j : Nat) (c0 c1 c2 : Value) : Array Value := ((cur.setIfInBounds j c0).setIfInBounds (j + 1) c1).setIfInBounds (j + 2) c2

theorem set3_heap {w : World} {g j : Nat} {cur : Array Value} {T : TypeId} (c0 c1 c2 : Value) (h : w.heap[g]? = some (.cells cur T (0, 0))) :
    (set3 w g j c0 c1 c2).heap[g]? = some (.cells (arrSet3 cur j c0 c1 c2) T (0, 0)) :=
  heap_setCell_same _ g (j + 2) _ T c2 (heap_setCell_same _ g (j + 1) _ T c1 (heap_setCell_same w g j cur T c0 h))

theorem set3_other (w : World) (g j : Nat) (c0 c1 c2 : Value) (b : Nat) (hb : b ≠ g) : (set3 w g j c0 c1 c2).heap[b]? = w.heap[b]? := by
  unfold set3
  rw [Below.heap_setCell _ _ _ b hb, Below.heap_setCell _ _ _ b hb, Below.heap_setCell _ _ _ b hb]

theorem set3_size (w : World) (g j : Nat) (c0 c1 c2 : Value) : (set3 w g j c0 c1 c2).heap.size = w.heap.size := by simp [set3, World.setCell]

theorem set3_grown (w : World) (g j : Nat) (c0 c1 c2 : Value) : w.grownBy (set3 w g j c0 c1 c2) (some g) :=
  grownBy_trans (grownBy_trans (grown1 _ _ _ _) (grown1 _ _ _ _)) (grown1 _ _ _ _)

theorem arrSet3_size (cur : Array Value) (j : Nat) (c0 c1 c2 : Value) : (arrSet3 cur j c0 c1 c2).size = cur.size := by simp [arrSet3]

theorem arrSet3_at (cur : Array Value) (j : Nat) (c0 c1 c2 : Value) (h : j + 2 < cur.size) : Cells3 (arrSet3 cur j c0 c1 c2) j (c0, c1, c2) := by
  unfold arrSet3 Cells3
  refine ⟨?_, ?_, ?_⟩ <;> simp [Array.getElem?_setIfInBounds] <;> omega

theorem arrSet3_ne (cur : Array Value) (j i : Nat) (c0 c1 c2 : Value) (h : i < j ∨ j + 2 < i) : (arrSet3 cur j c0 c1 c2)[i]? = cur[i]? := by
  unfold arrSet3
  rw [Array.getElem?_setIfInBounds_ne (by omega), Array.getElem?_setIfInBounds_ne (by omega), Array.getElem?_setIfInBounds_ne (by omega)]

theorem pPart_next {w w1 : World} {g n : Nat} {l : List Stp} {k N : Nat} (h : PPart w g n l k N) (hgN : g < N) (hk : k < l.length) (hkn : k < n) (b1 : Below w.heap.size w w1) (hN : N ≤ w.heap.size) (c0 c1 c2 : Value) (B : List Nat) (hu : StOwn w1 (c0, c1, c2) l[k] B) (hB : ∀ b ∈ B, w.heap.size ≤ b ∧ b < w1.heap.size) (hBn : B.Nodup) :
    PPart (set3 w1 g (k * 3) c0 c1 c2) g n l (k + 1) N := by
  obtain ⟨cur, Bi, h1, h2, h3, h4, h5, h6⟩ := h
  have hgw : g < w.heap.size := (Array.getElem?_eq_some_iff.1 h1).1
  have h1' : w1.heap[g]? = some (.cells cur 35 (0, 0)) := (b1.block g hgw).trans h1
  refine ⟨arrSet3 cur (k * 3) c0 c1 c2, Bi ++ [B], set3_heap c0 c1 c2 h1', by rw [arrSet3_size]; exact h2, by simp [h3], fun i hi hik => ?_, ?_, ?_⟩
  · by_cases he : i = k
    · subst he
      have e : (Bi ++ [B]).getD i [] = B := by simp [List.getD_eq_getElem?_getD, ← h3]
      rw [e]
      exact ⟨_, arrSet3_at cur (i * 3) c0 c1 c2 (by omega), hu.agree fun b hb => set3_other w1 g _ _ _ _ b (by have := hB b hb; omega)⟩
    · have hi' : i < k := by omega
      obtain ⟨e5, hc5, hv⟩ := h4 i hi hi'
      have e : (Bi ++ [B]).getD i [] = Bi.getD i [] := by
        simp only [List.getD_eq_getElem?_getD]
        rw [List.getElem?_append_left (by omega)]
      rw [e]
      refine ⟨e5, ?_, (hv.agree fun b hb => b1.block b (hv.2.1.lt b hb)).agree fun b hb => set3_other w1 g _ _ _ _ b ?_⟩
      · obtain ⟨q0, q1, q2⟩ := hc5
        refine ⟨?_, ?_, ?_⟩ <;> rw [arrSet3_ne _ _ _ _ _ _ (by omega)] <;> assumption
      · have := h5 b (flatten_mem_getD (by omega) hb)
        omega
  · intro b hb
    rw [List.flatten_append, List.mem_append] at hb
    rw [set3_size]
    rcases hb with hb | hb
    · have := h5 b hb
      have := b1.size
      omega
    · have hb' : b ∈ B := by simpa using hb
      have := hB b hb'
      omega
  · rw [List.flatten_append, List.nodup_append]
    refine ⟨h6, by simpa using hBn, fun b hb c hc => ?_⟩
    have hc' : c ∈ B := by simpa using hc
    have := h5 b hb
    have := hB c hc'
    omega

end Go.Proofs.Ytliheeiooppnbaa
