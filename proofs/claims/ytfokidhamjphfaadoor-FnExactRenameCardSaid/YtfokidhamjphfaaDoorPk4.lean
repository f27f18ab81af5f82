/-
  Texts that a law leans on, one behind the other; no statement is proved here.
-/
import Derived.Test.YtfokidhamjphfaaDoorPk3
/-
  What a call owns: a text, a list of texts, a value, each with the list of the blocks in which it lies, no block twice.
-/
namespace Go.Proofs.YtfokidhamjphfaaDoor
open Go.RowKit
set_option linter.unusedVariables false

/-- A text of the call's own, in the blocks B. -/
def TOwn (w : World) (v : Value) (xs : List Int) (B : List Nat) : Prop :=
  BtsF w v xs ∧ ((v = .slice none 0 0 ∧ B = []) ∨ ∃ g cap, v = .slice (some ⟨g, 0, none⟩) xs.length cap ∧ B = [g])

/-- A list of texts of the call's own, in the blocks B. -/
def KOwn (w : World) (v : Value) (ks : List (List Int)) (B : List Nat) : Prop :=
  (v = .slice none 0 0 ∧ ks = [] ∧ B = []) ∨
  ∃ (g cap : Nat) (cur : Array Value) (Bs : List (List Nat)), v = .slice (some ⟨g, 0, none⟩) ks.length cap ∧ w.heap[g]? = some (.cells cur 22 (0, 0)) ∧ ks.length ≤ cap ∧ cap ≤ maxLen ∧ cur.size = cap ∧ Bs.length = ks.length ∧
    (∀ i, i < ks.length → ∃ u, cur[i]? = some u ∧ TOwn w u (ks.getD i []) (Bs.getD i [])) ∧ B = g :: Bs.flatten ∧ B.Nodup

theorem TOwn.agree {w w' : World} {v : Value} {xs : List Int} {B : List Nat} (h : TOwn w v xs B) (ha : Agree (fun b => b ∈ B) w w') : TOwn w' v xs B := by
  refine ⟨?_, h.2⟩
  rcases h.2 with ⟨rfl, rfl⟩ | ⟨g, cap, rfl, rfl⟩
  · refine ⟨h.1.1, h.1.2.1, ?_⟩
    rcases h.1.2.2 with h0 | ⟨g, cap, cur, fr, h1, _⟩
    · exact .inl h0
    · simp at h1
  · refine ⟨h.1.1, h.1.2.1, ?_⟩
    rcases h.1.2.2 with ⟨h0, _⟩ | ⟨g', cap', cur, fr, h1, h3, h4⟩
    · simp at h0
    · simp only [Value.slice.injEq, Option.some.injEq, Addr.mk.injEq, and_true, true_and] at h1
      obtain ⟨rfl, rfl⟩ := h1
      exact .inr ⟨g, cap, cur, fr, rfl, (ha g (by simp)).trans h3, h4⟩

theorem TOwn.lt {w : World} {v : Value} {xs : List Int} {B : List Nat} (h : TOwn w v xs B) : ∀ b ∈ B, b < w.heap.size := by
  intro b hb
  rcases h.2 with ⟨rfl, rfl⟩ | ⟨g, cap, rfl, rfl⟩
  · simp at hb
  · simp at hb
    subst hb
    exact h.1.2.lt b rfl

theorem flatten_mem_getD {Bs : List (List Nat)} {i : Nat} (hi : i < Bs.length) {b : Nat} (hb : b ∈ Bs.getD i []) : b ∈ Bs.flatten := by
  rw [List.mem_flatten]
  refine ⟨Bs[i], List.getElem_mem hi, ?_⟩
  simpa [List.getD_eq_getElem?_getD, hi] using hb

theorem KOwn.agree {w w' : World} {v : Value} {ks : List (List Int)} {B : List Nat} (h : KOwn w v ks B) (ha : Agree (fun b => b ∈ B) w w') : KOwn w' v ks B := by
  rcases h with h0 | ⟨g, cap, cur, Bs, h1, h2, h3, h4, h5, h6, h7, rfl, h9⟩
  · exact .inl h0
  · refine .inr ⟨g, cap, cur, Bs, h1, (ha g (by simp)).trans h2, h3, h4, h5, h6, fun i hi => ?_, rfl, h9⟩
    obtain ⟨u, hu, ht⟩ := h7 i hi
    exact ⟨u, hu, ht.agree fun b hb => ha b (List.mem_cons_of_mem _ (flatten_mem_getD (by omega) hb))⟩

/-- What is owned can be read. -/
theorem TOwn.seg {w : World} {v : Value} {xs : List Int} {B : List Nat} (h : TOwn w v xs B) : TSeg (fun b => b ∈ B) w v xs := by
  obtain ⟨a, cap, h1, h2, h3, h4, h5, h6⟩ := h.1.shape
  refine ⟨a, cap, h1, h2, h3, h4, h6, fun x hx he => ?_⟩
  rcases h.2 with ⟨e, rfl⟩ | ⟨g, cp, e, rfl⟩
  · rw [e] at h1; simp at h1; rw [← h1.1] at hx; simp at hx
  · rw [e] at h1; simp at h1; rw [← h1.1] at hx; simp at hx; simp [← hx]

theorem TSeg.mono {R R' : Nat → Prop} {w : World} {v : Value} {xs : List Int} (h : TSeg R w v xs) (hr : ∀ b, R b → R' b) : TSeg R' w v xs := by
  obtain ⟨a, cap, h1, h2, h3, h4, h5, h6⟩ := h
  exact ⟨a, cap, h1, h2, h3, h4, h5, fun x hx he => hr _ (h6 x hx he)⟩

theorem KOwn.seg {w : World} {v : Value} {ks : List (List Int)} {B : List Nat} (h : KOwn w v ks B) : KSeg (fun b => b ∈ B) w v ks := by
  rcases h with ⟨rfl, rfl, rfl⟩ | ⟨g, cap, cur, Bs, rfl, h2, h3, h4, h5, h6, h7, rfl, h9⟩
  · exact ⟨none, 0, rfl, Nat.le_refl _, Nat.zero_le _, fun _ => rfl, .inl rfl⟩
  · refine ⟨some ⟨g, 0, none⟩, cap, rfl, h3, h4, by simp, .inr ⟨g, 0, rfl, by simp, fun i hi => ?_⟩⟩
    obtain ⟨u, hu, ht⟩ := h7 i hi
    refine ⟨u, ?_, ht.seg.mono fun b hb => List.mem_cons_of_mem _ (flatten_mem_getD (by omega) hb)⟩
    rw [Nat.zero_add, cell_of_row w g i cur 22 (0, 0) h2]
    exact hu

/-- A row of the call's own that was just made. -/
theorem tOwn_new {w : World} {base g : Nat} {xs : List Int} (h : Bts w base (.slice (some ⟨g, 0, none⟩) xs.length xs.length) xs) : TOwn w (.slice (some ⟨g, 0, none⟩) xs.length xs.length) xs [g] :=
  ⟨h.free, .inr ⟨g, _, rfl, rfl⟩⟩

theorem infoT : (Tryd.prog.info? 22).map (fun i => (i.zero, i.size, i.bytes)) = some (some (.slice none 0 0), 1, 24) := by kernel_rfl

/-- After k rounds of toByteSS. -/
def KPart (w : World) (g n : Nat) (ks : List (List Int)) (k : Nat) (N : Nat) : Prop :=
  ∃ (cur : Array Value) (Bs : List (List Nat)), w.heap[g]? = some (.cells cur 22 (0, 0)) ∧ cur.size = n ∧ Bs.length = k ∧
    (∀ i, i < k → ∃ u, cur[i]? = some u ∧ TOwn w u (ks.getD i []) (Bs.getD i [])) ∧ (∀ b ∈ Bs.flatten, N ≤ b ∧ b < w.heap.size) ∧ Bs.flatten.Nodup

theorem kPart_next {w w1 : World} {g n : Nat} {ks : List (List Int)} {k N : Nat} (h : KPart w g n ks k N) (hgN : g < N) (hk : k < n) (b1 : Below w.heap.size w w1) (hN : N ≤ w.heap.size) (u : Value) (gb : Nat) (hu : TOwn w1 u (ks.getD k []) [gb]) (hgb : w.heap.size ≤ gb) :
    KPart (w1.setCell ⟨g, k, none⟩ u) g n ks (k + 1) N ∧ w1.grownBy (w1.setCell ⟨g, k, none⟩ u) (some g) := by
  obtain ⟨cur, Bs, h1, h2, h3, h4, h5, h6⟩ := h
  have hgw : g < w.heap.size := (Array.getElem?_eq_some_iff.1 h1).1
  have h1' : w1.heap[g]? = some (.cells cur 22 (0, 0)) := (b1.block g hgw).trans h1
  have hgr : w1.grownBy (w1.setCell ⟨g, k, none⟩ u) (some g) := ⟨rfl, rfl, rfl, by simp [World.setCell], fun j _ hj => Below.heap_setCell w1 ⟨g, k, none⟩ u j (fun e => hj (by simp [e]))⟩
  have hsz : (w1.setCell ⟨g, k, none⟩ u).heap.size = w1.heap.size := by simp [World.setCell]
  have hgbl := hu.lt gb (by simp)
  refine ⟨⟨cur.setIfInBounds k u, Bs ++ [[gb]], heap_setCell_same w1 g k cur 22 u h1', by simpa using h2, by simp [h3], fun i hi => ?_, ?_, ?_⟩, hgr⟩
  · by_cases hik : i = k
    · subst hik
      refine ⟨u, by simp [h2, hk], ?_⟩
      have e : (Bs ++ [[gb]]).getD i [] = [gb] := by simp [List.getD_eq_getElem?_getD, ← h3]
      rw [e]
      exact hu.agree fun b hb => Below.heap_setCell w1 ⟨g, i, none⟩ u b (by simp at hb; show b ≠ g; omega)
    · have hi' : i < k := by omega
      obtain ⟨u', hu', ht'⟩ := h4 i hi'
      have e : (Bs ++ [[gb]]).getD i [] = Bs.getD i [] := by
        simp only [List.getD_eq_getElem?_getD]
        rw [List.getElem?_append_left (by omega)]
      refine ⟨u', by rw [Array.getElem?_setIfInBounds_ne (by omega)]; exact hu', ?_⟩
      rw [e]
      refine (ht'.agree fun b hb => b1.block b ?_).agree fun b hb => Below.heap_setCell w1 ⟨g, k, none⟩ u b ?_
      · exact ht'.lt b hb
      · have := h5 b (flatten_mem_getD (by omega) hb)
        show b ≠ g
        omega
  · intro b hb
    rw [List.flatten_append, List.mem_append] at hb
    rw [hsz]
    rcases hb with hb | hb
    · have := h5 b hb
      have := b1.size
      omega
    · simp at hb
      omega
  · rw [List.flatten_append, List.nodup_append]
    refine ⟨h6, by simp, fun b hb c hc => ?_⟩
    simp at hc
    have := h5 b hb
    omega

end Go.Proofs.YtfokidhamjphfaaDoor
