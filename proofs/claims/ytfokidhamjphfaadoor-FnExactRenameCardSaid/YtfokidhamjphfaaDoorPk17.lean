/-
  Texts that a law leans on, one behind the other; no statement is proved here.
-/
import Derived.Test.YtfokidhamjphfaaDoorPk14
import Derived.Test.YtfokidhamjphfaaDoorPk13
import Derived.Test.YtfokidhamjphfaaDoorPk16
import Derived.Test.YtfokidhamjphfaaDoorPk15
/-
  What a call that makes a value leaves; a block of five cells, read behind new blocks.
-/
namespace Go.Proofs.YtfokidhamjphfaaDoor
open Go.RowKit
set_option linter.unusedVariables false
set_option linter.unusedSimpArgs false

/-- A block of five, read behind a new block. -/
theorem box_later {w : World} {g : Nat} {T : TypeId} {c0 c1 c2 c3 c4 : Value} (h : w.heap[g]? = some (.cells #[c0, c1, c2, c3, c4] T (0, 0))) :
    (∀ o, (w.alloc o).cell? ⟨g, 0, none⟩ = some c0) ∧ (∀ o, (w.alloc o).cell? ⟨g, 1, none⟩ = some c1) ∧ (∀ o, (w.alloc o).cell? ⟨g, 2, none⟩ = some c2) ∧ (∀ o, (w.alloc o).cell? ⟨g, 3, none⟩ = some c3) ∧ (∀ o, (w.alloc o).cell? ⟨g, 4, none⟩ = some c4) ∧ ∀ o j, (w.alloc o).frozen? ⟨g, j, none⟩ = false := by
  have hr : ∀ o, (w.alloc o).heap[g]? = some (.cells #[c0, c1, c2, c3, c4] T (0, 0)) := fun o => (Below.heap_alloc w o g (Array.getElem?_eq_some_iff.1 h).1).trans h
  exact ⟨fun o => (row5 (hr o)).1, fun o => (row5 (hr o)).2.1, fun o => (row5 (hr o)).2.2.1, fun o => (row5 (hr o)).2.2.2.1, fun o => (row5 (hr o)).2.2.2.2.1, fun o j => (row5 (hr o)).2.2.2.2.2 j⟩

/-- What valueOf leaves. -/
def ValEnd (d : Nat) (v : Vl d) (w : World) (e : Ending) (w' : World) : Prop :=
  ∃ u0 u1 u2 u3 u4, e = .returned (.agg #[u0, u1, u2, u3, u4]) ∧ ∃ B, VOwn w' d (u0, u1, u2, u3, u4) v B ∧ (∀ b ∈ B, w.heap.size ≤ b ∧ b < w'.heap.size) ∧ Below w.heap.size w w'

end Go.Proofs.YtfokidhamjphfaaDoor
/-
  What lies on such a heap can be read; an append to a slice that lies there. No statement is proved here.
-/
namespace Go.Proofs.YtfokidhamjphfaaDoor
open Go.RowKit
set_option linter.unusedVariables false
set_option linter.unusedSimpArgs false

theorem pick_list {α : Type} (n : Nat) (P : Nat → α → Prop) (h : ∀ i, i < n → ∃ x, P i x) : ∃ l : List α, l.length = n ∧ ∀ i (hi : i < l.length), P i l[i] := by
  induction n with
  | zero => exact ⟨[], rfl, fun i hi => by simp at hi⟩
  | succ n ih =>
    obtain ⟨l, hl, hp⟩ := ih fun i hi => h i (by omega)
    obtain ⟨x, hx⟩ := h n (by omega)
    refine ⟨l ++ [x], by simp [hl], fun i hi => ?_⟩
    by_cases hlt : i < l.length
    · rw [List.getElem_append_left hlt]
      exact hp i hlt
    · have hi' : i = l.length := by simp at hi; omega
      subst hi'
      rw [List.getElem_append_right (Nat.le_refl _)]
      simp
      rw [hl]
      exact hx

/-- The blocks from B on that are there. -/
def From (B : Nat) (w : World) : Nat → Prop := fun b => B ≤ b ∧ b < w.heap.size

theorem Hw.text {B M M' : Nat} {rk : Nat → Nat} {p : Nat → Prop} {w : World} {v : Value} (h : Hw B M rk w) (hv : Sli B M' 5 1 p w v) : ∃ xs : List Int, TSeg (From B w) w v xs ∧ xs.length ≤ M' := by
  obtain ⟨a, n, cap, rfl, h1, h2, h3, ⟨rfl, rfl⟩ | ⟨g, cur, fr, rfl, hB, _, hg, hc⟩⟩ := hv
  · obtain rfl : n = 0 := by omega
    exact ⟨[], ⟨none, 0, rfl, ⟨by simp, .inl rfl⟩, Nat.le_refl _, h3, fun _ => rfl, by simp⟩, Nat.zero_le _⟩
  · have hcell := ((h g hB cur 5 fr hg).1 rfl).2
    obtain ⟨l, hl, hp⟩ := pick_list n (fun i x => Byt x ∧ cur[i]? = some (.int .u8 x)) fun i hi => by
      obtain ⟨x, hx, e⟩ := hcell i cur[i] (Array.getElem?_eq_getElem (by omega))
      exact ⟨x, hx, by rw [Array.getElem?_eq_getElem (by omega), e]⟩
    subst hl
    have hlt := (Array.getElem?_eq_some_iff.1 hg).1
    refine ⟨l, ⟨some ⟨g, 0, none⟩, cap, rfl, ⟨fun x hx => ?_, .inr ⟨g, 0, rfl, fun i hi => ?_⟩⟩, h2, h3, by simp, fun x hx _ => by simp at hx; subst hx; exact ⟨hB, hlt⟩⟩, h1⟩
    · obtain ⟨i, hi, rfl⟩ := List.mem_iff_getElem.1 hx
      exact (hp i hi).1
    · rw [Nat.zero_add, cell_of_row w g i cur 5 fr hg, (hp i hi).2]
      simp [List.getD_eq_getElem?_getD, hi]

theorem Hw.texts {B M M' : Nat} {rk : Nat → Nat} {p : Nat → Prop} {w : World} {v : Value} (h : Hw B M rk w) (hv : Sli B M' 22 1 p w v) : ∃ ks : List (List Int), KSeg (From B w) w v ks ∧ ks.length ≤ M' := by
  obtain ⟨a, n, cap, rfl, h1, h2, h3, ⟨rfl, rfl⟩ | ⟨g, cur, fr, rfl, hB, _, hg, hc⟩⟩ := hv
  · obtain rfl : n = 0 := by omega
    exact ⟨[], ⟨none, 0, rfl, Nat.le_refl _, h3, fun _ => rfl, .inl rfl⟩, Nat.zero_le _⟩
  · have hcell := ((h g hB cur _ fr hg).2.1 rfl).2
    obtain ⟨l, hl, hp⟩ := pick_list n (fun i (x : List Int) => ∃ u, cur[i]? = some u ∧ TSeg (From B w) w u x) fun i hi => by
      obtain ⟨x, hx, _⟩ := h.text (hcell i cur[i] (Array.getElem?_eq_getElem (by omega)))
      exact ⟨x, _, Array.getElem?_eq_getElem (by omega), hx⟩
    subst hl
    have hlt := (Array.getElem?_eq_some_iff.1 hg).1
    refine ⟨l, ⟨some ⟨g, 0, none⟩, cap, rfl, h2, h3, by simp, .inr ⟨g, 0, rfl, ⟨hB, hlt⟩, fun i hi => ?_⟩⟩, h1⟩
    obtain ⟨u, hu, ht⟩ := hp i hi
    refine ⟨u, ?_, ?_⟩
    · rw [Nat.zero_add, cell_of_row w g i cur _ fr hg, hu]
    · have : l.getD i [] = l[i] := by simp [List.getD_eq_getElem?_getD, hi]
      rw [this]
      exact ht

end Go.Proofs.YtfokidhamjphfaaDoor
/-
  Small laws on calls that turn nothing, on the box of a value, on lists of values; no statement is proved here.
-/
namespace Go.Proofs.YtfokidhamjphfaaDoor
open Go.RowKit
set_option linter.unusedVariables false
set_option linter.unusedSimpArgs false

theorem quiet_same {P : Program} {f : FuncId} {args : Array Value} {w : World} {n : Nat} {v : Value}
    (h : Calls P f args (w.drewN n) fun e w' => e = .returned v ∧ w.drewN n = w') : Calls P f args (w.drewN n) fun e w'' => e = .returned v ∧ ∃ m, w'' = w.drewN m :=
  Calls.quiet_of_same (h.mono fun _ _ ⟨he, hm⟩ => ⟨he, hm.symm⟩)

/-- The box of a value that was handed in. -/
theorem box_row {w wr : World} {o : Obj} (h : Below (w.alloc o).heap.size (w.alloc o) wr) : wr.heap[w.heap.size]? = some o :=
  (h.block w.heap.size (by simp)).trans (MapKept.heap_alloc w o).1

theorem LSeg.at {N : Nat} {w wr : World} {d : Nat} {a : Option Addr} {n cap : Nat} {l : List (Vl d)} (h : LSeg (fun b => b < N) w d (.slice a n cap) l) (hb : Below w.heap.size w wr) (hN : N ≤ w.heap.size) {k : Nat} (hk : k < l.length) :
    ∃ b off c, a = some ⟨b, off, none⟩ ∧ Five wr b (off + k * 5) c ∧ ∀ wx, Below w.heap.size w wx → VSeg (fun b => b < N) wx d c (l[k]) := by
  obtain ⟨a', cap', h1, h2, h3, h4, h5⟩ := h
  simp only [Value.slice.injEq] at h1
  obtain ⟨rfl, _, _⟩ := h1
  rcases h5 with h0 | ⟨b, off, rfl, hR, hc⟩
  · subst h0; simp at hk
  · obtain ⟨c, h5, hv⟩ := hc k hk
    exact ⟨b, off, c, rfl, h5.agree (agree_below (hb.mono hN)) hR, fun wx hx => VSeg.agree (agree_below (hx.mono hN)) d hv⟩

theorem VSeg.form {R : Nat → Prop} {w : World} (d : Nat) {c0 c1 c2 c3 c4 : Value} {v : Vl d} (h : VSeg R w d (c0, c1, c2, c3, c4) v) :
    ∃ (k n : Int) (a2 : Option Addr) (l2 p2 : Nat) (a3 : Option Addr) (l3 p3 : Nat) (a4 : Option Addr) (l4 p4 : Nat), c0 = .int .i64 k ∧ c1 = .int .i64 n ∧ c2 = .slice a2 l2 p2 ∧ c3 = .slice a3 l3 p3 ∧ c4 = .slice a4 l4 p4 := by
  cases d with
  | zero => exact h.elim
  | succ d =>
    obtain ⟨e0, e1, ⟨a2, p2, e2, _⟩, ⟨a3, p3, e3, _⟩, a4, p4, e4, _⟩ := h
    exact ⟨_, _, _, _, _, _, _, _, _, _, _, e0, e1, e2, e3, e4⟩
end Go.Proofs.YtfokidhamjphfaaDoor
/-
  A row of bytes of the call's own, as a text with its blocks.
-/
namespace Go.Proofs.YtfokidhamjphfaaDoor
open Go.RowKit
set_option linter.unusedVariables false
set_option linter.unusedSimpArgs false

theorem tOwn_of {w : World} {base : Nat} {v : Value} {xs : List Int} (h : Bts w base v xs) : ∃ B, TOwn w v xs B ∧ (∀ b ∈ B, base ≤ b ∧ b < w.heap.size) ∧ B.Nodup := by
  have hlt := h.2.lt
  rcases h.2.2 with ⟨rfl, h0⟩ | ⟨g, cap, cur, rfl, _⟩
  · exact ⟨[], ⟨h.free, .inl ⟨rfl, rfl⟩⟩, by simp, by simp⟩
  · exact ⟨[g], ⟨h.free, .inr ⟨g, cap, rfl, rfl⟩⟩, by intro b hb; simp at hb; subst hb; exact hlt b rfl, by simp⟩

end Go.Proofs.YtfokidhamjphfaaDoor
