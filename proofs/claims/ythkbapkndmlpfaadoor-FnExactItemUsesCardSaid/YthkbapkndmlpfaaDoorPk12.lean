/-
  Texts that a law leans on, one behind the other; no statement is proved here.
-/
import Derived.Test.YthkbapkndmlpfaaDoorPk11
import Derived.WalkKit
import Derived.ProofKit
import Derived.ChangeSlices
import Derived.ChangeArms
import Derived.Test.YthkbapkndmlpfaaDoorPk0
import Derived.Test.YthkbapkndmlpfaaDoorPk3
/-
  A value that came in, as its reading has it, can be read: 'VSeg'.
-/
namespace Go.Proofs.YthkbapkndmlpfaaDoor
open Go.ChangeShapes Go.WideShapes Go.ChangeAt Go.RowKit
set_option linter.unusedVariables false
set_option linter.unusedSimpArgs false
set_option maxRecDepth 100000

theorem cellsK : Tryd.prog.cellsOf 30 = 1 := by kernel_rfl
theorem cellsL : Tryd.prog.cellsOf 31 = 1 := by kernel_rfl
theorem cellsV : Tryd.prog.cellsOf 33 = 5 := by kernel_rfl
variable {H : Type} {enc : TypeId × Value → H} {w : World}

theorem read_keys {fuel : Nat} {cs : List Value} {x : DataW H × List MemPlace} (h : DataW.trod enc Tryd.prog w 0 (fun _ => true) true fuel 30 cs = some x) : ∃ u ks, cs = [u] ∧ KSeg (fun b => b < w.heap.size) w u ks := by
  rcases DataW.trod_slice Tryd.underlying30 h with ⟨rfl, _⟩ | ⟨a, len, cap, elems, rest, n, _, rfl, _, hb, hl, hm, hlen, hel, hsp, hns⟩
  · exact ⟨_, [], rfl, none, 0, rfl, Nat.le_refl _, Nat.zero_le _, fun _ => rfl, .inl rfl⟩
  · have hq : ∀ i, i < len → ∃ xs : List Int, ∃ u, w.cell? (a.add i) = some u ∧ TSeg (fun b => b < w.heap.size) w u xs := by
      intro i hi
      have h1 := hel i hi
      rw [cellsT, Nat.mul_one, List.getElem?_eq_getElem (by omega)] at h1
      obtain ⟨cs', hc, ht⟩ := Option.bind_eq_some_iff.1 h1
      obtain ⟨u, xs, rfl, hT⟩ := read_text ht
      exact ⟨xs, u, cell_of_cells?_one hc, hT⟩
    obtain ⟨ks, hkl, hks⟩ := list_of len hq
    subst hkl
    refine ⟨_, ks, rfl, some a, cap, rfl, hl, hm, by simp, ?_⟩
    by_cases he : ks = []
    · exact .inl he
    · have hp : 0 < ks.length := List.length_pos_iff.2 he
      obtain ⟨b, off, spot⟩ := a
      obtain ⟨u0, hu0, _⟩ := hks 0 hp
      have hspot : spot = none := by simpa [Addr.add] using World.cell?_spot hu0
      subst hspot
      refine .inr ⟨b, off, rfl, ?_, fun i hi => ?_⟩
      · have := World.block_lt_of_cell? w _ hu0
        simpa [Addr.add] using this
      · obtain ⟨u, hu, hT⟩ := hks i hi
        rw [Addr.add_lit] at hu
        exact ⟨u, hu, by simpa [List.getD_eq_getElem?_getD, hi] using hT⟩

theorem read_five {fuel : Nat} {cs : List Value} {x : DataW H × List MemPlace} (h : DataW.trod enc Tryd.prog w 0 (fun _ => true) true (fuel + 1) 33 cs = some x) :
    ∃ c0 c1 c2 c3 c4 y0 y1 y2 y3 y4, cs = [c0, c1, c2, c3, c4] ∧ DataW.trod enc Tryd.prog w 0 (fun _ => true) true fuel 3 [c0] = some y0 ∧ DataW.trod enc Tryd.prog w 0 (fun _ => true) true fuel 3 [c1] = some y1 ∧
      DataW.trod enc Tryd.prog w 0 (fun _ => true) true fuel 29 [c2] = some y2 ∧ DataW.trod enc Tryd.prog w 0 (fun _ => true) true fuel 30 [c3] = some y3 ∧ DataW.trod enc Tryd.prog w 0 (fun _ => true) true fuel 31 [c4] = some y4 := by
  unfold DataW.trod at h
  rw [Tryd.underlying33] at h
  simp only [cellsV] at h
  split at h
  · next hlen =>
    match cs, hlen with
    | [c0, c1, c2, c3, c4], _ =>
      simp [cellsT, cellsK, cellsL, cellsI, List.mapM_cons, Option.bind_eq_some_iff] at h
      obtain ⟨a0, b0, h0, _, ⟨a1, b1, h1, _, ⟨a2, b2, h2, _, ⟨a3, b3, h3, _, ⟨a4, b4, h4, _⟩, _⟩, _⟩, _⟩, _⟩ := h
      exact ⟨c0, c1, c2, c3, c4, _, _, _, _, _, rfl, h0, h1, h2, h3, h4⟩
  · simp at h

/-- How deep what is read with that fuel is at most. -/
def dep : Nat → Nat
  | 0 => 0
  | 1 => 0
  | f + 2 => dep f + 1

def ReadAt (enc : TypeId × Value → H) (w : World) (f : Nat) : Prop := ∀ (cs : List Value) (x : DataW H × List MemPlace), DataW.trod enc Tryd.prog w 0 (fun _ => true) true f 33 cs = some x →
  ∃ (c0 c1 c2 c3 c4 : Value) (v : Vl (dep f)), cs = [c0, c1, c2, c3, c4] ∧ VSeg (fun b => b < w.heap.size) w (dep f) (c0, c1, c2, c3, c4) v

theorem read_step (f : Nat) (ih : ReadAt enc w f) : ReadAt enc w (f + 2) := by
  intro cs x h
  obtain ⟨c0, c1, c2, c3, c4, y0, y1, y2, y3, y4, rfl, h0, h1, h2, h3, h4⟩ := read_five h
  obtain ⟨n0, e0, _, _⟩ := DataW.trod_int Tryd.underlying3 h0
  obtain ⟨n1, e1, _, _⟩ := DataW.trod_int Tryd.underlying3 h1
  obtain ⟨u2, xs, e2, hT⟩ := read_text h2
  obtain ⟨u3, ks, e3, hK⟩ := read_keys h3
  simp at e0 e1 e2 e3
  subst e0 e1 e2 e3
  have hL : ∃ l : List (Vl (dep f)), LSeg (fun b => b < w.heap.size) w (dep f) c4 l := by
    rcases DataW.trod_slice Tryd.underlying31 h4 with ⟨e, _⟩ | ⟨a, len, cap, elems, rest, n, hn, e, _, hb, hl, hm, hlen, hel, hsp, hns⟩
    · simp at e
      subst e
      exact ⟨[], none, 0, rfl, Nat.le_refl _, Nat.zero_le _, fun _ => rfl, .inl rfl⟩
    · simp at e
      subst e
      obtain rfl : n = f := by omega
      have hq : ∀ i, i < len → ∃ v : Vl (dep n), ∃ c0 c1 c2 c3 c4, (∀ j, j < 5 → w.cell? ((a.add (i * 5)).add j) = [c0, c1, c2, c3, c4][j]?) ∧ VSeg (fun b => b < w.heap.size) w (dep n) (c0, c1, c2, c3, c4) v := by
        intro i hi
        have h1 := hel i hi
        rw [cellsV, List.getElem?_eq_getElem (by omega)] at h1
        obtain ⟨cs', hc, ht⟩ := Option.bind_eq_some_iff.1 h1
        obtain ⟨d0, d1, d2, d3, d4, v, rfl, hv⟩ := ih cs' _ ht
        exact ⟨v, d0, d1, d2, d3, d4, (World.cells?_some hc).2.2, hv⟩
      obtain ⟨l, hll, hls⟩ := list_of len hq
      subst hll
      refine ⟨l, some a, cap, rfl, hl, hm, by simp, ?_⟩
      by_cases he : l = []
      · exact .inl he
      · have hp : 0 < l.length := List.length_pos_iff.2 he
        obtain ⟨b, off, spot⟩ := a
        obtain ⟨d0, d1, d2, d3, d4, hu0, _⟩ := hls 0 hp
        have hu := hu0 0 (by omega)
        simp [Addr.add] at hu
        have hspot : spot = none := by simpa using World.cell?_spot hu
        subst hspot
        refine .inr ⟨b, off, rfl, World.block_lt_of_cell? w _ hu, fun i hi => ?_⟩
        obtain ⟨d0, d1, d2, d3, d4, hu, hv⟩ := hls i hi
        have e : ∀ j, j < 5 → w.cell? ⟨b, off + i * 5 + j, none⟩ = [d0, d1, d2, d3, d4][j]? := by
          intro j hj
          have := hu j hj
          rw [Addr.add_lit, Addr.add_lit] at this
          exact this
        exact ⟨(d0, d1, d2, d3, d4), ⟨e 0 (by omega), e 1 (by omega), e 2 (by omega), e 3 (by omega), e 4 (by omega)⟩, hv⟩
  obtain ⟨l, hL⟩ := hL
  exact ⟨_, _, _, _, _, (n0, n1, xs, ks, l), rfl, (VSeg_succ _ _ _ _ _).2 ⟨rfl, rfl, hT, hK, hL⟩⟩

theorem read_both (f : Nat) : ReadAt enc w f ∧ ReadAt enc w (f + 1) := by
  induction f with
  | zero =>
    refine ⟨fun cs x h => by simp [DataW.trod] at h, fun cs x h => ?_⟩
    obtain ⟨_, _, _, _, _, _, _, _, _, _, _, h0, _⟩ := read_five h
    simp [DataW.trod] at h0
  | succ f ih => exact ⟨ih.2, read_step f ih.1⟩

/-- A value that came in. -/
theorem read_value {v : Value} {d : DataW H} {ps : List MemPlace} (h : DataW.Trod enc Tryd.prog w 0 (fun _ => true) true 33 v d ps) :
    ∃ c0 c1 c2 c3 c4 n, v = .agg #[c0, c1, c2, c3, c4] ∧ ∃ x : Vl n, VSeg (fun b => b < w.heap.size) w n (c0, c1, c2, c3, c4) x := by
  obtain ⟨fuel, hf⟩ := h
  obtain ⟨c0, c1, c2, c3, c4, x, e, hx⟩ := (read_both fuel).1 _ _ hf
  refine ⟨c0, c1, c2, c3, c4, dep fuel, ?_, x, hx⟩
  cases v <;> simp [Value.cells] at e
  rename_i cs
  cases cs
  simp at e
  simp [e]
end Go.Proofs.YthkbapkndmlpfaaDoor
/-
  What reads as a value of a depth reads as one of any greater; no statement is proved here.
-/
namespace Go.Proofs.YthkbapkndmlpfaaDoor
open Go.RowKit
set_option linter.unusedVariables false
set_option linter.unusedSimpArgs false

/-- What reads at a depth reads at one more. -/
theorem VSeg.up {R : Nat → Prop} {w : World} : ∀ (d : Nat) (c : Value × Value × Value × Value × Value) (v : Vl d), VSeg R w d c v → ∃ v' : Vl (d + 1), VSeg R w (d + 1) c v'
  | 0, c, v, h => h.elim
  | d + 1, c, v, h => by
    obtain ⟨h0, h1, hT, hK, a, cap, e, hc, hm, hn, hL⟩ := h
    rcases hL with hL | ⟨b, off, ha, hb, hL⟩
    · refine ⟨(v.1, v.2.1, v.2.2.1, v.2.2.2.1, []), h0, h1, hT, hK, a, cap, ?_, Nat.zero_le _, hm, hn, Or.inl rfl⟩
      rw [e, hL]
      rfl
    · have hall : ∀ i (hi : i < v.2.2.2.2.length), ∃ v' : Vl (d + 1), ∃ e, Five w b (off + i * 5) e ∧ VSeg R w (d + 1) e v' := fun i hi => by
        obtain ⟨e, h5, hv⟩ := hL i hi
        obtain ⟨v', hv'⟩ := VSeg.up d e _ hv
        exact ⟨v', e, h5, hv'⟩
      have hlist : ∀ n, n ≤ v.2.2.2.2.length → ∃ l : List (Vl (d + 1)), l.length = n ∧ ∀ i (hi : i < l.length), ∃ e, Five w b (off + i * 5) e ∧ VSeg R w (d + 1) e l[i] := by
        intro n
        induction n with
        | zero => exact fun _ => ⟨[], rfl, fun i hi => absurd hi (by simp)⟩
        | succ n ih =>
          intro hn'
          obtain ⟨l, hl, hl2⟩ := ih (by omega)
          obtain ⟨v', e, h5, hv⟩ := hall n (by omega)
          refine ⟨l ++ [v'], by simp [hl], fun i hi => ?_⟩
          by_cases hin : i < l.length
          · rw [List.getElem_append_left hin]
            exact hl2 i hin
          · have hi' : i = l.length := by simp at hi; omega
            subst hi'
            rw [List.getElem_append_right (Nat.le_refl _)]
            simp only [Nat.sub_self, List.getElem_cons_zero]
            rw [hl]
            exact ⟨e, h5, hv⟩
      obtain ⟨l, hl, hl2⟩ := hlist _ (Nat.le_refl _)
      refine ⟨(v.1, v.2.1, v.2.2.1, v.2.2.2.1, l), h0, h1, hT, hK, a, cap, ?_, ?_, hm, hn, Or.inr ⟨b, off, ha, hb, hl2⟩⟩
      · show c.2.2.2.2 = .slice a l.length cap
        rw [hl]
        exact e
      · show l.length ≤ cap
        rw [hl]
        exact hc

theorem VSeg.deeper {R : Nat → Prop} {w : World} {d : Nat} {c : Value × Value × Value × Value × Value} {v : Vl d} (h : VSeg R w d c v) : ∀ k, ∃ v' : Vl (d + k), VSeg R w (d + k) c v'
  | 0 => ⟨v, h⟩
  | k + 1 => by
    obtain ⟨v', h'⟩ := VSeg.deeper h k
    exact VSeg.up (d + k) c v' h'

theorem VSeg.at_least {R : Nat → Prop} {w : World} {d D : Nat} {c : Value × Value × Value × Value × Value} {v : Vl d} (h : VSeg R w d c v) (hD : d ≤ D) : ∃ v' : Vl D, VSeg R w D c v' := by
  obtain ⟨k, rfl⟩ : ∃ k, D = d + k := ⟨D - d, by omega⟩
  exact h.deeper k
end Go.Proofs.YthkbapkndmlpfaaDoor
/-
  Items that came in, as their reading has them, can be read: 'ISeg', 'ILSeg'.
-/
namespace Go.Proofs.YthkbapkndmlpfaaDoor
open Go.ChangeShapes Go.WideShapes Go.ChangeAt Go.RowKit
set_option linter.unusedVariables false
set_option linter.unusedSimpArgs false
set_option maxRecDepth 100000

theorem cellsIt : Tryd.prog.cellsOf 35 = 10 := by kernel_rfl
variable {H : Type} {enc : TypeId × Value → H} {w : World}

theorem dep_up : ∀ f, dep f ≤ dep (f + 1) ∧ dep (f + 1) ≤ dep (f + 2)
  | 0 => ⟨Nat.le_refl _, by simp [dep]⟩
  | f + 1 => by
    have h := dep_up f
    refine ⟨h.2, ?_⟩
    show dep (f + 2) ≤ dep (f + 1 + 2)
    simp only [dep]
    omega

/-- A list of expressions that came in. -/
theorem read_list {f : Nat} {u : Value} {x : DataW H × List MemPlace} (h : DataW.trod enc Tryd.prog w 0 (fun _ => true) true f 31 [u] = some x) :
    ∃ l : List (Vl (dep f)), LSeg (fun b => b < w.heap.size) w (dep f) u l := by
  rcases DataW.trod_slice Tryd.underlying31 h with ⟨e, _⟩ | ⟨a, len, cap, elems, rest, n, hn, e, _, hb, hl, hm, hlen, hel, hsp, hns⟩
  · simp at e
    subst e
    exact ⟨[], none, 0, rfl, Nat.le_refl _, Nat.zero_le _, fun _ => rfl, .inl rfl⟩
  · simp at e
    subst e
    obtain rfl : f = n + 1 := by omega
    have hq : ∀ i, i < len → ∃ v : Vl (dep (n + 1)), ∃ c0 c1 c2 c3 c4, (∀ j, j < 5 → w.cell? ((a.add (i * 5)).add j) = [c0, c1, c2, c3, c4][j]?) ∧ VSeg (fun b => b < w.heap.size) w (dep (n + 1)) (c0, c1, c2, c3, c4) v := by
      intro i hi
      have h1 := hel i hi
      rw [cellsV, List.getElem?_eq_getElem (by omega)] at h1
      obtain ⟨cs', hc, ht⟩ := Option.bind_eq_some_iff.1 h1
      obtain ⟨d0, d1, d2, d3, d4, v, rfl, hv⟩ := (read_both n).1 cs' _ ht
      obtain ⟨v', hv'⟩ := hv.at_least (dep_up n).1
      exact ⟨v', d0, d1, d2, d3, d4, (World.cells?_some hc).2.2, hv'⟩
    obtain ⟨l, hll, hls⟩ := list_of len hq
    subst hll
    refine ⟨l, some a, cap, rfl, hl, hm, by simp, ?_⟩
    by_cases he : l = []
    · exact .inl he
    · have hp : 0 < l.length := List.length_pos_iff.2 he
      obtain ⟨b, off, spot⟩ := a
      obtain ⟨d0, d1, d2, d3, d4, hu0, _⟩ := hls 0 hp
      have hu := hu0 0 (by omega)
      simp [Addr.add] at hu
      have hspot : spot = none := by simpa using World.cell?_spot hu
      subst hspot
      refine .inr ⟨b, off, rfl, World.block_lt_of_cell? w _ hu, fun i hi => ?_⟩
      obtain ⟨d0, d1, d2, d3, d4, hu, hv⟩ := hls i hi
      have e : ∀ j, j < 5 → w.cell? ⟨b, off + i * 5 + j, none⟩ = [d0, d1, d2, d3, d4][j]? := by
        intro j hj
        have := hu j hj
        rw [Addr.add_lit, Addr.add_lit] at this
        exact this
      exact ⟨(d0, d1, d2, d3, d4), ⟨e 0 (by omega), e 1 (by omega), e 2 (by omega), e 3 (by omega), e 4 (by omega)⟩, hv⟩

/-- An item that came in. -/
theorem read_item {f : Nat} {cs : List Value} {x : DataW H × List MemPlace} (h : DataW.trod enc Tryd.prog w 0 (fun _ => true) true (f + 1) 35 cs = some x) :
    ∃ it : Itm (dep f), ISeg (fun b => b < w.heap.size) w (dep f) cs it := by
  unfold DataW.trod at h
  rw [Tryd.underlying35] at h
  simp only [cellsIt] at h
  split at h
  · next hlen =>
    match cs, hlen with
    | [c0, c1, c2, c3, c4, c5, c6, c7, c8, c9], _ =>
      simp [cellsT, cellsK, cellsL, cellsI, cellsV, List.mapM_cons, Option.bind_eq_some_iff] at h
      obtain ⟨a0, b0, h0, _, ⟨a1, b1, h1, _, ⟨a2, b2, h2, _, ⟨a3, b3, h3, _, ⟨a4, b4, h4, _, ⟨a5, b5, h5, _⟩, _⟩, _⟩, _⟩, _⟩, _⟩ := h
      obtain ⟨n0, e0, _, _⟩ := DataW.trod_int Tryd.underlying3 h0
      obtain ⟨u1, xs, e1, hT⟩ := read_text h1
      obtain ⟨n2, e2, _, _⟩ := DataW.trod_int Tryd.underlying3 h2
      obtain ⟨p0, p1, p2, p3, p4, v3, e3, hV⟩ := (read_both f).1 _ _ h3
      obtain ⟨u4, ks, e4, hK⟩ := read_keys h4
      obtain ⟨l, hL⟩ := read_list h5
      simp only [List.cons.injEq, and_true] at e0 e1 e2 e3 e4
      obtain ⟨rfl, rfl, rfl, rfl, rfl⟩ := e3
      subst e0 e1 e2 e4
      exact ⟨(n0, xs, n2, v3, ks, l), _, _, _, _, _, _, _, _, rfl, hT, hV, hK, hL⟩
  · simp at h

/-- A list of items that came in. -/
theorem read_items {fuel : Nat} {cs : List Value} {x : DataW H × List MemPlace} (h : DataW.trod enc Tryd.prog w 0 (fun _ => true) true fuel 22 cs = some x) :
    ∃ u d, ∃ l : List (Itm d), cs = [u] ∧ ILSeg (fun b => b < w.heap.size) w d u l := by
  rcases DataW.trod_slice Tryd.underlying22 h with ⟨rfl, _⟩ | ⟨a, len, cap, elems, rest, n, _, rfl, _, hb, hl, hm, hlen, hel, hsp, hns⟩
  · exact ⟨_, 0, [], rfl, none, 0, rfl, Nat.le_refl _, Nat.zero_le _, fun _ => rfl, .inl rfl⟩
  · cases n with
    | zero =>
      have h0 : len = 0 := by
        by_cases e : len = 0
        · exact e
        · have h1 := hel 0 (by omega)
          rw [List.getElem?_eq_getElem (by omega)] at h1
          obtain ⟨cs', hc, ht⟩ := Option.bind_eq_some_iff.1 h1
          simp [DataW.trod] at ht
      subst h0
      exact ⟨_, 0, [], rfl, some a, cap, rfl, hl, hm, by simp, .inl rfl⟩
    | succ n =>
      have hq : ∀ i, i < len → ∃ it : Itm (dep n), ∃ cs, (∀ j, j < 10 → w.cell? ((a.add (i * 10)).add j) = cs[j]?) ∧ ISeg (fun b => b < w.heap.size) w (dep n) cs it := by
        intro i hi
        have h1 := hel i hi
        rw [cellsIt, List.getElem?_eq_getElem (by omega)] at h1
        obtain ⟨cs', hc, ht⟩ := Option.bind_eq_some_iff.1 h1
        obtain ⟨it, hv⟩ := read_item ht
        exact ⟨it, cs', (World.cells?_some hc).2.2, hv⟩
      obtain ⟨l, hll, hls⟩ := list_of len hq
      subst hll
      refine ⟨_, dep n, l, rfl, some a, cap, rfl, hl, hm, by simp, ?_⟩
      by_cases he : l = []
      · exact .inl he
      · have hp : 0 < l.length := List.length_pos_iff.2 he
        obtain ⟨b, off, spot⟩ := a
        obtain ⟨cs0, hu0, hs0⟩ := hls 0 hp
        have hu := hu0 0 (by omega)
        have hl0 := hs0.len
        rw [List.getElem?_eq_getElem (by omega)] at hu
        simp [Addr.add] at hu
        have hspot : spot = none := by simpa using World.cell?_spot hu
        subst hspot
        refine .inr ⟨b, off, rfl, World.block_lt_of_cell? w _ hu, fun i hi => ?_⟩
        obtain ⟨cs, hu, hv⟩ := hls i hi
        refine ⟨cs, fun j v hj => ?_, hv⟩
        have hlj := hv.len
        have hj10 : j < 10 := by
          have := (List.getElem?_eq_some_iff.1 hj).1
          omega
        have := hu j hj10
        rw [Addr.add_lit, Addr.add_lit] at this
        rw [this]
        exact hj

/-- As an argument. -/
theorem read_items_arg {a : Option Addr} {n c : Nat} {dd : DataW H} {ps : List MemPlace} (h : DataW.Trod enc Tryd.prog w 0 (fun _ => true) true 22 (.slice a n c) dd ps) : ∃ d, ∃ l : List (Itm d), ILSeg (fun b => b < w.heap.size) w d (.slice a n c) l := by
  obtain ⟨fuel, hf⟩ := h
  obtain ⟨u, d, l, e, hl⟩ := read_items hf
  simp [Value.cells] at e
  subst e
  exact ⟨d, l, hl⟩

theorem agg_of {v : Value} {l : List Value} (e : v.cells.toList = l) (h : l.length ≠ 1) : v = .agg l.toArray := by
  cases v <;> simp [Value.cells] at e <;> first | (subst e; simp at h; done) | (subst e; simp)

/-- An item as an argument. -/
theorem read_item_arg {v : Value} {dd : DataW H} {ps : List MemPlace} (h : DataW.Trod enc Tryd.prog w 0 (fun _ => true) true 35 v dd ps) : ∃ X d, ∃ it : Itm d, v = .agg X ∧ ISeg (fun b => b < w.heap.size) w d X.toList it := by
  obtain ⟨fuel, hf⟩ := h
  cases fuel with
  | zero => simp [DataW.trod] at hf
  | succ f =>
    obtain ⟨it, hs⟩ := read_item hf
    have hl := hs.len
    generalize hcs : v.cells.toList = cs at hs hl
    exact ⟨cs.toArray, dep f, it, agg_of hcs (by omega), hs⟩
end Go.Proofs.YthkbapkndmlpfaaDoor
