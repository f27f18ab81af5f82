/-
  Texts that a law leans on, one behind the other; no statement is proved here.
-/
import Derived.Test.YtcepgdlnlmhecaaPk0
import Derived.Test.YtcepgdlnlmhecaaPk14
import Derived.Test.YtcepgdlnlmhecaaPk3
/-
  What reads as a value of a depth reads as one of any greater; no statement is proved here.
-/
namespace Go.Proofs.Ytcepgdlnlmhecaa
open Go.RowKit
set_option linter.unusedVariables false
set_option linter.unusedSimpArgs false

/-- What reads at a depth reads at one more. -/
theorem VSeg.up {R : Nat → Prop} {w : World} : ∀ (d : Nat) (c : Value × Value × Value × Value × Value) (v : Vl d), VSeg R w d c v → ∃ v' : Vl (d + 1), VSeg R w (d + 1) c v'
  | 0, c, v, h => h.elim
  | d + 1, c, v, h => by
    obtain ⟨h0, h1, hT, hK, a, cap, e, hc, hm, hn, hL⟩ := h
    rcases hL with hL | ⟨b, off, ha, hb, hL⟩
    · refine ⟨(v.1, v.2.1, v.2.2.1, v.2.2.2.1, []), h0, h1, hT, hK, a, cap, ?_, Nat.zero_le _, hm, hn, Or.inl rfl⟩
      rw [e, hL]
      rfl
    · have hall : ∀ i (hi : i < v.2.2.2.2.length), ∃ v' : Vl (d + 1), ∃ e, Five w b (off + i * 5) e ∧ VSeg R w (d + 1) e v' := fun i hi => by
        obtain ⟨e, h5, hv⟩ := hL i hi
        obtain ⟨v', hv'⟩ := VSeg.up d e _ hv
        exact ⟨v', e, h5, hv'⟩
      have hlist : ∀ n, n ≤ v.2.2.2.2.length → ∃ l : List (Vl (d + 1)), l.length = n ∧ ∀ i (hi : i < l.length), ∃ e, Five w b (off + i * 5) e ∧ VSeg R w (d + 1) e l[i] := by
        intro n
        induction n with
        | zero => exact fun _ => ⟨[], rfl, fun i hi => absurd hi (by simp)⟩
        | succ n ih =>
          intro hn'
          obtain ⟨l, hl, hl2⟩ := ih (by omega)
          obtain ⟨v', e, h5, hv⟩ := hall n (by omega)
          refine ⟨l ++ [v'], by simp [hl], fun i hi => ?_⟩
          by_cases hin : i < l.length
          · rw [List.getElem_append_left hin]
            exact hl2 i hin
          · have hi' : i = l.length := by simp at hi; omega
            subst hi'
            rw [List.getElem_append_right (Nat.le_refl _)]
            simp only [Nat.sub_self, List.getElem_cons_zero]
            rw [hl]
            exact ⟨e, h5, hv⟩
      obtain ⟨l, hl, hl2⟩ := hlist _ (Nat.le_refl _)
      refine ⟨(v.1, v.2.1, v.2.2.1, v.2.2.2.1, l), h0, h1, hT, hK, a, cap, ?_, ?_, hm, hn, Or.inr ⟨b, off, ha, hb, hl2⟩⟩
      · show c.2.2.2.2 = .slice a l.length cap
        rw [hl]
        exact e
      · show l.length ≤ cap
        rw [hl]
        exact hc

theorem VSeg.deeper {R : Nat → Prop} {w : World} {d : Nat} {c : Value × Value × Value × Value × Value} {v : Vl d} (h : VSeg R w d c v) : ∀ k, ∃ v' : Vl (d + k), VSeg R w (d + k) c v'
  | 0 => ⟨v, h⟩
  | k + 1 => by
    obtain ⟨v', h'⟩ := VSeg.deeper h k
    exact VSeg.up (d + k) c v' h'

theorem VSeg.at_least {R : Nat → Prop} {w : World} {d D : Nat} {c : Value × Value × Value × Value × Value} {v : Vl d} (h : VSeg R w d c v) (hD : d ≤ D) : ∃ v' : Vl D, VSeg R w D c v' := by
  obtain ⟨k, rfl⟩ : ∃ k, D = d + k := ⟨D - d, by omega⟩
  exact h.deeper k
end Go.Proofs.Ytcepgdlnlmhecaa
/-
  Changes that came in, as their reading has them, can be read: 'CSg', 'CLSg'.
-/
namespace Go.Proofs.Ytcepgdlnlmhecaa
open Go.ChangeShapes Go.WideShapes Go.ChangeAt Go.RowKit
set_option linter.unusedVariables false
set_option linter.unusedSimpArgs false
set_option maxRecDepth 100000

theorem cellsCh : Try.prog.cellsOf 37 = 13 := by kernel_rfl
theorem cellsPt : Try.prog.cellsOf 30 = 1 := by kernel_rfl
theorem cellsBo : Try.prog.cellsOf 4 = 1 := by kernel_rfl
variable {H : Type} {enc : TypeId × Value → H} {w : World}

/-- A change that came in. -/
theorem read_change {f : Nat} {cs : List Value} {x : DataW H × List MemPlace} (h : DataW.trod enc Try.prog w 0 (fun _ => true) true (f + 1) 37 cs = some x) :
    ∃ it : Chg (dep f), CSg (fun b => b < w.heap.size) w (dep f) cs it := by
  unfold DataW.trod at h
  rw [Try.underlying37] at h
  simp only [cellsCh] at h
  split at h
  · next hlen =>
    match cs, hlen with
    | [c0, c1, c2, c3, c4, c5, c6, c7, c8, c9, c10, c11, c12], _ =>
      simp [cellsPt, cellsBo, cellsV, List.mapM_cons, Option.bind_eq_some_iff] at h
      obtain ⟨a0, b0, h0, _, ⟨a1, b1, h1, _, ⟨a2, b2, h2, _, ⟨a3, b3, h3, _, ⟨a4, b4, h4, _⟩, _⟩, _⟩, _⟩, _⟩ := h
      obtain ⟨u0, p, e0, hP⟩ := read_path h0
      obtain ⟨n1, e1, _⟩ := DataW.trod_bool Try.underlying4 h1
      obtain ⟨p0, p1, p2, p3, p4, v2, e2, hV⟩ := (read_both f).1 _ _ h2
      obtain ⟨n3, e3, _⟩ := DataW.trod_bool Try.underlying4 h3
      obtain ⟨q0, q1, q2, q3, q4, v4, e4, hU⟩ := (read_both f).1 _ _ h4
      simp only [List.cons.injEq, and_true] at e0 e1 e2 e3 e4
      obtain ⟨rfl, rfl, rfl, rfl, rfl⟩ := e2
      obtain ⟨rfl, rfl, rfl, rfl, rfl⟩ := e4
      subst e0 e1 e3
      exact ⟨(p, n1, v2, n3, v4), _, _, _, _, _, _, _, _, _, _, _, rfl, hP, hV, hU⟩
  · simp at h

/-- A list of changes that came in. -/
theorem read_changes {fuel : Nat} {cs : List Value} {x : DataW H × List MemPlace} (h : DataW.trod enc Try.prog w 0 (fun _ => true) true fuel 22 cs = some x) :
    ∃ u d, ∃ l : List (Chg d), cs = [u] ∧ CLSg (fun b => b < w.heap.size) w d u l := by
  rcases DataW.trod_slice Try.underlying22 h with ⟨rfl, _⟩ | ⟨a, len, cap, elems, rest, n, _, rfl, _, hb, hl, hm, hlen, hel, hsp, hns⟩
  · exact ⟨_, 0, [], rfl, none, 0, rfl, Nat.le_refl _, Nat.zero_le _, fun _ => rfl, .inl rfl⟩
  · cases n with
    | zero =>
      have h0 : len = 0 := by
        by_cases e : len = 0
        · exact e
        · have h1 := hel 0 (by omega)
          rw [List.getElem?_eq_getElem (by omega)] at h1
          obtain ⟨cs', hc, ht⟩ := Option.bind_eq_some_iff.1 h1
          simp [DataW.trod] at ht
      subst h0
      exact ⟨_, 0, [], rfl, some a, cap, rfl, hl, hm, by simp, .inl rfl⟩
    | succ n =>
      have hq : ∀ i, i < len → ∃ it : Chg (dep n), ∃ cs, (∀ j, j < 13 → w.cell? ((a.add (i * 13)).add j) = cs[j]?) ∧ CSg (fun b => b < w.heap.size) w (dep n) cs it := by
        intro i hi
        have h1 := hel i hi
        rw [cellsCh, List.getElem?_eq_getElem (by omega)] at h1
        obtain ⟨cs', hc, ht⟩ := Option.bind_eq_some_iff.1 h1
        obtain ⟨it, hv⟩ := read_change ht
        exact ⟨it, cs', (World.cells?_some hc).2.2, hv⟩
      obtain ⟨l, hll, hls⟩ := list_of len hq
      subst hll
      refine ⟨_, dep n, l, rfl, some a, cap, rfl, hl, hm, by simp, ?_⟩
      by_cases he : l = []
      · exact .inl he
      · have hp : 0 < l.length := List.length_pos_iff.2 he
        obtain ⟨b, off, spot⟩ := a
        obtain ⟨cs0, hu0, hs0⟩ := hls 0 hp
        have hu := hu0 0 (by omega)
        have hl0 := hs0.len
        rw [List.getElem?_eq_getElem (by omega)] at hu
        simp [Addr.add] at hu
        have hspot : spot = none := by simpa using World.cell?_spot hu
        subst hspot
        refine .inr ⟨b, off, rfl, World.block_lt_of_cell? w _ hu, fun i hi => ?_⟩
        obtain ⟨cs, hu, hv⟩ := hls i hi
        refine ⟨cs, fun j v hj => ?_, hv⟩
        have hlj := hv.len
        have hj13 : j < 13 := by
          have := (List.getElem?_eq_some_iff.1 hj).1
          omega
        have := hu j hj13
        rw [Addr.add_lit, Addr.add_lit] at this
        rw [this]
        exact hj

/-- As an argument. -/
theorem read_changes_arg {a : Option Addr} {n c : Nat} {dd : DataW H} {ps : List MemPlace} (h : DataW.Trod enc Try.prog w 0 (fun _ => true) true 22 (.slice a n c) dd ps) : ∃ d, ∃ l : List (Chg d), CLSg (fun b => b < w.heap.size) w d (.slice a n c) l := by
  obtain ⟨fuel, hf⟩ := h
  obtain ⟨u, d, l, e, hl⟩ := read_changes hf
  simp [Value.cells] at e
  subst e
  exact ⟨d, l, hl⟩

end Go.Proofs.Ytcepgdlnlmhecaa
