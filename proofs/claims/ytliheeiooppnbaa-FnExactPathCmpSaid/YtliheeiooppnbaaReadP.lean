/-
  A path that came in, as its reading has it, can be read: 'PthSeg'.
-/
import Derived.Test.YtliheeiooppnbaaReadT
import Derived.Test.YtliheeiooppnbaaStp
namespace Go.Proofs.Ytliheeiooppnbaa
open Go.ChangeShapes Go.WideShapes Go.ChangeAt Go.RowKit
set_option linter.unusedVariables false
set_option linter.unusedSimpArgs false
set_option maxRecDepth 100000

theorem cellsS : Try.prog.cellsOf 34 = 3 := by kernel_rfl
variable {H : Type} {enc : TypeId × Value → H} {w : World}

theorem read_step3 {fuel : Nat} {cs : List Value} {x : DataW H × List MemPlace} (h : DataW.trod enc Try.prog w 0 (fun _ => true) true fuel 34 cs = some x) :
    ∃ c0 c1 c2, ∃ s : Stp, cs = [c0, c1, c2] ∧ StSeg (fun b => b < w.heap.size) w (c0, c1, c2) s := by
  cases fuel with
  | zero => simp [DataW.trod] at h
  | succ fuel =>
    unfold DataW.trod at h
    rw [Try.underlying34] at h
    simp only [cellsS] at h
    split at h
    · next hlen =>
      match cs, hlen with
      | [c0, c1, c2], _ =>
        simp [cellsT, cellsI, List.mapM_cons, Option.bind_eq_some_iff] at h
        obtain ⟨a0, b0, h0, _, ⟨a1, b1, h1, _, ⟨a2, b2, h2, _⟩, _⟩, _⟩ := h
        obtain ⟨n0, e0, _, _⟩ := DataW.trod_int Try.underlying3 h0
        obtain ⟨u1, xs, e1, hT⟩ := read_text h1
        obtain ⟨n2, e2, _, _⟩ := DataW.trod_int Try.underlying3 h2
        simp at e0 e1 e2
        subst e0 e1 e2
        exact ⟨_, _, _, (n0, xs, n2), rfl, rfl, hT, rfl⟩
    · simp at h

/-- A path that came in. -/
theorem read_path {fuel : Nat} {cs : List Value} {x : DataW H × List MemPlace} (h : DataW.trod enc Try.prog w 0 (fun _ => true) true fuel 22 cs = some x) : ∃ u l, cs = [u] ∧ PthSeg (fun b => b < w.heap.size) w u l := by
  rcases DataW.trod_slice Try.underlying22 h with ⟨rfl, _⟩ | ⟨a, len, cap, elems, rest, n, _, rfl, _, hb, hl, hm, hlen, hel, hsp, hns⟩
  · exact ⟨_, [], rfl, none, 0, rfl, Nat.le_refl _, Nat.zero_le _, fun _ => rfl, .inl rfl⟩
  · have hq : ∀ i, i < len → ∃ s : Stp, ∃ c0 c1 c2, (∀ j, j < 3 → w.cell? ((a.add (i * 3)).add j) = [c0, c1, c2][j]?) ∧ StSeg (fun b => b < w.heap.size) w (c0, c1, c2) s := by
      intro i hi
      have h1 := hel i hi
      rw [cellsS, List.getElem?_eq_getElem (by omega)] at h1
      obtain ⟨cs', hc, ht⟩ := Option.bind_eq_some_iff.1 h1
      obtain ⟨d0, d1, d2, s, rfl, hv⟩ := read_step3 ht
      exact ⟨s, d0, d1, d2, (World.cells?_some hc).2.2, hv⟩
    obtain ⟨l, hll, hls⟩ := list_of len hq
    subst hll
    refine ⟨_, l, rfl, some a, cap, rfl, hl, hm, by simp, ?_⟩
    by_cases he : l = []
    · exact .inl he
    · have hp : 0 < l.length := List.length_pos_iff.2 he
      obtain ⟨b, off, spot⟩ := a
      obtain ⟨d0, d1, d2, hu0, _⟩ := hls 0 hp
      have hu := hu0 0 (by omega)
      simp [Addr.add] at hu
      have hspot : spot = none := by simpa using World.cell?_spot hu
      subst hspot
      refine .inr ⟨b, off, rfl, World.block_lt_of_cell? w _ hu, fun i hi => ?_⟩
      obtain ⟨d0, d1, d2, hu, hv⟩ := hls i hi
      have e : ∀ j, j < 3 → w.cell? ⟨b, off + i * 3 + j, none⟩ = [d0, d1, d2][j]? := by
        intro j hj
        have := hu j hj
        rw [Addr.add_lit, Addr.add_lit] at this
        exact this
      exact ⟨(d0, d1, d2), ⟨by simpa using e 0 (by omega), by simpa using e 1 (by omega), by simpa using e 2 (by omega)⟩, hv⟩

/-- As an argument. -/
theorem read_path_arg {a : Option Addr} {n c : Nat} {d : DataW H} {ps : List MemPlace} (h : DataW.Trod enc Try.prog w 0 (fun _ => true) true 22 (.slice a n c) d ps) : ∃ l, PthSeg (fun b => b < w.heap.size) w (.slice a n c) l := by
  obtain ⟨fuel, hf⟩ := h
  obtain ⟨u, l, e, hl⟩ := read_path hf
  simp [Value.cells] at e
  subst e
  exact ⟨l, hl⟩
end Go.Proofs.Ytliheeiooppnbaa
