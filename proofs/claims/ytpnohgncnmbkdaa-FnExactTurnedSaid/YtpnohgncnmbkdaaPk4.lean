/-
  Texts that a law leans on, one behind the other; no statement is proved here.
-/
import Derived.Test.YtpnohgncnmbkdaaPk0
import Derived.WalkKit
import Derived.ProofKit
import Derived.ChangeSlices
import Derived.ChangeArms
/-
  A graph and a row of numbers that came in can be read.
-/
namespace Go.Proofs.Ytpnohgncnmbkdaa
open Go.ChangeShapes Go.WideShapes Go.ChangeAt Go.RowKit
set_option linter.unusedVariables false
set_option linter.unusedSimpArgs false
set_option maxRecDepth 100000

theorem cellsI : Try.prog.cellsOf 3 = 1 := by kernel_rfl
theorem cellsE : Try.prog.cellsOf 101 = 2 := by kernel_rfl
theorem cellsEs : Try.prog.cellsOf 43 = 1 := by kernel_rfl
theorem cellsG : Try.prog.cellsOf 45 = 2 := by kernel_rfl

theorem list_of {α : Type} {Q : Nat → α → Prop} : ∀ n, (∀ i, i < n → ∃ x, Q i x) → ∃ l : List α, l.length = n ∧ ∀ i (h : i < l.length), Q i l[i]
  | 0, _ => ⟨[], rfl, fun i h => by simp at h⟩
  | n + 1, hq => by
    obtain ⟨l, hl, hi⟩ := list_of n (fun i hi => hq i (by omega))
    obtain ⟨x, hx⟩ := hq n (by omega)
    refine ⟨l ++ [x], by simp [hl], fun i h => ?_⟩
    by_cases e : i < l.length
    · rw [List.getElem_append_left e]; exact hi i e
    · have : i = n := by simp at h; omega
      subst this
      rw [List.getElem_append_right (by omega)]
      simpa using hx

variable {H : Type} {enc : TypeId × Value → H} {w : World}

theorem read_edge {fuel : Nat} {cs : List Value} {x : DataW H × List MemPlace} (h : DataW.trod enc Try.prog w 0 (fun _ => true) true fuel 101 cs = some x) : ∃ e : Edg, cs = [.int .i64 e.1, .int .i64 e.2] := by
  cases fuel with
  | zero => simp [DataW.trod] at h
  | succ fuel =>
    unfold DataW.trod at h
    rw [Try.underlying101] at h
    simp only [cellsE] at h
    split at h
    · next hlen =>
      match cs, hlen with
      | [c0, c1], _ =>
        simp [cellsI, List.mapM_cons, Option.bind_eq_some_iff] at h
        obtain ⟨a0, b0, h0, _, ⟨a1, b1, h1, _⟩, _⟩ := h
        obtain ⟨n0, e0, _, _⟩ := DataW.trod_int Try.underlying3 h0
        obtain ⟨n1, e1, _, _⟩ := DataW.trod_int Try.underlying3 h1
        simp at e0 e1
        subst e0 e1
        exact ⟨(n0, n1), rfl⟩
    · simp at h

theorem read_edges {fuel : Nat} {cs : List Value} {x : DataW H × List MemPlace} (h : DataW.trod enc Try.prog w 0 (fun _ => true) true fuel 43 cs = some x) : ∃ u l, cs = [u] ∧ ESeg (fun b => b < w.heap.size) w u l := by
  rcases DataW.trod_slice Try.underlying43 h with ⟨rfl, _⟩ | ⟨a, len, cap, elems, rest, n, _, rfl, _, hb, hl, hm, hlen, hel, hsp, hns⟩
  · exact ⟨_, [], rfl, none, 0, rfl, Nat.le_refl _, Nat.zero_le _, fun _ => rfl, .inl rfl⟩
  · have hq : ∀ i, i < len → ∃ e : Edg, ∀ j, j < 2 → w.cell? ((a.add (i * 2)).add j) = [Value.int .i64 e.1, Value.int .i64 e.2][j]? := by
      intro i hi
      have h1 := hel i hi
      rw [cellsE, List.getElem?_eq_getElem (by omega)] at h1
      obtain ⟨cs', hc, ht⟩ := Option.bind_eq_some_iff.1 h1
      obtain ⟨e, rfl⟩ := read_edge ht
      exact ⟨e, (World.cells?_some hc).2.2⟩
    obtain ⟨l, hll, hls⟩ := list_of len hq
    subst hll
    refine ⟨_, l, rfl, some a, cap, rfl, hl, hm, by simp, ?_⟩
    by_cases he : l = []
    · exact .inl he
    · have hp : 0 < l.length := List.length_pos_iff.2 he
      obtain ⟨b, off, spot⟩ := a
      have hu := hls 0 hp 0 (by omega)
      simp [Addr.add] at hu
      have hspot : spot = none := by simpa using World.cell?_spot hu
      subst hspot
      refine .inr ⟨b, off, rfl, World.block_lt_of_cell? w _ hu, fun i hi => ?_⟩
      have e : ∀ j, j < 2 → w.cell? ⟨b, off + i * 2 + j, none⟩ = [Value.int .i64 l[i].1, Value.int .i64 l[i].2][j]? := by
        intro j hj
        have := hls i hi j hj
        rw [Addr.add_lit, Addr.add_lit] at this
        exact this
      exact ⟨e 0 (by omega), e 1 (by omega)⟩

/-- A row of numbers. -/
theorem read_nums {fuel : Nat} {cs : List Value} {x : DataW H × List MemPlace} (h : DataW.trod enc Try.prog w 0 (fun _ => true) true fuel 27 cs = some x) : ∃ u l, cs = [u] ∧ NSeg (fun b => b < w.heap.size) w u l := by
  rcases DataW.trod_slice Try.underlying27 h with ⟨rfl, _⟩ | ⟨a, len, cap, elems, rest, n, _, rfl, _, hb, hl, hm, hlen, hel, hsp, hns⟩
  · exact ⟨_, [], rfl, none, 0, rfl, Nat.le_refl _, Nat.zero_le _, fun _ => rfl, .inl rfl⟩
  · have hq : ∀ i, i < len → ∃ v : Int, w.cell? (a.add i) = some (.int .i64 v) := by
      intro i hi
      have h1 := hel i hi
      rw [cellsI, Nat.mul_one, List.getElem?_eq_getElem (by omega)] at h1
      obtain ⟨cs', hc, ht⟩ := Option.bind_eq_some_iff.1 h1
      obtain ⟨v, e, _, _⟩ := DataW.trod_int Try.underlying3 ht
      subst e
      exact ⟨v, cell_of_cells?_one hc⟩
    obtain ⟨l, hll, hls⟩ := list_of len hq
    subst hll
    refine ⟨_, l, rfl, some a, cap, rfl, hl, hm, by simp, ?_⟩
    by_cases he : l = []
    · exact .inl he
    · have hp : 0 < l.length := List.length_pos_iff.2 he
      obtain ⟨b, off, spot⟩ := a
      have hu := hls 0 hp
      have hspot : spot = none := by simpa [Addr.add] using World.cell?_spot hu
      subst hspot
      refine .inr ⟨b, off, rfl, ?_, fun i hi => ?_⟩
      · have := World.block_lt_of_cell? w _ hu
        simpa [Addr.add] using this
      · have := hls i hi
        rw [Addr.add_lit] at this
        exact this
theorem read_nums_arg {a : Option Addr} {n c : Nat} {d : DataW H} {ps : List MemPlace} (h : DataW.Trod enc Try.prog w 0 (fun _ => true) true 27 (.slice a n c) d ps) : ∃ l, NSeg (fun b => b < w.heap.size) w (.slice a n c) l := by
  obtain ⟨fuel, hf⟩ := h
  obtain ⟨u, l, e, hl⟩ := read_nums hf
  simp [Value.cells] at e
  subst e
  exact ⟨l, hl⟩

/-- A graph as an argument. -/
theorem read_graph {v : Value} {d : DataW H} {ps : List MemPlace} (h : DataW.Trod enc Try.prog w 0 (fun _ => true) true 45 v d ps) : ∃ n x E, v = .agg #[.int .i64 n, x] ∧ ESeg (fun b => b < w.heap.size) w x E := by
  obtain ⟨fuel, hf⟩ := h
  cases fuel with
  | zero => simp [DataW.trod] at hf
  | succ fuel =>
    unfold DataW.trod at hf
    rw [Try.underlying45] at hf
    simp only [cellsG] at hf
    split at hf
    · next hlen =>
      generalize hcs : v.cells.toList = cs at hf hlen
      match cs, hlen with
      | [c0, c1], _ =>
        simp [cellsI, cellsEs, List.mapM_cons, Option.bind_eq_some_iff] at hf
        obtain ⟨a0, b0, h0, _, ⟨a1, b1, h1, _⟩, _⟩ := hf
        obtain ⟨n0, e0, _, _⟩ := DataW.trod_int Try.underlying3 h0
        obtain ⟨u, l, e1, hl⟩ := read_edges h1
        simp at e0 e1
        subst e0 e1
        refine ⟨n0, c1, l, ?_, hl⟩
        cases v <;> simp [Value.cells] at hcs
        rename_i cs
        cases cs
        simp at hcs
        simp [hcs]
    · simp at hf
end Go.Proofs.Ytpnohgncnmbkdaa
