/-
  Texts that a law leans on, one behind the other; no statement is proved here.
-/
import Derived.Test.YtenfnbnhdmkhkaaProg
import Derived.WalkKit
import Derived.WalkSpells
import Derived.WalkLawsBesides
import Derived.Deep.QuietTactic
import Derived.BigQuiet
import Derived.Below
import Derived.Laws.AppendOwnNone
/-
  What a slice of bytes holds in memory, as the walks of this seat speak of it: 'Seg' (it can be read), and small laws on worlds; no statement is proved here.
-/
namespace Go.Proofs.Ytenfnbnhdmkhkaa
open Go.RowKit

theorem hide' {p : Prop} (h : p) : Hid p := h

/-- A byte. -/
def Byt (x : Int) : Prop := 0 ≤ x ∧ x ≤ 255

/-- The slice at 'a' of 'xs.length' bytes reads as 'xs'. -/
def Seg (w : World) (a : Option Addr) (xs : List Int) : Prop :=
  (∀ x ∈ xs, Byt x) ∧ (xs = [] ∨ ∃ b off, a = some ⟨b, off, none⟩ ∧ ∀ i, i < xs.length → w.cell? ⟨b, off + i, none⟩ = some (.int .u8 (xs.getD i 0)))

/-- The bytes as cells. -/
def cellsOf (xs : List Int) : List Value := xs.map (Value.int .u8)

theorem length_cellsOf (xs : List Int) : (cellsOf xs).length = xs.length := by simp [cellsOf]

/-- The slice value 'v' owns a row of its own, from block 'base' on, that holds 'xs'. -/
def Bts (w : World) (base : Nat) (v : Value) (xs : List Int) : Prop :=
  (∀ x ∈ xs, Byt x) ∧ w.ownsRow base 5 1 v xs.length (cellsOf xs)

theorem Bts.shape {w : World} {base : Nat} {v : Value} {xs : List Int} (h : Bts w base v xs) : ∃ a cap, v = .slice a xs.length cap ∧ Seg w a xs ∧ xs.length ≤ cap ∧ cap ≤ maxLen ∧ (∀ x, a = some x → base ≤ x.block ∧ x.block < w.heap.size ∧ x.off = 0 ∧ x.spot = none) ∧ (a = none → cap = 0) := by
  obtain ⟨hb, ho⟩ := h
  have ho' := ho
  obtain ⟨hl, hc⟩ := ho
  rcases hc with ⟨rfl, h0⟩ | ⟨g, cap, cur, rfl, hg, hh, hle, hm, hsz, htake⟩
  · have : xs = [] := List.eq_nil_of_length_eq_zero h0
    subst this
    exact ⟨none, 0, rfl, ⟨hb, .inl rfl⟩, Nat.le_refl _, Nat.zero_le _, by simp, fun _ => rfl⟩
  · refine ⟨some ⟨g, 0, none⟩, cap, rfl, ⟨hb, .inr ⟨g, 0, rfl, fun i hi => ?_⟩⟩, hle, hm, ?_, by simp⟩
    · have := World.ownsRow.cellAt ho' i (by omega)
      rw [Nat.zero_add, this]
      simp [cellsOf, hi]
    · rintro x hx
      simp at hx
      subst hx
      exact ⟨hg, (Array.getElem?_eq_some_iff.1 hh).1, rfl, rfl⟩

theorem Seg.below {w w' : World} {B : Nat} {a : Option Addr} {xs : List Int} (h : Seg w a xs) (hb : Below B w w') (ha : ∀ x, a = some x → xs ≠ [] → x.block < B) : Seg w' a xs := by
  refine ⟨h.1, ?_⟩
  rcases h.2 with h0 | ⟨b, off, rfl, hc⟩
  · exact .inl h0
  · by_cases he : xs = []
    · exact .inl he
    · exact .inr ⟨b, off, rfl, fun i hi => (hb.cell (p := ⟨b, off + i, none⟩) (ha ⟨b, off, none⟩ rfl he)).trans (hc i hi)⟩

/-- What can be read lies in a block that is there. -/
theorem Seg.lt {w : World} {a : Option Addr} {xs : List Int} (h : Seg w a xs) : ∀ x, a = some x → xs ≠ [] → x.block < w.heap.size := by
  intro x hx he
  rcases h.2 with h0 | ⟨b, off, rfl, hc⟩
  · exact absurd h0 he
  · simp at hx
    subst hx
    have hp : 0 < xs.length := List.length_pos_iff.2 he
    exact World.block_lt_of_cell? w _ (hc 0 hp)

/-- What can be read can be read behind whatever makes new blocks alone. -/
theorem Seg.grow {w w' : World} {a : Option Addr} {xs : List Int} (h : Seg w a xs) (hb : Below w.heap.size w w') : Seg w' a xs := h.below hb h.lt

theorem Bts.below {w w' : World} {base B : Nat} {v : Value} {xs : List Int} (h : Bts w base v xs) (hb : Below B w w') (hv : ∀ k, v.ownBlock = some k → k < B) : Bts w' base v xs := by
  refine ⟨h.1, h.2.1, ?_⟩
  rcases h.2.2 with h0 | ⟨g, cap, cur, rfl, hg, hh, r⟩
  · exact .inl h0
  · exact .inr ⟨g, cap, cur, rfl, hg, (hb.block g (hv g rfl)).trans hh, r⟩

theorem Bts.grow {w w' : World} {base : Nat} {v : Value} {xs : List Int} (h : Bts w base v xs) (hb : Below w.heap.size w w') : Bts w' base v xs :=
  h.below hb fun k hk => (h.2.lt k hk).2

theorem Bts.kept {w w' : World} {base : Nat} {v : Value} {xs : List Int} {row : Option Nat} (h : Bts w base v xs) (hg : w.grownBy w' row) (hne : v.ownBlock = none ∨ v.ownBlock ≠ row) : Bts w' base v xs :=
  ⟨h.1, h.2.kept hg hne⟩

theorem Bts.mono {w : World} {base base' : Nat} {v : Value} {xs : List Int} (h : Bts w base v xs) (hb : base' ≤ base) : Bts w base' v xs := by
  refine ⟨h.1, h.2.1, ?_⟩
  rcases h.2.2 with h0 | ⟨g, cap, cur, rfl, hg, r⟩
  · exact .inl h0
  · exact .inr ⟨g, cap, cur, rfl, by omega, r⟩

theorem Bts.bytes {w : World} {base : Nat} {v : Value} {xs : List Int} (h : Bts w base v xs) : ∀ x ∈ xs, Byt x := h.1

theorem Bts.seg {w : World} {base : Nat} {a : Option Addr} {n cap : Nat} {xs : List Int} (h : Bts w base (.slice a n cap) xs) : Seg w a xs := by
  obtain ⟨a', cap', hv, hs, _⟩ := h.shape
  simp at hv
  rw [hv.1]
  exact hs

/-- Two steps that each make new blocks alone. -/
theorem Below.on {w w1 w2 : World} (h : Below w.heap.size w w1) (k : Below w1.heap.size w1 w2) : Below w.heap.size w w2 := h.trans (k.mono h.size)

theorem getD_byt {xs : List Int} (h : ∀ x ∈ xs, Byt x) (i : Nat) : 0 ≤ xs.getD i 0 ∧ xs.getD i 0 ≤ 255 := by
  by_cases hi : i < xs.length
  · have := h (xs[i]) (List.getElem_mem hi)
    simpa [Byt, List.getD_eq_getElem?_getD, hi] using this
  · simp [List.getD_eq_getElem?_getD, Nat.le_of_not_lt hi]

theorem cellsOf_append (xs ys : List Int) : cellsOf (xs ++ ys) = cellsOf xs ++ cellsOf ys := by simp [cellsOf]

theorem info5 : (Try.prog.info? 5).map (fun i => (i.zero, i.size, i.bytes)) = some (some (.int .u8 0), 1, 1) := by kernel_rfl

/-- 'append(out, ys...)', out nil or the call's own, ys whatever slice of bytes (nil, empty, cut): what is owned grows by ys. -/
theorem wpList_append_seg {w : World} {ops : Array Oper} {rest : List Oper} {o : Oper} {a : Act} {Q : Exit → Act → World → Prop} (hgd : o.guard = none) (s x : Operand)
    (ho : o.op = .call { callee := .builtin .append, args := #[s, x], argTypes := #[22, 22] })
    (base : Nat) (v : Value) (xs ys : List Int) (hs : a.eval s = v) (hB : Bts w base v xs) (ad : Option Addr) (m c : Nat) (hm : m = ys.length) (hx : a.eval x = .slice ad m c) (hS : Seg w ad ys) (hc : ad = none → c = 0)
    (hlen : xs.length + ys.length ≤ 1099511627776) (hbase : base ≤ w.heap.size)
    (h : ∀ v' w', Bts w' base v' (xs ++ ys) → w.grownBy w' v.ownBlock → wpList Try.prog ops Q rest (a.put o.dst v') w') : wpList Try.prog ops Q (o :: rest) a w := by
  obtain ⟨i0, hi, hz0, hz1, hz2⟩ := info_parts info5
  have hbyt : ∀ z ∈ xs ++ ys, Byt z := by
    intro z hz
    rcases List.mem_append.1 hz with h1 | h1
    · exact hB.1 z h1
    · exact hS.1 z h1
  subst hm
  cases ad with
  | none =>
    have hc0 := hc rfl
    have hy : ys = [] := by
      rcases hS.2 with h0 | ⟨b, off, h1, _⟩
      · exact h0
      · simp at h1
    subst hc0
    subst hy
    refine wpList_append_own_none hgd s x 22 ho base 5 i0 1 Try.underlying22 hi v xs.length (cellsOf xs) hs hB.2 hx ?_
    exact h v w (by simpa using hB) (World.grownBy.refl _ _)
  | some ad =>
    refine wpList_append_own w hgd s x 22 ho base 5 i0 (.int .u8 0) 1 1 Try.underlying22 hi hz0 hz1 hz2 rfl (by decide) v xs.length (cellsOf xs) hs hB.2 ad ys.length c (cellsOf ys) hx (by simp [cellsOf]) ?_ ?_ (by unfold maxLen; omega) (by omega) hbase ?_
    · intro j u hu
      rcases hS.2 with h0 | ⟨b, off, h1, h2⟩
      · subst h0; simp [cellsOf] at hu
      · simp at h1
        subst h1
        have hj : j < ys.length := by
          have := (List.getElem?_eq_some_iff.1 hu).1
          simpa [cellsOf] using this
        rw [Addr.add_lit, h2 j hj]
        simp [cellsOf, hj] at hu
        simp [hj, hu]
    · intro u hu
      simp only [cellsOf, List.mem_map] at hu
      obtain ⟨q, _, rfl⟩ := hu
      rfl
    · intro v' w' ho' hg' _
      exact h v' w' ⟨hbyt, by rw [cellsOf_append]; simpa using ho'⟩ hg'

theorem Bts.away {w w' : World} {base : Nat} {a : Option Addr} {n c : Nat} {xs : List Int} {row : Option Nat} (h : Bts w base (.slice a n c) xs) (hg : w.grownBy w' row) (hne : ∀ x, a = some x → row ≠ some x.block) : Bts w' base (.slice a n c) xs := by
  refine h.kept hg ?_
  cases a with
  | none => exact .inl rfl
  | some x => exact .inr fun e => hne x rfl e.symm

theorem Seg.away {w w' : World} {a : Option Addr} {xs : List Int} {row : Option Nat} (h : Seg w a xs) (hg : w.grownBy w' row) (hne : ∀ x, a = some x → xs ≠ [] → row ≠ some x.block) : Seg w' a xs := by
  refine ⟨h.1, ?_⟩
  rcases h.2 with h0 | ⟨b, off, rfl, hc⟩
  · exact .inl h0
  · by_cases he : xs = []
    · exact .inl he
    · exact .inr ⟨b, off, rfl, fun i hi => hg.cell (hc i hi) (fun e => hne ⟨b, off, none⟩ rfl he e.symm)⟩

theorem Bts.lt {w : World} {base : Nat} {a : Option Addr} {n c : Nat} {xs : List Int} (h : Bts w base (.slice a n c) xs) : ∀ x, a = some x → base ≤ x.block ∧ x.block < w.heap.size := by
  rintro x rfl
  exact h.2.lt x.block rfl

/-- Behind marks on a row of the call's own nothing old has turned. -/
theorem Below.marked {w w1 w2 : World} {a : Option Addr} {n c : Nat} (h : Below w.heap.size w w1) (hg : w1.grownBy w2 (Value.slice a n c).ownBlock) (ha : ∀ x, a = some x → w.heap.size ≤ x.block) : Below w.heap.size w w2 := by
  refine h.grown hg h.size fun k hk => ?_
  cases a with
  | none => simp [Value.ownBlock] at hk
  | some x =>
    simp [Value.ownBlock] at hk
    subst hk
    exact ha x rfl

theorem ret_i64 {x y : Int} (h : x = y) : Ending.returned (.int .i64 x) = .returned (.int .i64 y) := by rw [h]

/-- A slice of bytes that came in can be read. -/
theorem seg_of_row {w : World} {a : Option Addr} {len cap : Nat} {zs : List Int} (h : (a = none ∧ len = 0 ∧ cap = 0 ∧ zs = []) ∨
    ∃ x, a = some x ∧ len ≤ cap ∧ cap ≤ maxLen ∧ zs.length = cap ∧ (∀ i, i < zs.length → w.cell? (x.add i) = some (.int .u8 (zs.getD i 0))) ∧ ∀ n ∈ zs, (Lit.int .u8 n).wf = true) :
    ∃ xs : List Int, len = xs.length ∧ Seg w a xs ∧ len ≤ cap ∧ cap ≤ maxLen ∧ (a = none → cap = 0) := by
  rcases h with ⟨rfl, rfl, rfl, rfl⟩ | ⟨x, rfl, hlc, hm, hz, hcell, hwf⟩
  · exact ⟨[], rfl, ⟨by simp, .inl rfl⟩, Nat.le_refl _, Nat.zero_le _, fun _ => rfl⟩
  · have hl : len = (zs.take len).length := by simp; omega
    refine ⟨zs.take len, hl, ⟨?_, ?_⟩, hlc, hm, by simp⟩
    · intro n hn
      have := hwf n (List.mem_of_mem_take hn)
      unfold Byt
      simp [Lit.wf, IntKind.min, IntKind.max, IntKind.bits, IntKind.signed] at this
      omega
    · by_cases h0 : len = 0
      · exact .inl (by simp [h0])
      · obtain ⟨b, off, spot⟩ := x
        have hc := hcell 0 (by omega)
        have hspot : spot = none := by simpa [Addr.add] using World.cell?_spot hc
        subst hspot
        refine .inr ⟨b, off, rfl, fun i hi => ?_⟩
        have hi' : i < len := by omega
        have := hcell i (by omega)
        have e : (⟨b, off, none⟩ : Addr).add i = ⟨b, off + i, none⟩ := Addr.add_lit b off i
        rw [e] at this
        rw [this]
        simp [List.getD_eq_getElem?_getD, hi']

end Go.Proofs.Ytenfnbnhdmkhkaa
/-
  The laws' own helper toByteS: it makes a row of its own that holds what its argument holds; nothing old is turned.
-/
namespace Go.Proofs.Ytenfnbnhdmkhkaa
open Go.RowKit
set_option linter.unusedVariables false

/-- What the loop of toByteS has laid after k rounds. -/
def mixed (xs : List Int) (k : Nat) : List Value := cellsOf (xs.take k) ++ List.replicate (xs.length - k) (.int .u8 0)

theorem length_mixed (xs : List Int) (k : Nat) (h : k ≤ xs.length) : (mixed xs k).length = xs.length := by simp [mixed, cellsOf]; omega
theorem mixed_zero (xs : List Int) : mixed xs 0 = List.replicate xs.length (.int .u8 0) := by simp [mixed, cellsOf]
theorem mixed_all (xs : List Int) : mixed xs xs.length = cellsOf xs := by simp [mixed]
theorem mixed_set (xs : List Int) (k : Nat) (h : k < xs.length) : (mixed xs k).set k (.int .u8 (xs.getD k 0)) = mixed xs (k + 1) := by
  apply List.ext_getElem
  · simp [mixed, cellsOf]; omega
  · intro i h1 h2
    simp only [mixed, cellsOf, List.getElem_set, List.getElem_append, List.length_map, List.length_take]
    by_cases hik : k = i
    · subst hik
      have e2 : k < min (k + 1) xs.length := by omega
      simp [h, e2]
    · by_cases hlt : i < k
      · have e1 : i < min k xs.length := by omega
        have e2 : i < min (k + 1) xs.length := by omega
        simp [hik, e1, e2]
      · have e1 : ¬ i < min k xs.length := by omega
        have e2 : ¬ i < min (k + 1) xs.length := by omega
        simp [hik, e1, e2]

end Go.Proofs.Ytenfnbnhdmkhkaa
/-
  The laws' own helper eqByteS: of two slices that hold the same bytes it answers true, and turns nothing.
-/
namespace Go.Proofs.Ytenfnbnhdmkhkaa
open Go.RowKit
set_option linter.unusedVariables false

theorem Seg.at {w : World} {a : Option Addr} {xs : List Int} (h : Seg w a xs) {k : Nat} (hk : k < xs.length) : ∃ b off, a = some ⟨b, off, none⟩ ∧ w.cell? ⟨b, off + k, none⟩ = some (.int .u8 (xs.getD k 0)) := by
  rcases h.2 with h0 | ⟨b, off, h1, h2⟩
  · subst h0; simp at hk
  · exact ⟨b, off, h1, h2 k hk⟩

theorem grownBy_trans {w0 w1 w2 : World} {row : Option Nat} (h : w0.grownBy w1 row) (k : w1.grownBy w2 row) : w0.grownBy w2 row :=
  ⟨k.os.trans h.os, k.tape.trans h.tape, k.output.trans h.output, Nat.le_trans h.size k.size, fun i hi hne => (k.block i (Nat.lt_of_lt_of_le hi h.size) hne).trans (h.block i hi hne)⟩

end Go.Proofs.Ytenfnbnhdmkhkaa
/-
  What a value (kind, number, text, keys, parts) holds in memory, by its depth: 'Vl d' and 'VSeg'; lists of texts: 'KSeg'; no statement is proved here.
-/
namespace Go.Proofs.Ytenfnbnhdmkhkaa
open Go.RowKit
set_option linter.unusedVariables false

/-- Values of depth at most d. -/
def Vl : Nat → Type
  | 0 => Empty
  | d + 1 => Int × Int × List Int × List (List Int) × List (Vl d)

/-- The blocks in which something lies all fulfil R, and may be read alike in two worlds. -/
def Agree (R : Nat → Prop) (w w' : World) : Prop := ∀ b, R b → w'.heap[b]? = w.heap[b]?

/-- A slice of bytes, all in blocks of R. -/
def TSeg (R : Nat → Prop) (w : World) (v : Value) (xs : List Int) : Prop := ∃ a cap, v = .slice a xs.length cap ∧ Seg w a xs ∧ xs.length ≤ cap ∧ cap ≤ maxLen ∧ (a = none → cap = 0) ∧ ∀ x, a = some x → xs ≠ [] → R x.block

/-- A slice of slices of bytes. -/
def KSeg (R : Nat → Prop) (w : World) (v : Value) (ks : List (List Int)) : Prop := ∃ a cap, v = .slice a ks.length cap ∧ ks.length ≤ cap ∧ cap ≤ maxLen ∧ (a = none → cap = 0) ∧
  (ks = [] ∨ ∃ b off, a = some ⟨b, off, none⟩ ∧ R b ∧ ∀ i, i < ks.length → ∃ u, w.cell? ⟨b, off + i, none⟩ = some u ∧ TSeg R w u (ks.getD i []))

/-- The five cells of a value at a place. -/
def Five (w : World) (b off : Nat) (c : Value × Value × Value × Value × Value) : Prop :=
  w.cell? ⟨b, off, none⟩ = some c.1 ∧ w.cell? ⟨b, off + 1, none⟩ = some c.2.1 ∧ w.cell? ⟨b, off + 2, none⟩ = some c.2.2.1 ∧ w.cell? ⟨b, off + 3, none⟩ = some c.2.2.2.1 ∧ w.cell? ⟨b, off + 4, none⟩ = some c.2.2.2.2

/-- Five cells read as a value. -/
def VSeg (R : Nat → Prop) (w : World) : (d : Nat) → Value × Value × Value × Value × Value → Vl d → Prop
  | 0, _, _ => False
  | d + 1, c, v => c.1 = .int .i64 v.1 ∧ c.2.1 = .int .i64 v.2.1 ∧ TSeg R w c.2.2.1 v.2.2.1 ∧ KSeg R w c.2.2.2.1 v.2.2.2.1 ∧
      ∃ a cap, c.2.2.2.2 = .slice a v.2.2.2.2.length cap ∧ v.2.2.2.2.length ≤ cap ∧ cap ≤ maxLen ∧ (a = none → cap = 0) ∧
        (v.2.2.2.2 = [] ∨ ∃ b off, a = some ⟨b, off, none⟩ ∧ R b ∧ ∀ i (h : i < v.2.2.2.2.length), ∃ e, Five w b (off + i * 5) e ∧ VSeg R w d e (v.2.2.2.2[i]))

/-- A slice of values. -/
def LSeg (R : Nat → Prop) (w : World) (d : Nat) (x : Value) (l : List (Vl d)) : Prop := ∃ a cap, x = .slice a l.length cap ∧ l.length ≤ cap ∧ cap ≤ maxLen ∧ (a = none → cap = 0) ∧
  (l = [] ∨ ∃ b off, a = some ⟨b, off, none⟩ ∧ R b ∧ ∀ i (h : i < l.length), ∃ e, Five w b (off + i * 5) e ∧ VSeg R w d e (l[i]))

theorem VSeg_succ (R : Nat → Prop) (w : World) (d : Nat) (c : Value × Value × Value × Value × Value) (v : Vl (d + 1)) :
    VSeg R w (d + 1) c v ↔ c.1 = .int .i64 v.1 ∧ c.2.1 = .int .i64 v.2.1 ∧ TSeg R w c.2.2.1 v.2.2.1 ∧ KSeg R w c.2.2.2.1 v.2.2.2.1 ∧ LSeg R w d c.2.2.2.2 v.2.2.2.2 := Iff.rfl

theorem cell_agree {R : Nat → Prop} {w w' : World} (h : Agree R w w') {b o : Nat} (hb : R b) : w'.cell? ⟨b, o, none⟩ = w.cell? ⟨b, o, none⟩ := World.cell?_of_block (h b hb)

theorem TSeg.agree {R : Nat → Prop} {w w' : World} {v : Value} {xs : List Int} (h : TSeg R w v xs) (ha : Agree R w w') : TSeg R w' v xs := by
  obtain ⟨a, cap, h1, h2, h3, h4, h5, h6⟩ := h
  refine ⟨a, cap, h1, ⟨h2.1, ?_⟩, h3, h4, h5, h6⟩
  rcases h2.2 with h0 | ⟨b, off, rfl, hc⟩
  · exact .inl h0
  · by_cases he : xs = []
    · exact .inl he
    · exact .inr ⟨b, off, rfl, fun i hi => (cell_agree ha (h6 _ rfl he)).trans (hc i hi)⟩

theorem KSeg.agree {R : Nat → Prop} {w w' : World} {v : Value} {ks : List (List Int)} (h : KSeg R w v ks) (ha : Agree R w w') : KSeg R w' v ks := by
  obtain ⟨a, cap, h1, h2, h3, h4, h5⟩ := h
  refine ⟨a, cap, h1, h2, h3, h4, ?_⟩
  rcases h5 with h0 | ⟨b, off, hb, hR, hc⟩
  · exact .inl h0
  · refine .inr ⟨b, off, hb, hR, fun i hi => ?_⟩
    obtain ⟨u, hu, ht⟩ := hc i hi
    exact ⟨u, (cell_agree ha hR).trans hu, ht.agree ha⟩

theorem Five.agree {R : Nat → Prop} {w w' : World} {b off : Nat} {c : Value × Value × Value × Value × Value} (h : Five w b off c) (ha : Agree R w w') (hb : R b) : Five w' b off c := by
  obtain ⟨h0, h1, h2, h3, h4⟩ := h
  exact ⟨(cell_agree ha hb).trans h0, (cell_agree ha hb).trans h1, (cell_agree ha hb).trans h2, (cell_agree ha hb).trans h3, (cell_agree ha hb).trans h4⟩

theorem VSeg.agree {R : Nat → Prop} {w w' : World} (ha : Agree R w w') (d : Nat) : ∀ {c : Value × Value × Value × Value × Value} {v : Vl d}, VSeg R w d c v → VSeg R w' d c v := by
  induction d with
  | zero => intro c v h; exact h
  | succ d ih =>
    intro c v h
    obtain ⟨h0, h1, h2, h3, a, cap, g1, g2, g3, g4, g5⟩ := h
    refine ⟨h0, h1, h2.agree ha, h3.agree ha, a, cap, g1, g2, g3, g4, ?_⟩
    rcases g5 with e | ⟨b, off, hb, hR, hc⟩
    · exact .inl e
    · refine .inr ⟨b, off, hb, hR, fun i hi => ?_⟩
      obtain ⟨e, he, hv⟩ := hc i hi
      exact ⟨e, he.agree ha hR, ih hv⟩

theorem LSeg.agree {R : Nat → Prop} {w w' : World} {d : Nat} {x : Value} {l : List (Vl d)} (h : LSeg R w d x l) (ha : Agree R w w') : LSeg R w' d x l := by
  obtain ⟨a, cap, g1, g2, g3, g4, g5⟩ := h
  refine ⟨a, cap, g1, g2, g3, g4, ?_⟩
  rcases g5 with e | ⟨b, off, hb, hR, hc⟩
  · exact .inl e
  · refine .inr ⟨b, off, hb, hR, fun i hi => ?_⟩
    obtain ⟨e, he, hv⟩ := hc i hi
    exact ⟨e, he.agree ha hR, VSeg.agree ha d hv⟩

/-- What lies below N is read alike behind whatever leaves what is below N. -/
theorem agree_below {N : Nat} {w w' : World} (h : Below N w w') : Agree (fun b => b < N) w w' := fun b hb => h.block b hb

/-- A value's weight: how much szValue takes off. -/
def szT (xs : List Int) : Nat := xs.length
def szK (ks : List (List Int)) : Nat := ks.length + (ks.map List.length).sum
def szV : (d : Nat) → Vl d → Nat
  | 0, _ => 0
  | d + 1, v => szT v.2.2.1 + szK v.2.2.2.1 + (v.2.2.2.2.length + (v.2.2.2.2.map (szV d)).sum)
def szL (d : Nat) (l : List (Vl d)) : Nat := l.length + (l.map (szV d)).sum

end Go.Proofs.Ytenfnbnhdmkhkaa
/-
  szByteS of the laws: what is left of a bound behind a text's weight, or -1.
-/
namespace Go.Proofs.Ytenfnbnhdmkhkaa
open Go.RowKit
set_option linter.unusedVariables false

/-- What is left. -/
def less (l : Int) (n : Nat) : Int := if l < n then -1 else l - n
theorem less_no (l : Int) (n : Nat) (h : l < n) : less l n = -1 := by simp [less, h]
theorem less_yes (l : Int) (n : Nat) (h : ¬ l < n) : less l n = l - n := by simp [less, h]

/-- The weight of the first k. -/
def pre {α : Type} (f : α → Nat) (l : List α) (k : Nat) : Nat := ((l.take k).map f).sum
theorem pre_zero {α : Type} (f : α → Nat) (l : List α) : pre f l 0 = 0 := by simp [pre]
theorem pre_succ {α : Type} (f : α → Nat) (l : List α) (k : Nat) (h : k < l.length) : pre f l (k + 1) = pre f l k + f l[k] := by
  unfold pre
  rw [List.take_succ_eq_append_getElem h, List.map_append, List.sum_append]
  simp only [List.map_cons, List.map_nil, List.sum_cons, List.sum_nil, Nat.add_zero]
theorem pre_all {α : Type} (f : α → Nat) (l : List α) : pre f l l.length = (l.map f).sum := by simp [pre]
theorem pre_le {α : Type} (f : α → Nat) (l : List α) (k : Nat) : pre f l k ≤ (l.map f).sum := by
  unfold pre
  have : (l.map f).sum = ((l.take k).map f).sum + ((l.drop k).map f).sum := by
    rw [← List.sum_append, ← List.map_append, List.take_append_drop]
  omega

theorem less_less (l : Int) (a b : Nat) (h : ¬ l < a) : less (l - a) b = less l (a + b) := by
  unfold less
  by_cases h2 : l - a < b
  · rw [if_pos h2, if_pos (by omega)]
  · rw [if_neg h2, if_neg (by omega)]
    omega

theorem grown1 (w : World) (g j : Nat) (v : Value) : w.grownBy (w.setCell ⟨g, j, none⟩ v) (some g) :=
  ⟨rfl, rfl, rfl, by simp [World.setCell], fun k _ hk => Below.heap_setCell w ⟨g, j, none⟩ v k (fun e => hk (by simp [e]))⟩

theorem size2 (w : World) (o o' : Obj) : ((w.alloc o).alloc o').heap.size = w.heap.size + 2 := by simp
theorem two_boxes (w : World) (o o' : Obj) : ((w.alloc o).alloc o').heap[w.heap.size]? = some o ∧ ((w.alloc o).alloc o').heap[w.heap.size + 1]? = some o' := by
  have e : (w.alloc o).heap.size = w.heap.size + 1 := by simp
  constructor
  · exact (((Below.refl (w.alloc o).heap.size (w.alloc o)).alloc (Nat.le_refl _) o').block w.heap.size (by omega)).trans (MapKept.heap_alloc w o).1
  · have h := (MapKept.heap_alloc (w.alloc o) o').1
    rw [e] at h
    exact h


end Go.Proofs.Ytenfnbnhdmkhkaa
/-
  A row of bytes of the call's own that may bear a mark of the run-time behind its last cell (as '[]byte(s)' lays one): it is read and written as any other.
-/
namespace Go.Proofs.Ytenfnbnhdmkhkaa
open Go.RowKit
set_option linter.unusedVariables false

/-- A row of the call's own; no cell of it is frozen. -/
def RowF (w : World) (v : Value) (n : Nat) (xs : List Value) : Prop :=
  xs.length = n ∧ ((v = .slice none 0 0 ∧ n = 0) ∨
    ∃ (g cap : Nat) (cur : Array Value) (fr : Nat × Nat), v = .slice (some ⟨g, 0, none⟩) n cap ∧ w.heap[g]? = some (.cells cur 5 fr) ∧ (fr.2 = 0 ∨ cap ≤ fr.1) ∧ n ≤ cap ∧ cap ≤ maxLen ∧ cur.size = cap ∧ cur.toList.take n = xs)

/-- The slice value 'v' owns such a row, that holds 'xs'. -/
def BtsF (w : World) (v : Value) (xs : List Int) : Prop := (∀ x ∈ xs, Byt x) ∧ RowF w v xs.length (cellsOf xs)

theorem Bts.free {w : World} {base : Nat} {v : Value} {xs : List Int} (h : Bts w base v xs) : BtsF w v xs := by
  obtain ⟨hb, hl, h0 | ⟨g, cap, cur, h1, _, h3, h4, h5, h6, h7⟩⟩ := h
  · exact ⟨hb, by simp [cellsOf], .inl h0⟩
  · exact ⟨hb, by simp [cellsOf], .inr ⟨g, cap, cur, (0, 0), h1, h3, .inl rfl, h4, h5, by omega, by rw [Nat.mul_one] at h7; exact h7⟩⟩

theorem RowF.cellAt {w : World} {g n cap : Nat} {xs : List Value} (h : RowF w (.slice (some ⟨g, 0, none⟩) n cap) n xs) (j : Nat) (hj : j < n) : w.cell? ⟨g, j, none⟩ = xs[j]? := by
  rcases h.2 with ⟨h', _⟩ | ⟨g', cap', cur, fr, h', hg, _, _, _, _, htake⟩
  · simp at h'
  · simp only [Value.slice.injEq, Option.some.injEq, Addr.mk.injEq, and_true, true_and] at h'
    obtain ⟨rfl, rfl⟩ := h'
    rw [cell_of_row w g j cur 5 fr hg, ← htake, List.getElem?_take, if_pos hj]
    simp

theorem RowF.frozenAt {w : World} {g n cap : Nat} {xs : List Value} (h : RowF w (.slice (some ⟨g, 0, none⟩) n cap) n xs) (j : Nat) (hj : j < n) : w.frozen? ⟨g, j, none⟩ = false := by
  rcases h.2 with ⟨h', _⟩ | ⟨g', cap', cur, fr, h', hg, hf, hn, _⟩
  · simp at h'
  · simp only [Value.slice.injEq, Option.some.injEq, Addr.mk.injEq, and_true, true_and] at h'
    obtain ⟨rfl, rfl⟩ := h'
    obtain ⟨lo, hi⟩ := fr
    simp only [World.frozen?, hg]
    simp only at hf
    simp
    omega

theorem heap_setCell_fr (w : World) (g i : Nat) (cs : Array Value) (t : TypeId) (fr : Nat × Nat) (v : Value) (hg : w.heap[g]? = some (.cells cs t fr)) : (w.setCell ⟨g, i, none⟩ v).heap[g]? = some (.cells (cs.setIfInBounds i v) t fr) := by
  have h2 := (Array.getElem?_eq_some_iff.1 hg).1
  simp [World.setCell, Array.getElem?_modify, hg]

theorem RowF.stored {w : World} {g n cap : Nat} {xs : List Value} (h : RowF w (.slice (some ⟨g, 0, none⟩) n cap) n xs) (j : Nat) (u : Value) :
    RowF (w.setCell ⟨g, j, none⟩ u) (.slice (some ⟨g, 0, none⟩) n cap) n (xs.set j u) ∧ w.grownBy (w.setCell ⟨g, j, none⟩ u) (some g) := by
  rcases h.2 with ⟨h', _⟩ | ⟨g', cap', cur, fr, h', hg, hf, hn, hm, hs, htake⟩
  · simp at h'
  · simp only [Value.slice.injEq, Option.some.injEq, Addr.mk.injEq, and_true, true_and] at h'
    obtain ⟨rfl, rfl⟩ := h'
    refine ⟨⟨by simpa using h.1, .inr ⟨g, cap, cur.setIfInBounds j u, fr, rfl, heap_setCell_fr w g j cur 5 fr u hg, hf, hn, hm, by simpa using hs, ?_⟩⟩, ⟨rfl, rfl, rfl, by simp [World.setCell], fun k _ hk => Below.heap_setCell w ⟨g, j, none⟩ u k (fun e => hk (by simp [e]))⟩⟩
    rw [Array.toList_setIfInBounds, ← htake, List.take_set]

theorem BtsF.shape {w : World} {v : Value} {xs : List Int} (h : BtsF w v xs) : ∃ a cap, v = .slice a xs.length cap ∧ Seg w a xs ∧ xs.length ≤ cap ∧ cap ≤ maxLen ∧ (∀ x, a = some x → 0 ≤ x.block ∧ x.block < w.heap.size ∧ x.off = 0 ∧ x.spot = none) ∧ (a = none → cap = 0) := by
  obtain ⟨hb, ho⟩ := h
  have ho' := ho
  obtain ⟨hl, hc⟩ := ho
  rcases hc with ⟨rfl, h0⟩ | ⟨g, cap, cur, fr, rfl, hh, hf, hle, hm, hsz, htake⟩
  · have : xs = [] := List.eq_nil_of_length_eq_zero h0
    subst this
    exact ⟨none, 0, rfl, ⟨hb, .inl rfl⟩, Nat.le_refl _, Nat.zero_le _, by simp, fun _ => rfl⟩
  · refine ⟨some ⟨g, 0, none⟩, cap, rfl, ⟨hb, .inr ⟨g, 0, rfl, fun i hi => ?_⟩⟩, hle, hm, ?_, by simp⟩
    · have := RowF.cellAt ho' i (by omega)
      rw [Nat.zero_add, this]
      simp [cellsOf, hi]
    · rintro x hx
      simp at hx
      subst hx
      exact ⟨Nat.zero_le _, (Array.getElem?_eq_some_iff.1 hh).1, rfl, rfl⟩

theorem RowF.lt {w : World} {v : Value} {n : Nat} {xs : List Value} (h : RowF w v n xs) : ∀ k, v.ownBlock = some k → k < w.heap.size := by
  intro k hk
  rcases h.2 with ⟨rfl, _⟩ | ⟨g, cap, cur, fr, rfl, hh, _⟩
  · simp [Value.ownBlock] at hk
  · simp [Value.ownBlock] at hk
    subst hk
    exact (Array.getElem?_eq_some_iff.1 hh).1
end Go.Proofs.Ytenfnbnhdmkhkaa
/-
  What a call owns: a text, a list of texts, a value, each with the list of the blocks in which it lies, no block twice.
-/
namespace Go.Proofs.Ytenfnbnhdmkhkaa
open Go.RowKit
set_option linter.unusedVariables false

/-- A text of the call's own, in the blocks B. -/
def TOwn (w : World) (v : Value) (xs : List Int) (B : List Nat) : Prop :=
  BtsF w v xs ∧ ((v = .slice none 0 0 ∧ B = []) ∨ ∃ g cap, v = .slice (some ⟨g, 0, none⟩) xs.length cap ∧ B = [g])

/-- A list of texts of the call's own, in the blocks B. -/
def KOwn (w : World) (v : Value) (ks : List (List Int)) (B : List Nat) : Prop :=
  (v = .slice none 0 0 ∧ ks = [] ∧ B = []) ∨
  ∃ (g cap : Nat) (cur : Array Value) (Bs : List (List Nat)), v = .slice (some ⟨g, 0, none⟩) ks.length cap ∧ w.heap[g]? = some (.cells cur 22 (0, 0)) ∧ ks.length ≤ cap ∧ cap ≤ maxLen ∧ cur.size = cap ∧ Bs.length = ks.length ∧
    (∀ i, i < ks.length → ∃ u, cur[i]? = some u ∧ TOwn w u (ks.getD i []) (Bs.getD i [])) ∧ B = g :: Bs.flatten ∧ B.Nodup

theorem TOwn.agree {w w' : World} {v : Value} {xs : List Int} {B : List Nat} (h : TOwn w v xs B) (ha : Agree (fun b => b ∈ B) w w') : TOwn w' v xs B := by
  refine ⟨?_, h.2⟩
  rcases h.2 with ⟨rfl, rfl⟩ | ⟨g, cap, rfl, rfl⟩
  · refine ⟨h.1.1, h.1.2.1, ?_⟩
    rcases h.1.2.2 with h0 | ⟨g, cap, cur, fr, h1, _⟩
    · exact .inl h0
    · simp at h1
  · refine ⟨h.1.1, h.1.2.1, ?_⟩
    rcases h.1.2.2 with ⟨h0, _⟩ | ⟨g', cap', cur, fr, h1, h3, h4⟩
    · simp at h0
    · simp only [Value.slice.injEq, Option.some.injEq, Addr.mk.injEq, and_true, true_and] at h1
      obtain ⟨rfl, rfl⟩ := h1
      exact .inr ⟨g, cap, cur, fr, rfl, (ha g (by simp)).trans h3, h4⟩

theorem TOwn.lt {w : World} {v : Value} {xs : List Int} {B : List Nat} (h : TOwn w v xs B) : ∀ b ∈ B, b < w.heap.size := by
  intro b hb
  rcases h.2 with ⟨rfl, rfl⟩ | ⟨g, cap, rfl, rfl⟩
  · simp at hb
  · simp at hb
    subst hb
    exact h.1.2.lt b rfl

theorem flatten_mem_getD {Bs : List (List Nat)} {i : Nat} (hi : i < Bs.length) {b : Nat} (hb : b ∈ Bs.getD i []) : b ∈ Bs.flatten := by
  rw [List.mem_flatten]
  refine ⟨Bs[i], List.getElem_mem hi, ?_⟩
  simpa [List.getD_eq_getElem?_getD, hi] using hb

theorem KOwn.agree {w w' : World} {v : Value} {ks : List (List Int)} {B : List Nat} (h : KOwn w v ks B) (ha : Agree (fun b => b ∈ B) w w') : KOwn w' v ks B := by
  rcases h with h0 | ⟨g, cap, cur, Bs, h1, h2, h3, h4, h5, h6, h7, rfl, h9⟩
  · exact .inl h0
  · refine .inr ⟨g, cap, cur, Bs, h1, (ha g (by simp)).trans h2, h3, h4, h5, h6, fun i hi => ?_, rfl, h9⟩
    obtain ⟨u, hu, ht⟩ := h7 i hi
    exact ⟨u, hu, ht.agree fun b hb => ha b (List.mem_cons_of_mem _ (flatten_mem_getD (by omega) hb))⟩

/-- What is owned can be read. -/
theorem TOwn.seg {w : World} {v : Value} {xs : List Int} {B : List Nat} (h : TOwn w v xs B) : TSeg (fun b => b ∈ B) w v xs := by
  obtain ⟨a, cap, h1, h2, h3, h4, h5, h6⟩ := h.1.shape
  refine ⟨a, cap, h1, h2, h3, h4, h6, fun x hx he => ?_⟩
  rcases h.2 with ⟨e, rfl⟩ | ⟨g, cp, e, rfl⟩
  · rw [e] at h1; simp at h1; rw [← h1.1] at hx; simp at hx
  · rw [e] at h1; simp at h1; rw [← h1.1] at hx; simp at hx; simp [← hx]

theorem TSeg.mono {R R' : Nat → Prop} {w : World} {v : Value} {xs : List Int} (h : TSeg R w v xs) (hr : ∀ b, R b → R' b) : TSeg R' w v xs := by
  obtain ⟨a, cap, h1, h2, h3, h4, h5, h6⟩ := h
  exact ⟨a, cap, h1, h2, h3, h4, h5, fun x hx he => hr _ (h6 x hx he)⟩

theorem KOwn.seg {w : World} {v : Value} {ks : List (List Int)} {B : List Nat} (h : KOwn w v ks B) : KSeg (fun b => b ∈ B) w v ks := by
  rcases h with ⟨rfl, rfl, rfl⟩ | ⟨g, cap, cur, Bs, rfl, h2, h3, h4, h5, h6, h7, rfl, h9⟩
  · exact ⟨none, 0, rfl, Nat.le_refl _, Nat.zero_le _, fun _ => rfl, .inl rfl⟩
  · refine ⟨some ⟨g, 0, none⟩, cap, rfl, h3, h4, by simp, .inr ⟨g, 0, rfl, by simp, fun i hi => ?_⟩⟩
    obtain ⟨u, hu, ht⟩ := h7 i hi
    refine ⟨u, ?_, ht.seg.mono fun b hb => List.mem_cons_of_mem _ (flatten_mem_getD (by omega) hb)⟩
    rw [Nat.zero_add, cell_of_row w g i cur 22 (0, 0) h2]
    exact hu

/-- A row of the call's own that was just made. -/
theorem tOwn_new {w : World} {base g : Nat} {xs : List Int} (h : Bts w base (.slice (some ⟨g, 0, none⟩) xs.length xs.length) xs) : TOwn w (.slice (some ⟨g, 0, none⟩) xs.length xs.length) xs [g] :=
  ⟨h.free, .inr ⟨g, _, rfl, rfl⟩⟩

theorem infoT : (Try.prog.info? 22).map (fun i => (i.zero, i.size, i.bytes)) = some (some (.slice none 0 0), 1, 24) := by kernel_rfl

/-- After k rounds of toByteSS. -/
def KPart (w : World) (g n : Nat) (ks : List (List Int)) (k : Nat) (N : Nat) : Prop :=
  ∃ (cur : Array Value) (Bs : List (List Nat)), w.heap[g]? = some (.cells cur 22 (0, 0)) ∧ cur.size = n ∧ Bs.length = k ∧
    (∀ i, i < k → ∃ u, cur[i]? = some u ∧ TOwn w u (ks.getD i []) (Bs.getD i [])) ∧ (∀ b ∈ Bs.flatten, N ≤ b ∧ b < w.heap.size) ∧ Bs.flatten.Nodup

theorem kPart_next {w w1 : World} {g n : Nat} {ks : List (List Int)} {k N : Nat} (h : KPart w g n ks k N) (hgN : g < N) (hk : k < n) (b1 : Below w.heap.size w w1) (hN : N ≤ w.heap.size) (u : Value) (gb : Nat) (hu : TOwn w1 u (ks.getD k []) [gb]) (hgb : w.heap.size ≤ gb) :
    KPart (w1.setCell ⟨g, k, none⟩ u) g n ks (k + 1) N ∧ w1.grownBy (w1.setCell ⟨g, k, none⟩ u) (some g) := by
  obtain ⟨cur, Bs, h1, h2, h3, h4, h5, h6⟩ := h
  have hgw : g < w.heap.size := (Array.getElem?_eq_some_iff.1 h1).1
  have h1' : w1.heap[g]? = some (.cells cur 22 (0, 0)) := (b1.block g hgw).trans h1
  have hgr : w1.grownBy (w1.setCell ⟨g, k, none⟩ u) (some g) := ⟨rfl, rfl, rfl, by simp [World.setCell], fun j _ hj => Below.heap_setCell w1 ⟨g, k, none⟩ u j (fun e => hj (by simp [e]))⟩
  have hsz : (w1.setCell ⟨g, k, none⟩ u).heap.size = w1.heap.size := by simp [World.setCell]
  have hgbl := hu.lt gb (by simp)
  refine ⟨⟨cur.setIfInBounds k u, Bs ++ [[gb]], heap_setCell_same w1 g k cur 22 u h1', by simpa using h2, by simp [h3], fun i hi => ?_, ?_, ?_⟩, hgr⟩
  · by_cases hik : i = k
    · subst hik
      refine ⟨u, by simp [h2, hk], ?_⟩
      have e : (Bs ++ [[gb]]).getD i [] = [gb] := by simp [List.getD_eq_getElem?_getD, ← h3]
      rw [e]
      exact hu.agree fun b hb => Below.heap_setCell w1 ⟨g, i, none⟩ u b (by simp at hb; show b ≠ g; omega)
    · have hi' : i < k := by omega
      obtain ⟨u', hu', ht'⟩ := h4 i hi'
      have e : (Bs ++ [[gb]]).getD i [] = Bs.getD i [] := by
        simp only [List.getD_eq_getElem?_getD]
        rw [List.getElem?_append_left (by omega)]
      refine ⟨u', by rw [Array.getElem?_setIfInBounds_ne (by omega)]; exact hu', ?_⟩
      rw [e]
      refine (ht'.agree fun b hb => b1.block b ?_).agree fun b hb => Below.heap_setCell w1 ⟨g, k, none⟩ u b ?_
      · exact ht'.lt b hb
      · have := h5 b (flatten_mem_getD (by omega) hb)
        show b ≠ g
        omega
  · intro b hb
    rw [List.flatten_append, List.mem_append] at hb
    rw [hsz]
    rcases hb with hb | hb
    · have := h5 b hb
      have := b1.size
      omega
    · simp at hb
      omega
  · rw [List.flatten_append, List.nodup_append]
    refine ⟨h6, by simp, fun b hb c hc => ?_⟩
    simp at hc
    have := h5 b hb
    omega

end Go.Proofs.Ytenfnbnhdmkhkaa
/-
  szByteSS, szValueS, szValue of the laws: what is left of a bound behind a value's weight, or -1.
-/
namespace Go.Proofs.Ytenfnbnhdmkhkaa
open Go.RowKit
set_option linter.unusedVariables false

end Go.Proofs.Ytenfnbnhdmkhkaa
/-
  toByteSS of the laws: it makes a list of texts of its own that holds what its argument holds.
-/
namespace Go.Proofs.Ytenfnbnhdmkhkaa
open Go.RowKit
set_option linter.unusedVariables false

end Go.Proofs.Ytenfnbnhdmkhkaa
/-
  Values that a call owns, with the blocks in which they lie.
-/
namespace Go.Proofs.Ytenfnbnhdmkhkaa
open Go.RowKit
set_option linter.unusedVariables false

/-- The five cells of a value in an array of cells. -/
def Cells5 (cur : Array Value) (j : Nat) (e : Value × Value × Value × Value × Value) : Prop :=
  cur[j]? = some e.1 ∧ cur[j + 1]? = some e.2.1 ∧ cur[j + 2]? = some e.2.2.1 ∧ cur[j + 3]? = some e.2.2.2.1 ∧ cur[j + 4]? = some e.2.2.2.2

/-- A value of the call's own, in the blocks B. -/
def VOwn (w : World) : (d : Nat) → Value × Value × Value × Value × Value → Vl d → List Nat → Prop
  | 0, _, _, _ => False
  | d + 1, c, v, B => c.1 = .int .i64 v.1 ∧ c.2.1 = .int .i64 v.2.1 ∧ ∃ Bs Bk Bl, TOwn w c.2.2.1 v.2.2.1 Bs ∧ KOwn w c.2.2.2.1 v.2.2.2.1 Bk ∧
      ((c.2.2.2.2 = .slice none 0 0 ∧ v.2.2.2.2 = [] ∧ Bl = []) ∨
        ∃ (g cap : Nat) (cur : Array Value) (Bi : List (List Nat)), c.2.2.2.2 = .slice (some ⟨g, 0, none⟩) v.2.2.2.2.length cap ∧ w.heap[g]? = some (.cells cur 26 (0, 0)) ∧ v.2.2.2.2.length ≤ cap ∧ cap ≤ maxLen ∧ cur.size = cap * 5 ∧ Bi.length = v.2.2.2.2.length ∧
          (∀ i (h : i < v.2.2.2.2.length), ∃ e, Cells5 cur (i * 5) e ∧ VOwn w d e (v.2.2.2.2[i]) (Bi.getD i [])) ∧ Bl = g :: Bi.flatten ∧ Bl.Nodup) ∧
      B = Bs ++ (Bk ++ Bl) ∧ B.Nodup

/-- A list of values of the call's own. -/
def LOwn (w : World) (d : Nat) (x : Value) (l : List (Vl d)) (B : List Nat) : Prop :=
  (x = .slice none 0 0 ∧ l = [] ∧ B = []) ∨
  ∃ (g cap : Nat) (cur : Array Value) (Bi : List (List Nat)), x = .slice (some ⟨g, 0, none⟩) l.length cap ∧ w.heap[g]? = some (.cells cur 26 (0, 0)) ∧ l.length ≤ cap ∧ cap ≤ maxLen ∧ cur.size = cap * 5 ∧ Bi.length = l.length ∧
    (∀ i (h : i < l.length), ∃ e, Cells5 cur (i * 5) e ∧ VOwn w d e (l[i]) (Bi.getD i [])) ∧ B = g :: Bi.flatten ∧ B.Nodup

theorem VOwn_succ (w : World) (d : Nat) (c : Value × Value × Value × Value × Value) (v : Vl (d + 1)) (B : List Nat) :
    VOwn w (d + 1) c v B ↔ c.1 = .int .i64 v.1 ∧ c.2.1 = .int .i64 v.2.1 ∧ ∃ Bs Bk Bl, TOwn w c.2.2.1 v.2.2.1 Bs ∧ KOwn w c.2.2.2.1 v.2.2.2.1 Bk ∧ LOwn w d c.2.2.2.2 v.2.2.2.2 Bl ∧ B = Bs ++ (Bk ++ Bl) ∧ B.Nodup := Iff.rfl

theorem KOwn.lt {w : World} {v : Value} {ks : List (List Int)} {B : List Nat} (h : KOwn w v ks B) : ∀ b ∈ B, b < w.heap.size := by
  intro b hb
  rcases h with ⟨_, _, rfl⟩ | ⟨g, cap, cur, Bs, _, h2, _, _, _, h6, h7, rfl, _⟩
  · simp at hb
  · rcases List.mem_cons.1 hb with rfl | hb
    · exact (Array.getElem?_eq_some_iff.1 h2).1
    · obtain ⟨l, hl, hbl⟩ := List.mem_flatten.1 hb
      obtain ⟨i, hi, rfl⟩ := List.getElem_of_mem hl
      obtain ⟨u, _, ht⟩ := h7 i (by omega)
      exact ht.lt b (by simpa [List.getD_eq_getElem?_getD, hi] using hbl)

theorem VOwn.lt {w : World} (d : Nat) : ∀ {c : Value × Value × Value × Value × Value} {v : Vl d} {B : List Nat}, VOwn w d c v B → ∀ b ∈ B, b < w.heap.size := by
  induction d with
  | zero => intro c v B h; exact h.elim
  | succ d ih =>
    intro c v B h b hb
    obtain ⟨_, _, Bs, Bk, Bl, ht, hk, hl, rfl, _⟩ := h
    rw [List.mem_append, List.mem_append] at hb
    rcases hb with hb | hb | hb
    · exact ht.lt b hb
    · exact hk.lt b hb
    · rcases hl with ⟨_, _, rfl⟩ | ⟨g, cap, cur, Bi, _, h2, _, _, _, h6, h7, rfl, _⟩
      · simp at hb
      · rcases List.mem_cons.1 hb with rfl | hb
        · exact (Array.getElem?_eq_some_iff.1 h2).1
        · obtain ⟨q, hq, hbq⟩ := List.mem_flatten.1 hb
          obtain ⟨i, hi, rfl⟩ := List.getElem_of_mem hq
          obtain ⟨e, _, hv⟩ := h7 i (by omega)
          exact ih hv b (by simpa [List.getD_eq_getElem?_getD, hi] using hbq)

theorem VOwn.agree {w w' : World} (d : Nat) : ∀ {c : Value × Value × Value × Value × Value} {v : Vl d} {B : List Nat}, VOwn w d c v B → Agree (fun b => b ∈ B) w w' → VOwn w' d c v B := by
  induction d with
  | zero => intro c v B h _; exact h.elim
  | succ d ih =>
    intro c v B h ha
    obtain ⟨e0, e1, Bs, Bk, Bl, ht, hk, hl, rfl, hn⟩ := h
    refine ⟨e0, e1, Bs, Bk, Bl, ht.agree fun b hb => ha b (by simp [hb]), hk.agree fun b hb => ha b (by simp [hb]), ?_, rfl, hn⟩
    rcases hl with h0 | ⟨g, cap, cur, Bi, h1, h2, h3, h4, h5, h6, h7, rfl, h9⟩
    · exact .inl h0
    · refine .inr ⟨g, cap, cur, Bi, h1, (ha g (by simp)).trans h2, h3, h4, h5, h6, fun i hi => ?_, rfl, h9⟩
      obtain ⟨e, he, hv⟩ := h7 i hi
      exact ⟨e, he, ih hv fun b hb => ha b (by have := flatten_mem_getD (Bs := Bi) (by omega) hb; simp only [List.mem_append, List.mem_cons]; exact .inr (.inr (.inr this)))⟩

theorem LOwn.agree {w w' : World} {d : Nat} {x : Value} {l : List (Vl d)} {B : List Nat} (h : LOwn w d x l B) (ha : Agree (fun b => b ∈ B) w w') : LOwn w' d x l B := by
  rcases h with h0 | ⟨g, cap, cur, Bi, h1, h2, h3, h4, h5, h6, h7, rfl, h9⟩
  · exact .inl h0
  · refine .inr ⟨g, cap, cur, Bi, h1, (ha g (by simp)).trans h2, h3, h4, h5, h6, fun i hi => ?_, rfl, h9⟩
    obtain ⟨e, he, hv⟩ := h7 i hi
    exact ⟨e, he, VOwn.agree d hv fun b hb => ha b (List.mem_cons_of_mem _ (flatten_mem_getD (by omega) hb))⟩

theorem KSeg.mono {R R' : Nat → Prop} {w : World} {v : Value} {ks : List (List Int)} (h : KSeg R w v ks) (hr : ∀ b, R b → R' b) : KSeg R' w v ks := by
  obtain ⟨a, cap, h1, h2, h3, h4, h5⟩ := h
  refine ⟨a, cap, h1, h2, h3, h4, ?_⟩
  rcases h5 with h0 | ⟨b, off, e, hb, hc⟩
  · exact .inl h0
  · refine .inr ⟨b, off, e, hr b hb, fun i hi => ?_⟩
    obtain ⟨u, hu, ht⟩ := hc i hi
    exact ⟨u, hu, ht.mono hr⟩

theorem VSeg.mono {R R' : Nat → Prop} {w : World} (hr : ∀ b, R b → R' b) (d : Nat) : ∀ {c : Value × Value × Value × Value × Value} {v : Vl d}, VSeg R w d c v → VSeg R' w d c v := by
  induction d with
  | zero => intro c v h; exact h
  | succ d ih =>
    intro c v h
    obtain ⟨h0, h1, h2, h3, a, cap, g1, g2, g3, g4, g5⟩ := h
    refine ⟨h0, h1, h2.mono hr, h3.mono hr, a, cap, g1, g2, g3, g4, ?_⟩
    rcases g5 with e | ⟨b, off, hb, hR, hc⟩
    · exact .inl e
    · refine .inr ⟨b, off, hb, hr b hR, fun i hi => ?_⟩
      obtain ⟨e, he, hv⟩ := hc i hi
      exact ⟨e, he, ih hv⟩

theorem Cells5.five {w : World} {g : Nat} {cur : Array Value} (h : w.heap[g]? = some (.cells cur 26 (0, 0))) {j : Nat} {e : Value × Value × Value × Value × Value} (he : Cells5 cur j e) : Five w g j e := by
  obtain ⟨h0, h1, h2, h3, h4⟩ := he
  refine ⟨?_, ?_, ?_, ?_, ?_⟩ <;> rw [cell_of_row w g _ cur _ (0, 0) h] <;> assumption

theorem VOwn.seg {w : World} (d : Nat) : ∀ {c : Value × Value × Value × Value × Value} {v : Vl d} {B : List Nat}, VOwn w d c v B → VSeg (fun b => b ∈ B) w d c v := by
  induction d with
  | zero => intro c v B h; exact h
  | succ d ih =>
    intro c v B h
    obtain ⟨e0, e1, Bs, Bk, Bl, ht, hk, hl, rfl, _⟩ := h
    refine ⟨e0, e1, ht.seg.mono fun b hb => by simp [hb], hk.seg.mono fun b hb => by simp [hb], ?_⟩
    rcases hl with ⟨h1, h2, rfl⟩ | ⟨g, cap, cur, Bi, h1, h2, h3, h4, h5, h6, h7, rfl, h9⟩
    · exact ⟨none, 0, by rw [h1, h2]; rfl, by rw [h2]; exact Nat.le_refl _, Nat.zero_le _, fun _ => rfl, .inl h2⟩
    · refine ⟨some ⟨g, 0, none⟩, cap, h1, h3, h4, by simp, .inr ⟨g, 0, rfl, by simp, fun i hi => ?_⟩⟩
      obtain ⟨e, he, hv⟩ := h7 i hi
      refine ⟨e, by rw [Nat.zero_add]; exact he.five h2, VSeg.mono (fun b hb => ?_) d (ih hv)⟩
      have := flatten_mem_getD (Bs := Bi) (by omega) hb
      simp only [List.mem_append, List.mem_cons]
      exact .inr (.inr (.inr this))

end Go.Proofs.Ytenfnbnhdmkhkaa
