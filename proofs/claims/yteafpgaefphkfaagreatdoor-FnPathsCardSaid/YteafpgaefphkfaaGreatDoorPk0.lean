/-
  Texts that a law leans on, one behind the other; no statement is proved here.
-/
import Derived.Test.YteafpgaefphkfaaGreatDoorProg
import Derived.WalkKit
import Derived.WalkSpells
import Derived.WalkLawsBesides
import Derived.Deep.QuietTactic
import Derived.BigQuiet
import Derived.Below
import Derived.Laws.AppendOwnNone
import Derived.Deep.RegionHeld3
/-
  What a slice of bytes holds in memory, as the walks of this seat speak of it: 'Seg' (it can be read), and small laws on worlds; no statement is proved here.
-/
namespace Go.Proofs.YteafpgaefphkfaaGreatDoor
open Go.RowKit

theorem hide' {p : Prop} (h : p) : Hid p := h

/-- A byte. -/
def Byt (x : Int) : Prop := 0 ≤ x ∧ x ≤ 255

/-- The slice at 'a' of 'xs.length' bytes reads as 'xs'. -/
def Seg (w : World) (a : Option Addr) (xs : List Int) : Prop :=
  (∀ x ∈ xs, Byt x) ∧ (xs = [] ∨ ∃ b off, a = some ⟨b, off, none⟩ ∧ ∀ i, i < xs.length → w.cell? ⟨b, off + i, none⟩ = some (.int .u8 (xs.getD i 0)))

/-- The bytes as cells. -/
def cellsOf (xs : List Int) : List Value := xs.map (Value.int .u8)

/-- The slice value 'v' owns a row of its own, from block 'base' on, that holds 'xs'. -/
def Bts (w : World) (base : Nat) (v : Value) (xs : List Int) : Prop :=
  (∀ x ∈ xs, Byt x) ∧ w.ownsRow base 5 1 v xs.length (cellsOf xs)

theorem Bts.shape {w : World} {base : Nat} {v : Value} {xs : List Int} (h : Bts w base v xs) : ∃ a cap, v = .slice a xs.length cap ∧ Seg w a xs ∧ xs.length ≤ cap ∧ cap ≤ maxLen ∧ (∀ x, a = some x → base ≤ x.block ∧ x.block < w.heap.size ∧ x.off = 0 ∧ x.spot = none) ∧ (a = none → cap = 0) := by
  obtain ⟨hb, ho⟩ := h
  have ho' := ho
  obtain ⟨hl, hc⟩ := ho
  rcases hc with ⟨rfl, h0⟩ | ⟨g, cap, cur, rfl, hg, hh, hle, hm, hsz, htake⟩
  · have : xs = [] := List.eq_nil_of_length_eq_zero h0
    subst this
    exact ⟨none, 0, rfl, ⟨hb, .inl rfl⟩, Nat.le_refl _, Nat.zero_le _, by simp, fun _ => rfl⟩
  · refine ⟨some ⟨g, 0, none⟩, cap, rfl, ⟨hb, .inr ⟨g, 0, rfl, fun i hi => ?_⟩⟩, hle, hm, ?_, by simp⟩
    · have := World.ownsRow.cellAt ho' i (by omega)
      rw [Nat.zero_add, this]
      simp [cellsOf, hi]
    · rintro x hx
      simp at hx
      subst hx
      exact ⟨hg, (Array.getElem?_eq_some_iff.1 hh).1, rfl, rfl⟩

theorem Seg.below {w w' : World} {B : Nat} {a : Option Addr} {xs : List Int} (h : Seg w a xs) (hb : Below B w w') (ha : ∀ x, a = some x → xs ≠ [] → x.block < B) : Seg w' a xs := by
  refine ⟨h.1, ?_⟩
  rcases h.2 with h0 | ⟨b, off, rfl, hc⟩
  · exact .inl h0
  · by_cases he : xs = []
    · exact .inl he
    · exact .inr ⟨b, off, rfl, fun i hi => (hb.cell (p := ⟨b, off + i, none⟩) (ha ⟨b, off, none⟩ rfl he)).trans (hc i hi)⟩

/-- What can be read lies in a block that is there. -/
theorem Seg.lt {w : World} {a : Option Addr} {xs : List Int} (h : Seg w a xs) : ∀ x, a = some x → xs ≠ [] → x.block < w.heap.size := by
  intro x hx he
  rcases h.2 with h0 | ⟨b, off, rfl, hc⟩
  · exact absurd h0 he
  · simp at hx
    subst hx
    have hp : 0 < xs.length := List.length_pos_iff.2 he
    exact World.block_lt_of_cell? w _ (hc 0 hp)

/-- What can be read can be read behind whatever makes new blocks alone. -/
theorem Seg.grow {w w' : World} {a : Option Addr} {xs : List Int} (h : Seg w a xs) (hb : Below w.heap.size w w') : Seg w' a xs := h.below hb h.lt

theorem Bts.below {w w' : World} {base B : Nat} {v : Value} {xs : List Int} (h : Bts w base v xs) (hb : Below B w w') (hv : ∀ k, v.ownBlock = some k → k < B) : Bts w' base v xs := by
  refine ⟨h.1, h.2.1, ?_⟩
  rcases h.2.2 with h0 | ⟨g, cap, cur, rfl, hg, hh, r⟩
  · exact .inl h0
  · exact .inr ⟨g, cap, cur, rfl, hg, (hb.block g (hv g rfl)).trans hh, r⟩

theorem Bts.grow {w w' : World} {base : Nat} {v : Value} {xs : List Int} (h : Bts w base v xs) (hb : Below w.heap.size w w') : Bts w' base v xs :=
  h.below hb fun k hk => (h.2.lt k hk).2

theorem Bts.kept {w w' : World} {base : Nat} {v : Value} {xs : List Int} {row : Option Nat} (h : Bts w base v xs) (hg : w.grownBy w' row) (hne : v.ownBlock = none ∨ v.ownBlock ≠ row) : Bts w' base v xs :=
  ⟨h.1, h.2.kept hg hne⟩

theorem Bts.mono {w : World} {base base' : Nat} {v : Value} {xs : List Int} (h : Bts w base v xs) (hb : base' ≤ base) : Bts w base' v xs := by
  refine ⟨h.1, h.2.1, ?_⟩
  rcases h.2.2 with h0 | ⟨g, cap, cur, rfl, hg, r⟩
  · exact .inl h0
  · exact .inr ⟨g, cap, cur, rfl, by omega, r⟩

theorem Bts.bytes {w : World} {base : Nat} {v : Value} {xs : List Int} (h : Bts w base v xs) : ∀ x ∈ xs, Byt x := h.1

theorem Bts.seg {w : World} {base : Nat} {a : Option Addr} {n cap : Nat} {xs : List Int} (h : Bts w base (.slice a n cap) xs) : Seg w a xs := by
  obtain ⟨a', cap', hv, hs, _⟩ := h.shape
  simp at hv
  rw [hv.1]
  exact hs

/-- Two steps that each make new blocks alone. -/
theorem Below.on {w w1 w2 : World} (h : Below w.heap.size w w1) (k : Below w1.heap.size w1 w2) : Below w.heap.size w w2 := h.trans (k.mono h.size)

theorem getD_byt {xs : List Int} (h : ∀ x ∈ xs, Byt x) (i : Nat) : 0 ≤ xs.getD i 0 ∧ xs.getD i 0 ≤ 255 := by
  by_cases hi : i < xs.length
  · have := h (xs[i]) (List.getElem_mem hi)
    simpa [Byt, List.getD_eq_getElem?_getD, hi] using this
  · simp [List.getD_eq_getElem?_getD, Nat.le_of_not_lt hi]

theorem cellsOf_append (xs ys : List Int) : cellsOf (xs ++ ys) = cellsOf xs ++ cellsOf ys := by simp [cellsOf]

theorem info5 : (Tryz.prog.info? 5).map (fun i => (i.zero, i.size, i.bytes)) = some (some (.int .u8 0), 1, 1) := by kernel_rfl

/-- 'append(out, ys...)', out nil or the call's own, ys whatever slice of bytes (nil, empty, cut): what is owned grows by ys. -/
theorem wpList_append_seg {w : World} {ops : Array Oper} {rest : List Oper} {o : Oper} {a : Act} {Q : Exit → Act → World → Prop} (hgd : o.guard = none) (s x : Operand)
    (ho : o.op = .call { callee := .builtin .append, args := #[s, x], argTypes := #[22, 22] })
    (base : Nat) (v : Value) (xs ys : List Int) (hs : a.eval s = v) (hB : Bts w base v xs) (ad : Option Addr) (m c : Nat) (hm : m = ys.length) (hx : a.eval x = .slice ad m c) (hS : Seg w ad ys) (hc : ad = none → c = 0)
    (hlen : xs.length + ys.length ≤ 1099511627776) (hbase : base ≤ w.heap.size)
    (h : ∀ v' w', Bts w' base v' (xs ++ ys) → w.grownBy w' v.ownBlock → wpList Tryz.prog ops Q rest (a.put o.dst v') w') : wpList Tryz.prog ops Q (o :: rest) a w := by
  obtain ⟨i0, hi, hz0, hz1, hz2⟩ := info_parts info5
  have hbyt : ∀ z ∈ xs ++ ys, Byt z := by
    intro z hz
    rcases List.mem_append.1 hz with h1 | h1
    · exact hB.1 z h1
    · exact hS.1 z h1
  subst hm
  cases ad with
  | none =>
    have hc0 := hc rfl
    have hy : ys = [] := by
      rcases hS.2 with h0 | ⟨b, off, h1, _⟩
      · exact h0
      · simp at h1
    subst hc0
    subst hy
    refine wpList_append_own_none hgd s x 22 ho base 5 i0 1 Tryz.underlying22 hi v xs.length (cellsOf xs) hs hB.2 hx ?_
    exact h v w (by simpa using hB) (World.grownBy.refl _ _)
  | some ad =>
    refine wpList_append_own w hgd s x 22 ho base 5 i0 (.int .u8 0) 1 1 Tryz.underlying22 hi hz0 hz1 hz2 rfl (by decide) v xs.length (cellsOf xs) hs hB.2 ad ys.length c (cellsOf ys) hx (by simp [cellsOf]) ?_ ?_ (by unfold maxLen; omega) (by omega) hbase ?_
    · intro j u hu
      rcases hS.2 with h0 | ⟨b, off, h1, h2⟩
      · subst h0; simp [cellsOf] at hu
      · simp at h1
        subst h1
        have hj : j < ys.length := by
          have := (List.getElem?_eq_some_iff.1 hu).1
          simpa [cellsOf] using this
        rw [Addr.add_lit, h2 j hj]
        simp [cellsOf, hj] at hu
        simp [hj, hu]
    · intro u hu
      simp only [cellsOf, List.mem_map] at hu
      obtain ⟨q, _, rfl⟩ := hu
      rfl
    · intro v' w' ho' hg' _
      exact h v' w' ⟨hbyt, by rw [cellsOf_append]; simpa using ho'⟩ hg'

theorem Bts.away {w w' : World} {base : Nat} {a : Option Addr} {n c : Nat} {xs : List Int} {row : Option Nat} (h : Bts w base (.slice a n c) xs) (hg : w.grownBy w' row) (hne : ∀ x, a = some x → row ≠ some x.block) : Bts w' base (.slice a n c) xs := by
  refine h.kept hg ?_
  cases a with
  | none => exact .inl rfl
  | some x => exact .inr fun e => hne x rfl e.symm

theorem Seg.away {w w' : World} {a : Option Addr} {xs : List Int} {row : Option Nat} (h : Seg w a xs) (hg : w.grownBy w' row) (hne : ∀ x, a = some x → xs ≠ [] → row ≠ some x.block) : Seg w' a xs := by
  refine ⟨h.1, ?_⟩
  rcases h.2 with h0 | ⟨b, off, rfl, hc⟩
  · exact .inl h0
  · by_cases he : xs = []
    · exact .inl he
    · exact .inr ⟨b, off, rfl, fun i hi => hg.cell (hc i hi) (fun e => hne ⟨b, off, none⟩ rfl he e.symm)⟩

theorem Bts.lt {w : World} {base : Nat} {a : Option Addr} {n c : Nat} {xs : List Int} (h : Bts w base (.slice a n c) xs) : ∀ x, a = some x → base ≤ x.block ∧ x.block < w.heap.size := by
  rintro x rfl
  exact h.2.lt x.block rfl

/-- Behind marks on a row of the call's own nothing old has turned. -/
theorem Below.marked {w w1 w2 : World} {a : Option Addr} {n c : Nat} (h : Below w.heap.size w w1) (hg : w1.grownBy w2 (Value.slice a n c).ownBlock) (ha : ∀ x, a = some x → w.heap.size ≤ x.block) : Below w.heap.size w w2 := by
  refine h.grown hg h.size fun k hk => ?_
  cases a with
  | none => simp [Value.ownBlock] at hk
  | some x =>
    simp [Value.ownBlock] at hk
    subst hk
    exact ha x rfl

theorem ret_i64 {x y : Int} (h : x = y) : Ending.returned (.int .i64 x) = .returned (.int .i64 y) := by rw [h]

/-- A slice of bytes that came in can be read. -/
theorem seg_of_row {w : World} {a : Option Addr} {len cap : Nat} {zs : List Int} (h : (a = none ∧ len = 0 ∧ cap = 0 ∧ zs = []) ∨
    ∃ x, a = some x ∧ len ≤ cap ∧ cap ≤ maxLen ∧ zs.length = cap ∧ (∀ i, i < zs.length → w.cell? (x.add i) = some (.int .u8 (zs.getD i 0))) ∧ ∀ n ∈ zs, (Lit.int .u8 n).wf = true) :
    ∃ xs : List Int, len = xs.length ∧ Seg w a xs ∧ len ≤ cap ∧ cap ≤ maxLen ∧ (a = none → cap = 0) := by
  rcases h with ⟨rfl, rfl, rfl, rfl⟩ | ⟨x, rfl, hlc, hm, hz, hcell, hwf⟩
  · exact ⟨[], rfl, ⟨by simp, .inl rfl⟩, Nat.le_refl _, Nat.zero_le _, fun _ => rfl⟩
  · have hl : len = (zs.take len).length := by simp; omega
    refine ⟨zs.take len, hl, ⟨?_, ?_⟩, hlc, hm, by simp⟩
    · intro n hn
      have := hwf n (List.mem_of_mem_take hn)
      unfold Byt
      simp [Lit.wf, IntKind.min, IntKind.max, IntKind.bits, IntKind.signed] at this
      omega
    · by_cases h0 : len = 0
      · exact .inl (by simp [h0])
      · obtain ⟨b, off, spot⟩ := x
        have hc := hcell 0 (by omega)
        have hspot : spot = none := by simpa [Addr.add] using World.cell?_spot hc
        subst hspot
        refine .inr ⟨b, off, rfl, fun i hi => ?_⟩
        have hi' : i < len := by omega
        have := hcell i (by omega)
        have e : (⟨b, off, none⟩ : Addr).add i = ⟨b, off + i, none⟩ := Addr.add_lit b off i
        rw [e] at this
        rw [this]
        simp [List.getD_eq_getElem?_getD, hi']

end Go.Proofs.YteafpgaefphkfaaGreatDoor
/-
  Regions that draw, walked by hand in the order of the text: the library's 'wpAnyH_take' with the slot said; no statement is proved here. For guarded operations that are not wanted.
-/
namespace Go.Proofs.YteafpgaefphkfaaGreatDoor
set_option linter.unusedVariables false

section
variable {P : Program} {ops : Array Oper} {Q : Exit → Act → World → Prop} {md : Region.Mode} {S : World → Prop}
theorem take_yes {i : Nat} (d : Nat) {oi : Oper} {v : Value} {fuel : Nat} {listed : Array Bool} {a : Act} {w : World} (hi : ops[i]? = some oi) (hd : oi.dst = some d)
    (hs : Region.noSelect ops = true) (hf : Region.free md ops listed i = true) (hr : (Region.ready md ops listed).contains i = true)
    (hQ : ∀ c a w, Q (.panic c) (a.put (some d) v) w → Q (.panic c) a w) (hw : Region.wanted oi (yielded ops a.tmps) = true) (hS : S w)
    (hy : ∀ w, S w → (execOp a.eval oi).run P w = .ok (.value v) w)
    (h : wpAnyH P md ops Q S fuel (listed.setIfInBounds i true) (a.put (some d) v) w) : wpAnyH P md ops Q S (fuel + 1) listed a w :=
  wpAnyH_take hi hs hf hr (by rw [hd]; exact hQ) (Or.inl ⟨hw, hy⟩) hS (by rw [hd]; exact h)
end
end Go.Proofs.YteafpgaefphkfaaGreatDoor
/-
  The laws' own helper toByteS: it makes a row of its own that holds what its argument holds; nothing old is turned.
-/
namespace Go.Proofs.YteafpgaefphkfaaGreatDoor
open Go.RowKit
set_option linter.unusedVariables false

end Go.Proofs.YteafpgaefphkfaaGreatDoor
/-
  What the model holds of the type of values.
-/
namespace Go.Proofs.YteafpgaefphkfaaGreatDoor
open Go.RowKit

theorem info_valueT : (Tryz.prog.info? 29).map (fun i => (i.zero, i.size, i.bytes)) = some (some (.agg #[.int .i64 0, .int .i64 0, .slice none 0 0, .slice none 0 0, .slice none 0 0]), 5, 88) := by kernel_rfl

end Go.Proofs.YteafpgaefphkfaaGreatDoor
/-
  Rows of bytes of the call's own: an empty one, one byte laid in a block, a nil slice.
-/
namespace Go.Proofs.YteafpgaefphkfaaGreatDoor
open Go.RowKit
set_option linter.unusedVariables false

theorem bts_empty (w : World) : Bts (w.alloc (.cells #[] 5)) w.heap.size (.slice (some ⟨w.heap.size, 0, none⟩) 0 0) [] :=
  ⟨by simp, by simpa [cellsOf] using World.ownsRow_lit (base := w.heap.size) (e := 5) (size := 1) w #[] 0 (Nat.le_refl _) (Nat.zero_le _) rfl⟩

/-- One byte that was laid in a block of its own. -/
theorem seg_one (w : World) (c : Int) (h : Byt c) : Seg (w.alloc (.cells #[.int .u8 c] 5)) (some ⟨w.heap.size, 0, none⟩) [c] := by
  refine ⟨by simpa using h, .inr ⟨w.heap.size, 0, rfl, fun i hi => ?_⟩⟩
  have : i = 0 := by simpa using hi
  subst this
  simp

theorem Bts.alloc {w : World} {base : Nat} {v : Value} {xs : List Int} (h : Bts w base v xs) (o : Obj) : Bts (w.alloc o) base v xs := ⟨h.1, h.2.alloc o⟩

theorem Bts.own {w : World} {base : Nat} {v : Value} {xs : List Int} (h : Bts w base v xs) : ∀ k, v.ownBlock = some k → base ≤ k := fun k hk => (h.2.lt k hk).1

theorem bts_nil (w : World) (base : Nat) : Bts w base (.slice none 0 0) [] := ⟨by simp, by simp [cellsOf], .inl ⟨rfl, rfl⟩⟩

end Go.Proofs.YteafpgaefphkfaaGreatDoor
/-
  The laws' own helper eqByteS: of two slices that hold the same bytes it answers true, and turns nothing.
-/
namespace Go.Proofs.YteafpgaefphkfaaGreatDoor
open Go.RowKit
set_option linter.unusedVariables false

theorem Seg.at {w : World} {a : Option Addr} {xs : List Int} (h : Seg w a xs) {k : Nat} (hk : k < xs.length) : ∃ b off, a = some ⟨b, off, none⟩ ∧ w.cell? ⟨b, off + k, none⟩ = some (.int .u8 (xs.getD k 0)) := by
  rcases h.2 with h0 | ⟨b, off, h1, h2⟩
  · subst h0; simp at hk
  · exact ⟨b, off, h1, h2 k hk⟩

theorem grownBy_trans {w0 w1 w2 : World} {row : Option Nat} (h : w0.grownBy w1 row) (k : w1.grownBy w2 row) : w0.grownBy w2 row :=
  ⟨k.os.trans h.os, k.tape.trans h.tape, k.output.trans h.output, Nat.le_trans h.size k.size, fun i hi hne => (k.block i (Nat.lt_of_lt_of_le hi h.size) hne).trans (h.block i hi hne)⟩

end Go.Proofs.YteafpgaefphkfaaGreatDoor
/-
  What a value (kind, number, text, keys, parts) holds in memory, by its depth: 'Vl d' and 'VSeg'; lists of texts: 'KSeg'; no statement is proved here.
-/
namespace Go.Proofs.YteafpgaefphkfaaGreatDoor
open Go.RowKit
set_option linter.unusedVariables false

/-- Values of depth at most d. -/
def Vl : Nat → Type
  | 0 => Empty
  | d + 1 => Int × Int × List Int × List (List Int) × List (Vl d)

/-- The blocks in which something lies all fulfil R, and may be read alike in two worlds. -/
def Agree (R : Nat → Prop) (w w' : World) : Prop := ∀ b, R b → w'.heap[b]? = w.heap[b]?

/-- A slice of bytes, all in blocks of R. -/
def TSeg (R : Nat → Prop) (w : World) (v : Value) (xs : List Int) : Prop := ∃ a cap, v = .slice a xs.length cap ∧ Seg w a xs ∧ xs.length ≤ cap ∧ cap ≤ maxLen ∧ (a = none → cap = 0) ∧ ∀ x, a = some x → xs ≠ [] → R x.block

/-- A slice of slices of bytes. -/
def KSeg (R : Nat → Prop) (w : World) (v : Value) (ks : List (List Int)) : Prop := ∃ a cap, v = .slice a ks.length cap ∧ ks.length ≤ cap ∧ cap ≤ maxLen ∧ (a = none → cap = 0) ∧
  (ks = [] ∨ ∃ b off, a = some ⟨b, off, none⟩ ∧ R b ∧ ∀ i, i < ks.length → ∃ u, w.cell? ⟨b, off + i, none⟩ = some u ∧ TSeg R w u (ks.getD i []))

/-- The five cells of a value at a place. -/
def Five (w : World) (b off : Nat) (c : Value × Value × Value × Value × Value) : Prop :=
  w.cell? ⟨b, off, none⟩ = some c.1 ∧ w.cell? ⟨b, off + 1, none⟩ = some c.2.1 ∧ w.cell? ⟨b, off + 2, none⟩ = some c.2.2.1 ∧ w.cell? ⟨b, off + 3, none⟩ = some c.2.2.2.1 ∧ w.cell? ⟨b, off + 4, none⟩ = some c.2.2.2.2

/-- Five cells read as a value. -/
def VSeg (R : Nat → Prop) (w : World) : (d : Nat) → Value × Value × Value × Value × Value → Vl d → Prop
  | 0, _, _ => False
  | d + 1, c, v => c.1 = .int .i64 v.1 ∧ c.2.1 = .int .i64 v.2.1 ∧ TSeg R w c.2.2.1 v.2.2.1 ∧ KSeg R w c.2.2.2.1 v.2.2.2.1 ∧
      ∃ a cap, c.2.2.2.2 = .slice a v.2.2.2.2.length cap ∧ v.2.2.2.2.length ≤ cap ∧ cap ≤ maxLen ∧ (a = none → cap = 0) ∧
        (v.2.2.2.2 = [] ∨ ∃ b off, a = some ⟨b, off, none⟩ ∧ R b ∧ ∀ i (h : i < v.2.2.2.2.length), ∃ e, Five w b (off + i * 5) e ∧ VSeg R w d e (v.2.2.2.2[i]))

/-- A slice of values. -/
def LSeg (R : Nat → Prop) (w : World) (d : Nat) (x : Value) (l : List (Vl d)) : Prop := ∃ a cap, x = .slice a l.length cap ∧ l.length ≤ cap ∧ cap ≤ maxLen ∧ (a = none → cap = 0) ∧
  (l = [] ∨ ∃ b off, a = some ⟨b, off, none⟩ ∧ R b ∧ ∀ i (h : i < l.length), ∃ e, Five w b (off + i * 5) e ∧ VSeg R w d e (l[i]))

theorem VSeg_succ (R : Nat → Prop) (w : World) (d : Nat) (c : Value × Value × Value × Value × Value) (v : Vl (d + 1)) :
    VSeg R w (d + 1) c v ↔ c.1 = .int .i64 v.1 ∧ c.2.1 = .int .i64 v.2.1 ∧ TSeg R w c.2.2.1 v.2.2.1 ∧ KSeg R w c.2.2.2.1 v.2.2.2.1 ∧ LSeg R w d c.2.2.2.2 v.2.2.2.2 := Iff.rfl

theorem cell_agree {R : Nat → Prop} {w w' : World} (h : Agree R w w') {b o : Nat} (hb : R b) : w'.cell? ⟨b, o, none⟩ = w.cell? ⟨b, o, none⟩ := World.cell?_of_block (h b hb)

theorem TSeg.agree {R : Nat → Prop} {w w' : World} {v : Value} {xs : List Int} (h : TSeg R w v xs) (ha : Agree R w w') : TSeg R w' v xs := by
  obtain ⟨a, cap, h1, h2, h3, h4, h5, h6⟩ := h
  refine ⟨a, cap, h1, ⟨h2.1, ?_⟩, h3, h4, h5, h6⟩
  rcases h2.2 with h0 | ⟨b, off, rfl, hc⟩
  · exact .inl h0
  · by_cases he : xs = []
    · exact .inl he
    · exact .inr ⟨b, off, rfl, fun i hi => (cell_agree ha (h6 _ rfl he)).trans (hc i hi)⟩

theorem KSeg.agree {R : Nat → Prop} {w w' : World} {v : Value} {ks : List (List Int)} (h : KSeg R w v ks) (ha : Agree R w w') : KSeg R w' v ks := by
  obtain ⟨a, cap, h1, h2, h3, h4, h5⟩ := h
  refine ⟨a, cap, h1, h2, h3, h4, ?_⟩
  rcases h5 with h0 | ⟨b, off, hb, hR, hc⟩
  · exact .inl h0
  · refine .inr ⟨b, off, hb, hR, fun i hi => ?_⟩
    obtain ⟨u, hu, ht⟩ := hc i hi
    exact ⟨u, (cell_agree ha hR).trans hu, ht.agree ha⟩

theorem Five.agree {R : Nat → Prop} {w w' : World} {b off : Nat} {c : Value × Value × Value × Value × Value} (h : Five w b off c) (ha : Agree R w w') (hb : R b) : Five w' b off c := by
  obtain ⟨h0, h1, h2, h3, h4⟩ := h
  exact ⟨(cell_agree ha hb).trans h0, (cell_agree ha hb).trans h1, (cell_agree ha hb).trans h2, (cell_agree ha hb).trans h3, (cell_agree ha hb).trans h4⟩

theorem VSeg.agree {R : Nat → Prop} {w w' : World} (ha : Agree R w w') (d : Nat) : ∀ {c : Value × Value × Value × Value × Value} {v : Vl d}, VSeg R w d c v → VSeg R w' d c v := by
  induction d with
  | zero => intro c v h; exact h
  | succ d ih =>
    intro c v h
    obtain ⟨h0, h1, h2, h3, a, cap, g1, g2, g3, g4, g5⟩ := h
    refine ⟨h0, h1, h2.agree ha, h3.agree ha, a, cap, g1, g2, g3, g4, ?_⟩
    rcases g5 with e | ⟨b, off, hb, hR, hc⟩
    · exact .inl e
    · refine .inr ⟨b, off, hb, hR, fun i hi => ?_⟩
      obtain ⟨e, he, hv⟩ := hc i hi
      exact ⟨e, he.agree ha hR, ih hv⟩

theorem LSeg.agree {R : Nat → Prop} {w w' : World} {d : Nat} {x : Value} {l : List (Vl d)} (h : LSeg R w d x l) (ha : Agree R w w') : LSeg R w' d x l := by
  obtain ⟨a, cap, g1, g2, g3, g4, g5⟩ := h
  refine ⟨a, cap, g1, g2, g3, g4, ?_⟩
  rcases g5 with e | ⟨b, off, hb, hR, hc⟩
  · exact .inl e
  · refine .inr ⟨b, off, hb, hR, fun i hi => ?_⟩
    obtain ⟨e, he, hv⟩ := hc i hi
    exact ⟨e, he.agree ha hR, VSeg.agree ha d hv⟩

/-- What lies below N is read alike behind whatever leaves what is below N. -/
theorem agree_below {N : Nat} {w w' : World} (h : Below N w w') : Agree (fun b => b < N) w w' := fun b hb => h.block b hb

end Go.Proofs.YteafpgaefphkfaaGreatDoor
/-
  szByteS of the laws: what is left of a bound behind a text's weight, or -1.
-/
namespace Go.Proofs.YteafpgaefphkfaaGreatDoor
open Go.RowKit
set_option linter.unusedVariables false

/-- The weight of the first k. -/
def pre {α : Type} (f : α → Nat) (l : List α) (k : Nat) : Nat := ((l.take k).map f).sum
theorem pre_zero {α : Type} (f : α → Nat) (l : List α) : pre f l 0 = 0 := by simp [pre]
theorem pre_succ {α : Type} (f : α → Nat) (l : List α) (k : Nat) (h : k < l.length) : pre f l (k + 1) = pre f l k + f l[k] := by
  unfold pre
  rw [List.take_succ_eq_append_getElem h, List.map_append, List.sum_append]
  simp only [List.map_cons, List.map_nil, List.sum_cons, List.sum_nil, Nat.add_zero]
theorem pre_all {α : Type} (f : α → Nat) (l : List α) : pre f l l.length = (l.map f).sum := by simp [pre]
theorem pre_le {α : Type} (f : α → Nat) (l : List α) (k : Nat) : pre f l k ≤ (l.map f).sum := by
  unfold pre
  have : (l.map f).sum = ((l.take k).map f).sum + ((l.drop k).map f).sum := by
    rw [← List.sum_append, ← List.map_append, List.take_append_drop]
  omega

theorem grown1 (w : World) (g j : Nat) (v : Value) : w.grownBy (w.setCell ⟨g, j, none⟩ v) (some g) :=
  ⟨rfl, rfl, rfl, by simp [World.setCell], fun k _ hk => Below.heap_setCell w ⟨g, j, none⟩ v k (fun e => hk (by simp [e]))⟩

theorem size2 (w : World) (o o' : Obj) : ((w.alloc o).alloc o').heap.size = w.heap.size + 2 := by simp
theorem two_boxes (w : World) (o o' : Obj) : ((w.alloc o).alloc o').heap[w.heap.size]? = some o ∧ ((w.alloc o).alloc o').heap[w.heap.size + 1]? = some o' := by
  have e : (w.alloc o).heap.size = w.heap.size + 1 := by simp
  constructor
  · exact (((Below.refl (w.alloc o).heap.size (w.alloc o)).alloc (Nat.le_refl _) o').block w.heap.size (by omega)).trans (MapKept.heap_alloc w o).1
  · have h := (MapKept.heap_alloc (w.alloc o) o').1
    rw [e] at h
    exact h

end Go.Proofs.YteafpgaefphkfaaGreatDoor
/-
  A row of bytes of the call's own that may bear a mark of the run-time behind its last cell (as '[]byte(s)' lays one): it is read and written as any other.
-/
namespace Go.Proofs.YteafpgaefphkfaaGreatDoor
open Go.RowKit
set_option linter.unusedVariables false

/-- A row of the call's own; no cell of it is frozen. -/
def RowF (w : World) (v : Value) (n : Nat) (xs : List Value) : Prop :=
  xs.length = n ∧ ((v = .slice none 0 0 ∧ n = 0) ∨
    ∃ (g cap : Nat) (cur : Array Value) (fr : Nat × Nat), v = .slice (some ⟨g, 0, none⟩) n cap ∧ w.heap[g]? = some (.cells cur 5 fr) ∧ (fr.2 = 0 ∨ cap ≤ fr.1) ∧ n ≤ cap ∧ cap ≤ maxLen ∧ cur.size = cap ∧ cur.toList.take n = xs)

/-- The slice value 'v' owns such a row, that holds 'xs'. -/
def BtsF (w : World) (v : Value) (xs : List Int) : Prop := (∀ x ∈ xs, Byt x) ∧ RowF w v xs.length (cellsOf xs)

theorem Bts.free {w : World} {base : Nat} {v : Value} {xs : List Int} (h : Bts w base v xs) : BtsF w v xs := by
  obtain ⟨hb, hl, h0 | ⟨g, cap, cur, h1, _, h3, h4, h5, h6, h7⟩⟩ := h
  · exact ⟨hb, by simp [cellsOf], .inl h0⟩
  · exact ⟨hb, by simp [cellsOf], .inr ⟨g, cap, cur, (0, 0), h1, h3, .inl rfl, h4, h5, by omega, by rw [Nat.mul_one] at h7; exact h7⟩⟩

theorem RowF.cellAt {w : World} {g n cap : Nat} {xs : List Value} (h : RowF w (.slice (some ⟨g, 0, none⟩) n cap) n xs) (j : Nat) (hj : j < n) : w.cell? ⟨g, j, none⟩ = xs[j]? := by
  rcases h.2 with ⟨h', _⟩ | ⟨g', cap', cur, fr, h', hg, _, _, _, _, htake⟩
  · simp at h'
  · simp only [Value.slice.injEq, Option.some.injEq, Addr.mk.injEq, and_true, true_and] at h'
    obtain ⟨rfl, rfl⟩ := h'
    rw [cell_of_row w g j cur 5 fr hg, ← htake, List.getElem?_take, if_pos hj]
    simp

theorem heap_setCell_fr (w : World) (g i : Nat) (cs : Array Value) (t : TypeId) (fr : Nat × Nat) (v : Value) (hg : w.heap[g]? = some (.cells cs t fr)) : (w.setCell ⟨g, i, none⟩ v).heap[g]? = some (.cells (cs.setIfInBounds i v) t fr) := by
  have h2 := (Array.getElem?_eq_some_iff.1 hg).1
  simp [World.setCell, Array.getElem?_modify, hg]

theorem RowF.stored {w : World} {g n cap : Nat} {xs : List Value} (h : RowF w (.slice (some ⟨g, 0, none⟩) n cap) n xs) (j : Nat) (u : Value) :
    RowF (w.setCell ⟨g, j, none⟩ u) (.slice (some ⟨g, 0, none⟩) n cap) n (xs.set j u) ∧ w.grownBy (w.setCell ⟨g, j, none⟩ u) (some g) := by
  rcases h.2 with ⟨h', _⟩ | ⟨g', cap', cur, fr, h', hg, hf, hn, hm, hs, htake⟩
  · simp at h'
  · simp only [Value.slice.injEq, Option.some.injEq, Addr.mk.injEq, and_true, true_and] at h'
    obtain ⟨rfl, rfl⟩ := h'
    refine ⟨⟨by simpa using h.1, .inr ⟨g, cap, cur.setIfInBounds j u, fr, rfl, heap_setCell_fr w g j cur 5 fr u hg, hf, hn, hm, by simpa using hs, ?_⟩⟩, ⟨rfl, rfl, rfl, by simp [World.setCell], fun k _ hk => Below.heap_setCell w ⟨g, j, none⟩ u k (fun e => hk (by simp [e]))⟩⟩
    rw [Array.toList_setIfInBounds, ← htake, List.take_set]

theorem BtsF.shape {w : World} {v : Value} {xs : List Int} (h : BtsF w v xs) : ∃ a cap, v = .slice a xs.length cap ∧ Seg w a xs ∧ xs.length ≤ cap ∧ cap ≤ maxLen ∧ (∀ x, a = some x → 0 ≤ x.block ∧ x.block < w.heap.size ∧ x.off = 0 ∧ x.spot = none) ∧ (a = none → cap = 0) := by
  obtain ⟨hb, ho⟩ := h
  have ho' := ho
  obtain ⟨hl, hc⟩ := ho
  rcases hc with ⟨rfl, h0⟩ | ⟨g, cap, cur, fr, rfl, hh, hf, hle, hm, hsz, htake⟩
  · have : xs = [] := List.eq_nil_of_length_eq_zero h0
    subst this
    exact ⟨none, 0, rfl, ⟨hb, .inl rfl⟩, Nat.le_refl _, Nat.zero_le _, by simp, fun _ => rfl⟩
  · refine ⟨some ⟨g, 0, none⟩, cap, rfl, ⟨hb, .inr ⟨g, 0, rfl, fun i hi => ?_⟩⟩, hle, hm, ?_, by simp⟩
    · have := RowF.cellAt ho' i (by omega)
      rw [Nat.zero_add, this]
      simp [cellsOf, hi]
    · rintro x hx
      simp at hx
      subst hx
      exact ⟨Nat.zero_le _, (Array.getElem?_eq_some_iff.1 hh).1, rfl, rfl⟩

theorem RowF.lt {w : World} {v : Value} {n : Nat} {xs : List Value} (h : RowF w v n xs) : ∀ k, v.ownBlock = some k → k < w.heap.size := by
  intro k hk
  rcases h.2 with ⟨rfl, _⟩ | ⟨g, cap, cur, fr, rfl, hh, _⟩
  · simp [Value.ownBlock] at hk
  · simp [Value.ownBlock] at hk
    subst hk
    exact (Array.getElem?_eq_some_iff.1 hh).1
end Go.Proofs.YteafpgaefphkfaaGreatDoor
