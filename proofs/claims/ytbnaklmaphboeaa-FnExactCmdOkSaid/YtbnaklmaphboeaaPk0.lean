/-
  Texts that a law leans on, one behind the other; no statement is proved here.
-/
import Derived.Test.YtbnaklmaphboeaaProg
import Derived.WalkKit
import Derived.WalkSpells
import Derived.WalkLawsBesides
import Derived.Deep.QuietTactic
import Derived.BigQuiet
import Derived.Below
import Derived.Laws.AppendOwnNone
/-
  What a slice of bytes holds in memory, as the walks of this seat speak of it: 'Seg' (it can be read), and small laws on worlds; no statement is proved here.
-/
namespace Go.Proofs.Ytbnaklmaphboeaa
open Go.RowKit

theorem hide' {p : Prop} (h : p) : Hid p := h

/-- A byte. -/
def Byt (x : Int) : Prop := 0 ≤ x ∧ x ≤ 255

/-- The slice at 'a' of 'xs.length' bytes reads as 'xs'. -/
def Seg (w : World) (a : Option Addr) (xs : List Int) : Prop :=
  (∀ x ∈ xs, Byt x) ∧ (xs = [] ∨ ∃ b off, a = some ⟨b, off, none⟩ ∧ ∀ i, i < xs.length → w.cell? ⟨b, off + i, none⟩ = some (.int .u8 (xs.getD i 0)))

/-- The bytes as cells. -/
def cellsOf (xs : List Int) : List Value := xs.map (Value.int .u8)

theorem length_cellsOf (xs : List Int) : (cellsOf xs).length = xs.length := by simp [cellsOf]

/-- The slice value 'v' owns a row of its own, from block 'base' on, that holds 'xs'. -/
def Bts (w : World) (base : Nat) (v : Value) (xs : List Int) : Prop :=
  (∀ x ∈ xs, Byt x) ∧ w.ownsRow base 5 1 v xs.length (cellsOf xs)

theorem Bts.shape {w : World} {base : Nat} {v : Value} {xs : List Int} (h : Bts w base v xs) : ∃ a cap, v = .slice a xs.length cap ∧ Seg w a xs ∧ xs.length ≤ cap ∧ cap ≤ maxLen ∧ (∀ x, a = some x → base ≤ x.block ∧ x.block < w.heap.size ∧ x.off = 0 ∧ x.spot = none) ∧ (a = none → cap = 0) := by
  obtain ⟨hb, ho⟩ := h
  have ho' := ho
  obtain ⟨hl, hc⟩ := ho
  rcases hc with ⟨rfl, h0⟩ | ⟨g, cap, cur, rfl, hg, hh, hle, hm, hsz, htake⟩
  · have : xs = [] := List.eq_nil_of_length_eq_zero h0
    subst this
    exact ⟨none, 0, rfl, ⟨hb, .inl rfl⟩, Nat.le_refl _, Nat.zero_le _, by simp, fun _ => rfl⟩
  · refine ⟨some ⟨g, 0, none⟩, cap, rfl, ⟨hb, .inr ⟨g, 0, rfl, fun i hi => ?_⟩⟩, hle, hm, ?_, by simp⟩
    · have := World.ownsRow.cellAt ho' i (by omega)
      rw [Nat.zero_add, this]
      simp [cellsOf, hi]
    · rintro x hx
      simp at hx
      subst hx
      exact ⟨hg, (Array.getElem?_eq_some_iff.1 hh).1, rfl, rfl⟩

theorem Seg.below {w w' : World} {B : Nat} {a : Option Addr} {xs : List Int} (h : Seg w a xs) (hb : Below B w w') (ha : ∀ x, a = some x → xs ≠ [] → x.block < B) : Seg w' a xs := by
  refine ⟨h.1, ?_⟩
  rcases h.2 with h0 | ⟨b, off, rfl, hc⟩
  · exact .inl h0
  · by_cases he : xs = []
    · exact .inl he
    · exact .inr ⟨b, off, rfl, fun i hi => (hb.cell (p := ⟨b, off + i, none⟩) (ha ⟨b, off, none⟩ rfl he)).trans (hc i hi)⟩

/-- What can be read lies in a block that is there. -/
theorem Seg.lt {w : World} {a : Option Addr} {xs : List Int} (h : Seg w a xs) : ∀ x, a = some x → xs ≠ [] → x.block < w.heap.size := by
  intro x hx he
  rcases h.2 with h0 | ⟨b, off, rfl, hc⟩
  · exact absurd h0 he
  · simp at hx
    subst hx
    have hp : 0 < xs.length := List.length_pos_iff.2 he
    exact World.block_lt_of_cell? w _ (hc 0 hp)

/-- What can be read can be read behind whatever makes new blocks alone. -/
theorem Seg.grow {w w' : World} {a : Option Addr} {xs : List Int} (h : Seg w a xs) (hb : Below w.heap.size w w') : Seg w' a xs := h.below hb h.lt

theorem Bts.below {w w' : World} {base B : Nat} {v : Value} {xs : List Int} (h : Bts w base v xs) (hb : Below B w w') (hv : ∀ k, v.ownBlock = some k → k < B) : Bts w' base v xs := by
  refine ⟨h.1, h.2.1, ?_⟩
  rcases h.2.2 with h0 | ⟨g, cap, cur, rfl, hg, hh, r⟩
  · exact .inl h0
  · exact .inr ⟨g, cap, cur, rfl, hg, (hb.block g (hv g rfl)).trans hh, r⟩

theorem Bts.grow {w w' : World} {base : Nat} {v : Value} {xs : List Int} (h : Bts w base v xs) (hb : Below w.heap.size w w') : Bts w' base v xs :=
  h.below hb fun k hk => (h.2.lt k hk).2

theorem Bts.kept {w w' : World} {base : Nat} {v : Value} {xs : List Int} {row : Option Nat} (h : Bts w base v xs) (hg : w.grownBy w' row) (hne : v.ownBlock = none ∨ v.ownBlock ≠ row) : Bts w' base v xs :=
  ⟨h.1, h.2.kept hg hne⟩

theorem Bts.mono {w : World} {base base' : Nat} {v : Value} {xs : List Int} (h : Bts w base v xs) (hb : base' ≤ base) : Bts w base' v xs := by
  refine ⟨h.1, h.2.1, ?_⟩
  rcases h.2.2 with h0 | ⟨g, cap, cur, rfl, hg, r⟩
  · exact .inl h0
  · exact .inr ⟨g, cap, cur, rfl, by omega, r⟩

theorem Bts.bytes {w : World} {base : Nat} {v : Value} {xs : List Int} (h : Bts w base v xs) : ∀ x ∈ xs, Byt x := h.1

theorem Bts.seg {w : World} {base : Nat} {a : Option Addr} {n cap : Nat} {xs : List Int} (h : Bts w base (.slice a n cap) xs) : Seg w a xs := by
  obtain ⟨a', cap', hv, hs, _⟩ := h.shape
  simp at hv
  rw [hv.1]
  exact hs

/-- Two steps that each make new blocks alone. -/
theorem Below.on {w w1 w2 : World} (h : Below w.heap.size w w1) (k : Below w1.heap.size w1 w2) : Below w.heap.size w w2 := h.trans (k.mono h.size)

theorem getD_byt {xs : List Int} (h : ∀ x ∈ xs, Byt x) (i : Nat) : 0 ≤ xs.getD i 0 ∧ xs.getD i 0 ≤ 255 := by
  by_cases hi : i < xs.length
  · have := h (xs[i]) (List.getElem_mem hi)
    simpa [Byt, List.getD_eq_getElem?_getD, hi] using this
  · simp [List.getD_eq_getElem?_getD, Nat.le_of_not_lt hi]

theorem cellsOf_append (xs ys : List Int) : cellsOf (xs ++ ys) = cellsOf xs ++ cellsOf ys := by simp [cellsOf]

theorem info5 : (Try.prog.info? 5).map (fun i => (i.zero, i.size, i.bytes)) = some (some (.int .u8 0), 1, 1) := by kernel_rfl

/-- 'append(out, ys...)', out nil or the call's own, ys whatever slice of bytes (nil, empty, cut): what is owned grows by ys. -/
theorem wpList_append_seg {w : World} {ops : Array Oper} {rest : List Oper} {o : Oper} {a : Act} {Q : Exit → Act → World → Prop} (hgd : o.guard = none) (s x : Operand)
    (ho : o.op = .call { callee := .builtin .append, args := #[s, x], argTypes := #[22, 22] })
    (base : Nat) (v : Value) (xs ys : List Int) (hs : a.eval s = v) (hB : Bts w base v xs) (ad : Option Addr) (m c : Nat) (hm : m = ys.length) (hx : a.eval x = .slice ad m c) (hS : Seg w ad ys) (hc : ad = none → c = 0)
    (hlen : xs.length + ys.length ≤ 1099511627776) (hbase : base ≤ w.heap.size)
    (h : ∀ v' w', Bts w' base v' (xs ++ ys) → w.grownBy w' v.ownBlock → wpList Try.prog ops Q rest (a.put o.dst v') w') : wpList Try.prog ops Q (o :: rest) a w := by
  obtain ⟨i0, hi, hz0, hz1, hz2⟩ := info_parts info5
  have hbyt : ∀ z ∈ xs ++ ys, Byt z := by
    intro z hz
    rcases List.mem_append.1 hz with h1 | h1
    · exact hB.1 z h1
    · exact hS.1 z h1
  subst hm
  cases ad with
  | none =>
    have hc0 := hc rfl
    have hy : ys = [] := by
      rcases hS.2 with h0 | ⟨b, off, h1, _⟩
      · exact h0
      · simp at h1
    subst hc0
    subst hy
    refine wpList_append_own_none hgd s x 22 ho base 5 i0 1 Try.underlying22 hi v xs.length (cellsOf xs) hs hB.2 hx ?_
    exact h v w (by simpa using hB) (World.grownBy.refl _ _)
  | some ad =>
    refine wpList_append_own w hgd s x 22 ho base 5 i0 (.int .u8 0) 1 1 Try.underlying22 hi hz0 hz1 hz2 rfl (by decide) v xs.length (cellsOf xs) hs hB.2 ad ys.length c (cellsOf ys) hx (by simp [cellsOf]) ?_ ?_ (by unfold maxLen; omega) (by omega) hbase ?_
    · intro j u hu
      rcases hS.2 with h0 | ⟨b, off, h1, h2⟩
      · subst h0; simp [cellsOf] at hu
      · simp at h1
        subst h1
        have hj : j < ys.length := by
          have := (List.getElem?_eq_some_iff.1 hu).1
          simpa [cellsOf] using this
        rw [Addr.add_lit, h2 j hj]
        simp [cellsOf, hj] at hu
        simp [hj, hu]
    · intro u hu
      simp only [cellsOf, List.mem_map] at hu
      obtain ⟨q, _, rfl⟩ := hu
      rfl
    · intro v' w' ho' hg' _
      exact h v' w' ⟨hbyt, by rw [cellsOf_append]; simpa using ho'⟩ hg'

theorem Bts.away {w w' : World} {base : Nat} {a : Option Addr} {n c : Nat} {xs : List Int} {row : Option Nat} (h : Bts w base (.slice a n c) xs) (hg : w.grownBy w' row) (hne : ∀ x, a = some x → row ≠ some x.block) : Bts w' base (.slice a n c) xs := by
  refine h.kept hg ?_
  cases a with
  | none => exact .inl rfl
  | some x => exact .inr fun e => hne x rfl e.symm

theorem Seg.away {w w' : World} {a : Option Addr} {xs : List Int} {row : Option Nat} (h : Seg w a xs) (hg : w.grownBy w' row) (hne : ∀ x, a = some x → xs ≠ [] → row ≠ some x.block) : Seg w' a xs := by
  refine ⟨h.1, ?_⟩
  rcases h.2 with h0 | ⟨b, off, rfl, hc⟩
  · exact .inl h0
  · by_cases he : xs = []
    · exact .inl he
    · exact .inr ⟨b, off, rfl, fun i hi => hg.cell (hc i hi) (fun e => hne ⟨b, off, none⟩ rfl he e.symm)⟩

theorem Bts.lt {w : World} {base : Nat} {a : Option Addr} {n c : Nat} {xs : List Int} (h : Bts w base (.slice a n c) xs) : ∀ x, a = some x → base ≤ x.block ∧ x.block < w.heap.size := by
  rintro x rfl
  exact h.2.lt x.block rfl

/-- Behind marks on a row of the call's own nothing old has turned. -/
theorem Below.marked {w w1 w2 : World} {a : Option Addr} {n c : Nat} (h : Below w.heap.size w w1) (hg : w1.grownBy w2 (Value.slice a n c).ownBlock) (ha : ∀ x, a = some x → w.heap.size ≤ x.block) : Below w.heap.size w w2 := by
  refine h.grown hg h.size fun k hk => ?_
  cases a with
  | none => simp [Value.ownBlock] at hk
  | some x =>
    simp [Value.ownBlock] at hk
    subst hk
    exact ha x rfl

theorem ret_i64 {x y : Int} (h : x = y) : Ending.returned (.int .i64 x) = .returned (.int .i64 y) := by rw [h]

/-- A slice of bytes that came in can be read. -/
theorem seg_of_row {w : World} {a : Option Addr} {len cap : Nat} {zs : List Int} (h : (a = none ∧ len = 0 ∧ cap = 0 ∧ zs = []) ∨
    ∃ x, a = some x ∧ len ≤ cap ∧ cap ≤ maxLen ∧ zs.length = cap ∧ (∀ i, i < zs.length → w.cell? (x.add i) = some (.int .u8 (zs.getD i 0))) ∧ ∀ n ∈ zs, (Lit.int .u8 n).wf = true) :
    ∃ xs : List Int, len = xs.length ∧ Seg w a xs ∧ len ≤ cap ∧ cap ≤ maxLen ∧ (a = none → cap = 0) := by
  rcases h with ⟨rfl, rfl, rfl, rfl⟩ | ⟨x, rfl, hlc, hm, hz, hcell, hwf⟩
  · exact ⟨[], rfl, ⟨by simp, .inl rfl⟩, Nat.le_refl _, Nat.zero_le _, fun _ => rfl⟩
  · have hl : len = (zs.take len).length := by simp; omega
    refine ⟨zs.take len, hl, ⟨?_, ?_⟩, hlc, hm, by simp⟩
    · intro n hn
      have := hwf n (List.mem_of_mem_take hn)
      unfold Byt
      simp [Lit.wf, IntKind.min, IntKind.max, IntKind.bits, IntKind.signed] at this
      omega
    · by_cases h0 : len = 0
      · exact .inl (by simp [h0])
      · obtain ⟨b, off, spot⟩ := x
        have hc := hcell 0 (by omega)
        have hspot : spot = none := by simpa [Addr.add] using World.cell?_spot hc
        subst hspot
        refine .inr ⟨b, off, rfl, fun i hi => ?_⟩
        have hi' : i < len := by omega
        have := hcell i (by omega)
        have e : (⟨b, off, none⟩ : Addr).add i = ⟨b, off + i, none⟩ := Addr.add_lit b off i
        rw [e] at this
        rw [this]
        simp [List.getD_eq_getElem?_getD, hi']

end Go.Proofs.Ytbnaklmaphboeaa
/-
  The laws' own helper toByteS: it makes a row of its own that holds what its argument holds; nothing old is turned.
-/
namespace Go.Proofs.Ytbnaklmaphboeaa
open Go.RowKit
set_option linter.unusedVariables false

/-- What the loop of toByteS has laid after k rounds. -/
def mixed (xs : List Int) (k : Nat) : List Value := cellsOf (xs.take k) ++ List.replicate (xs.length - k) (.int .u8 0)

theorem length_mixed (xs : List Int) (k : Nat) (h : k ≤ xs.length) : (mixed xs k).length = xs.length := by simp [mixed, cellsOf]; omega
theorem mixed_zero (xs : List Int) : mixed xs 0 = List.replicate xs.length (.int .u8 0) := by simp [mixed, cellsOf]
theorem mixed_all (xs : List Int) : mixed xs xs.length = cellsOf xs := by simp [mixed]
theorem mixed_set (xs : List Int) (k : Nat) (h : k < xs.length) : (mixed xs k).set k (.int .u8 (xs.getD k 0)) = mixed xs (k + 1) := by
  apply List.ext_getElem
  · simp [mixed, cellsOf]; omega
  · intro i h1 h2
    simp only [mixed, cellsOf, List.getElem_set, List.getElem_append, List.length_map, List.length_take]
    by_cases hik : k = i
    · subst hik
      have e2 : k < min (k + 1) xs.length := by omega
      simp [h, e2]
    · by_cases hlt : i < k
      · have e1 : i < min k xs.length := by omega
        have e2 : i < min (k + 1) xs.length := by omega
        simp [hik, e1, e2]
      · have e1 : ¬ i < min k xs.length := by omega
        have e2 : ¬ i < min (k + 1) xs.length := by omega
        simp [hik, e1, e2]

set_option maxHeartbeats 400000 in
theorem toByteS_any (a : Option Addr) (cap : Nat) (xs : List Int) (w : World) (hs : Seg w a xs) (hl : xs.length ≤ 2097152) :
    Calls Try.prog 12 #[.slice a xs.length cap] w fun e w' => e = .returned (.slice (some ⟨w.heap.size, 0, none⟩) xs.length xs.length) ∧ Bts w' w.heap.size (.slice (some ⟨w.heap.size, 0, none⟩) xs.length xs.length) xs ∧ Below w.heap.size w w' := by
  obtain ⟨i0, hi, hz0, hz1, hz2⟩ := info_parts info5
  generalize hn : xs.length = n
  have Hn : Hid (xs.length = n) := hn
  have hln : n ≤ 2097152 := by omega
  clear hn hl
  go_enter Try.func12, Try.ntmps12
  go_wp2_with (refine wpList_make_full _ rfl _ _ 22 rfl w.heap.size 5 i0 (.int .u8 0) 1 Try.underlying22 hi hz0 hz1 .i64 .i64 _ _ n rfl rfl rfl rfl (by rw [hz2]; omega) (by unfold maxLen; omega) (Nat.le_refl _) ?_; intro w1 hown hgrow)
  go_loopw [4] (fun i wr => ∃ k : Nat, k ≤ n ∧ i = .int .i64 k ∧ wr.ownsRow w.heap.size 5 1 (.slice (some ⟨w.heap.size, 0, none⟩) n n) n (mixed xs k) ∧ Below w.heap.size w wr) (fun i _ => n - (intOf i).toNat)
  case atStart => exact ⟨0, Nat.zero_le _, rfl, by rw [mixed_zero, Hn.out]; simpa [toList_madeCells_one, Value.cells] using hown, (Below.refl _ _).grown hgrow (Nat.le_refl _) (by simp)⟩
  case round =>
    obtain ⟨k, hk, rfl, hown1, hbel⟩ := hrel
    by_cases hlt : k < n
    · have hc : ∃ b off, a = some ⟨b, off, none⟩ ∧ wr.cell? ⟨b, off + k, none⟩ = some (.int .u8 (xs.getD k 0)) := by
        have hlt' : k < xs.length := by have := Hn.out; omega
        have hs' := hs.grow hbel
        rcases hs'.2 with h0 | ⟨b, off, h1, h2⟩
        · subst h0; simp at hlt'
        · exact ⟨b, off, h1, h2 k hlt'⟩
      obtain ⟨b, off, rfl, hc⟩ := hc
      have hd : ∃ v, wr.cell? ⟨w.heap.size, k, none⟩ = some v := by
        rw [hown1.cellAt k (by omega)]
        have := length_mixed xs k (by have := Hn.out; omega)
        have h2 := Hn.out
        exact ⟨_, List.getElem?_eq_getElem (by omega)⟩
      obtain ⟨v, hd⟩ := hd
      have hfz := hown1.frozenAt k
      have hst := hown1.stored k (.int .u8 (xs.getD k 0))
      rw [mixed_set xs k (by have := Hn.out; omega)] at hst
      obtain ⟨hst1, hst2⟩ := hst
      have hbel2 := hbel.setCell (p := ⟨w.heap.size, k, none⟩) (Nat.le_refl _) (.int .u8 (xs.getD k 0))
      generalize xs.getD k 0 = c at hc hst1 hbel2
      clear hst2 hown1
      go_wp2
      go_roundw
      case rel => exact ⟨k + 1, by omega, by go_num, hst1, hbel2⟩
      case measure => simp [intOf]; omega
    · obtain rfl : k = n := by omega
      have hB : Bts wr w.heap.size (.slice (some ⟨w.heap.size, 0, none⟩) k k) xs := by
        refine ⟨hs.1, ?_⟩
        have h2 := Hn.out
        have h3 := mixed_all xs
        rw [h2] at h3 ⊢
        rw [← h3]
        exact hown1
      go_wp2
      go_ret
      exact ⟨rfl, hB, hbel⟩
end Go.Proofs.Ytbnaklmaphboeaa
/-
  The laws' own helper eqByteS: of two slices that hold the same bytes it answers true, and turns nothing.
-/
namespace Go.Proofs.Ytbnaklmaphboeaa
open Go.RowKit
set_option linter.unusedVariables false

theorem Seg.at {w : World} {a : Option Addr} {xs : List Int} (h : Seg w a xs) {k : Nat} (hk : k < xs.length) : ∃ b off, a = some ⟨b, off, none⟩ ∧ w.cell? ⟨b, off + k, none⟩ = some (.int .u8 (xs.getD k 0)) := by
  rcases h.2 with h0 | ⟨b, off, h1, h2⟩
  · subst h0; simp at hk
  · exact ⟨b, off, h1, h2 k hk⟩

set_option maxHeartbeats 400000 in
theorem eqByteS_same (a b : Option Addr) (c1 c2 : Nat) (xs : List Int) (w : World) (ha : Seg w a xs) (hb : Seg w b xs) (hl : xs.length ≤ 2097152) :
    Calls Try.prog 16 #[.slice a xs.length c1, .slice b xs.length c2] w fun e w' => e = .returned (.bool true) ∧ Below w.heap.size w w' := by
  generalize hn : xs.length = n
  have Hn : Hid (xs.length = n) := hn
  have hln : n ≤ 2097152 := by omega
  clear hn hl
  go_enter Try.func16, Try.ntmps16
  go_wp2
  go_loopw [5] (fun i wr => ∃ k : Nat, k ≤ n ∧ i = .int .i64 k ∧ Below w.heap.size w wr) (fun i _ => n - (intOf i).toNat)
  case atStart => exact ⟨0, Nat.zero_le _, rfl, Below.refl _ _⟩
  case round =>
    obtain ⟨k, hk, rfl, hbel⟩ := hrel
    by_cases hlt : k < n
    · obtain ⟨b1, o1, rfl, hc1⟩ := (ha.grow hbel).at (k := k) (by have := Hn.out; omega)
      obtain ⟨b2, o2, rfl, hc2⟩ := (hb.grow hbel).at (k := k) (by have := Hn.out; omega)
      generalize xs.getD k 0 = c at hc1 hc2
      have hlt' : (k : Int) < (n : Int) := by omega
      go_wp2
      go_quiet (fail)
      go_wp2
      go_roundw
      case rel => exact ⟨k + 1, by omega, by go_num, below_drewN hbel _⟩
      case measure => simp [intOf]; omega
    · go_wp2
      go_ret
      exact ⟨rfl, hbel⟩
theorem grownBy_trans {w0 w1 w2 : World} {row : Option Nat} (h : w0.grownBy w1 row) (k : w1.grownBy w2 row) : w0.grownBy w2 row :=
  ⟨k.os.trans h.os, k.tape.trans h.tape, k.output.trans h.output, Nat.le_trans h.size k.size, fun i hi hne => (k.block i (Nat.lt_of_lt_of_le hi h.size) hne).trans (h.block i hi hne)⟩

end Go.Proofs.Ytbnaklmaphboeaa
/-
  Rows of numbers beside bytes: read ('NmS'); szIntS, toIntS, eqIntS of the laws; answers that may be (l11answers, answersOk).
-/
namespace Go.Proofs.Ytbnaklmaphboeaa
open Go.RowKit
set_option linter.unusedVariables false
set_option linter.unusedSimpArgs false

/-- A slice of numbers, read. -/
def NmS (w : World) (x : Value) (l : List Int) : Prop := ∃ a cap, x = .slice a l.length cap ∧ l.length ≤ cap ∧ cap ≤ maxLen ∧ (a = none → cap = 0) ∧
  (l = [] ∨ ∃ b off, a = some ⟨b, off, none⟩ ∧ b < w.heap.size ∧ ∀ i (h : i < l.length), w.cell? ⟨b, off + i, none⟩ = some (.int .i64 l[i]))
theorem NmS.grow {w w' : World} {x : Value} {l : List Int} (h : NmS w x l) (hb : Below w.heap.size w w') : NmS w' x l := by
  obtain ⟨a, cap, g1, g2, g3, g4, g5⟩ := h
  refine ⟨a, cap, g1, g2, g3, g4, ?_⟩
  rcases g5 with e | ⟨b, off, hb', hR, hc⟩
  · exact .inl e
  · exact .inr ⟨b, off, hb', Nat.lt_of_lt_of_le hR hb.size, fun i hi => (hb.cell (p := ⟨b, off + i, none⟩) hR).trans (hc i hi)⟩
theorem NmS.at {w : World} {l : List Int} {a : Option Addr} {n cap : Nat} (h : NmS w (.slice a n cap) l) {k : Nat} (hk : k < l.length) : ∃ b off, a = some ⟨b, off, none⟩ ∧ w.cell? ⟨b, off + k, none⟩ = some (.int .i64 l[k]) := by
  obtain ⟨a', cap', g1, _, _, _, g5⟩ := h
  simp only [Value.slice.injEq] at g1
  obtain ⟨rfl, _, _⟩ := g1
  rcases g5 with e | ⟨b, off, hb, hR, hc⟩
  · rw [e] at hk; simp at hk
  · exact ⟨b, off, hb, hc k hk⟩
theorem NmS.form {w : World} {x : Value} {l : List Int} (h : NmS w x l) : ∃ a c, x = .slice a l.length c := by
  obtain ⟨a, c, e, _⟩ := h
  exact ⟨a, c, e⟩

theorem grown1n (w : World) (g j : Nat) (v : Value) : w.grownBy (w.setCell ⟨g, j, none⟩ v) (some g) :=
  ⟨rfl, rfl, rfl, by simp [World.setCell], fun k _ hk => Below.heap_setCell w ⟨g, j, none⟩ v k (fun e => hk (by simp [e]))⟩

theorem retB {x y : Bool} (h : x = y) : Ending.returned (.bool x) = .returned (.bool y) := by rw [h]

/-- What is left of m, n being taken off. -/
def lessM (m : Int) (n : Nat) : Int := if m < (n : Int) then -1 else m - n

set_option maxHeartbeats 1600000 in
theorem laws_szByteS_left (a : Option Addr) (n cap : Nat) (m : Int) (w : World) (hn : n ≤ maxLen) (h0 : 0 ≤ m) (h1 : m ≤ 1048576) :
    Calls Try.prog 9 #[.slice a n cap, .int .i64 m] w fun e w' => e = .returned (.int .i64 (lessM m n)) ∧ w = w' := by
  unfold maxLen at hn
  by_cases h : m < (n : Int)
  · have hn' : lessM m n = -1 := if_pos h
    have h' : m - (n : Int) < 0 := by omega
    rw [hn']
    clear hn'
    go_enter Try.func9, Try.ntmps9
    go_wp2
    go_ret
    exact ⟨rfl, rfl⟩
  · have hn' : lessM m n = m - n := if_neg h
    have h' : ¬ m - (n : Int) < 0 := by omega
    rw [hn']
    clear hn'
    go_enter Try.func9, Try.ntmps9
    go_wp2
    go_ret
    exact ⟨rfl, rfl⟩
set_option maxHeartbeats 1600000 in
theorem laws_szIntS_left (a : Option Addr) (n cap : Nat) (m : Int) (w : World) (hn : n ≤ maxLen) (h0 : 0 ≤ m) (h1 : m ≤ 1048576) :
    Calls Try.prog 10 #[.slice a n cap, .int .i64 m] w fun e w' => e = .returned (.int .i64 (lessM m n)) ∧ w = w' := by
  unfold maxLen at hn
  by_cases h : m < (n : Int)
  · have hn' : lessM m n = -1 := if_pos h
    have h' : m - (n : Int) < 0 := by omega
    rw [hn']
    clear hn'
    go_enter Try.func10, Try.ntmps10
    go_wp2
    go_ret
    exact ⟨rfl, rfl⟩
  · have hn' : lessM m n = m - n := if_neg h
    have h' : ¬ m - (n : Int) < 0 := by omega
    rw [hn']
    clear hn'
    go_enter Try.func10, Try.ntmps10
    go_wp2
    go_ret
    exact ⟨rfl, rfl⟩

theorem infoN : (Try.prog.info? 3).map (fun i => (i.zero, i.size, i.bytes)) = some (some (.int .i64 0), 1, 8) := by kernel_rfl

/-- The first k of a row of n numbers are laid. -/
def NmP (w : World) (g n : Nat) (l : List Int) (k : Nat) : Prop := ∃ cur : Array Value, w.heap[g]? = some (.cells cur 3 (0, 0)) ∧ cur.size = n ∧ ∀ i (h : i < l.length), i < k → cur[i]? = some (.int .i64 l[i])
theorem nmP_next {w : World} {g n k : Nat} {l : List Int} (h : NmP w g n l k) (hk : k < l.length) (hn : l.length = n) : NmP (w.setCell ⟨g, k, none⟩ (.int .i64 l[k])) g n l (k + 1) := by
  obtain ⟨cur, h1, h2, h3⟩ := h
  refine ⟨_, heap_setCell_same w g k _ _ _ h1, by simp [h2], fun i hi hik => ?_⟩
  by_cases e : i = k
  · subst e
    rw [Array.getElem?_setIfInBounds_self_of_lt (by omega)]
  · rw [Array.getElem?_setIfInBounds_ne (by omega)]
    exact h3 i hi (by omega)
theorem nmP_read {w : World} {g : Nat} {l : List Int} (h : NmP w g l.length l l.length) (hm : l.length ≤ maxLen) : NmS w (.slice (some ⟨g, 0, none⟩) l.length l.length) l := by
  obtain ⟨cur, h1, h2, h3⟩ := h
  refine ⟨_, _, rfl, Nat.le_refl _, hm, by simp, .inr ⟨g, 0, rfl, (Array.getElem?_eq_some_iff.1 h1).1, fun i hi => ?_⟩⟩
  rw [Nat.zero_add, cell_of_row w g i _ _ _ h1]
  exact h3 i hi hi

set_option maxHeartbeats 1600000 in
theorem toIntS_read (x : Value) (l : List Int) (w : World) (hx : NmS w x l) (hn : l.length ≤ 1048576) :
    Calls Try.prog 13 #[x] w fun e w' => e = .returned (.slice (some ⟨w.heap.size, 0, none⟩) l.length l.length) ∧ NmS w' (.slice (some ⟨w.heap.size, 0, none⟩) l.length l.length) l ∧ Below w.heap.size w w' := by
  have HC := hide' hx
  obtain ⟨a, cap, rfl, hlc, hcm, -, -⟩ := hx
  unfold maxLen at hcm
  obtain ⟨i0, hi, hz0, hz1, hz2⟩ := info_parts infoN
  go_enter Try.func13, Try.ntmps13
  go_wp2_with (refine wpList_make_full _ rfl _ _ 23 rfl w.heap.size 3 i0 (.int .i64 0) 1 Try.underlying23 hi hz0 hz1 .i64 .i64 _ _ l.length rfl rfl rfl rfl (by rw [hz2]; omega) (by unfold maxLen; omega) (Nat.le_refl _) ?_; intro w1 hown hgrow)
  have hK0 : NmP w1 w.heap.size l.length l 0 := by
    rcases hown.2 with ⟨h1, _⟩ | ⟨g, cp, cur, h1, _, h3, _, _, h6, _⟩
    · simp at h1
    · simp only [Value.slice.injEq, Option.some.injEq, Addr.mk.injEq, and_true, true_and] at h1
      obtain ⟨e1, e2⟩ := h1
      subst e1
      exact ⟨cur, h3, by omega, by intro i _ h; omega⟩
  have hb1 : Below w.heap.size w w1 := (Below.refl _ _).grown hgrow (Nat.le_refl _) (by simp)
  clear hown hgrow
  go_loopw [4] (fun i wr => ∃ k : Nat, k ≤ l.length ∧ i = .int .i64 k ∧ NmP wr w.heap.size l.length l k ∧ Below w.heap.size w wr) (fun i _ => l.length - (intOf i).toNat)
  case atStart => exact ⟨0, Nat.zero_le _, rfl, hK0, hb1⟩
  case round =>
    obtain ⟨k, hk, rfl, hK, hbel⟩ := hrel
    clear hK0 hb1
    by_cases hlt : k < l.length
    · have hlt' : (k : Int) < (l.length : Int) := by omega
      obtain ⟨b, off, rfl, q0⟩ := (HC.out.grow hbel).at hlt
      have hcells : ∃ cur : Array Value, wr.heap[w.heap.size]? = some (.cells cur 3 (0, 0)) ∧ cur.size = l.length := by
        obtain ⟨cur, h1, h2, _⟩ := hK
        exact ⟨cur, h1, h2⟩
      obtain ⟨cur, hcur, hcs⟩ := hcells
      obtain ⟨x0, hx0⟩ : ∃ x, wr.cell? ⟨w.heap.size, k, none⟩ = some x := by
        rw [cell_of_row wr _ k cur _ (0, 0) hcur]
        exact ⟨_, Array.getElem?_eq_getElem (by omega)⟩
      have f0 := frozen_of_row wr _ k cur _ hcur
      have hL := hide' (nmP_next hK hlt rfl)
      have hb3 := hide' (hbel.grown (grown1n wr w.heap.size k (.int .i64 l[k])) hbel.size (by intro j hj; simp at hj; omega))
      clear hcur hK
      generalize l[k] = lv at *
      go_wp2
      go_roundw
      case rel => exact ⟨k + 1, by omega, by go_num, hL.out, hb3.out⟩
      case measure => simp [intOf]; omega
    · have hkn : k = l.length := by omega
      have hkn' : ¬ (k : Int) < (l.length : Int) := by omega
      rw [hkn] at hK
      have HF := hide' (nmP_read hK (by unfold maxLen; omega))
      clear hkn hK
      go_wp2
      go_ret
      exact ⟨rfl, HF.out, hbel⟩

set_option maxHeartbeats 1600000 in
theorem eqIntS_read (x y : Value) (l : List Int) (w : World) (hx : NmS w x l) (hy : NmS w y l) :
    Calls Try.prog 17 #[x, y] w fun e w' => e = .returned (.bool true) ∧ Below w.heap.size w w' := by
  have HC := hide' hx
  have HC' := hide' hy
  obtain ⟨a, cap, rfl, hlc, hcm, -, -⟩ := hx
  obtain ⟨a', cap', rfl, hlc', hcm', -, -⟩ := hy
  unfold maxLen at hcm hcm'
  go_enter Try.func17, Try.ntmps17
  go_wp2
  go_loopw [5] (fun i wr => ∃ k : Nat, k ≤ l.length ∧ i = .int .i64 k ∧ Below w.heap.size w wr) (fun i _ => l.length - (intOf i).toNat)
  case atStart => exact ⟨0, Nat.zero_le _, rfl, Below.refl _ _⟩
  case round =>
    obtain ⟨k, hk, rfl, hbel⟩ := hrel
    by_cases hlt : k < l.length
    · obtain ⟨b, off, rfl, q0⟩ := (HC.out.grow hbel).at hlt
      obtain ⟨b', off', rfl, r0⟩ := (HC'.out.grow hbel).at hlt
      have hlt' : (k : Int) < (l.length : Int) := by omega
      generalize l[k] = ev at *
      go_wp2_with fail
      go_quiet (fail)
      go_wp2
      go_roundw
      case rel => exact ⟨k + 1, by omega, by go_num, below_drewN hbel _⟩
      case measure => simp [intOf]; omega
    · have hlt' : ¬ (k : Int) < (l.length : Int) := by omega
      go_wp2
      go_ret
      exact ⟨rfl, hbel⟩

/-- A number that an answer may be. -/
def ans1 (x : Int) : Bool := decide (0 ≤ x) && decide (x ≤ 1000000)
/-- Answers that may be. -/
def ansB (l : List Int) : Bool := decide (l.length ≤ 100) && l.all ans1
theorem all_next {l : List Int} {k : Nat} (h : l.all ans1 = (l.drop k).all ans1) (hk : k < l.length) (h1 : ans1 l[k] = true) : l.all ans1 = (l.drop (k + 1)).all ans1 := by
  rw [h, List.drop_eq_getElem_cons hk, List.all_cons, h1, Bool.true_and]
theorem all_not {l : List Int} {k : Nat} (hk : k < l.length) (h1 : ans1 l[k] = false) : l.all ans1 = false := by
  rw [List.all_eq_false]
  exact ⟨_, List.getElem_mem hk, by simp [h1]⟩

set_option maxHeartbeats 1600000 in
theorem l11answers_any (x : Value) (l : List Int) (w : World) (hx : NmS w x l) :
    Calls Try.prog 11 #[x] w fun e w' => e = .returned (.bool (ansB l)) ∧ w = w' := by
  have HC := hide' hx
  obtain ⟨a, cap, rfl, hlc, hcm, -, -⟩ := hx
  unfold maxLen at hcm
  by_cases h100 : l.length ≤ 100
  · have hA : Hid (ansB l = l.all ans1) := by show ansB l = _; simp [ansB, h100]
    have h100' : ¬ (l.length : Int) > 100 := by omega
    go_enter Try.func11, Try.ntmps11
    go_wp2
    go_loopw [3] (fun i wr => ∃ k : Nat, k ≤ l.length ∧ i = .int .i64 k ∧ l.all ans1 = (l.drop k).all ans1 ∧ Hid (w = wr)) (fun i _ => l.length - (intOf i).toNat)
    case atStart => exact ⟨0, Nat.zero_le _, rfl, rfl, hide' rfl⟩
    case round =>
      obtain ⟨k, hk, rfl, hal, hww⟩ := hrel
      obtain rfl := hww.out
      by_cases hlt : k < l.length
      · have hlt' : (k : Int) < (l.length : Int) := by omega
        obtain ⟨b, off, rfl, q0⟩ := HC.out.at hlt
        by_cases h1 : ans1 l[k] = true
        · have hN := hide' (all_next hal hlt h1)
          simp only [ans1, Bool.and_eq_true, decide_eq_true_eq] at h1
          obtain ⟨h2, h3⟩ := h1
          clear hal
          generalize l[k] = lv at *
          have h2' : ¬ lv < 0 := by omega
          have h3' : ¬ lv > 1000000 := by omega
          go_wp2
          go_roundw
          case rel => exact ⟨k + 1, by omega, by go_num, hN.out, by trivial⟩
          case measure => simp [intOf]; omega
        · have hF : Hid (ansB l = false) := by show ansB l = false; rw [hA.out]; exact all_not hlt (by simpa using h1)
          simp only [ans1, Bool.and_eq_true, decide_eq_true_eq] at h1
          clear hal
          generalize l[k] = lv at *
          by_cases h2 : lv < 0
          · go_wp2
            go_ret
            exact ⟨retB hF.out.symm, rfl⟩
          · have h3 : lv > 1000000 := by omega
            go_wp2
            go_ret
            exact ⟨retB hF.out.symm, rfl⟩
      · have hlt' : ¬ (k : Int) < (l.length : Int) := by omega
        have hF : Hid (ansB l = true) := by
          show ansB l = true
          rw [hA.out, hal, List.drop_eq_nil_of_le (by omega)]
          rfl
        go_wp2
        go_ret
        exact ⟨retB hF.out.symm, rfl⟩
  · have hF : Hid (ansB l = false) := by show ansB l = false; simp [ansB, h100]
    have h100' : (l.length : Int) > 100 := by omega
    go_enter Try.func11, Try.ntmps11
    go_wp2
    go_ret
    exact ⟨retB hF.out.symm, rfl⟩

set_option maxHeartbeats 800000 in
theorem answersOk1_any (n : Int) (w : World) :
    Calls Try.prog 19 #[.int .i64 n] w fun e w' => e = .returned (.bool (!ans1 n)) ∧ w = w' := by
  by_cases h2 : n < 0
  · have hF : Hid ((!ans1 n) = true) := by show (!ans1 n) = true; simp [ans1]; omega
    go_enter Try.func19, Try.ntmps19
    go_wp2
    go_ret
    exact ⟨retB hF.out.symm, rfl⟩
  · by_cases h3 : n > 1000000
    · have hF : Hid ((!ans1 n) = true) := by show (!ans1 n) = true; simp [ans1]; omega
      go_enter Try.func19, Try.ntmps19
      go_wp2
      go_ret
      exact ⟨retB hF.out.symm, rfl⟩
    · have hF : Hid ((!ans1 n) = false) := by show (!ans1 n) = false; simp [ans1]; omega
      go_enter Try.func19, Try.ntmps19
      go_wp2
      go_ret
      exact ⟨retB hF.out.symm, rfl⟩

/-- Where the first one is that may not be an answer; -1 if none is. -/
def IxAns (l : List Int) (i : Int) : Prop := (l.all ans1 = true ∧ i = -1) ∨ (l.all ans1 = false ∧ 0 ≤ i)

set_option maxHeartbeats 1600000 in
theorem indexAns_any (x : Value) (l : List Int) (w : World) (hx : NmS w x l) :
    Calls Try.prog 20 #[x, .func (.func 19) #[] #[]] w fun e w' => (∃ i, e = .returned (.int .i64 i) ∧ IxAns l i) ∧ w = w' := by
  have HC := hide' hx
  obtain ⟨a, cap, rfl, hlc, hcm, -, -⟩ := hx
  unfold maxLen at hcm
  go_enter Try.func20, Try.ntmps20
  go_wp2
  go_loopw [8] (fun i wr => ∃ k : Nat, k ≤ l.length ∧ i = .int .i64 k ∧ l.all ans1 = (l.drop k).all ans1 ∧ Hid (w = wr)) (fun i _ => l.length - (intOf i).toNat)
  case atStart => exact ⟨0, Nat.zero_le _, rfl, rfl, hide' rfl⟩
  case round =>
    obtain ⟨k, hk, rfl, hal, hww⟩ := hrel
    obtain rfl := hww.out
    by_cases hlt : k < l.length
    · have hlt' : (k : Int) < (l.length : Int) := by omega
      obtain ⟨b, off, rfl, q0⟩ := HC.out.at hlt
      have hK := hide' (answersOk1_any l[k] w)
      by_cases h1 : ans1 l[k] = true
      · have hN := hide' (all_next hal hlt h1)
        rw [h1] at hK
        clear hal h1
        generalize l[k] = lv at *
        go_wp2_with fail
        refine hK.out.mono ?_
        rintro e w1 ⟨rfl, hw1⟩
        obtain rfl := hw1
        go_wp2
        go_roundw
        case rel => exact ⟨k + 1, by omega, by go_num, hN.out, by trivial⟩
        case measure => simp [intOf]; omega
      · have h1' : ans1 l[k] = false := by simpa using h1
        have hF : Hid (IxAns l (k : Int)) := .inr ⟨all_not hlt h1', by omega⟩
        rw [h1'] at hK
        clear hal h1 h1'
        generalize l[k] = lv at *
        go_wp2_with fail
        refine hK.out.mono ?_
        rintro e w1 ⟨rfl, hw1⟩
        obtain rfl := hw1
        go_wp2
        go_ret
        exact ⟨⟨_, rfl, hF.out⟩, rfl⟩
    · have hlt' : ¬ (k : Int) < (l.length : Int) := by omega
      have hF : Hid (IxAns l (-1)) := by
        refine .inl ⟨?_, rfl⟩
        rw [hal, List.drop_eq_nil_of_le (by omega)]
        rfl
      go_wp2
      go_ret
      exact ⟨⟨_, rfl, hF.out⟩, rfl⟩

set_option maxHeartbeats 1600000 in
theorem containsAns_any (x : Value) (l : List Int) (w : World) (hx : NmS w x l) :
    Calls Try.prog 18 #[x, .func (.func 19) #[] #[]] w fun e w' => e = .returned (.bool (!l.all ans1)) ∧ w = w' := by
  have HI := hide' (indexAns_any x l w hx)
  obtain ⟨a, cap, rfl, -⟩ := hx
  go_enter Try.func18, Try.ntmps18
  go_wp2_with fail
  refine HI.out.mono ?_
  rintro e w1 ⟨⟨i, rfl, hi⟩, hw1⟩
  obtain rfl := hw1
  rcases hi with ⟨h1, rfl⟩ | ⟨h1, h2⟩
  · have hF := hide' h1
    clear h1
    go_wp2
    go_ret
    exact ⟨retB (by rw [hF.out]; rfl), rfl⟩
  · have hF := hide' h1
    clear h1
    go_wp2
    go_ret
    exact ⟨retB (by rw [hF.out]; rfl), rfl⟩

set_option maxHeartbeats 1600000 in
theorem answersOk_any (x : Value) (l : List Int) (w : World) (hx : NmS w x l) :
    Calls Try.prog 14 #[x] w fun e w' => e = .returned (.bool (ansB l)) ∧ w = w' := by
  have HI := hide' (containsAns_any x l w hx)
  obtain ⟨a, cap, rfl, hlc, hcm, -, -⟩ := hx
  unfold maxLen at hcm
  by_cases h100 : l.length ≤ 100
  · have hA : Hid (ansB l = l.all ans1) := by show ansB l = _; simp [ansB, h100]
    have h100' : (l.length : Int) ≤ 100 := by omega
    cases hl : l.all ans1 with
    | true =>
      rw [hl] at hA HI
      generalize l.length = n at *
      go_enter Try.func14, Try.ntmps14
      go_wp2_with fail
      refine HI.out.mono ?_
      rintro e w1 ⟨rfl, hw1⟩
      obtain rfl := hw1
      go_wp2
      go_ret
      exact ⟨retB hA.out.symm, rfl⟩
    | false =>
      rw [hl] at hA HI
      generalize l.length = n at *
      go_enter Try.func14, Try.ntmps14
      go_wp2_with fail
      refine HI.out.mono ?_
      rintro e w1 ⟨rfl, hw1⟩
      obtain rfl := hw1
      go_wp2
      go_ret
      exact ⟨retB hA.out.symm, rfl⟩
  · have hF : Hid (ansB l = false) := by show ansB l = false; simp [ansB, h100]
    have h100' : ¬ (l.length : Int) ≤ 100 := by omega
    go_enter Try.func14, Try.ntmps14
    go_wp2_with fail
    go_ret
    exact ⟨retB hF.out.symm, rfl⟩
end Go.Proofs.Ytbnaklmaphboeaa
