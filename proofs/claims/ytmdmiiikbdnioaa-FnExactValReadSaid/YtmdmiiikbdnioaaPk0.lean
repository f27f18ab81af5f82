/-
  Texts that a law leans on, one behind the other; no statement is proved here.
-/
import Derived.Test.YtmdmiiikbdnioaaProg
import Derived.WalkKit
import Derived.WalkSpells
import Derived.WalkLawsBesides
import Derived.Deep.QuietTactic
import Derived.BigQuiet
import Derived.Below
import Derived.Laws.AppendOwnNone
import Derived.Shelf.Small.Bits
import Derived.Shelf.Strconv.Itoa0
import Derived.Ground.GgsProg
import Derived.Shelf.GgSortFunc.Insertion
import Derived.Shelf.GgSortFunc.Small
import Derived.Shelf.GgSortFunc.InsertionK
import Derived.Shelf.GgSortFunc.SmallK
import Derived.Shelf.GgSortFunc.Tiny
import Derived.Shelf.GgSortFunc.Compose
import Derived.Shelf.GgSortFunc.LotD
import Derived.Shelf.SlSortFunc.Xorshift
import Derived.Shelf.SlSortFuncK.ComposeK
import Derived.Shelf.SlSortFuncK.SiftDownK
import Derived.Shelf.SlSortFuncK.HeapSortK
import Derived.Shelf.SlSortFuncK.PartialInsertionK
import Derived.Shelf.SlSortFuncK.LotDK
import Derived.Shelf.SlSortFuncK.PivotK
import Derived.Shelf.SlSortFuncK.PartitionK
import Derived.Shelf.SlSortFuncK.PdqK
import Derived.Shelf.SlSortFuncK.WholeK
import Derived.Deep.RegionHeld3
import Derived.Laws.IdiomStrings
import Derived.Lib.Bytealg
/-
  What a slice of bytes holds in memory, as the walks of this seat speak of it: 'Seg' (it can be read), and small laws on worlds; no statement is proved here.
-/
namespace Go.Proofs.Ytmdmiiikbdnioaa
open Go.RowKit

theorem hide' {p : Prop} (h : p) : Hid p := h

/-- A byte. -/
def Byt (x : Int) : Prop := 0 ≤ x ∧ x ≤ 255

/-- The slice at 'a' of 'xs.length' bytes reads as 'xs'. -/
def Seg (w : World) (a : Option Addr) (xs : List Int) : Prop :=
  (∀ x ∈ xs, Byt x) ∧ (xs = [] ∨ ∃ b off, a = some ⟨b, off, none⟩ ∧ ∀ i, i < xs.length → w.cell? ⟨b, off + i, none⟩ = some (.int .u8 (xs.getD i 0)))

/-- The bytes as cells. -/
def cellsOf (xs : List Int) : List Value := xs.map (Value.int .u8)

theorem length_cellsOf (xs : List Int) : (cellsOf xs).length = xs.length := by simp [cellsOf]

/-- The slice value 'v' owns a row of its own, from block 'base' on, that holds 'xs'. -/
def Bts (w : World) (base : Nat) (v : Value) (xs : List Int) : Prop :=
  (∀ x ∈ xs, Byt x) ∧ w.ownsRow base 5 1 v xs.length (cellsOf xs)

theorem Bts.shape {w : World} {base : Nat} {v : Value} {xs : List Int} (h : Bts w base v xs) : ∃ a cap, v = .slice a xs.length cap ∧ Seg w a xs ∧ xs.length ≤ cap ∧ cap ≤ maxLen ∧ (∀ x, a = some x → base ≤ x.block ∧ x.block < w.heap.size ∧ x.off = 0 ∧ x.spot = none) ∧ (a = none → cap = 0) := by
  obtain ⟨hb, ho⟩ := h
  have ho' := ho
  obtain ⟨hl, hc⟩ := ho
  rcases hc with ⟨rfl, h0⟩ | ⟨g, cap, cur, rfl, hg, hh, hle, hm, hsz, htake⟩
  · have : xs = [] := List.eq_nil_of_length_eq_zero h0
    subst this
    exact ⟨none, 0, rfl, ⟨hb, .inl rfl⟩, Nat.le_refl _, Nat.zero_le _, by simp, fun _ => rfl⟩
  · refine ⟨some ⟨g, 0, none⟩, cap, rfl, ⟨hb, .inr ⟨g, 0, rfl, fun i hi => ?_⟩⟩, hle, hm, ?_, by simp⟩
    · have := World.ownsRow.cellAt ho' i (by omega)
      rw [Nat.zero_add, this]
      simp [cellsOf, hi]
    · rintro x hx
      simp at hx
      subst hx
      exact ⟨hg, (Array.getElem?_eq_some_iff.1 hh).1, rfl, rfl⟩

theorem Seg.below {w w' : World} {B : Nat} {a : Option Addr} {xs : List Int} (h : Seg w a xs) (hb : Below B w w') (ha : ∀ x, a = some x → xs ≠ [] → x.block < B) : Seg w' a xs := by
  refine ⟨h.1, ?_⟩
  rcases h.2 with h0 | ⟨b, off, rfl, hc⟩
  · exact .inl h0
  · by_cases he : xs = []
    · exact .inl he
    · exact .inr ⟨b, off, rfl, fun i hi => (hb.cell (p := ⟨b, off + i, none⟩) (ha ⟨b, off, none⟩ rfl he)).trans (hc i hi)⟩

/-- What can be read lies in a block that is there. -/
theorem Seg.lt {w : World} {a : Option Addr} {xs : List Int} (h : Seg w a xs) : ∀ x, a = some x → xs ≠ [] → x.block < w.heap.size := by
  intro x hx he
  rcases h.2 with h0 | ⟨b, off, rfl, hc⟩
  · exact absurd h0 he
  · simp at hx
    subst hx
    have hp : 0 < xs.length := List.length_pos_iff.2 he
    exact World.block_lt_of_cell? w _ (hc 0 hp)

/-- What can be read can be read behind whatever makes new blocks alone. -/
theorem Seg.grow {w w' : World} {a : Option Addr} {xs : List Int} (h : Seg w a xs) (hb : Below w.heap.size w w') : Seg w' a xs := h.below hb h.lt

theorem Bts.below {w w' : World} {base B : Nat} {v : Value} {xs : List Int} (h : Bts w base v xs) (hb : Below B w w') (hv : ∀ k, v.ownBlock = some k → k < B) : Bts w' base v xs := by
  refine ⟨h.1, h.2.1, ?_⟩
  rcases h.2.2 with h0 | ⟨g, cap, cur, rfl, hg, hh, r⟩
  · exact .inl h0
  · exact .inr ⟨g, cap, cur, rfl, hg, (hb.block g (hv g rfl)).trans hh, r⟩

theorem Bts.grow {w w' : World} {base : Nat} {v : Value} {xs : List Int} (h : Bts w base v xs) (hb : Below w.heap.size w w') : Bts w' base v xs :=
  h.below hb fun k hk => (h.2.lt k hk).2

theorem Bts.kept {w w' : World} {base : Nat} {v : Value} {xs : List Int} {row : Option Nat} (h : Bts w base v xs) (hg : w.grownBy w' row) (hne : v.ownBlock = none ∨ v.ownBlock ≠ row) : Bts w' base v xs :=
  ⟨h.1, h.2.kept hg hne⟩

theorem Bts.mono {w : World} {base base' : Nat} {v : Value} {xs : List Int} (h : Bts w base v xs) (hb : base' ≤ base) : Bts w base' v xs := by
  refine ⟨h.1, h.2.1, ?_⟩
  rcases h.2.2 with h0 | ⟨g, cap, cur, rfl, hg, r⟩
  · exact .inl h0
  · exact .inr ⟨g, cap, cur, rfl, by omega, r⟩

theorem Bts.bytes {w : World} {base : Nat} {v : Value} {xs : List Int} (h : Bts w base v xs) : ∀ x ∈ xs, Byt x := h.1

theorem Bts.seg {w : World} {base : Nat} {a : Option Addr} {n cap : Nat} {xs : List Int} (h : Bts w base (.slice a n cap) xs) : Seg w a xs := by
  obtain ⟨a', cap', hv, hs, _⟩ := h.shape
  simp at hv
  rw [hv.1]
  exact hs

/-- Two steps that each make new blocks alone. -/
theorem Below.on {w w1 w2 : World} (h : Below w.heap.size w w1) (k : Below w1.heap.size w1 w2) : Below w.heap.size w w2 := h.trans (k.mono h.size)

theorem getD_byt {xs : List Int} (h : ∀ x ∈ xs, Byt x) (i : Nat) : 0 ≤ xs.getD i 0 ∧ xs.getD i 0 ≤ 255 := by
  by_cases hi : i < xs.length
  · have := h (xs[i]) (List.getElem_mem hi)
    simpa [Byt, List.getD_eq_getElem?_getD, hi] using this
  · simp [List.getD_eq_getElem?_getD, Nat.le_of_not_lt hi]

theorem cellsOf_append (xs ys : List Int) : cellsOf (xs ++ ys) = cellsOf xs ++ cellsOf ys := by simp [cellsOf]

theorem info5 : (Try.prog.info? 5).map (fun i => (i.zero, i.size, i.bytes)) = some (some (.int .u8 0), 1, 1) := by kernel_rfl

/-- 'append(out, ys...)', out nil or the call's own, ys whatever slice of bytes (nil, empty, cut): what is owned grows by ys. -/
theorem wpList_append_seg {w : World} {ops : Array Oper} {rest : List Oper} {o : Oper} {a : Act} {Q : Exit → Act → World → Prop} (hgd : o.guard = none) (s x : Operand)
    (ho : o.op = .call { callee := .builtin .append, args := #[s, x], argTypes := #[22, 22] })
    (base : Nat) (v : Value) (xs ys : List Int) (hs : a.eval s = v) (hB : Bts w base v xs) (ad : Option Addr) (m c : Nat) (hm : m = ys.length) (hx : a.eval x = .slice ad m c) (hS : Seg w ad ys) (hc : ad = none → c = 0)
    (hlen : xs.length + ys.length ≤ 1099511627776) (hbase : base ≤ w.heap.size)
    (h : ∀ v' w', Bts w' base v' (xs ++ ys) → w.grownBy w' v.ownBlock → wpList Try.prog ops Q rest (a.put o.dst v') w') : wpList Try.prog ops Q (o :: rest) a w := by
  obtain ⟨i0, hi, hz0, hz1, hz2⟩ := info_parts info5
  have hbyt : ∀ z ∈ xs ++ ys, Byt z := by
    intro z hz
    rcases List.mem_append.1 hz with h1 | h1
    · exact hB.1 z h1
    · exact hS.1 z h1
  subst hm
  cases ad with
  | none =>
    have hc0 := hc rfl
    have hy : ys = [] := by
      rcases hS.2 with h0 | ⟨b, off, h1, _⟩
      · exact h0
      · simp at h1
    subst hc0
    subst hy
    refine wpList_append_own_none hgd s x 22 ho base 5 i0 1 Try.underlying22 hi v xs.length (cellsOf xs) hs hB.2 hx ?_
    exact h v w (by simpa using hB) (World.grownBy.refl _ _)
  | some ad =>
    refine wpList_append_own w hgd s x 22 ho base 5 i0 (.int .u8 0) 1 1 Try.underlying22 hi hz0 hz1 hz2 rfl (by decide) v xs.length (cellsOf xs) hs hB.2 ad ys.length c (cellsOf ys) hx (by simp [cellsOf]) ?_ ?_ (by unfold maxLen; omega) (by omega) hbase ?_
    · intro j u hu
      rcases hS.2 with h0 | ⟨b, off, h1, h2⟩
      · subst h0; simp [cellsOf] at hu
      · simp at h1
        subst h1
        have hj : j < ys.length := by
          have := (List.getElem?_eq_some_iff.1 hu).1
          simpa [cellsOf] using this
        rw [Addr.add_lit, h2 j hj]
        simp [cellsOf, hj] at hu
        simp [hj, hu]
    · intro u hu
      simp only [cellsOf, List.mem_map] at hu
      obtain ⟨q, _, rfl⟩ := hu
      rfl
    · intro v' w' ho' hg' _
      exact h v' w' ⟨hbyt, by rw [cellsOf_append]; simpa using ho'⟩ hg'

theorem Bts.away {w w' : World} {base : Nat} {a : Option Addr} {n c : Nat} {xs : List Int} {row : Option Nat} (h : Bts w base (.slice a n c) xs) (hg : w.grownBy w' row) (hne : ∀ x, a = some x → row ≠ some x.block) : Bts w' base (.slice a n c) xs := by
  refine h.kept hg ?_
  cases a with
  | none => exact .inl rfl
  | some x => exact .inr fun e => hne x rfl e.symm

theorem Seg.away {w w' : World} {a : Option Addr} {xs : List Int} {row : Option Nat} (h : Seg w a xs) (hg : w.grownBy w' row) (hne : ∀ x, a = some x → xs ≠ [] → row ≠ some x.block) : Seg w' a xs := by
  refine ⟨h.1, ?_⟩
  rcases h.2 with h0 | ⟨b, off, rfl, hc⟩
  · exact .inl h0
  · by_cases he : xs = []
    · exact .inl he
    · exact .inr ⟨b, off, rfl, fun i hi => hg.cell (hc i hi) (fun e => hne ⟨b, off, none⟩ rfl he e.symm)⟩

theorem Bts.lt {w : World} {base : Nat} {a : Option Addr} {n c : Nat} {xs : List Int} (h : Bts w base (.slice a n c) xs) : ∀ x, a = some x → base ≤ x.block ∧ x.block < w.heap.size := by
  rintro x rfl
  exact h.2.lt x.block rfl

/-- Behind marks on a row of the call's own nothing old has turned. -/
theorem Below.marked {w w1 w2 : World} {a : Option Addr} {n c : Nat} (h : Below w.heap.size w w1) (hg : w1.grownBy w2 (Value.slice a n c).ownBlock) (ha : ∀ x, a = some x → w.heap.size ≤ x.block) : Below w.heap.size w w2 := by
  refine h.grown hg h.size fun k hk => ?_
  cases a with
  | none => simp [Value.ownBlock] at hk
  | some x =>
    simp [Value.ownBlock] at hk
    subst hk
    exact ha x rfl

theorem ret_i64 {x y : Int} (h : x = y) : Ending.returned (.int .i64 x) = .returned (.int .i64 y) := by rw [h]

/-- A slice of bytes that came in can be read. -/
theorem seg_of_row {w : World} {a : Option Addr} {len cap : Nat} {zs : List Int} (h : (a = none ∧ len = 0 ∧ cap = 0 ∧ zs = []) ∨
    ∃ x, a = some x ∧ len ≤ cap ∧ cap ≤ maxLen ∧ zs.length = cap ∧ (∀ i, i < zs.length → w.cell? (x.add i) = some (.int .u8 (zs.getD i 0))) ∧ ∀ n ∈ zs, (Lit.int .u8 n).wf = true) :
    ∃ xs : List Int, len = xs.length ∧ Seg w a xs ∧ len ≤ cap ∧ cap ≤ maxLen ∧ (a = none → cap = 0) := by
  rcases h with ⟨rfl, rfl, rfl, rfl⟩ | ⟨x, rfl, hlc, hm, hz, hcell, hwf⟩
  · exact ⟨[], rfl, ⟨by simp, .inl rfl⟩, Nat.le_refl _, Nat.zero_le _, fun _ => rfl⟩
  · have hl : len = (zs.take len).length := by simp; omega
    refine ⟨zs.take len, hl, ⟨?_, ?_⟩, hlc, hm, by simp⟩
    · intro n hn
      have := hwf n (List.mem_of_mem_take hn)
      unfold Byt
      simp [Lit.wf, IntKind.min, IntKind.max, IntKind.bits, IntKind.signed] at this
      omega
    · by_cases h0 : len = 0
      · exact .inl (by simp [h0])
      · obtain ⟨b, off, spot⟩ := x
        have hc := hcell 0 (by omega)
        have hspot : spot = none := by simpa [Addr.add] using World.cell?_spot hc
        subst hspot
        refine .inr ⟨b, off, rfl, fun i hi => ?_⟩
        have hi' : i < len := by omega
        have := hcell i (by omega)
        have e : (⟨b, off, none⟩ : Addr).add i = ⟨b, off + i, none⟩ := Addr.add_lit b off i
        rw [e] at this
        rw [this]
        simp [List.getD_eq_getElem?_getD, hi']

end Go.Proofs.Ytmdmiiikbdnioaa
/-
  DERIVED: THE SHELF's CONTRACTS AT THIS DUMP, IN PLAIN WORDS (tools/lay-plain.mjs out of 'TryShelf.lean', which tools/lay-shelf.mjs wrote): THE SAME DECLARATIONS UNDER THE SAME NAMES: 'import', 'namespace', 'open', 'def', 'theorem' AND NOTHING ELSE: no command of the shelf's: FOR A HAND-IN. Each laying: the table of numbers ('.._ren') and one theorem, a field a fact of the dump's own or the kernel's comparison; each contract: ONE APPLICATION.
-/
namespace Go.Proofs
open Go.Shelf
def Try.laysGg6_ren : Go.Shelf.Ren := ⟨fun | 6 => 54 | 10 => 59 | 11 => 60 | 12 => 61 | 13 => 62 | 14 => 63 | 24 => 75 | 25 => 76 | 26 => 77 | 27 => 78 | 28 => 79 | 29 => 80 | 30 => 81 | 31 => 82 | 32 => 83 | 33 => 84 | 34 => 86 | 35 => 87 | 36 => 88 | 37 => 89 | 38 => 90 | 39 => 91 | n => n, fun | 20 => 20 | 26 => 97 | 35 => 104 | 0 => 0 | 37 => 106 | 3 => 3 | 41 => 109 | 44 => 112 | 49 => 118 | 51 => 120 | 4 => 4 | 54 => 123 | 53 => 122 | 58 => 127 | 5 => 5 | 9 => 9 | 60 => 129 | 64 => 133 | 66 => 135 | 67 => 83 | 17 => 17 | 32 => 101 | 33 => 102 | 82 => 150 | 12 => 12 | 75 => 143 | 76 => 144 | 77 => 145 | 78 => 146 | 79 => 147 | 80 => 148 | n => n, fun | n => n⟩
theorem Try.laysGg6 : Go.Proofs.LaysGg.n6 Try.prog Try.laysGg6_ren := {
  mixed := by kernel_rfl
  f6 := Try.func54.trans (congrArg some (by kernel_rfl))
  f10 := Try.func59.trans (congrArg some (by kernel_rfl))
  f11 := Try.func60.trans (congrArg some (by kernel_rfl))
  f12 := Try.func61.trans (congrArg some (by kernel_rfl))
  f13 := Try.func62.trans (congrArg some (by kernel_rfl))
  f14 := Try.func63.trans (congrArg some (by kernel_rfl))
  f24 := Try.func75.trans (congrArg some (by kernel_rfl))
  f25 := Try.func76.trans (congrArg some (by kernel_rfl))
  f26 := Try.func77.trans (congrArg some (by kernel_rfl))
  f27 := Try.func78.trans (congrArg some (by kernel_rfl))
  f28 := Try.func79.trans (congrArg some (by kernel_rfl))
  f29 := Try.func80.trans (congrArg some (by kernel_rfl))
  f30 := Try.func81.trans (congrArg some (by kernel_rfl))
  f31 := Try.func82.trans (congrArg some (by kernel_rfl))
  f32 := Try.func83.trans (congrArg some (by kernel_rfl))
  f33 := Try.func84.trans (congrArg some (by kernel_rfl))
  f34 := Try.func86.trans (congrArg some (by kernel_rfl))
  f35 := Try.func87.trans (congrArg some (by kernel_rfl))
  f36 := Try.func88.trans (congrArg some (by kernel_rfl))
  f37 := Try.func89.trans (congrArg some (by kernel_rfl))
  f38 := Try.func90.trans (congrArg some (by kernel_rfl))
  f39 := Try.func91.trans (congrArg some (by kernel_rfl))
  t0 := Try.underlying0
  a0 := Try.isAgg0
  z0 := Try.sizeOf0
  v0 := Try.zeroValue0
  i0 := by kernel_rfl
  t3 := Try.underlying3
  a3 := Try.isAgg3
  z3 := Try.sizeOf3
  v3 := Try.zeroValue3
  i3 := by kernel_rfl
  t4 := Try.underlying4
  a4 := Try.isAgg4
  z4 := Try.sizeOf4
  v4 := Try.zeroValue4
  i4 := by kernel_rfl
  t5 := Try.underlying5
  a5 := Try.isAgg5
  z5 := Try.sizeOf5
  v5 := Try.zeroValue5
  i5 := by kernel_rfl
  t9 := Try.underlying9
  a9 := Try.isAgg9
  z9 := Try.sizeOf9
  v9 := Try.zeroValue9
  i9 := by kernel_rfl
  t12 := Try.underlying12
  a12 := Try.isAgg12
  z12 := Try.sizeOf12
  v12 := Try.zeroValue12
  i12 := by kernel_rfl
  t17 := Try.underlying17
  a17 := Try.isAgg17
  z17 := Try.sizeOf17
  v17 := Try.zeroValue17
  i17 := by kernel_rfl
  t20 := Try.underlying20
  a20 := Try.isAgg20
  z20 := Try.sizeOf20
  v20 := Try.zeroValue20
  i20 := by kernel_rfl
  t26 := Try.underlying97
  a26 := Try.isAgg97
  z26 := Try.sizeOf97
  v26 := Try.zeroValue97
  i26 := by kernel_rfl
  t32 := Try.underlying101
  a32 := Try.isAgg101
  z32 := Try.sizeOf101
  v32 := Try.zeroValue101
  i32 := by kernel_rfl
  t33 := Try.underlying102
  a33 := Try.isAgg102
  z33 := Try.sizeOf102
  v33 := Try.zeroValue102
  i33 := by kernel_rfl
  t35 := Try.underlying104
  a35 := Try.isAgg104
  z35 := Try.sizeOf104
  v35 := Try.zeroValue104
  i35 := by kernel_rfl
  t37 := Try.underlying106
  a37 := Try.isAgg106
  z37 := Try.sizeOf106
  v37 := Try.zeroValue106
  i37 := by kernel_rfl
  t41 := Try.underlying109
  a41 := Try.isAgg109
  z41 := Try.sizeOf109
  v41 := Try.zeroValue109
  i41 := by kernel_rfl
  t44 := Try.underlying112
  a44 := Try.isAgg112
  z44 := Try.sizeOf112
  v44 := Try.zeroValue112
  i44 := by kernel_rfl
  t49 := Try.underlying118
  a49 := Try.isAgg118
  z49 := Try.sizeOf118
  v49 := Try.zeroValue118
  i49 := by kernel_rfl
  t51 := Try.underlying120
  a51 := Try.isAgg120
  z51 := Try.sizeOf120
  v51 := Try.zeroValue120
  i51 := by kernel_rfl
  t53 := Try.underlying122
  a53 := Try.isAgg122
  z53 := Try.sizeOf122
  v53 := Try.zeroValue122
  i53 := by kernel_rfl
  t54 := Try.underlying123
  a54 := Try.isAgg123
  z54 := Try.sizeOf123
  v54 := Try.zeroValue123
  i54 := by kernel_rfl
  t58 := Try.underlying127
  a58 := Try.isAgg127
  z58 := Try.sizeOf127
  v58 := Try.zeroValue127
  i58 := by kernel_rfl
  t60 := Try.underlying129
  a60 := Try.isAgg129
  z60 := Try.sizeOf129
  v60 := Try.zeroValue129
  i60 := by kernel_rfl
  t64 := Try.underlying133
  a64 := Try.isAgg133
  z64 := Try.sizeOf133
  v64 := Try.zeroValue133
  i64 := by kernel_rfl
  t66 := Try.underlying135
  a66 := Try.isAgg135
  z66 := Try.sizeOf135
  v66 := Try.zeroValue135
  i66 := by kernel_rfl
  t67 := Try.underlying83
  a67 := Try.isAgg83
  z67 := Try.sizeOf83
  v67 := Try.zeroValue83
  i67 := by kernel_rfl
  t75 := Try.underlying143
  a75 := Try.isAgg143
  z75 := Try.sizeOf143
  v75 := Try.zeroValue143
  i75 := by kernel_rfl
  t76 := Try.underlying144
  a76 := Try.isAgg144
  z76 := Try.sizeOf144
  v76 := Try.zeroValue144
  i76 := by kernel_rfl
  t77 := Try.underlying145
  a77 := Try.isAgg145
  z77 := Try.sizeOf145
  v77 := Try.zeroValue145
  i77 := by kernel_rfl
  t78 := Try.underlying146
  a78 := Try.isAgg146
  z78 := Try.sizeOf146
  v78 := Try.zeroValue146
  i78 := by kernel_rfl
  t79 := Try.underlying147
  a79 := Try.isAgg147
  z79 := Try.sizeOf147
  v79 := Try.zeroValue147
  i79 := by kernel_rfl
  t80 := Try.underlying148
  a80 := Try.isAgg148
  z80 := Try.sizeOf148
  v80 := Try.zeroValue148
  i80 := by kernel_rfl
  t82 := Try.underlying150
  a82 := Try.isAgg150
  z82 := Try.sizeOf150
  v82 := Try.zeroValue150
  i82 := by kernel_rfl }
end Go.Proofs
/-
  Regions that draw, walked by hand in the order of the text: the library's 'wpAnyH_take' with the slot said; no statement is proved here. For guarded operations that are not wanted.
-/
namespace Go.Proofs.Ytmdmiiikbdnioaa
set_option linter.unusedVariables false

section
variable {P : Program} {ops : Array Oper} {Q : Exit → Act → World → Prop} {md : Region.Mode} {S : World → Prop}
theorem take_yes {i : Nat} (d : Nat) {oi : Oper} {v : Value} {fuel : Nat} {listed : Array Bool} {a : Act} {w : World} (hi : ops[i]? = some oi) (hd : oi.dst = some d)
    (hs : Region.noSelect ops = true) (hf : Region.free md ops listed i = true) (hr : (Region.ready md ops listed).contains i = true)
    (hQ : ∀ c a w, Q (.panic c) (a.put (some d) v) w → Q (.panic c) a w) (hw : Region.wanted oi (yielded ops a.tmps) = true) (hS : S w)
    (hy : ∀ w, S w → (execOp a.eval oi).run P w = .ok (.value v) w)
    (h : wpAnyH P md ops Q S fuel (listed.setIfInBounds i true) (a.put (some d) v) w) : wpAnyH P md ops Q S (fuel + 1) listed a w :=
  wpAnyH_take hi hs hf hr (by rw [hd]; exact hQ) (Or.inl ⟨hw, hy⟩) hS (by rw [hd]; exact h)
theorem take_not {i : Nat} (d : Nat) {oi : Oper} {fuel : Nat} {listed : Array Bool} {a : Act} {w : World} (hi : ops[i]? = some oi) (hd : oi.dst = some d)
    (hs : Region.noSelect ops = true) (hf : Region.free md ops listed i = true) (hr : (Region.ready md ops listed).contains i = true)
    (hQ : ∀ c a w, Q (.panic c) (a.put (some d) undef) w → Q (.panic c) a w) (hw : Region.wanted oi (yielded ops a.tmps) = false) (hS : S w)
    (h : wpAnyH P md ops Q S fuel (listed.setIfInBounds i true) (a.put (some d) undef) w) : wpAnyH P md ops Q S (fuel + 1) listed a w :=
  wpAnyH_take hi hs hf hr (by rw [hd]; exact hQ) (Or.inr ⟨hw, rfl⟩) hS (by rw [hd]; exact h)
end
end Go.Proofs.Ytmdmiiikbdnioaa
/-
  The laws' own helper toByteS: it makes a row of its own that holds what its argument holds; nothing old is turned.
-/
namespace Go.Proofs.Ytmdmiiikbdnioaa
open Go.RowKit
set_option linter.unusedVariables false

/-- What the loop of toByteS has laid after k rounds. -/
def mixed (xs : List Int) (k : Nat) : List Value := cellsOf (xs.take k) ++ List.replicate (xs.length - k) (.int .u8 0)

theorem length_mixed (xs : List Int) (k : Nat) (h : k ≤ xs.length) : (mixed xs k).length = xs.length := by simp [mixed, cellsOf]; omega
theorem mixed_zero (xs : List Int) : mixed xs 0 = List.replicate xs.length (.int .u8 0) := by simp [mixed, cellsOf]
theorem mixed_all (xs : List Int) : mixed xs xs.length = cellsOf xs := by simp [mixed]
theorem mixed_set (xs : List Int) (k : Nat) (h : k < xs.length) : (mixed xs k).set k (.int .u8 (xs.getD k 0)) = mixed xs (k + 1) := by
  apply List.ext_getElem
  · simp [mixed, cellsOf]; omega
  · intro i h1 h2
    simp only [mixed, cellsOf, List.getElem_set, List.getElem_append, List.length_map, List.length_take]
    by_cases hik : k = i
    · subst hik
      have e2 : k < min (k + 1) xs.length := by omega
      simp [h, e2]
    · by_cases hlt : i < k
      · have e1 : i < min k xs.length := by omega
        have e2 : i < min (k + 1) xs.length := by omega
        simp [hik, e1, e2]
      · have e1 : ¬ i < min k xs.length := by omega
        have e2 : ¬ i < min (k + 1) xs.length := by omega
        simp [hik, e1, e2]

set_option maxHeartbeats 400000 in
theorem toByteS_any (a : Option Addr) (cap : Nat) (xs : List Int) (w : World) (hs : Seg w a xs) (hl : xs.length ≤ 2097152) :
    Calls Try.prog 5 #[.slice a xs.length cap] w fun e w' => e = .returned (.slice (some ⟨w.heap.size, 0, none⟩) xs.length xs.length) ∧ Bts w' w.heap.size (.slice (some ⟨w.heap.size, 0, none⟩) xs.length xs.length) xs ∧ Below w.heap.size w w' := by
  obtain ⟨i0, hi, hz0, hz1, hz2⟩ := info_parts info5
  generalize hn : xs.length = n
  have Hn : Hid (xs.length = n) := hn
  have hln : n ≤ 2097152 := by omega
  clear hn hl
  go_enter Try.func5, Try.ntmps5
  go_wp2_with (refine wpList_make_full _ rfl _ _ 22 rfl w.heap.size 5 i0 (.int .u8 0) 1 Try.underlying22 hi hz0 hz1 .i64 .i64 _ _ n rfl rfl rfl rfl (by rw [hz2]; omega) (by unfold maxLen; omega) (Nat.le_refl _) ?_; intro w1 hown hgrow)
  go_loopw [4] (fun i wr => ∃ k : Nat, k ≤ n ∧ i = .int .i64 k ∧ wr.ownsRow w.heap.size 5 1 (.slice (some ⟨w.heap.size, 0, none⟩) n n) n (mixed xs k) ∧ Below w.heap.size w wr) (fun i _ => n - (intOf i).toNat)
  case atStart => exact ⟨0, Nat.zero_le _, rfl, by rw [mixed_zero, Hn.out]; simpa [toList_madeCells_one, Value.cells] using hown, (Below.refl _ _).grown hgrow (Nat.le_refl _) (by simp)⟩
  case round =>
    obtain ⟨k, hk, rfl, hown1, hbel⟩ := hrel
    by_cases hlt : k < n
    · have hc : ∃ b off, a = some ⟨b, off, none⟩ ∧ wr.cell? ⟨b, off + k, none⟩ = some (.int .u8 (xs.getD k 0)) := by
        have hlt' : k < xs.length := by have := Hn.out; omega
        have hs' := hs.grow hbel
        rcases hs'.2 with h0 | ⟨b, off, h1, h2⟩
        · subst h0; simp at hlt'
        · exact ⟨b, off, h1, h2 k hlt'⟩
      obtain ⟨b, off, rfl, hc⟩ := hc
      have hd : ∃ v, wr.cell? ⟨w.heap.size, k, none⟩ = some v := by
        rw [hown1.cellAt k (by omega)]
        have := length_mixed xs k (by have := Hn.out; omega)
        have h2 := Hn.out
        exact ⟨_, List.getElem?_eq_getElem (by omega)⟩
      obtain ⟨v, hd⟩ := hd
      have hfz := hown1.frozenAt k
      have hst := hown1.stored k (.int .u8 (xs.getD k 0))
      rw [mixed_set xs k (by have := Hn.out; omega)] at hst
      obtain ⟨hst1, hst2⟩ := hst
      have hbel2 := hbel.setCell (p := ⟨w.heap.size, k, none⟩) (Nat.le_refl _) (.int .u8 (xs.getD k 0))
      generalize xs.getD k 0 = c at hc hst1 hbel2
      clear hst2 hown1
      go_wp2
      go_roundw
      case rel => exact ⟨k + 1, by omega, by go_num, hst1, hbel2⟩
      case measure => simp [intOf]; omega
    · obtain rfl : k = n := by omega
      have hB : Bts wr w.heap.size (.slice (some ⟨w.heap.size, 0, none⟩) k k) xs := by
        refine ⟨hs.1, ?_⟩
        have h2 := Hn.out
        have h3 := mixed_all xs
        rw [h2] at h3 ⊢
        rw [← h3]
        exact hown1
      go_wp2
      go_ret
      exact ⟨rfl, hB, hbel⟩
end Go.Proofs.Ytmdmiiikbdnioaa
/-
  Numbers as bytes, plain: what PutNum makes of a number, and what is read back; no Go text here.
-/
namespace Go.Proofs.Ytmdmiiikbdnioaa
set_option linter.unusedVariables false

/-- The bytes of a number, seven bits a byte, the least first; the first argument bounds how many. -/
def digsF : Nat → Nat → List Int
  | 0, n => [(n : Int)]
  | f + 1, n => if n < 128 then [(n : Int)] else ((n % 128 + 128 : Nat) : Int) :: digsF f (n / 128)

/-- The bytes of a number. -/
def digs (n : Nat) : List Int := digsF n n

theorem digsF_small (f n : Nat) (h : n < 128) : digsF f n = [(n : Int)] := by
  cases f with
  | zero => rfl
  | succ f => simp [digsF, h]

theorem digsF_enough (f : Nat) : ∀ (g n : Nat), n ≤ f → n ≤ g → digsF f n = digsF g n := by
  induction f with
  | zero =>
    intro g n h1 h2
    rw [digsF_small 0 n (by omega), digsF_small g n (by omega)]
  | succ f ih =>
    intro g n h1 h2
    by_cases h : n < 128
    · rw [digsF_small _ n h, digsF_small _ n h]
    · cases g with
      | zero => omega
      | succ g =>
        simp only [digsF, if_neg h]
        rw [ih g (n / 128) (by omega) (by omega)]

theorem digs_small (n : Nat) (h : n < 128) : digs n = [(n : Int)] := digsF_small n n h
theorem digs_big (n : Nat) (h : ¬ n < 128) : digs n = ((n % 128 + 128 : Nat) : Int) :: digs (n / 128) := by
  unfold digs
  cases n with
  | zero => omega
  | succ m =>
    rw [digsF, if_neg h, digsF_enough m ((m + 1) / 128) ((m + 1) / 128) (by omega) (by omega)]

theorem digs_byt (n : Nat) : ∀ x ∈ digs n, Byt x := by
  induction n using Nat.strongRecOn with
  | ind n ih =>
    intro x hx
    by_cases h : n < 128
    · rw [digs_small n h] at hx
      simp at hx
      unfold Byt; omega
    · rw [digs_big n h] at hx
      simp at hx
      rcases hx with rfl | hx
      · unfold Byt; omega
      · exact ih (n / 128) (by omega) x hx

theorem digs_len_pos (n : Nat) : 1 ≤ (digs n).length := by
  by_cases h : n < 128
  · rw [digs_small n h]; simp
  · rw [digs_big n h]; simp

theorem digs_len (n : Nat) (h : n ≤ 2147483647) : (digs n).length ≤ 5 := by
  by_cases h1 : n < 128
  · rw [digs_small n h1]; simp
  rw [digs_big n h1]
  by_cases h2 : n / 128 < 128
  · rw [digs_small _ h2]; simp
  rw [digs_big _ h2]
  by_cases h3 : n / 128 / 128 < 128
  · rw [digs_small _ h3]; simp
  rw [digs_big _ h3]
  by_cases h4 : n / 128 / 128 / 128 < 128
  · rw [digs_small _ h4]; simp
  rw [digs_big _ h4, digs_small _ (by omega)]
  simp

/-- What PutNum answers. -/
def putNum (xs : List Int) (n : Int) : List Int := if n < 0 ∨ 2147483647 < n then xs else xs ++ digs n.toNat

theorem putNum_no (xs : List Int) (n : Int) (h : n < 0 ∨ 2147483647 < n) : putNum xs n = xs := by simp [putNum, h]
theorem putNum_yes (xs : List Int) (n : Int) (h0 : 0 ≤ n) (h1 : n ≤ 2147483647) : putNum xs n = xs ++ digs n.toNat := by
  rw [putNum, if_neg (by omega)]

theorem putNum_byt (xs : List Int) (n : Int) (h : ∀ x ∈ xs, Byt x) : ∀ x ∈ putNum xs n, Byt x := by
  intro x hx
  unfold putNum at hx
  split at hx
  · exact h x hx
  · rcases List.mem_append.1 hx with h1 | h1
    · exact h x h1
    · exact digs_byt _ x h1

theorem putNum_len (xs : List Int) (n : Int) : (putNum xs n).length ≤ xs.length + 5 := by
  unfold putNum
  split
  · omega
  · have := digs_len n.toNat (by omega)
    simp; omega

end Go.Proofs.Ytmdmiiikbdnioaa
/-
  Rows of bytes of the call's own: an empty one, one byte laid in a block, a nil slice.
-/
namespace Go.Proofs.Ytmdmiiikbdnioaa
open Go.RowKit
set_option linter.unusedVariables false

theorem bts_empty (w : World) : Bts (w.alloc (.cells #[] 5)) w.heap.size (.slice (some ⟨w.heap.size, 0, none⟩) 0 0) [] :=
  ⟨by simp, by simpa [cellsOf] using World.ownsRow_lit (base := w.heap.size) (e := 5) (size := 1) w #[] 0 (Nat.le_refl _) (Nat.zero_le _) rfl⟩

/-- One byte that was laid in a block of its own. -/
theorem seg_one (w : World) (c : Int) (h : Byt c) : Seg (w.alloc (.cells #[.int .u8 c] 5)) (some ⟨w.heap.size, 0, none⟩) [c] := by
  refine ⟨by simpa using h, .inr ⟨w.heap.size, 0, rfl, fun i hi => ?_⟩⟩
  have : i = 0 := by simpa using hi
  subst this
  simp

theorem Bts.alloc {w : World} {base : Nat} {v : Value} {xs : List Int} (h : Bts w base v xs) (o : Obj) : Bts (w.alloc o) base v xs := ⟨h.1, h.2.alloc o⟩

theorem Bts.own {w : World} {base : Nat} {v : Value} {xs : List Int} (h : Bts w base v xs) : ∀ k, v.ownBlock = some k → base ≤ k := fun k hk => (h.2.lt k hk).1

theorem bts_nil (w : World) (base : Nat) : Bts w base (.slice none 0 0) [] := ⟨by simp, by simp [cellsOf], .inl ⟨rfl, rfl⟩⟩

end Go.Proofs.Ytmdmiiikbdnioaa
/-
  What the model holds of the type of values.
-/
namespace Go.Proofs.Ytmdmiiikbdnioaa
open Go.RowKit

theorem info_valueT : (Try.prog.info? 26).map (fun i => (i.zero, i.size, i.bytes)) = some (some (.agg #[.int .i64 0, .int .i64 0, .slice none 0 0, .slice none 0 0, .slice none 0 0]), 5, 88) := by kernel_rfl

end Go.Proofs.Ytmdmiiikbdnioaa
/-
  The laws' own helper eqByteS: of two slices that hold the same bytes it answers true, and turns nothing.
-/
namespace Go.Proofs.Ytmdmiiikbdnioaa
open Go.RowKit
set_option linter.unusedVariables false

theorem Seg.at {w : World} {a : Option Addr} {xs : List Int} (h : Seg w a xs) {k : Nat} (hk : k < xs.length) : ∃ b off, a = some ⟨b, off, none⟩ ∧ w.cell? ⟨b, off + k, none⟩ = some (.int .u8 (xs.getD k 0)) := by
  rcases h.2 with h0 | ⟨b, off, h1, h2⟩
  · subst h0; simp at hk
  · exact ⟨b, off, h1, h2 k hk⟩

set_option maxHeartbeats 400000 in
theorem eqByteS_same (a b : Option Addr) (c1 c2 : Nat) (xs : List Int) (w : World) (ha : Seg w a xs) (hb : Seg w b xs) (hl : xs.length ≤ 2097152) :
    Calls Try.prog 8 #[.slice a xs.length c1, .slice b xs.length c2] w fun e w' => e = .returned (.bool true) ∧ Below w.heap.size w w' := by
  generalize hn : xs.length = n
  have Hn : Hid (xs.length = n) := hn
  have hln : n ≤ 2097152 := by omega
  clear hn hl
  go_enter Try.func8, Try.ntmps8
  go_wp2
  go_loopw [5] (fun i wr => ∃ k : Nat, k ≤ n ∧ i = .int .i64 k ∧ Below w.heap.size w wr) (fun i _ => n - (intOf i).toNat)
  case atStart => exact ⟨0, Nat.zero_le _, rfl, Below.refl _ _⟩
  case round =>
    obtain ⟨k, hk, rfl, hbel⟩ := hrel
    by_cases hlt : k < n
    · obtain ⟨b1, o1, rfl, hc1⟩ := (ha.grow hbel).at (k := k) (by have := Hn.out; omega)
      obtain ⟨b2, o2, rfl, hc2⟩ := (hb.grow hbel).at (k := k) (by have := Hn.out; omega)
      generalize xs.getD k 0 = c at hc1 hc2
      have hlt' : (k : Int) < (n : Int) := by omega
      go_wp2
      go_quiet (fail)
      go_wp2
      go_roundw
      case rel => exact ⟨k + 1, by omega, by go_num, below_drewN hbel _⟩
      case measure => simp [intOf]; omega
    · go_wp2
      go_ret
      exact ⟨rfl, hbel⟩
theorem grownBy_trans {w0 w1 w2 : World} {row : Option Nat} (h : w0.grownBy w1 row) (k : w1.grownBy w2 row) : w0.grownBy w2 row :=
  ⟨k.os.trans h.os, k.tape.trans h.tape, k.output.trans h.output, Nat.le_trans h.size k.size, fun i hi hne => (k.block i (Nat.lt_of_lt_of_le hi h.size) hne).trans (h.block i hi hne)⟩

end Go.Proofs.Ytmdmiiikbdnioaa
/-
  Reading a number, plain: what GetNum answers; no Go text here.
-/
namespace Go.Proofs.Ytmdmiiikbdnioaa
set_option linter.unusedVariables false

/-- The bytes from place a on are read, k of them behind, each worth s; 'acc' is what they come to. -/
def getFrom (xs : List Int) (a : Nat) : Nat → Nat → Int → Int → Int × Int
  | 0, _, _, _ => (0, -1)
  | fuel + 1, k, s, acc =>
    if a + k < xs.length then
      if xs.getD (a + k) 0 < 128 then
        if (xs.getD (a + k) 0 = 0 ∧ 0 < k) ∨ 2147483647 < acc + xs.getD (a + k) 0 * s then (0, -1) else (acc + xs.getD (a + k) 0 * s, ((a + k + 1 : Nat) : Int))
      else getFrom xs a fuel (k + 1) (s * 128) (acc + (xs.getD (a + k) 0 - 128) * s)
    else (0, -1)

/-- What GetNum answers. -/
def getNum (xs : List Int) (a : Int) : Int × Int := if a < 0 then (0, -1) else getFrom xs a.toNat 5 0 1 0

/-- How many bytes were read, and what the next one is worth. -/
def Place (k : Nat) (s : Int) : Prop := (k = 0 ∧ s = 1) ∨ (k = 1 ∧ s = 128) ∨ (k = 2 ∧ s = 16384) ∨ (k = 3 ∧ s = 2097152) ∨ (k = 4 ∧ s = 268435456) ∨ (k = 5 ∧ s = 34359738368)

theorem getFrom_out (xs : List Int) (a fuel k : Nat) (s acc : Int) (h : ¬ a + k < xs.length) : getFrom xs a fuel k s acc = (0, -1) := by
  cases fuel with
  | zero => rfl
  | succ f => simp [getFrom, h]

theorem getFrom_bad (xs : List Int) (a fuel k : Nat) (s acc : Int) (h : a + k < xs.length) (h1 : xs.getD (a + k) 0 < 128) (h2 : (xs.getD (a + k) 0 = 0 ∧ 0 < k) ∨ 2147483647 < acc + xs.getD (a + k) 0 * s) : getFrom xs a (fuel + 1) k s acc = (0, -1) := by
  rw [getFrom, if_pos h, if_pos h1, if_pos h2]

theorem getFrom_last (xs : List Int) (a fuel k : Nat) (s acc : Int) (h : a + k < xs.length) (h1 : xs.getD (a + k) 0 < 128) (h2 : ¬ ((xs.getD (a + k) 0 = 0 ∧ 0 < k) ∨ 2147483647 < acc + xs.getD (a + k) 0 * s)) : getFrom xs a (fuel + 1) k s acc = (acc + xs.getD (a + k) 0 * s, ((a + k + 1 : Nat) : Int)) := by
  rw [getFrom, if_pos h, if_pos h1, if_neg h2]

theorem getFrom_more (xs : List Int) (a fuel k : Nat) (s acc : Int) (h : a + k < xs.length) (h1 : ¬ xs.getD (a + k) 0 < 128) : getFrom xs a (fuel + 1) k s acc = getFrom xs a fuel (k + 1) (s * 128) (acc + (xs.getD (a + k) 0 - 128) * s) := by
  rw [getFrom, if_pos h, if_neg h1]

theorem getNum_neg (xs : List Int) (a : Int) (h : a < 0) : getNum xs a = (0, -1) := by simp [getNum, h]
theorem getNum_nat (xs : List Int) (a : Nat) : getNum xs a = getFrom xs a 5 0 1 0 := by
  rw [getNum, if_neg (by omega)]
  simp
theorem getNum_out (xs : List Int) (a : Nat) (h : xs.length ≤ a) : getNum xs a = (0, -1) := by
  rw [getNum_nat, getFrom_out _ _ _ _ _ _ (by omega)]

theorem le_of_wf {x : Int} (h : (Lit.int .i64 x).wf = true) : x ≤ 9223372036854775807 := by
  simp [Lit.wf, IntKind.min, IntKind.max, IntKind.bits, IntKind.signed] at h
  omega

/-- What is read as a number fits; the place behind it lies in the bytes. -/
theorem getFrom_fits (xs : List Int) (a fuel k : Nat) (s acc : Int) (hb : ∀ x ∈ xs, Byt x) (hs : 0 ≤ s) (ha : 0 ≤ acc) :
    (getFrom xs a fuel k s acc = (0, -1)) ∨ (0 ≤ (getFrom xs a fuel k s acc).1 ∧ (getFrom xs a fuel k s acc).1 ≤ 2147483647 ∧ ∃ j : Nat, (getFrom xs a fuel k s acc).2 = j ∧ a < j ∧ j ≤ xs.length) := by
  induction fuel generalizing k s acc with
  | zero => exact .inl rfl
  | succ f ih =>
    have hx := getD_byt hb (a + k)
    by_cases h : a + k < xs.length
    · by_cases h1 : xs.getD (a + k) 0 < 128
      · by_cases h2 : (xs.getD (a + k) 0 = 0 ∧ 0 < k) ∨ 2147483647 < acc + xs.getD (a + k) 0 * s
        · exact .inl (getFrom_bad xs a f k s acc h h1 h2)
        · have hm : 0 ≤ xs.getD (a + k) 0 * s := Int.mul_nonneg hx.1 hs
          rw [getFrom_last xs a f k s acc h h1 h2]
          refine .inr ⟨by simp only; omega, by simp only; omega, a + k + 1, rfl, by omega, by omega⟩
      · have hm : 0 ≤ (xs.getD (a + k) 0 - 128) * s := Int.mul_nonneg (by omega) hs
        rw [getFrom_more xs a f k s acc h h1]
        exact ih (k + 1) (s * 128) _ (by omega) (by omega)
    · exact .inl (getFrom_out xs a (f + 1) k s acc h)

theorem getNum_fits (xs : List Int) (a : Int) (hb : ∀ x ∈ xs, Byt x) :
    getNum xs a = (0, -1) ∨ (0 ≤ (getNum xs a).1 ∧ (getNum xs a).1 ≤ 2147483647 ∧ ∃ j : Nat, (getNum xs a).2 = j ∧ a < j ∧ j ≤ xs.length ∧ 0 ≤ a) := by
  by_cases h : a < 0
  · exact .inl (getNum_neg xs a h)
  · obtain ⟨p, rfl⟩ := Int.eq_ofNat_of_zero_le (show 0 ≤ a by omega)
    rw [getNum_nat]
    rcases getFrom_fits xs p 5 0 1 0 hb (by omega) (by omega) with h1 | ⟨h1, h2, j, h3, h4, h5⟩
    · exact .inl h1
    · exact .inr ⟨h1, h2, j, h3, by omega, h5, by omega⟩

end Go.Proofs.Ytmdmiiikbdnioaa
/-
  string(b) of a slice of bytes; the order of two such.
-/
namespace Go.Proofs.Ytmdmiiikbdnioaa
open Go.RowKit
set_option linter.unusedVariables false

/-- The bytes as a string. -/
def strOf (xs : List Int) : ByteArray := ⟨(xs.map fun n => UInt8.ofNat n.toNat).toArray⟩

theorem map_byt_inj {xs ys : List Int} (hx : ∀ x ∈ xs, Byt x) (hy : ∀ y ∈ ys, Byt y) (h : (xs.map fun n => UInt8.ofNat n.toNat) = ys.map fun n => UInt8.ofNat n.toNat) : xs = ys := by
  induction xs generalizing ys with
  | nil => simpa using h.symm
  | cons x xs ih =>
    cases ys with
    | nil => simp at h
    | cons y ys =>
      simp only [List.map_cons, List.cons.injEq] at h
      have h1 : x = y := by
        have hx0 := hx x (by simp)
        have hy0 := hy y (by simp)
        unfold Byt at hx0 hy0
        have := congrArg UInt8.toNat h.1
        simp at this
        omega
      rw [h1, ih (fun z hz => hx z (by simp [hz])) (fun z hz => hy z (by simp [hz])) h.2]

theorem strOf_eq {xs ys : List Int} (hx : ∀ x ∈ xs, Byt x) (hy : ∀ y ∈ ys, Byt y) : ((strOf xs).toList == (strOf ys).toList) = decide (xs = ys) := by
  rw [strOf, strOf, ByteArray.toList_mk, ByteArray.toList_mk]
  by_cases h : xs = ys
  · simp [h]
  · have : (xs.map fun n => UInt8.ofNat n.toNat) ≠ ys.map fun n => UInt8.ofNat n.toNat := fun e => h (map_byt_inj hx hy e)
    simp [h, this]

theorem conv_seg {w : World} {a : Option Addr} {xs : List Int} (cap : Nat) (h : Seg w a xs) : (convert 22 9 (.slice a xs.length cap)).run Try.prog w = .ok (.string (strOf xs)) w := by
  cases a with
  | none =>
    have hx : xs = [] := by
      rcases h.2 with h0 | ⟨b, off, h1, _⟩
      · exact h0
      · simp at h1
    subst hx
    rw [run_convert_bytes_string w 22 9 5 none _ cap Try.underlying22 Try.underlying5 Try.underlying9]
    rfl
  | some ad =>
    have hl : (xs.map fun n => UInt8.ofNat n.toNat).length = xs.length := by simp
    have := run_convert_bytes_back (P := Try.prog) w 22 9 5 ad cap (xs.map fun n => UInt8.ofNat n.toNat) Try.underlying22 Try.underlying5 Try.underlying9 (by
      intro j hj
      rcases h.2 with h0 | ⟨b, off, h1, h2⟩
      · subst h0; simp at hj
      · simp at h1
        subst h1
        have hj' : j < xs.length := by simpa using hj
        rw [Addr.add_lit, h2 j hj']
        have hb := h.1 xs[j] (List.getElem_mem hj')
        unfold Byt at hb
        simp [hj']
        omega)
    rw [hl] at this
    exact this

theorem ret_bool {x y : Bool} (h : x = y) : Ending.returned (.bool x) = .returned (.bool y) := by rw [h]


/-- The bytes as such. -/
def u8s (xs : List Int) : List UInt8 := xs.map fun n => UInt8.ofNat n.toNat
theorem strOf_list (xs : List Int) : (strOf xs).toList = u8s xs := by rw [strOf, ByteArray.toList_mk]; rfl
theorem strOf_data (xs : List Int) : (strOf xs).data.toList = u8s xs := rfl

/-- One text is ahead of another one. -/
def ltS (xs ys : List Int) : Bool := Op.bytesLess (u8s xs) (u8s ys)

theorem less_cmp : ∀ (a b : List UInt8), Op.bytesLess a b = decide (Lib.compareBytes a b < 0)
  | [], [] => by simp [Op.bytesLess, Lib.compareBytes]
  | [], _ :: _ => by simp [Op.bytesLess, Lib.compareBytes]
  | _ :: _, [] => by simp [Op.bytesLess, Lib.compareBytes]
  | x :: a, y :: b => by
    have ih := less_cmp a b
    unfold Op.bytesLess Lib.compareBytes
    by_cases h1 : x < y
    · simp [h1]
    · by_cases h2 : y < x
      · have h3 : ¬ x = y := fun e => by subst e; exact absurd h2 (UInt8.lt_irrefl _)
        simp [h1, h2, h3]
      · have h3 : x = y := UInt8.le_antisymm (UInt8.not_lt.1 h2) (UInt8.not_lt.1 h1)
        subst h3
        simp [h1, ih]

theorem cmp_range : ∀ (a b : List UInt8), -1 ≤ Lib.compareBytes a b ∧ Lib.compareBytes a b ≤ 1
  | [], [] => by simp [Lib.compareBytes]
  | [], _ :: _ => by simp [Lib.compareBytes]
  | _ :: _, [] => by simp [Lib.compareBytes]
  | x :: a, y :: b => by
    have ih := cmp_range a b
    unfold Lib.compareBytes
    split
    · omega
    · split
      · omega
      · exact ih

theorem load_bytes {P : Program} (w : World) (xs : List Int) : ∀ (b off : Nat) (acc : ByteArray), (∀ i, i < xs.length → w.cell? ⟨b, off + i, none⟩ = some (.int .u8 (xs.getD i 0))) →
    (Extern.Bytes.loadBytes ⟨b, off, none⟩ xs.length acc).run P w = .ok ⟨acc.data ++ (u8s xs).toArray⟩ w := by
  induction xs with
  | nil => intro b off acc _; simp [Extern.Bytes.loadBytes, u8s]
  | cons x xs ih =>
    intro b off acc h
    have h0 := h 0 (by simp)
    simp only [Nat.add_zero, List.getD_cons_zero] at h0
    have h1 := ih b (off + 1) (acc.push x.toNat.toUInt8) (fun i hi => by
      have := h (i + 1) (by simp; omega)
      rw [show off + 1 + i = off + (i + 1) from by omega, this]
      simp)
    have e : (⟨b, off, none⟩ : Addr).add 1 = ⟨b, off + 1, none⟩ := Addr.add_lit b off 1
    simp only [List.length_cons, Extern.Bytes.loadBytes, Sem.run_bind, run_load, h0, Result.andThen, e]
    rw [h1]
    congr 1
    apply ByteArray.ext
    simp [ByteArray.push, u8s]

theorem bytes_of_seg {P : Program} {w : World} {a : Option Addr} {xs : List Int} (cap : Nat) (h : Seg w a xs) : (Extern.Bytes.bytesOf (.slice a xs.length cap)).run P w = .ok (strOf xs) w := by
  cases a with
  | none =>
    have hx : xs = [] := by
      rcases h.2 with h0 | ⟨b, off, h1, _⟩
      · exact h0
      · simp at h1
    subst hx
    rfl
  | some ad =>
    rcases h.2 with h0 | ⟨b, off, h1, h2⟩
    · subst h0
      rfl
    · simp at h1
      subst h1
      have := load_bytes (P := P) w xs b off .empty h2
      have he : (⟨ByteArray.empty.data ++ (u8s xs).toArray⟩ : ByteArray) = strOf xs := by
        apply ByteArray.ext
        show (#[] : Array UInt8) ++ (u8s xs).toArray = _
        simp [strOf, u8s]
      rw [he] at this
      exact this

theorem run_compare_seg {P : Program} {w : World} {a b : Option Addr} {xs ys : List Int} (c1 c2 : Nat) (ha : Seg w a xs) (hb : Seg w b ys) :
    (Extern.BytealgCompare.compare #[.slice a xs.length c1, .slice b ys.length c2]).run P w = .ok (.int .i64 (Lib.compareBytes (u8s xs) (u8s ys))) w := by
  change Sem.run P (do pure (goInt (Extern.BytealgCompare.cmp (← Extern.Bytes.bytesOf (.slice a xs.length c1)) (← Extern.Bytes.bytesOf (.slice b ys.length c2))))) w = _
  simp only [Sem.run_bind, bytes_of_seg c1 ha, bytes_of_seg c2 hb, Sem.run_pure, Result.andThen]
  rw [Lib.cmp_eq]
  rfl

end Go.Proofs.Ytmdmiiikbdnioaa
