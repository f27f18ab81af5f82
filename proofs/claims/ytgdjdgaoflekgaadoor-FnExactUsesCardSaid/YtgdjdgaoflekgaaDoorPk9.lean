/-
  Texts that a law leans on, one behind the other; no statement is proved here.
-/
import Derived.Shelf.Small.Bits
import Derived.Shelf.Strconv.Itoa0
import Derived.Shelf.Strconv.Itoa1
import Derived.Shelf.LaysM
import Derived.Shelf.Strconv.Itoa2
import Derived.Shelf.Sort.Plain
import Derived.Shelf.Slices.CompactS
import Derived.Shelf.Slices.Cells
import Derived.Shelf.Slices.In.SortNone
import Derived.Test.YtgdjdgaoflekgaaDoorProg
import Derived.Test.YtgdjdgaoflekgaaDoorPk8
import Derived.Test.YtgdjdgaoflekgaaDoorPk4
import Derived.Sort.Grow
import Derived.Test.YtgdjdgaoflekgaaDoorPk0
import Derived.Test.YtgdjdgaoflekgaaDoorPk1
/-
  DERIVED: THE SHELF's CONTRACTS AT THIS DUMP, IN PLAIN WORDS (tools/lay-plain.mjs out of 'TrydShelf.lean', which tools/lay-shelf.mjs wrote): THE SAME DECLARATIONS UNDER THE SAME NAMES: 'import', 'namespace', 'open', 'def', 'theorem' AND NOTHING ELSE: no command of the shelf's: FOR A HAND-IN. Each laying: the table of numbers ('.._ren') and one theorem, a field a fact of the dump's own or the kernel's comparison; each contract: ONE APPLICATION.
-/
namespace Go.Proofs
open Go.Shelf
def Tryd.lays190_ren : Go.Shelf.Ren := ⟨fun | 190 => 84 | 125 => 96 | 258 => 95 | 128 => 109 | 129 => 110 | 302 => 100 | 303 => 101 | 304 => 102 | 305 => 103 | 306 => 104 | 307 => 105 | 308 => 106 | 309 => 107 | 310 => 108 | 333 => 115 | 329 => 116 | 330 => 117 | 334 => 118 | 335 => 119 | 336 => 120 | 344 => 125 | n => n, fun | 31 => 78 | 9 => 9 | 3 => 3 | 46 => 108 | 0 => 0 | 51 => 121 | 53 => 109 | 4 => 4 | 183 => 113 | 182 => 112 | 131 => 118 | 5 => 5 | 218 => 127 | 222 => 131 | 228 => 138 | 229 => 139 | n => n, fun | n => n⟩
theorem Tryd.lays190 : Go.Proofs.Lays.n190 Tryd.prog Tryd.lays190_ren := {
  mixed := by kernel_rfl
  f125 := Tryd.func96.trans (congrArg some (by kernel_rfl))
  f128 := Tryd.func109.trans (congrArg some (by kernel_rfl))
  f129 := Tryd.func110.trans (congrArg some (by kernel_rfl))
  f190 := Tryd.func84.trans (congrArg some (by kernel_rfl))
  f258 := Tryd.func95.trans (congrArg some (by kernel_rfl))
  f302 := Tryd.func100.trans (congrArg some (by kernel_rfl))
  f303 := Tryd.func101.trans (congrArg some (by kernel_rfl))
  f304 := Tryd.func102.trans (congrArg some (by kernel_rfl))
  f305 := Tryd.func103.trans (congrArg some (by kernel_rfl))
  f306 := Tryd.func104.trans (congrArg some (by kernel_rfl))
  f307 := Tryd.func105.trans (congrArg some (by kernel_rfl))
  f308 := Tryd.func106.trans (congrArg some (by kernel_rfl))
  f309 := Tryd.func107.trans (congrArg some (by kernel_rfl))
  f310 := Tryd.func108.trans (congrArg some (by kernel_rfl))
  f329 := Tryd.func116.trans (congrArg some (by kernel_rfl))
  f330 := Tryd.func117.trans (congrArg some (by kernel_rfl))
  f333 := Tryd.func115.trans (congrArg some (by kernel_rfl))
  f334 := Tryd.func118.trans (congrArg some (by kernel_rfl))
  f335 := Tryd.func119.trans (congrArg some (by kernel_rfl))
  f336 := Tryd.func120.trans (congrArg some (by kernel_rfl))
  f344 := Tryd.func125.trans (congrArg some (by kernel_rfl))
  t0 := Tryd.underlying0
  a0 := Tryd.isAgg0
  z0 := Tryd.sizeOf0
  v0 := Tryd.zeroValue0
  t3 := Tryd.underlying3
  a3 := Tryd.isAgg3
  z3 := Tryd.sizeOf3
  v3 := Tryd.zeroValue3
  t4 := Tryd.underlying4
  a4 := Tryd.isAgg4
  z4 := Tryd.sizeOf4
  v4 := Tryd.zeroValue4
  t5 := Tryd.underlying5
  a5 := Tryd.isAgg5
  z5 := Tryd.sizeOf5
  v5 := Tryd.zeroValue5
  t9 := Tryd.underlying9
  a9 := Tryd.isAgg9
  z9 := Tryd.sizeOf9
  v9 := Tryd.zeroValue9
  t31 := Tryd.underlying78
  a31 := Tryd.isAgg78
  z31 := Tryd.sizeOf78
  v31 := Tryd.zeroValue78
  t46 := Tryd.underlying108
  a46 := Tryd.isAgg108
  z46 := Tryd.sizeOf108
  v46 := Tryd.zeroValue108
  t51 := Tryd.underlying121
  a51 := Tryd.isAgg121
  z51 := Tryd.sizeOf121
  v51 := Tryd.zeroValue121
  t53 := Tryd.underlying109
  a53 := Tryd.isAgg109
  z53 := Tryd.sizeOf109
  v53 := Tryd.zeroValue109
  t131 := Tryd.underlying118
  a131 := Tryd.isAgg118
  z131 := Tryd.sizeOf118
  v131 := Tryd.zeroValue118
  t182 := Tryd.underlying112
  a182 := Tryd.isAgg112
  z182 := Tryd.sizeOf112
  v182 := Tryd.zeroValue112
  t183 := Tryd.underlying113
  a183 := Tryd.isAgg113
  z183 := Tryd.sizeOf113
  v183 := Tryd.zeroValue113
  t218 := Tryd.underlying127
  a218 := Tryd.isAgg127
  z218 := Tryd.sizeOf127
  v218 := Tryd.zeroValue127
  t222 := Tryd.underlying131
  a222 := Tryd.isAgg131
  z222 := Tryd.sizeOf131
  v222 := Tryd.zeroValue131
  t228 := Tryd.underlying138
  a228 := Tryd.isAgg138
  z228 := Tryd.sizeOf138
  v228 := Tryd.zeroValue138
  t229 := Tryd.underlying139
  a229 := Tryd.isAgg139
  z229 := Tryd.sizeOf139
  v229 := Tryd.zeroValue139 }
def Tryd.lays194_ren : Go.Shelf.Ren := ⟨fun | 194 => 85 | n => n, fun | 31 => 78 | 9 => 9 | 3 => 3 | 4 => 4 | 0 => 0 | n => n, fun | n => n⟩
theorem Tryd.lays194 : Go.Proofs.Lays.n194 Tryd.prog Tryd.lays194_ren := {
  mixed := by kernel_rfl
  f194 := Tryd.func85.trans (congrArg some (by kernel_rfl))
  t0 := Tryd.underlying0
  a0 := Tryd.isAgg0
  z0 := Tryd.sizeOf0
  v0 := Tryd.zeroValue0
  t3 := Tryd.underlying3
  a3 := Tryd.isAgg3
  z3 := Tryd.sizeOf3
  v3 := Tryd.zeroValue3
  t4 := Tryd.underlying4
  a4 := Tryd.isAgg4
  z4 := Tryd.sizeOf4
  v4 := Tryd.zeroValue4
  t9 := Tryd.underlying9
  a9 := Tryd.isAgg9
  z9 := Tryd.sizeOf9
  v9 := Tryd.zeroValue9
  t31 := Tryd.underlying78
  a31 := Tryd.isAgg78
  z31 := Tryd.sizeOf78
  v31 := Tryd.zeroValue78 }
open Go.Sort Go.RowKit in
theorem Tryd.slices_Sort_string (blk off cap : Nat) (ss : List (List UInt8)) (w : World) (hH : Holds encStr w blk off ss.toArray) (hblk : blk < w.heap.size) (hsz : ss.length < 4611686018427387904) :
    Calls Tryd.prog 84 #[.slice (some ⟨blk, off, none⟩) ss.length cap] w fun e w' =>
      e = .returned (.tuple #[]) ∧ ∃ n os, w' = grow (putRow encStr (Sort.ahead w n) blk off (ss.mergeSort fun x y => decide (x ≤ y)).toArray) os := Any.slices_Sort_string Tryd.lays190 blk off cap ss w hH hblk hsz
open Go.RowKit Go.Lib Go.Sort in
/-- slices.Compact at []string: "Compact replaces consecutive runs of equal elements with a single copy. This is like the uniq command found on Unix. Compact modifies the contents of the slice s and returns the modified slice, which may have a smaller length. Compact zeroes the elements between the new length and the original length. The result preserves the nilness of s.": IT RETURNS THE SLICE CUT TO 'Lib.compact zs'; ITS CELLS HOLD 'Lib.compact zs', THEN ZERO VALUES up to the old length; all else is as it was, but for the count of draws. IN THE WORDS OF slices.Sort's CONTRACT ('Holds', 'putRow'): so the everyday 'slices.Sort(xs); xs = slices.Compact(xs)' goes from the one contract to the other. It asks 'zs.length ≤ cap' (every slice's: the reslicing 's[:k]' looks at it). Length 0, nil: '.._empty'. (LAID: no walk: one application.) -/
theorem Tryd.slices_Compact_string (blk off cap : Nat) (zs : List (List UInt8)) (w : World) (hH : Holds encStr w blk off zs.toArray) (hsz : zs.length ≤ 9223372036854775807) (hcap : zs.length ≤ cap) :
    Calls Tryd.prog 85 #[.slice (some ⟨blk, off, none⟩) zs.length cap] w fun e w' => e = .returned (.slice (some ⟨blk, off, none⟩) (Lib.compact zs).length cap) ∧ ∃ q, w' = putRow encStr (Sort.ahead w q) blk off (Lib.compact zs ++ List.replicate (zs.length - (Lib.compact zs).length) []).toArray := Any.slices_Compact_string Tryd.lays194 blk off cap zs w hH hsz hcap
open Go.RowKit Go.Lib Go.Sort in
/-- The same at a slice of length 0, a nil one too: it comes back as it is. (LAID: no walk: one application.) -/
theorem Tryd.slices_Compact_string_empty (a : Option Addr) (cap : Nat) (w : World) :
    Calls Tryd.prog 85 #[.slice a 0 cap] w fun e w' => e = .returned (.slice a 0 cap) ∧ w' = w := Any.slices_Compact_string_empty Tryd.lays194 a cap w
open Go.RowKit Go.Sort in
/-- .. and plain. (LAID: no walk: one application.) -/
theorem Tryd.slices_Sort_string_none (p : Option Addr) (cap : Nat) (w : World) :
    Calls Tryd.prog 84 #[.slice p 0 cap] w fun e w' => e = .returned (.tuple #[]) ∧ w' = w := Any.slices_Sort_string_none Tryd.lays190 p cap w
end Go.Proofs
/-
  The library's sort and Compact at a row of texts of the call's own.
-/
namespace Go.Proofs.YtgdjdgaoflekgaaDoor
open Go.RowKit Go.Sort
set_option linter.unusedVariables false
set_option linter.unusedSimpArgs false

/-- The slice holds texts, in a block from 'base' on. -/
def HS (w : World) (base : Nat) (y : Value) (ss : List (List UInt8)) : Prop :=
  ∃ a cap, y = .slice a ss.length cap ∧ (ss = [] ∨ ∃ g, a = some ⟨g, 0, none⟩ ∧ base ≤ g ∧ g < w.heap.size ∧ Holds encStr w g 0 ss.toArray ∧ ss.length ≤ cap)

theorem grownBy_sortS {w : World} {g n : Nat} {os : Array Obj} (d : Array (List UInt8)) : w.grownBy (grow (putRow encStr (Sort.ahead w n) g 0 d) os) (some g) := by
  refine ⟨rfl, rfl, rfl, by simp [grow, putRow, mapBlock, Sort.ahead], fun k hk hne => ?_⟩
  rw [heap_grow_old _ _ (by simpa [putRow, mapBlock, Sort.ahead] using hk)]
  have : g ≠ k := fun e => hne (by rw [e])
  simp [putRow, mapBlock, Sort.ahead, Array.getElem?_modify, this]

theorem grownBy_putS {w : World} {g n : Nat} (d : Array (List UInt8)) : w.grownBy (putRow encStr (Sort.ahead w n) g 0 d) (some g) := by
  refine ⟨rfl, rfl, rfl, by simp [putRow, mapBlock, Sort.ahead], fun k hk hne => ?_⟩
  have : g ≠ k := fun e => hne (by rw [e])
  simp [putRow, mapBlock, Sort.ahead, Array.getElem?_modify, this]

theorem size_putS (w : World) (g n : Nat) (d : Array (List UInt8)) : (putRow encStr (Sort.ahead w n) g 0 d).heap.size = w.heap.size := by simp [putRow, mapBlock, Sort.ahead]

theorem sort_any (base : Nat) (y : Value) (ss : List (List UInt8)) (w : World) (h : HS w base y ss) (hl : ss.length ≤ 1000) (hb : base ≤ w.heap.size) :
    Calls Tryd.prog 84 #[y] w fun e w' => e = .returned (.tuple #[]) ∧ HS w' base y (ss.mergeSort fun x y => decide (x ≤ y)) ∧ Below base w w' := by
  obtain ⟨a, cap, rfl, h0 | ⟨g, rfl, hg, hgl, hH, hc⟩⟩ := h
  · subst h0
    refine (Tryd.slices_Sort_string_none a cap w).mono ?_
    rintro e w' ⟨rfl, rfl⟩
    exact ⟨rfl, ⟨a, cap, by simp, .inl (by simp)⟩, Below.refl _ _⟩
  · refine (Tryd.slices_Sort_string g 0 cap ss w hH hgl (by omega)).mono ?_
    rintro e w' ⟨rfl, n, os, rfl⟩
    have hsz : (ss.mergeSort fun x y => decide (x ≤ y)).toArray.size = ss.toArray.size := by simp
    refine ⟨rfl, ⟨some ⟨g, 0, none⟩, cap, by simp, .inr ⟨g, rfl, hg, ?_, ?_, by simpa using hc⟩⟩, (Below.refl base w).grown (grownBy_sortS _) hb (by intro j hj; simp at hj; omega)⟩
    · have := (grownBy_sortS (w := w) (g := g) (n := n) (os := os) (ss.mergeSort fun x y => decide (x ≤ y)).toArray).size
      omega
    · exact holds_grow _ _ _ g 0 _ (by rw [size_putS]; exact hgl) (holds_putRow _ _ g 0 ss.toArray _ (holds_ahead _ _ _ _ _ _ hH) hsz)

theorem holds_take {w : World} {g : Nat} {xs ys : List (List UInt8)} (h : Holds encStr w g 0 (xs ++ ys).toArray) : Holds encStr w g 0 xs.toArray := by
  intro j hj
  have hj' : j < xs.length := by simpa using hj
  have h1 := h j (by simp; omega)
  have e1 : (xs ++ ys).toArray[j]! = xs.toArray[j]! := by simp [getElem!_def, List.getElem?_append_left hj']
  rw [e1] at h1
  exact h1

theorem compact_any (base : Nat) (y : Value) (ss : List (List UInt8)) (w : World) (h : HS w base y ss) (hl : ss.length ≤ 1000) (hb : base ≤ w.heap.size) :
    Calls Tryd.prog 85 #[y] w fun e w' => ∃ z, e = .returned z ∧ HS w' base z (Lib.compact ss) ∧ Below base w w' := by
  obtain ⟨a, cap, rfl, h0 | ⟨g, rfl, hg, hgl, hH, hc⟩⟩ := h
  · subst h0
    refine (Tryd.slices_Compact_string_empty a cap w).mono ?_
    rintro e w' ⟨rfl, rfl⟩
    exact ⟨_, rfl, ⟨a, cap, rfl, .inl rfl⟩, Below.refl _ _⟩
  · refine (Tryd.slices_Compact_string g 0 cap ss w hH (by omega) hc).mono ?_
    rintro e w' ⟨rfl, q, rfl⟩
    have hle := Lib.compact_length_le ss
    refine ⟨_, rfl, ⟨some ⟨g, 0, none⟩, cap, rfl, .inr ⟨g, rfl, hg, by rw [size_putS]; exact hgl, ?_, by omega⟩⟩, (Below.refl base w).grown (grownBy_putS _) hb (by intro j hj; simp at hj; omega)⟩
    exact holds_take (holds_putRow _ _ g 0 ss.toArray _ (holds_ahead _ _ _ _ _ _ hH) (by simp; omega))

/-- A row of texts, as the sort speaks of it. -/
theorem SR.hs {w : World} {base : Nat} {v : Value} {os : List (List Int)} (h : SR w base v os) : HS w base v (os.map u8s) := by
  have h' : w.ownsRow base 9 1 v os.length (strC os) := h
  obtain ⟨h2, h3⟩ := h
  rcases h3 with ⟨rfl, h0⟩ | ⟨g, cap, cur, rfl, hg, hh, hle, _⟩
  · exact ⟨none, 0, by simp [h0], .inl (by simp [List.eq_nil_of_length_eq_zero h0])⟩
  · refine ⟨some ⟨g, 0, none⟩, cap, by simp, .inr ⟨g, rfl, hg, (Array.getElem?_eq_some_iff.1 hh).1, fun j hj => ?_, by simpa using hle⟩⟩
    have hj' : j < os.length := by simpa using hj
    refine ⟨?_, by rw [Nat.zero_add]; exact h'.frozenAt j⟩
    rw [Nat.zero_add, World.ownsRow.cellAt h' j (by omega)]
    simp [strC, hj', strOf, u8s, encStr]
end Go.Proofs.YtgdjdgaoflekgaaDoor
/-
  namesIn, Uses and Locals of the program.
-/
namespace Go.Proofs.YtgdjdgaoflekgaaDoor
open Go.RowKit
set_option linter.unusedVariables false
set_option linter.unusedSimpArgs false

theorem rwk_stepT {w1 wr w5 w6 : World} {ks : List (List Int)} {x v5 : Value} {k g cp : Nat} {cs : List (List Value)} {Bi : List (List Nat)} {Bv : List Nat} {o : Obj} (h : RW 22 1 (ItK ks) wr w1.heap.size x k cs Bi) (hb : Below w1.heap.size w1 wr) (b5 : Below wr.heap.size wr w5) (hT : TOwn w5 v5 (ks.getD k []) Bv)
    (hBv : ∀ b ∈ Bv, wr.heap.size ≤ b ∧ b < w5.heap.size) (hBn : Bv.Nodup) (hown : w6.ownsRow w1.heap.size 22 1 (.slice (some ⟨g, 0, none⟩) (k + 1) cp) (k + 1) (cs.flatten ++ [v5])) (hg : (w5.alloc o).grownBy w6 x.ownBlock) (hat : x.ownBlock = some g ∨ g = w5.heap.size + 1) :
    ∃ cs' Bi', RW 22 1 (ItK ks) w6 w1.heap.size (.slice (some ⟨g, 0, none⟩) (k + 1) cp) (k + 1) cs' Bi' ∧ Below w1.heap.size w1 w6 := by
  have hz := hb.size
  have hz5 := b5.size
  have hxlt := h.2.2.1.lt
  refine ⟨_, _, RW.add (w2 := w5.alloc o) (ItK.agree ks) h (fun b hb => (Below.heap_alloc _ _ _ (by omega)).trans (b5.block b hb)) (by simp; omega) ⟨v5, rfl, hT.agree fun b hb => Below.heap_alloc _ _ _ (hBv b hb).2⟩ (fun b hb => by have := hBv b hb; simp; omega) hBn hz hown hg (by simpa using hat), ?_⟩
  exact ((Below.on hb b5).alloc (by omega) o).grown hg (by simp; omega) (fun j hj => (hxlt j hj).1)

theorem name_byt {xs : List Int} (h : nameB xs = true) : ∀ x ∈ xs, Byt x := by
  simp only [nameB, Bool.and_eq_true, List.all_eq_true] at h
  intro x hx
  have := h.2 x hx
  simp only [letB, Bool.and_eq_true, decide_eq_true_eq] at this
  exact ⟨by omega, by omega⟩

theorem names_byt {k : Int} (hk : k = 6 ∨ k = 7) {d : Nat} {v : Vl d} (h : exprB d v = true) : ∀ i, i < ((rawN k d v).foldl insN []).length → ∀ x ∈ ((rawN k d v).foldl insN []).getD i [], Byt x := by
  intro i hi
  have hm : ((rawN k d v).foldl insN []).getD i [] ∈ (rawN k d v).foldl insN [] := by
    rw [List.getD_eq_getElem?_getD, List.getElem?_eq_getElem hi]
    exact List.getElem_mem hi
  simp only [exprB, Bool.and_eq_true, decide_eq_true_eq] at h
  rcases mem_fold _ _ _ hm with h1 | h1
  · exact name_byt (raw_names k hk d v 1 h.1 _ h1)
  · simp at h1

theorem HS.at {w wr : World} {base : Nat} {a : Option Addr} {n cap : Nat} {os : List (List Int)} (h : HS w base (.slice a n cap) (os.map u8s)) (hb : Below w.heap.size w wr) {j : Nat} (hj : j < os.length) :
    ∃ g, a = some ⟨g, 0, none⟩ ∧ wr.cell? ⟨g, j, none⟩ = some (.string (strOf (os.getD j []))) := by
  obtain ⟨a', cap', e, h0 | ⟨g, rfl, _, hgl, hH, _⟩⟩ := h
  · simp at h0
    subst h0
    simp at hj
  · simp only [Value.slice.injEq] at e
    obtain ⟨rfl, _, _⟩ := e
    have h1 := (hH j (by simpa using hj)).1
    rw [Nat.zero_add] at h1
    refine ⟨g, rfl, (World.cell?_of_block (hb.block g hgl)).trans (h1.trans ?_)⟩
    simp [hj, strOf, u8s, encStr, getElem!_def, List.getD_eq_getElem?_getD]

set_option maxHeartbeats 3000000 in
set_option maxRecDepth 100000 in
theorem namesIn_any (k : Int) (hk : k = 6 ∨ k = 7) (d N : Nat) (c0 c1 c2 c3 c4 : Value) (v : Vl d) (w : World) (hv : VSeg (fun b => b < N) w d (c0, c1, c2, c3, c4) v) (hN : N ≤ w.heap.size) (hT : ShpT w) (hgN : 3 < N) :
    Calls Tryd.prog 58 #[.agg #[c0, c1, c2, c3, c4], .int .i64 k] w (UEnd k d v w) := by
  obtain ⟨iT, hiT, hy0, hy1, hy2⟩ := info_parts infoT
  have b0 : ∀ o : Obj, Below w.heap.size w (w.alloc o) := fun o => (Below.refl _ _).alloc (Nat.le_refl _) o
  have HE : Hid (∀ o : Obj, Calls Tryd.prog 12 #[.agg #[c0, c1, c2, c3, c4]] (w.alloc o) fun e w' => e = .returned (.bool (exprB d v)) ∧ Below (w.alloc o).heap.size (w.alloc o) w') := fun o => impl_ExprOk_any d N c0 c1 c2 c3 c4 v _ (VSeg.agree (agree_below ((b0 o).mono hN)) d hv) (by simp; omega) (hT.below (b0 o)) hgN
  have HV : Hid (∀ wx, Below w.heap.size w wx → VSeg (fun b => b < N) wx d (c0, c1, c2, c3, c4) v) := fun wx hb => VSeg.agree (agree_below (hb.mono hN)) d hv
  have Hb := hide' b0
  obtain ⟨ck, cn, a2, l2, p2, a3, l3, p3, a4, l4, p4, rfl, rfl, rfl, rfl, rfl⟩ := VSeg.form d hv
  clear b0 hv hT
  by_cases hok : exprB d v = true
  · obtain ⟨n1, n2⟩ := names_len (k := k) hk hok
    have n3 := names_byt hk hok
    have hn : Hid (namesE k d v = (rawN k d v).foldl insN []) := if_pos hok
    have hp : partsE d v ≤ 150 := by simp only [exprB, Bool.and_eq_true, decide_eq_true_eq] at hok; exact hok.2
    have hrl := rawN_len k d v
    have HN : Hid (∀ wx, Below w.heap.size w wx → Calls Tryd.prog 83 #[.slice none 0 0, .agg #[.int .i64 ck, .int .i64 cn, .slice a2 l2 p2, .slice a3 l3 p3, .slice a4 l4 p4], .int .i64 k] wx fun e w' => ∃ y, e = .returned y ∧ HS w' w.heap.size y ((rawN k d v).map u8s) ∧ Below wx.heap.size wx w') := fun wx hb =>
      (collectNames_any k d N w.heap.size _ [] (.int .i64 ck, .int .i64 cn, .slice a2 l2 p2, .slice a3 l3 p3, .slice a4 l4 p4) v wx (HV.out wx hb) hN hb.size ⟨rfl, .inl ⟨rfl, rfl⟩⟩ (by simp; omega)).mono fun e w' ⟨y, h1, h2, h3, _⟩ => ⟨y, h1, SR.hs h2, (Below.refl _ _).grown h3 (Nat.le_refl _) (by intro j hj; simp [Value.ownBlock] at hj)⟩
    have HSo : Hid (∀ y wx, w.heap.size ≤ wx.heap.size → HS wx w.heap.size y ((rawN k d v).map u8s) → Calls Tryd.prog 84 #[y] wx fun e w' => e = .returned (.tuple #[]) ∧ HS w' w.heap.size y (((rawN k d v).map u8s).mergeSort fun x y => decide (x ≤ y)) ∧ Below w.heap.size wx w') := fun y wx hz h => sort_any w.heap.size y _ wx h (by simp; omega) hz
    have HCo : Hid (∀ y wx, w.heap.size ≤ wx.heap.size → HS wx w.heap.size y (((rawN k d v).map u8s).mergeSort fun x y => decide (x ≤ y)) → Calls Tryd.prog 85 #[y] wx fun e w' => ∃ z, e = .returned z ∧ HS w' w.heap.size z (((rawN k d v).foldl insN []).map u8s) ∧ Below w.heap.size wx w') := fun y wx hz h => by
      rw [← names_same]
      exact compact_any w.heap.size y _ wx h (by simp; omega) hz
    rw [hok] at HE
    generalize (rawN k d v).foldl insN [] = names at *
    generalize (rawN k d v).map u8s = raw at *
    have N2 := hide' n2
    have N3 := hide' n3
    clear hp hok HV n2 n3 hrl
    go_enter Tryd.func58, Tryd.ntmps58
    go_wp2_with fail
    refine (HE.out _).mono ?_
    rintro e w1 ⟨rfl, b1⟩
    obtain ⟨y0, y1, y2, y3, y4, _⟩ := row5 (box_row b1)
    have B1 := Below.on (Hb.out _) b1
    have HN1 := hide' (HN.out w1 B1)
    clear b1 HE
    go_wp2_with fail
    refine HN1.out.mono ?_
    rintro e w2 ⟨y, rfl, hR2, b2⟩
    have B2 := Below.on B1 b2
    have HS2 := hide' (HSo.out y w2 B2.size hR2)
    obtain ⟨ya, yc, rfl, _⟩ := hR2
    generalize raw.length = rl at *
    clear b2 HN1 y0 y1 y2 y3 y4
    go_wp2_with fail
    refine HS2.out.mono ?_
    rintro e w3 ⟨rfl, hR3, b3⟩
    have B3 := B2.trans b3
    have HC3 := hide' (HCo.out _ w3 B3.size hR3)
    clear b3 hR3 HS2
    go_wp2_with fail
    refine HC3.out.mono ?_
    rintro e w4 ⟨z, rfl, hR4, b4⟩
    have B4 := B3.trans b4
    have HR4 := hide' hR4
    obtain ⟨za, zc, rfl, _⟩ := hR4
    have hml : (names.map u8s).length = names.length := by simp
    rw [hml] at HR4
    have HB4 := hide' B4
    rw [hml]
    clear b4 HC3 B1 B2 B3 B4 hml
    go_wp2
    go_loopw [6, 20] (fun x i wr => ∃ j : Nat, j ≤ names.length ∧ i = .int .i64 j ∧ ∃ cs Bi, RW 22 1 (ItK names) wr w4.heap.size x j cs Bi ∧ Below w4.heap.size w4 wr) (fun _ i _ => names.length - (intOf i).toNat)
    case atStart => exact ⟨0, Nat.zero_le _, rfl, _, _, RW.nil _ _ _ _ _, Below.refl _ _⟩
    case round =>
      obtain ⟨j, hj, rfl, cs, Bi, hR, hbel⟩ := hrel
      have hsz := hbel.size
      have hvK : ∃ p c, u6 = .slice p j c := by
        rcases hR.2.2.1.2 with ⟨rfl, h0⟩ | ⟨g, cap, cur, rfl, _⟩
        · exact ⟨none, 0, by rw [h0]⟩
        · exact ⟨_, _, rfl⟩
      obtain ⟨pK, cK, rfl⟩ := hvK
      by_cases hjn : j < names.length
      · have hjn' : (j : Int) < (names.length : Int) := by omega
        obtain ⟨g, rfl, hcell⟩ := HR4.out.at hbel hjn
        have hlk := N2.out j hjn
        obtain ⟨ck', wB, hconv, hTo, hBb, hzB⟩ := conv_back (names.getD j []) (N3.out j hjn) (by omega) wr
        have HR := hide' (And.intro hR hbel)
        have hrowK : wB.ownsRow w4.heap.size 22 1 (.slice pK j cK) j cs.flatten := hR.2.2.1.kept (row := none) ⟨hBb.os, hBb.tape, hBb.output, hBb.size, fun k hk _ => hBb.block k hk⟩ (by cases hv : (Value.slice pK j cK).ownBlock <;> simp)
        have HTo := hide' hTo
        have HBb := hide' hBb
        have HzB := hide' hzB
        have HRK := hide' hrowK
        generalize hks : names.getD j [] = xs at *
        have Hks := hide' hks
        generalize hnk : xs.length = nk at *
        generalize strOf xs = sx at *
        clear hR hbel hks hTo hBb hzB hrowK hnk
        go_wp2_with (at_builtin; refine wpList_append_lies _ rfl (.tmp 24) (.tmp 27) 23 (by rfl) w4.heap.size 22 iT (.slice none 0 0) 1 24 Tryd.underlying23 hiT hy0 hy1 hy2 rfl (by decide) (.slice pK j cK) j cs.flatten (by rfl) (HRK.out.alloc _) ⟨wB.heap.size, 0, none⟩ 1 1 [.slice (some ⟨wr.heap.size, 0, none⟩) nk ck'] (by rfl) (by rfl) (World.news_of_block (cs := #[.slice (some ⟨wr.heap.size, 0, none⟩) nk ck']) (t := 22) (fr := (0, 0)) (heap_alloc_new wB _)) (by simp [Value.oneCell']) (by omega) (by unfold maxLen; omega) (by omega) (by have := HzB.out; simp; omega) (wB.heap.size + 1) (by simp) ?_; intro g6 cp6 w6 hown6 hg6 hat6 hlt6; obtain ⟨cs', Bi', hR6, hB6⟩ := rwk_stepT HR.out.1 HR.out.2 HBb.out (by rw [Hks.out]; exact HTo.out) (by have := HzB.out; intro b hb; simp at hb; omega) (by simp) hown6 hg6 hat6; replace hR6 := hide' hR6; replace hB6 := hide' hB6; clear hown6 hg6 hat6 hlt6)
        go_wp2
        go_roundw
        case rel => exact ⟨j + 1, by omega, by go_num, _, _, hR6.out, hB6.out⟩
        case measure => simp [intOf]; omega
      · have hjn' : j = names.length := by omega
        subst hjn'
        have hkl' : ¬ (names.length : Int) < (names.length : Int) := by omega
        have HR := hide' (And.intro hR hbel)
        clear hR hbel
        go_wp2_with fail
        go_ret
        have hbd := HR.out.1.2.2.2.2.2
        have hz4 := HB4.out.size
        exact ⟨_, rfl, _, by rw [hn.out]; exact HR.out.1.kown, fun b hb => by have := hbd b hb; omega, Below.on HB4.out HR.out.2⟩
  · have hno : exprB d v = false := by simpa using hok
    have hn : Hid (namesE k d v = []) := if_neg hok
    rw [hno] at HE
    clear hno hok HV
    go_enter Tryd.func58, Tryd.ntmps58
    go_wp2_with fail
    refine (HE.out _).mono ?_
    rintro e w1 ⟨rfl, b1⟩
    have B1 := Below.on (Hb.out _) b1
    clear b1 HE
    go_wp2
    go_ret
    exact ⟨_, rfl, [], by rw [hn.out]; exact kNilE _, by simp, B1⟩

set_option maxHeartbeats 2000000 in
theorem impl_Uses_any (d N : Nat) (c0 c1 c2 c3 c4 : Value) (v : Vl d) (w : World) (hv : VSeg (fun b => b < N) w d (c0, c1, c2, c3, c4) v) (hN : N ≤ w.heap.size) (hT : ShpT w) (hgN : 3 < N) :
    Calls Tryd.prog 29 #[.agg #[c0, c1, c2, c3, c4]] w (UEnd 7 d v w) := by
  have b0 : ∀ o : Obj, Below w.heap.size w (w.alloc o) := fun o => (Below.refl _ _).alloc (Nat.le_refl _) o
  have HE : Hid (∀ o : Obj, Calls Tryd.prog 58 #[.agg #[c0, c1, c2, c3, c4], .int .i64 7] (w.alloc o) (UEnd 7 d v (w.alloc o))) := fun o => namesIn_any 7 (by omega) d N c0 c1 c2 c3 c4 v _ (VSeg.agree (agree_below ((b0 o).mono hN)) d hv) (by simp; omega) (hT.below (b0 o)) hgN
  have Hb := hide' b0
  obtain ⟨ck, cn, a2, l2, p2, a3, l3, p3, a4, l4, p4, rfl, rfl, rfl, rfl, rfl⟩ := VSeg.form d hv
  clear b0 hv hT
  go_enter Tryd.func29, Tryd.ntmps29
  go_wp2_with fail
  refine (HE.out _).mono ?_
  rintro e w1 ⟨u, rfl, B, hK, hB, b1⟩
  have hus : ∃ a n c, u = .slice a n c := by rcases hK with ⟨rfl, _⟩ | ⟨g, cap, cur, Bs, rfl, _⟩ <;> exact ⟨_, _, _, rfl⟩
  have HF : Hid (UEnd 7 d v w (.returned u) w1) := ⟨u, rfl, B, hK, fun b hb => by have := hB b hb; simp at this; omega, Below.on (Hb.out _) b1⟩
  obtain ⟨_, _, _, rfl⟩ := hus
  clear hK hB b1 HE
  go_wp2
  go_ret
  exact HF.out

set_option maxHeartbeats 2000000 in
theorem impl_Locals_any (d N : Nat) (c0 c1 c2 c3 c4 : Value) (v : Vl d) (w : World) (hv : VSeg (fun b => b < N) w d (c0, c1, c2, c3, c4) v) (hN : N ≤ w.heap.size) (hT : ShpT w) (hgN : 3 < N) :
    Calls Tryd.prog 34 #[.agg #[c0, c1, c2, c3, c4]] w (UEnd 6 d v w) := by
  have b0 : ∀ o : Obj, Below w.heap.size w (w.alloc o) := fun o => (Below.refl _ _).alloc (Nat.le_refl _) o
  have HE : Hid (∀ o : Obj, Calls Tryd.prog 58 #[.agg #[c0, c1, c2, c3, c4], .int .i64 6] (w.alloc o) (UEnd 6 d v (w.alloc o))) := fun o => namesIn_any 6 (by omega) d N c0 c1 c2 c3 c4 v _ (VSeg.agree (agree_below ((b0 o).mono hN)) d hv) (by simp; omega) (hT.below (b0 o)) hgN
  have Hb := hide' b0
  obtain ⟨ck, cn, a2, l2, p2, a3, l3, p3, a4, l4, p4, rfl, rfl, rfl, rfl, rfl⟩ := VSeg.form d hv
  clear b0 hv hT
  go_enter Tryd.func34, Tryd.ntmps34
  go_wp2_with fail
  refine (HE.out _).mono ?_
  rintro e w1 ⟨u, rfl, B, hK, hB, b1⟩
  have hus : ∃ a n c, u = .slice a n c := by rcases hK with ⟨rfl, _⟩ | ⟨g, cap, cur, Bs, rfl, _⟩ <;> exact ⟨_, _, _, rfl⟩
  have HF : Hid (UEnd 6 d v w (.returned u) w1) := ⟨u, rfl, B, hK, fun b hb => by have := hB b hb; simp at this; omega, Below.on (Hb.out _) b1⟩
  obtain ⟨_, _, _, rfl⟩ := hus
  clear hK hB b1 HE
  go_wp2
  go_ret
  exact HF.out

end Go.Proofs.YtgdjdgaoflekgaaDoor
/-
  The laws' own helpers markByteS and heldByteS: the one writes running numbers into a row that is the call's own, the other finds them there.
-/
namespace Go.Proofs.YtgdjdgaoflekgaaDoor
open Go.RowKit
set_option linter.unusedVariables false

/-- The running numbers, as bytes. -/
def marks (m n : Nat) : List Int := (List.range n).map fun i => (((m + i) % 256 : Nat) : Int)

theorem length_marks (m n : Nat) : (marks m n).length = n := by simp [marks]
theorem marks_byt (m n : Nat) : ∀ x ∈ marks m n, Byt x := by
  intro x hx
  simp only [marks, List.mem_map] at hx
  obtain ⟨i, _, rfl⟩ := hx
  unfold Byt
  omega
theorem marks_at (m n k : Nat) (h : k < n) : (marks m n).getD k 0 = (((m + k) % 256 : Nat) : Int) := by simp [marks, h]

/-- What a row holds after k of the marks. -/
def marked (xs : List Int) (m k : Nat) : List Value := cellsOf (marks m k) ++ cellsOf (xs.drop k)
theorem marked_zero (xs : List Int) (m : Nat) : marked xs m 0 = cellsOf xs := by simp [marked, marks, cellsOf]
theorem marked_all (xs : List Int) (m : Nat) : marked xs m xs.length = cellsOf (marks m xs.length) := by simp [marked, cellsOf]
theorem length_marked (xs : List Int) (m k : Nat) (h : k ≤ xs.length) : (marked xs m k).length = xs.length := by simp [marked, marks, cellsOf]; omega
theorem marked_set (xs : List Int) (m k : Nat) (h : k < xs.length) : (marked xs m k).set k (.int .u8 (((m + k) % 256 : Nat) : Int)) = marked xs m (k + 1) := by
  apply List.ext_getElem
  · simp [marked, marks, cellsOf]; omega
  · intro i h1 h2
    simp only [marked, marks, cellsOf, List.getElem_set, List.getElem_append, List.length_map, List.length_range]
    by_cases hik : k = i
    · subst hik
      simp
    · by_cases hlt : i < k
      · have e2 : i < k + 1 := by omega
        simp [hik, hlt, e2]
      · have e2 : ¬ i < k + 1 := by omega
        have e3 : k + 1 + (i - (k + 1)) = k + (i - k) := by omega
        simp [hik, hlt, e2, e3]



set_option maxHeartbeats 400000 in
theorem markByteS_any (base : Nat) (a : Option Addr) (cap : Nat) (xs : List Int) (m : Nat) (w : World) (hB : Bts w base (.slice a xs.length cap) xs) (hl : xs.length ≤ 2097152) (hm : m ≤ 16777216) :
    Calls Tryd.prog 18 #[.slice a xs.length cap, .int .i64 m] w fun e w' => e = .returned (.int .i64 ((m + xs.length : Nat) : Int)) ∧ Bts w' base (.slice a xs.length cap) (marks m xs.length) ∧ w.grownBy w' (Value.slice a xs.length cap).ownBlock := by
  have hown0 := hB.2
  generalize hn : xs.length = n at hown0
  have Hn : Hid (xs.length = n) := hn
  have hln : n ≤ 2097152 := by omega
  clear hn hl hB
  have hr : ∀ wr : World, ∀ k, k < n → wr.ownsRow base 5 1 (.slice a n cap) n (marked xs m k) → ∃ g, a = some ⟨g, 0, none⟩ := by
    intro wr k hk h
    rcases h.2 with ⟨h1, h2⟩ | ⟨g, cp, cur, h1, _⟩
    · omega
    · simp at h1
      exact ⟨g, h1.1⟩
  have Hr : Hid (∀ wr : World, ∀ k, k < n → wr.ownsRow base 5 1 (.slice a n cap) n (marked xs m k) → ∃ g, a = some ⟨g, 0, none⟩) := hr
  clear hr
  go_enter Tryd.func18, Tryd.ntmps18
  go_wp2
  go_loopw [1, 5] (fun m' i wr => ∃ k : Nat, k ≤ n ∧ i = .int .i64 k ∧ m' = .int .i64 ((m + k : Nat) : Int) ∧ wr.ownsRow base 5 1 (.slice a n cap) n (marked xs m k) ∧ w.grownBy wr (Value.slice a n cap).ownBlock) (fun _ i _ => n - (intOf i).toNat)
  case atStart => exact ⟨0, Nat.zero_le _, rfl, by simp, by rw [marked_zero]; exact hown0, World.grownBy.refl _ _⟩
  case round =>
    obtain ⟨k, hk, rfl, rfl, hown1, hbel⟩ := hrel
    by_cases hlt : k < n
    · obtain ⟨g, rfl⟩ := Hr.out wr k hlt hown1
      have hd : ∃ v, wr.cell? ⟨g, k, none⟩ = some v := by
        rw [hown1.cellAt k (by omega)]
        have := length_marked xs m k (by have := Hn.out; omega)
        have h2 := Hn.out
        exact ⟨_, List.getElem?_eq_getElem (by omega)⟩
      obtain ⟨v, hd⟩ := hd
      have hfz := hown1.frozenAt k
      have hst := hown1.stored k (.int .u8 (((m + k) % 256 : Nat) : Int))
      rw [marked_set xs m k (by have := Hn.out; omega)] at hst
      obtain ⟨hst1, hst2⟩ := hst
      have hbel2 := grownBy_trans hbel hst2
      clear hst2 hown1 hbel
      have e : ((((m + k) % 256 : Nat) : Int)) = ((m : Int) + k) % 256 := by omega
      rw [e] at hst1 hbel2
      clear e
      go_wp2
      go_roundw
      case rel => exact ⟨k + 1, by omega, by go_num, by go_num, hst1, hbel2⟩
      case measure => simp [intOf]; omega
    · obtain rfl : k = n := by omega
      have hB : Bts wr base (.slice a k cap) (marks m k) := by
        refine ⟨marks_byt _ _, ?_⟩
        have h2 := Hn.out
        have h3 := marked_all xs m
        rw [h2] at h3
        rw [length_marks, ← h3]
        exact hown1
      go_wp2
      go_ret
      exact ⟨rfl, hB, hbel⟩

set_option maxHeartbeats 400000 in
theorem heldByteS_any (a : Option Addr) (cap : Nat) (m n : Nat) (w : World) (hs : Seg w a (marks m n)) (hl : n ≤ 2097152) (hm : m ≤ 16777216) :
    Calls Tryd.prog 19 #[.slice a n cap, .int .i64 m] w fun e w' => e = .returned (.int .i64 ((m + n : Nat) : Int)) ∧ Below w.heap.size w w' := by
  go_enter Tryd.func19, Tryd.ntmps19
  go_wp2
  go_loopw [1, 5] (fun m' i wr => ∃ k : Nat, k ≤ n ∧ i = .int .i64 k ∧ m' = .int .i64 ((m + k : Nat) : Int) ∧ Below w.heap.size w wr) (fun _ i _ => n - (intOf i).toNat)
  case atStart => exact ⟨0, Nat.zero_le _, rfl, by simp, Below.refl _ _⟩
  case round =>
    obtain ⟨k, hk, rfl, rfl, hbel⟩ := hrel
    by_cases hlt : k < n
    · obtain ⟨b1, o1, rfl, hc1⟩ := (hs.grow hbel).at (k := k) (by rw [length_marks]; omega)
      rw [marks_at m n k hlt] at hc1
      have e : ((((m + k) % 256 : Nat) : Int)) = ((m : Int) + k) % 256 := by omega
      rw [e] at hc1
      clear e
      go_wp2
      go_roundw
      case rel => exact ⟨k + 1, by omega, by go_num, by go_num, hbel⟩
      case measure => simp [intOf]; omega
    · obtain rfl : k = n := by omega
      go_wp2
      go_ret
      exact ⟨rfl, hbel⟩
end Go.Proofs.YtgdjdgaoflekgaaDoor
/-
  markByteS over a row that may bear a mark of the run-time behind its last cell.
-/
namespace Go.Proofs.YtgdjdgaoflekgaaDoor
open Go.RowKit
set_option linter.unusedVariables false

set_option maxHeartbeats 400000 in
theorem markByteS_F (a : Option Addr) (cap : Nat) (xs : List Int) (m : Nat) (w : World) (hB : BtsF w (.slice a xs.length cap) xs) (hl : xs.length ≤ 2097152) (hm : m ≤ 16777216) :
    Calls Tryd.prog 18 #[.slice a xs.length cap, .int .i64 m] w fun e w' => e = .returned (.int .i64 ((m + xs.length : Nat) : Int)) ∧ BtsF w' (.slice a xs.length cap) (marks m xs.length) ∧ w.grownBy w' (Value.slice a xs.length cap).ownBlock := by
  have hown0 := hB.2
  generalize hn : xs.length = n at hown0
  have Hn : Hid (xs.length = n) := hn
  have hln : n ≤ 2097152 := by omega
  clear hn hl hB
  have hr : ∀ wr : World, ∀ k, k < n → RowF wr (.slice a n cap) n (marked xs m k) → ∃ g, a = some ⟨g, 0, none⟩ := by
    intro wr k hk h
    rcases h.2 with ⟨h1, h2⟩ | ⟨g, cp, cur, fr, h1, _⟩
    · omega
    · simp at h1
      exact ⟨g, h1.1⟩
  have Hr : Hid (∀ wr : World, ∀ k, k < n → RowF wr (.slice a n cap) n (marked xs m k) → ∃ g, a = some ⟨g, 0, none⟩) := hr
  clear hr
  go_enter Tryd.func18, Tryd.ntmps18
  go_wp2
  go_loopw [1, 5] (fun m' i wr => ∃ k : Nat, k ≤ n ∧ i = .int .i64 k ∧ m' = .int .i64 ((m + k : Nat) : Int) ∧ RowF wr (.slice a n cap) n (marked xs m k) ∧ w.grownBy wr (Value.slice a n cap).ownBlock) (fun _ i _ => n - (intOf i).toNat)
  case atStart => exact ⟨0, Nat.zero_le _, rfl, by simp, by rw [marked_zero]; exact hown0, World.grownBy.refl _ _⟩
  case round =>
    obtain ⟨k, hk, rfl, rfl, hown1, hbel⟩ := hrel
    by_cases hlt : k < n
    · obtain ⟨g, rfl⟩ := Hr.out wr k hlt hown1
      have hd : ∃ v, wr.cell? ⟨g, k, none⟩ = some v := by
        rw [hown1.cellAt k (by omega)]
        have := length_marked xs m k (by have := Hn.out; omega)
        have h2 := Hn.out
        exact ⟨_, List.getElem?_eq_getElem (by omega)⟩
      obtain ⟨v, hd⟩ := hd
      have hfz := hown1.frozenAt k hlt
      have hst := hown1.stored k (.int .u8 (((m + k) % 256 : Nat) : Int))
      rw [marked_set xs m k (by have := Hn.out; omega)] at hst
      obtain ⟨hst1, hst2⟩ := hst
      have hbel2 := grownBy_trans hbel hst2
      clear hst2 hown1 hbel
      have e : ((((m + k) % 256 : Nat) : Int)) = ((m : Int) + k) % 256 := by omega
      rw [e] at hst1 hbel2
      clear e
      go_wp2
      go_roundw
      case rel => exact ⟨k + 1, by omega, by go_num, by go_num, hst1, hbel2⟩
      case measure => simp [intOf]; omega
    · obtain rfl : k = n := by omega
      have hB : BtsF wr (.slice a k cap) (marks m k) := by
        refine ⟨marks_byt _ _, ?_⟩
        have h2 := Hn.out
        have h3 := marked_all xs m
        rw [h2] at h3
        rw [length_marks, ← h3]
        exact hown1
      go_wp2
      go_ret
      exact ⟨rfl, hB, hbel⟩

end Go.Proofs.YtgdjdgaoflekgaaDoor
