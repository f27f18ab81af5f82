/-
  Texts that a law leans on, one behind the other; no statement is proved here.
-/
import Derived.Test.YtdhlmcgbgdljmaaGreatDoorPk3
import Derived.Test.YtdhlmcgbgdljmaaGreatDoorPk7
import Derived.Test.YtdhlmcgbgdljmaaGreatDoorPk8
import Derived.Test.YtdhlmcgbgdljmaaGreatDoorPk0
import Derived.Lib.ItoaNum
import Derived.Shelf.Small.Bits
import Derived.Shelf.Strconv.Itoa0
import Derived.Shelf.Strconv.Itoa1
import Derived.Shelf.LaysM
import Derived.Shelf.Strconv.Itoa2
import Derived.Ground.GgsProg
import Derived.Shelf.GgSortFunc.Insertion
import Derived.Shelf.GgSortFunc.Small
import Derived.Shelf.GgSortFunc.InsertionK
import Derived.Shelf.GgSortFunc.SmallK
import Derived.Shelf.GgSortFunc.Tiny
import Derived.Shelf.GgSortFunc.Compose
import Derived.Shelf.GgSortFunc.LotD
import Derived.Shelf.Strconv.AppendUint10
import Derived.Shelf.Strconv.AppendInt10
import Derived.Shelf.Strconv.AppendIntPublic10
import Derived.Shelf.SlSortFunc.Xorshift
import Derived.Shelf.SlSortFuncK.ComposeK
import Derived.Shelf.SlSortFuncK.SiftDownK
import Derived.Shelf.SlSortFuncK.HeapSortK
import Derived.Shelf.SlSortFuncK.PartialInsertionK
import Derived.Shelf.SlSortFuncK.LotDK
import Derived.Shelf.SlSortFuncK.PivotK
import Derived.Shelf.SlSortFuncK.PartitionK
import Derived.Shelf.SlSortFuncK.PdqK
import Derived.Shelf.SlSortFuncK.WholeK
import Derived.Test.YtdhlmcgbgdljmaaGreatDoorProg
import Derived.Deep.RegionLaw
import Derived.Deep.RegionWith
/-
  Changes: which may be (mathematics); the first steps of a path.
-/
namespace Go.Proofs.YtdhlmcgbgdljmaaGreatDoor
open Go.RowKit
set_option linter.unusedVariables false
set_option linter.unusedSimpArgs false

/-- A value's kind. -/
def kdV : (d : Nat) → Vl d → Int
  | 0, _ => 0
  | _ + 1, v => v.1

/-- Whether q comes behind p and does not begin with it. -/
def apB (p q : List Stp) : Bool := decide (pthC (p.take (min p.length q.length)) (q.take (min p.length q.length)) < 0)
/-- Whether q begins with p. -/
def wiB (p q : List Stp) : Bool := decide (p.length ≤ q.length) && decide (pthC p (q.take p.length) = 0)

theorem pthC_cons (s t : Stp) (l m : List Stp) : pthC (s :: l) (t :: m) = if stpC s t ≠ 0 then stpC s t else pthC l m := rfl
theorem apB_eq (p q : List Stp) : apB p q = (decide (pthC p q < 0) && !wiB p q) := by
  induction p generalizing q with
  | nil =>
    cases q with
    | nil => rfl
    | cons t m => simp [apB, wiB, pthC]
  | cons s l ih =>
    cases q with
    | nil => simp [apB, wiB, pthC]
    | cons t m =>
      have e : min (s :: l).length (t :: m).length = min l.length m.length + 1 := by simp only [List.length_cons]; omega
      have hih := ih m
      unfold apB wiB at hih ⊢
      rw [e, List.take_succ_cons, List.take_succ_cons, pthC_cons, pthC_cons]
      simp only [List.length_cons, List.take_succ_cons, pthC_cons]
      by_cases h0 : stpC s t = 0
      · simp only [h0, ne_eq, not_true_eq_false, if_false]
        rw [hih]
        simp
      · simp [h0]

/-- Whether a path ends with a key. -/
def endB (l : List Stp) : Bool := match l.getLast? with
  | some s => decide (s.1 = 0)
  | none => false
theorem endB_at {l : List Stp} (h : 0 < l.length) : endB l = decide ((l[l.length - 1]'(by omega)).1 = 0) := by
  unfold endB
  rw [List.getLast?_eq_getElem?, List.getElem?_eq_getElem (by omega)]
theorem endB_nil : endB [] = false := rfl

/-- Which change may be, alone. -/
def okC (d : Nat) (x : Chg d) : Bool := pathB x.1 && (okB d x.2.2.1 && (okB d x.2.2.2.2 && ((x.2.1 || decide (kdV d x.2.2.1 = 0)) && ((x.2.2.2.1 || decide (kdV d x.2.2.2.2 = 0)) && ((x.2.1 || x.2.2.2.1) && (x.2.1 == x.2.2.2.1 || endB x.1))))))

/-- The first k may be. -/
def FstC (d : Nat) (l : List (Chg d)) (k : Nat) : Prop := ∀ i (h : i < l.length), i < k → okC d l[i] = true ∧ (0 < i → apB (l[i - 1]'(by omega)).1 l[i].1 = true)
noncomputable def chB (d : Nat) (l : List (Chg d)) : Bool := @decide (l.length ≤ 80 ∧ FstC d l l.length) (Classical.propDecidable _)
theorem chB_long {d : Nat} {l : List (Chg d)} (h : 80 < l.length) : chB d l = false := by
  unfold chB
  exact @decide_eq_false _ (Classical.propDecidable _) (fun ⟨h1, _⟩ => by omega)
theorem chB_yes {d : Nat} {l : List (Chg d)} (h : l.length ≤ 80) (h2 : FstC d l l.length) : chB d l = true := by
  unfold chB
  exact @decide_eq_true _ (Classical.propDecidable _) ⟨h, h2⟩
theorem chB_bad {d : Nat} {l : List (Chg d)} {k : Nat} (hk : k < l.length) (h : okC d l[k] = false) : chB d l = false := by
  unfold chB
  refine @decide_eq_false _ (Classical.propDecidable _) (fun ⟨_, h2⟩ => ?_)
  rw [(h2 k hk hk).1] at h
  exact absurd h (by decide)
theorem chB_near {d : Nat} {l : List (Chg d)} {k : Nat} (hk : k < l.length) (h0 : 0 < k) (h : apB (l[k - 1]'(by omega)).1 l[k].1 = false) : chB d l = false := by
  unfold chB
  refine @decide_eq_false _ (Classical.propDecidable _) (fun ⟨_, h2⟩ => ?_)
  rw [(h2 k hk hk).2 h0] at h
  exact absurd h (by decide)
theorem fstC_zero (d : Nat) (l : List (Chg d)) : FstC d l 0 := fun i _ h => by omega
theorem fstC_next {d : Nat} {l : List (Chg d)} {k : Nat} (h : FstC d l k) (hk : k < l.length) (h1 : okC d l[k] = true) (h2 : 0 < k → apB (l[k - 1]'(by omega)).1 l[k].1 = true) : FstC d l (k + 1) := by
  intro i hi hik
  by_cases e : i = k
  · subst e
    exact ⟨h1, h2⟩
  · exact h i hi (by omega)

/-- The first k steps of a path in memory. -/
theorem PthSeg.take {R : Nat → Prop} {w : World} {a : Option Addr} {n cap : Nat} {l : List Stp} (h : PthSeg R w (.slice a n cap) l) (k : Nat) (hk : k ≤ l.length) : PthSeg R w (.slice a k cap) (l.take k) := by
  obtain ⟨a', cap', g1, g2, g3, g4, g5⟩ := h
  simp only [Value.slice.injEq] at g1
  obtain ⟨rfl, rfl, rfl⟩ := g1
  have e : (l.take k).length = k := by simp; omega
  refine ⟨a, cap, by rw [e], by omega, g3, g4, ?_⟩
  rcases g5 with e0 | ⟨b, off, hb, hR, hc⟩
  · left; rw [e0]; simp
  · refine .inr ⟨b, off, hb, hR, fun i hi => ?_⟩
    obtain ⟨e1, he, hv⟩ := hc i (by omega)
    refine ⟨e1, he, ?_⟩
    rw [List.getElem_take]
    exact hv
theorem pathB_take {l : List Stp} (h : pathB l = true) (k : Nat) : pathB (l.take k) = true := by
  unfold pathB at h ⊢
  simp only [Bool.and_eq_true, decide_eq_true_eq] at h ⊢
  refine ⟨by simp; omega, ?_⟩
  rw [List.all_eq_true] at h ⊢
  exact fun s hs => h.2 s (List.mem_of_mem_take hs)
end Go.Proofs.YtdhlmcgbgdljmaaGreatDoor
/-
  Rows of bytes of the call's own: an empty one, one byte laid in a block, a nil slice.
-/
namespace Go.Proofs.YtdhlmcgbgdljmaaGreatDoor
open Go.RowKit
set_option linter.unusedVariables false

theorem bts_empty (w : World) : Bts (w.alloc (.cells #[] 5)) w.heap.size (.slice (some ⟨w.heap.size, 0, none⟩) 0 0) [] :=
  ⟨by simp, by simpa [cellsOf] using World.ownsRow_lit (base := w.heap.size) (e := 5) (size := 1) w #[] 0 (Nat.le_refl _) (Nat.zero_le _) rfl⟩

/-- One byte that was laid in a block of its own. -/
theorem seg_one (w : World) (c : Int) (h : Byt c) : Seg (w.alloc (.cells #[.int .u8 c] 5)) (some ⟨w.heap.size, 0, none⟩) [c] := by
  refine ⟨by simpa using h, .inr ⟨w.heap.size, 0, rfl, fun i hi => ?_⟩⟩
  have : i = 0 := by simpa using hi
  subst this
  simp

theorem Bts.alloc {w : World} {base : Nat} {v : Value} {xs : List Int} (h : Bts w base v xs) (o : Obj) : Bts (w.alloc o) base v xs := ⟨h.1, h.2.alloc o⟩

theorem Bts.own {w : World} {base : Nat} {v : Value} {xs : List Int} (h : Bts w base v xs) : ∀ k, v.ownBlock = some k → base ≤ k := fun k hk => (h.2.lt k hk).1

theorem bts_nil (w : World) (base : Nat) : Bts w base (.slice none 0 0) [] := ⟨by simp, by simp [cellsOf], .inl ⟨rfl, rfl⟩⟩

end Go.Proofs.YtdhlmcgbgdljmaaGreatDoor
/-
  The decimal digits of a number, as bytes.
-/
namespace Go.Proofs.YtdhlmcgbgdljmaaGreatDoor
open Go.RowKit
set_option linter.unusedVariables false

/-- The digits of a number that is not below nought. -/
def decI (u : Nat) : List Int := (Lib.decDigits u).map fun b => (b.toNat : Int)
theorem decI_small {u : Nat} (h : u < 10) : decI u = [48 + (u : Int)] := by
  unfold decI
  rw [Lib.decDigits, dif_pos h]
  simp
  omega
theorem decI_big {u : Nat} (h : ¬ u < 10) : decI u = decI (u / 10) ++ [48 + ((u % 10 : Nat) : Int)] := by
  unfold decI
  rw [Lib.decDigits, dif_neg h]
  simp
  omega
theorem decI_byt (u : Nat) : ∀ x ∈ decI u, Byt x := by
  intro x hx
  simp only [decI, List.mem_map] at hx
  obtain ⟨b, _, rfl⟩ := hx
  have := b.toNat_lt
  unfold Byt
  omega
theorem decI_lenK : ∀ (k u : Nat), u < 10 ^ (k + 1) → (decI u).length ≤ k + 1
  | 0, u, h => by rw [decI_small (by simpa using h)]; simp
  | k + 1, u, h => by
    by_cases h1 : u < 10
    · rw [decI_small h1]; simp
    · rw [decI_big h1, List.length_append]
      rw [Nat.pow_succ] at h
      have := decI_lenK k (u / 10) (by omega)
      simp
      omega
theorem decI_len (u : Nat) (h : u < 18446744073709551616) : (decI u).length ≤ 20 := decI_lenK 19 u (by omega)

/-- One byte in a block of its own. -/
theorem bts_one (w : World) (c : Int) (h : Byt c) : Bts (w.alloc (.cells #[.int .u8 c] 5)) w.heap.size (.slice (some ⟨w.heap.size, 0, none⟩) 1 1) [c] :=
  ⟨by simpa using h, by simpa [cellsOf] using World.ownsRow_lit (base := w.heap.size) (e := 5) (size := 1) w #[.int .u8 c] 1 (Nat.le_refl _) (by unfold maxLen; omega) rfl⟩

theorem decI_two {u : Nat} (h : u < 100) : (decI u).length ≤ 2 := by
  by_cases h1 : u < 10
  · rw [decI_small h1]; simp
  · rw [decI_big h1, decI_small (by omega)]; simp
end Go.Proofs.YtdhlmcgbgdljmaaGreatDoor
/-
  DERIVED: THE SHELF's CONTRACTS AT THIS DUMP, IN PLAIN WORDS (tools/lay-plain.mjs out of 'TryzShelf.lean', which tools/lay-shelf.mjs wrote): THE SAME DECLARATIONS UNDER THE SAME NAMES: 'import', 'namespace', 'open', 'def', 'theorem' AND NOTHING ELSE: no command of the shelf's: FOR A HAND-IN. Each laying: the table of numbers ('.._ren') and one theorem, a field a fact of the dump's own or the kernel's comparison; each contract: ONE APPLICATION.
-/
namespace Go.Proofs
open Go.Shelf
def Tryz.laysM288_ren : Go.Shelf.Ren := ⟨fun | 288 => 75 | 283 => 85 | 284 => 86 | 285 => 87 | 286 => 88 | 129 => 99 | 317 => 110 | 318 => 111 | 319 => 112 | 320 => 113 | 337 => 120 | 338 => 121 | n => n, fun | 37 => 23 | 53 => 127 | 3 => 3 | 4 => 4 | 9 => 9 | 171 => 144 | 0 => 0 | 173 => 147 | 212 => 166 | 51 => 153 | 5 => 5 | 20 => 20 | 213 => 167 | 46 => 137 | 232 => 177 | 233 => 178 | n => n, fun | 17 => 0 | 18 => 1 | 19 => 2 | n => n⟩
theorem Tryz.laysM288 : Go.Proofs.LaysM.n288 Tryz.prog Tryz.laysM288_ren := {
  mixed := by kernel_rfl
  f129 := Tryz.func99.trans (congrArg some (by kernel_rfl))
  f283 := Tryz.func85.trans (congrArg some (by kernel_rfl))
  f284 := Tryz.func86.trans (congrArg some (by kernel_rfl))
  f285 := Tryz.func87.trans (congrArg some (by kernel_rfl))
  f286 := Tryz.func88.trans (congrArg some (by kernel_rfl))
  f288 := Tryz.func75.trans (congrArg some (by kernel_rfl))
  f317 := Tryz.func110.trans (congrArg some (by kernel_rfl))
  f318 := Tryz.func111.trans (congrArg some (by kernel_rfl))
  f319 := Tryz.func112.trans (congrArg some (by kernel_rfl))
  f320 := Tryz.func113.trans (congrArg some (by kernel_rfl))
  f337 := Tryz.func120.trans (congrArg some (by kernel_rfl))
  f338 := Tryz.func121.trans (congrArg some (by kernel_rfl))
  t0 := Tryz.underlying0
  a0 := Tryz.isAgg0
  z0 := Tryz.sizeOf0
  v0 := Tryz.zeroValue0
  t3 := Tryz.underlying3
  a3 := Tryz.isAgg3
  z3 := Tryz.sizeOf3
  v3 := Tryz.zeroValue3
  t4 := Tryz.underlying4
  a4 := Tryz.isAgg4
  z4 := Tryz.sizeOf4
  v4 := Tryz.zeroValue4
  t5 := Tryz.underlying5
  a5 := Tryz.isAgg5
  z5 := Tryz.sizeOf5
  v5 := Tryz.zeroValue5
  t9 := Tryz.underlying9
  a9 := Tryz.isAgg9
  z9 := Tryz.sizeOf9
  v9 := Tryz.zeroValue9
  t20 := Tryz.underlying20
  a20 := Tryz.isAgg20
  z20 := Tryz.sizeOf20
  v20 := Tryz.zeroValue20
  t37 := Tryz.underlying23
  a37 := Tryz.isAgg23
  z37 := Tryz.sizeOf23
  v37 := Tryz.zeroValue23
  t46 := Tryz.underlying137
  a46 := Tryz.isAgg137
  z46 := Tryz.sizeOf137
  v46 := Tryz.zeroValue137
  t51 := Tryz.underlying153
  a51 := Tryz.isAgg153
  z51 := Tryz.sizeOf153
  v51 := Tryz.zeroValue153
  t53 := Tryz.underlying127
  a53 := Tryz.isAgg127
  z53 := Tryz.sizeOf127
  v53 := Tryz.zeroValue127
  t171 := Tryz.underlying144
  a171 := Tryz.isAgg144
  z171 := Tryz.sizeOf144
  v171 := Tryz.zeroValue144
  t173 := Tryz.underlying147
  a173 := Tryz.isAgg147
  z173 := Tryz.sizeOf147
  v173 := Tryz.zeroValue147
  t212 := Tryz.underlying166
  a212 := Tryz.isAgg166
  z212 := Tryz.sizeOf166
  v212 := Tryz.zeroValue166
  t213 := Tryz.underlying167
  a213 := Tryz.isAgg167
  z213 := Tryz.sizeOf167
  t232 := Tryz.underlying177
  a232 := Tryz.isAgg177
  z232 := Tryz.sizeOf177
  v232 := Tryz.zeroValue177
  t233 := Tryz.underlying178
  a233 := Tryz.isAgg178
  z233 := Tryz.sizeOf178
  v233 := Tryz.zeroValue178
  g17 := by kernel_rfl
  g18 := by kernel_rfl
  g19 := by kernel_rfl
  i0 := by kernel_rfl
  i3 := by kernel_rfl
  i4 := by kernel_rfl
  i5 := by kernel_rfl
  i9 := by kernel_rfl
  i20 := by kernel_rfl
  i37 := by kernel_rfl
  i46 := by kernel_rfl
  i51 := by kernel_rfl
  i53 := by kernel_rfl
  i171 := by kernel_rfl
  i173 := by kernel_rfl
  i212 := by kernel_rfl
  i232 := by kernel_rfl
  i233 := by kernel_rfl
  m17 := by kernel_rfl
  m18 := by kernel_rfl
  m19 := by kernel_rfl }
def Tryz.laysM176_ren : Go.Shelf.Ren := ⟨fun | 176 => 48 | 249 => 66 | 288 => 75 | 283 => 85 | 284 => 86 | 285 => 87 | 286 => 88 | 129 => 99 | 317 => 110 | 318 => 111 | 319 => 112 | 320 => 113 | 337 => 120 | 338 => 121 | n => n, fun | 37 => 23 | 2 => 2 | 3 => 3 | 53 => 127 | 4 => 4 | 9 => 9 | 171 => 144 | 0 => 0 | 173 => 147 | 212 => 166 | 51 => 153 | 5 => 5 | 20 => 20 | 213 => 167 | 46 => 137 | 232 => 177 | 233 => 178 | n => n, fun | 17 => 0 | 18 => 1 | 19 => 2 | n => n⟩
theorem Tryz.laysM176 : Go.Proofs.LaysM.n176 Tryz.prog Tryz.laysM176_ren := {
  mixed := by kernel_rfl
  f129 := Tryz.func99.trans (congrArg some (by kernel_rfl))
  f176 := Tryz.func48.trans (congrArg some (by kernel_rfl))
  f249 := Tryz.func66.trans (congrArg some (by kernel_rfl))
  f283 := Tryz.func85.trans (congrArg some (by kernel_rfl))
  f284 := Tryz.func86.trans (congrArg some (by kernel_rfl))
  f285 := Tryz.func87.trans (congrArg some (by kernel_rfl))
  f286 := Tryz.func88.trans (congrArg some (by kernel_rfl))
  f288 := Tryz.func75.trans (congrArg some (by kernel_rfl))
  f317 := Tryz.func110.trans (congrArg some (by kernel_rfl))
  f318 := Tryz.func111.trans (congrArg some (by kernel_rfl))
  f319 := Tryz.func112.trans (congrArg some (by kernel_rfl))
  f320 := Tryz.func113.trans (congrArg some (by kernel_rfl))
  f337 := Tryz.func120.trans (congrArg some (by kernel_rfl))
  f338 := Tryz.func121.trans (congrArg some (by kernel_rfl))
  t0 := Tryz.underlying0
  a0 := Tryz.isAgg0
  z0 := Tryz.sizeOf0
  v0 := Tryz.zeroValue0
  t2 := Tryz.underlying2
  a2 := Tryz.isAgg2
  z2 := Tryz.sizeOf2
  v2 := Tryz.zeroValue2
  t3 := Tryz.underlying3
  a3 := Tryz.isAgg3
  z3 := Tryz.sizeOf3
  v3 := Tryz.zeroValue3
  t4 := Tryz.underlying4
  a4 := Tryz.isAgg4
  z4 := Tryz.sizeOf4
  v4 := Tryz.zeroValue4
  t5 := Tryz.underlying5
  a5 := Tryz.isAgg5
  z5 := Tryz.sizeOf5
  v5 := Tryz.zeroValue5
  t9 := Tryz.underlying9
  a9 := Tryz.isAgg9
  z9 := Tryz.sizeOf9
  v9 := Tryz.zeroValue9
  t20 := Tryz.underlying20
  a20 := Tryz.isAgg20
  z20 := Tryz.sizeOf20
  v20 := Tryz.zeroValue20
  t37 := Tryz.underlying23
  a37 := Tryz.isAgg23
  z37 := Tryz.sizeOf23
  v37 := Tryz.zeroValue23
  t46 := Tryz.underlying137
  a46 := Tryz.isAgg137
  z46 := Tryz.sizeOf137
  v46 := Tryz.zeroValue137
  t51 := Tryz.underlying153
  a51 := Tryz.isAgg153
  z51 := Tryz.sizeOf153
  v51 := Tryz.zeroValue153
  t53 := Tryz.underlying127
  a53 := Tryz.isAgg127
  z53 := Tryz.sizeOf127
  v53 := Tryz.zeroValue127
  t171 := Tryz.underlying144
  a171 := Tryz.isAgg144
  z171 := Tryz.sizeOf144
  v171 := Tryz.zeroValue144
  t173 := Tryz.underlying147
  a173 := Tryz.isAgg147
  z173 := Tryz.sizeOf147
  v173 := Tryz.zeroValue147
  t212 := Tryz.underlying166
  a212 := Tryz.isAgg166
  z212 := Tryz.sizeOf166
  v212 := Tryz.zeroValue166
  t213 := Tryz.underlying167
  a213 := Tryz.isAgg167
  z213 := Tryz.sizeOf167
  t232 := Tryz.underlying177
  a232 := Tryz.isAgg177
  z232 := Tryz.sizeOf177
  v232 := Tryz.zeroValue177
  t233 := Tryz.underlying178
  a233 := Tryz.isAgg178
  z233 := Tryz.sizeOf178
  v233 := Tryz.zeroValue178
  g17 := by kernel_rfl
  g18 := by kernel_rfl
  g19 := by kernel_rfl
  i0 := by kernel_rfl
  i2 := by kernel_rfl
  i3 := by kernel_rfl
  i4 := by kernel_rfl
  i5 := by kernel_rfl
  i9 := by kernel_rfl
  i20 := by kernel_rfl
  i37 := by kernel_rfl
  i46 := by kernel_rfl
  i51 := by kernel_rfl
  i53 := by kernel_rfl
  i171 := by kernel_rfl
  i173 := by kernel_rfl
  i212 := by kernel_rfl
  i232 := by kernel_rfl
  i233 := by kernel_rfl
  m17 := by kernel_rfl
  m18 := by kernel_rfl
  m19 := by kernel_rfl }
def Tryz.laysGg6_ren : Go.Shelf.Ren := ⟨fun | 6 => 67 | 10 => 76 | 11 => 77 | 12 => 78 | 13 => 79 | 14 => 80 | 24 => 98 | 25 => 99 | 26 => 100 | 27 => 101 | 28 => 102 | 29 => 103 | 30 => 104 | 31 => 105 | 32 => 106 | 33 => 107 | 34 => 114 | 35 => 115 | 36 => 116 | 37 => 117 | 38 => 118 | 39 => 122 | n => n, fun | 20 => 20 | 26 => 118 | 35 => 132 | 0 => 0 | 37 => 134 | 3 => 3 | 41 => 137 | 44 => 140 | 49 => 153 | 51 => 127 | 4 => 4 | 54 => 156 | 53 => 155 | 58 => 160 | 5 => 5 | 9 => 9 | 60 => 168 | 64 => 172 | 66 => 174 | 67 => 175 | 17 => 17 | 32 => 129 | 33 => 130 | 82 => 192 | 12 => 12 | 75 => 185 | 76 => 186 | 77 => 187 | 78 => 188 | 79 => 189 | 80 => 190 | n => n, fun | n => n⟩
theorem Tryz.laysGg6 : Go.Proofs.LaysGg.n6 Tryz.prog Tryz.laysGg6_ren := {
  mixed := by kernel_rfl
  f6 := Tryz.func67.trans (congrArg some (by kernel_rfl))
  f10 := Tryz.func76.trans (congrArg some (by kernel_rfl))
  f11 := Tryz.func77.trans (congrArg some (by kernel_rfl))
  f12 := Tryz.func78.trans (congrArg some (by kernel_rfl))
  f13 := Tryz.func79.trans (congrArg some (by kernel_rfl))
  f14 := Tryz.func80.trans (congrArg some (by kernel_rfl))
  f24 := Tryz.func98.trans (congrArg some (by kernel_rfl))
  f25 := Tryz.func99.trans (congrArg some (by kernel_rfl))
  f26 := Tryz.func100.trans (congrArg some (by kernel_rfl))
  f27 := Tryz.func101.trans (congrArg some (by kernel_rfl))
  f28 := Tryz.func102.trans (congrArg some (by kernel_rfl))
  f29 := Tryz.func103.trans (congrArg some (by kernel_rfl))
  f30 := Tryz.func104.trans (congrArg some (by kernel_rfl))
  f31 := Tryz.func105.trans (congrArg some (by kernel_rfl))
  f32 := Tryz.func106.trans (congrArg some (by kernel_rfl))
  f33 := Tryz.func107.trans (congrArg some (by kernel_rfl))
  f34 := Tryz.func114.trans (congrArg some (by kernel_rfl))
  f35 := Tryz.func115.trans (congrArg some (by kernel_rfl))
  f36 := Tryz.func116.trans (congrArg some (by kernel_rfl))
  f37 := Tryz.func117.trans (congrArg some (by kernel_rfl))
  f38 := Tryz.func118.trans (congrArg some (by kernel_rfl))
  f39 := Tryz.func122.trans (congrArg some (by kernel_rfl))
  t0 := Tryz.underlying0
  a0 := Tryz.isAgg0
  z0 := Tryz.sizeOf0
  v0 := Tryz.zeroValue0
  i0 := by kernel_rfl
  t3 := Tryz.underlying3
  a3 := Tryz.isAgg3
  z3 := Tryz.sizeOf3
  v3 := Tryz.zeroValue3
  i3 := by kernel_rfl
  t4 := Tryz.underlying4
  a4 := Tryz.isAgg4
  z4 := Tryz.sizeOf4
  v4 := Tryz.zeroValue4
  i4 := by kernel_rfl
  t5 := Tryz.underlying5
  a5 := Tryz.isAgg5
  z5 := Tryz.sizeOf5
  v5 := Tryz.zeroValue5
  i5 := by kernel_rfl
  t9 := Tryz.underlying9
  a9 := Tryz.isAgg9
  z9 := Tryz.sizeOf9
  v9 := Tryz.zeroValue9
  i9 := by kernel_rfl
  t12 := Tryz.underlying12
  a12 := Tryz.isAgg12
  z12 := Tryz.sizeOf12
  v12 := Tryz.zeroValue12
  i12 := by kernel_rfl
  t17 := Tryz.underlying17
  a17 := Tryz.isAgg17
  z17 := Tryz.sizeOf17
  v17 := Tryz.zeroValue17
  i17 := by kernel_rfl
  t20 := Tryz.underlying20
  a20 := Tryz.isAgg20
  z20 := Tryz.sizeOf20
  v20 := Tryz.zeroValue20
  i20 := by kernel_rfl
  t26 := Tryz.underlying118
  a26 := Tryz.isAgg118
  z26 := Tryz.sizeOf118
  v26 := Tryz.zeroValue118
  i26 := by kernel_rfl
  t32 := Tryz.underlying129
  a32 := Tryz.isAgg129
  z32 := Tryz.sizeOf129
  v32 := Tryz.zeroValue129
  i32 := by kernel_rfl
  t33 := Tryz.underlying130
  a33 := Tryz.isAgg130
  z33 := Tryz.sizeOf130
  v33 := Tryz.zeroValue130
  i33 := by kernel_rfl
  t35 := Tryz.underlying132
  a35 := Tryz.isAgg132
  z35 := Tryz.sizeOf132
  v35 := Tryz.zeroValue132
  i35 := by kernel_rfl
  t37 := Tryz.underlying134
  a37 := Tryz.isAgg134
  z37 := Tryz.sizeOf134
  v37 := Tryz.zeroValue134
  i37 := by kernel_rfl
  t41 := Tryz.underlying137
  a41 := Tryz.isAgg137
  z41 := Tryz.sizeOf137
  v41 := Tryz.zeroValue137
  i41 := by kernel_rfl
  t44 := Tryz.underlying140
  a44 := Tryz.isAgg140
  z44 := Tryz.sizeOf140
  v44 := Tryz.zeroValue140
  i44 := by kernel_rfl
  t49 := Tryz.underlying153
  a49 := Tryz.isAgg153
  z49 := Tryz.sizeOf153
  v49 := Tryz.zeroValue153
  i49 := by kernel_rfl
  t51 := Tryz.underlying127
  a51 := Tryz.isAgg127
  z51 := Tryz.sizeOf127
  v51 := Tryz.zeroValue127
  i51 := by kernel_rfl
  t53 := Tryz.underlying155
  a53 := Tryz.isAgg155
  z53 := Tryz.sizeOf155
  v53 := Tryz.zeroValue155
  i53 := by kernel_rfl
  t54 := Tryz.underlying156
  a54 := Tryz.isAgg156
  z54 := Tryz.sizeOf156
  v54 := Tryz.zeroValue156
  i54 := by kernel_rfl
  t58 := Tryz.underlying160
  a58 := Tryz.isAgg160
  z58 := Tryz.sizeOf160
  v58 := Tryz.zeroValue160
  i58 := by kernel_rfl
  t60 := Tryz.underlying168
  a60 := Tryz.isAgg168
  z60 := Tryz.sizeOf168
  v60 := Tryz.zeroValue168
  i60 := by kernel_rfl
  t64 := Tryz.underlying172
  a64 := Tryz.isAgg172
  z64 := Tryz.sizeOf172
  v64 := Tryz.zeroValue172
  i64 := by kernel_rfl
  t66 := Tryz.underlying174
  a66 := Tryz.isAgg174
  z66 := Tryz.sizeOf174
  v66 := Tryz.zeroValue174
  i66 := by kernel_rfl
  t67 := Tryz.underlying175
  a67 := Tryz.isAgg175
  z67 := Tryz.sizeOf175
  v67 := Tryz.zeroValue175
  i67 := by kernel_rfl
  t75 := Tryz.underlying185
  a75 := Tryz.isAgg185
  z75 := Tryz.sizeOf185
  v75 := Tryz.zeroValue185
  i75 := by kernel_rfl
  t76 := Tryz.underlying186
  a76 := Tryz.isAgg186
  z76 := Tryz.sizeOf186
  v76 := Tryz.zeroValue186
  i76 := by kernel_rfl
  t77 := Tryz.underlying187
  a77 := Tryz.isAgg187
  z77 := Tryz.sizeOf187
  v77 := Tryz.zeroValue187
  i77 := by kernel_rfl
  t78 := Tryz.underlying188
  a78 := Tryz.isAgg188
  z78 := Tryz.sizeOf188
  v78 := Tryz.zeroValue188
  i78 := by kernel_rfl
  t79 := Tryz.underlying189
  a79 := Tryz.isAgg189
  z79 := Tryz.sizeOf189
  v79 := Tryz.zeroValue189
  i79 := by kernel_rfl
  t80 := Tryz.underlying190
  a80 := Tryz.isAgg190
  z80 := Tryz.sizeOf190
  v80 := Tryz.zeroValue190
  i80 := by kernel_rfl
  t82 := Tryz.underlying192
  a82 := Tryz.isAgg192
  z82 := Tryz.sizeOf192
  v82 := Tryz.zeroValue192
  i82 := by kernel_rfl }
open Go.RowKit Go.Sort Go.Lib in
/-- internal/strconv.AppendUint(dst, i, 10), i BELOW 100: WHAT COMES BACK OWNS dst's CELLS AND, BEHIND THEM, i's DECIMAL NUMERAL. No table is read. Below the call's own blocks nothing has turned. (LAID: no walk: one application.) -/
theorem Tryz.internal_strconv_AppendUint_10_small (B n u : Nat) (hu : u < 100) (sv : Value) (xs : List Value) (w : World) (hown : w.ownsRow B 5 1 sv n xs) (hBw : B ≤ w.heap.size) (hlim : n + 20 ≤ 140737488355328) :
    Calls Tryz.prog 75 #[sv, .int .u64 u, .int .i64 10] w fun e w' => ∃ v', e = .returned v' ∧ w'.ownsRow B 5 1 v' (n + (Lib.decDigits u).length) (xs ++ Lib.byteCells (Lib.decDigits u)) ∧ Below B w w' ∧ Lib.OthersKept 5 none w w' := Any.internal_strconv_AppendUint_10_small Tryz.laysM288 B n u hu sv xs w hown hBw hlim
open Go.RowKit Go.Sort Go.Lib in
/-- strconv.AppendInt: "AppendInt appends the string form of the integer i, as generated by FormatInt, to dst and returns the extended buffer.": AT BASE 10: WHAT COMES BACK OWNS dst's CELLS AND, BEHIND THEM, i's DECIMAL NUMERAL ('Lib.itoa i': at most 20 bytes), for every int64. Below the call's own blocks nothing has turned. (LAID: no walk: one application.) -/
theorem Tryz.strconv_AppendInt_10 (B n : Nat) (i : Int) (h0 : -9223372036854775808 ≤ i) (h1 : i ≤ 9223372036854775807) (sv : Value) (xs : List Value) (w : World) (hown : w.ownsRow B 5 1 sv n xs) (hBw : B ≤ w.heap.size) (hlim : n + 21 ≤ 140737488355328) (htab : Lib.TabBelow Tryz.prog B w "internal/strconv.uint64pow10" .u64 Lib.pow10Tab) :
    Calls Tryz.prog 48 #[sv, .int .i64 i, .int .i64 10] w fun e w' => ∃ v', e = .returned v' ∧ w'.ownsRow B 5 1 v' (n + (Lib.itoa i).length) (xs ++ Lib.byteCells (Lib.itoa i)) ∧ Below B w w' ∧ Lib.OthersKept 5 none w w' := Any.strconv_AppendInt_10 Tryz.laysM176 B n i h0 h1 sv xs w hown hBw hlim htab
end Go.Proofs
/-
  strconv.AppendInt at a small number: its digits behind what is there.
-/
namespace Go.Proofs.YtdhlmcgbgdljmaaGreatDoor
open Go.RowKit
set_option linter.unusedVariables false

theorem byteCells_decI (u : Nat) : Lib.byteCells (Lib.decDigits u) = cellsOf (decI u) := by
  unfold Lib.byteCells cellsOf decI
  rw [List.map_map]
  rfl
theorem length_decI (u : Nat) : (Lib.decDigits u).length = (decI u).length := by simp [decI]

set_option maxHeartbeats 800000 in
theorem AppendInt_kept (B u : Nat) (sv : Value) (xs : List Int) (w : World) (hu : u < 100) (hB : Bts w B sv xs) (hBw : B ≤ w.heap.size) (hl : xs.length ≤ 2097152) :
    Calls Tryz.prog 48 #[sv, .int .i64 u, .int .i64 10] w fun e w' => ∃ v, e = .returned v ∧ Bts w' B v (xs ++ decI u) ∧ Below B w w' ∧ Lib.OthersKept 5 none w w' := by
  have HU := hide' (Tryz.internal_strconv_AppendUint_10_small B xs.length u hu sv (cellsOf xs) w hB.2 hBw (by omega))
  have HF : Hid (∀ v' w', w'.ownsRow B 5 1 v' (xs.length + (Lib.decDigits u).length) (cellsOf xs ++ Lib.byteCells (Lib.decDigits u)) → Bts w' B v' (xs ++ decI u)) := by
    intro v' w' h
    refine ⟨?_, ?_⟩
    · intro z hz
      rcases List.mem_append.1 hz with h1 | h1
      · exact hB.1 z h1
      · exact decI_byt u z h1
    · rw [byteCells_decI, length_decI, ← cellsOf_append] at h
      rw [List.length_append]
      exact h
  have h0 : ¬ (u : Int) < 0 := by omega
  have HI : Hid (Calls Tryz.prog 66 #[sv, .int .i64 u, .int .i64 10] w fun e w' => ∃ v, e = .returned v ∧ Bts w' B v (xs ++ decI u) ∧ Below B w w' ∧ Lib.OthersKept 5 none w w') := by
    show Calls _ _ _ _ _
    clear hB
    go_enter Tryz.func66, Tryz.ntmps66
    go_wp2_with fail
    refine HU.out.mono ?_
    rintro e w1 ⟨v1, rfl, ho, hb, hk⟩
    have HB := hide' (HF.out _ _ ho)
    clear ho
    go_wp2
    go_ret
    exact ⟨_, rfl, HB.out, hb, hk⟩
  clear hB HU HF
  go_enter Tryz.func48, Tryz.ntmps48
  go_wp2_with fail
  refine HI.out.mono ?_
  rintro e w1 ⟨v1, rfl, hB1, hb, hk⟩
  go_wp2
  go_ret
  exact ⟨_, rfl, hB1, hb, hk⟩

theorem AppendInt_small (B u : Nat) (sv : Value) (xs : List Int) (w : World) (hu : u < 100) (hB : Bts w B sv xs) (hBw : B ≤ w.heap.size) (hl : xs.length ≤ 2097152) :
    Calls Tryz.prog 48 #[sv, .int .i64 u, .int .i64 10] w fun e w' => ∃ v, e = .returned v ∧ Bts w' B v (xs ++ decI u) ∧ Below B w w' :=
  (AppendInt_kept B u sv xs w hu hB hBw hl).mono fun e w' ⟨v, h1, h2, h3, _⟩ => ⟨v, h1, h2, h3⟩
end Go.Proofs.YtdhlmcgbgdljmaaGreatDoor
/-
  l2digits of the specification at a number that is not below nought.
-/
namespace Go.Proofs.YtdhlmcgbgdljmaaGreatDoor
open Go.RowKit
set_option linter.unusedVariables false

set_option maxHeartbeats 1600000 in
theorem l2digits_nat (u : Nat) : u ≤ 1000000000000000000 → ∀ (w : World),
    Calls Tryz.prog 36 #[.int .i64 u] w fun e w' => ∃ v, e = .returned v ∧ Bts w' w.heap.size v (decI u) ∧ Below w.heap.size w w' := by
  induction u using Nat.strongRecOn with
  | ind u ih =>
    intro hu w
    have h0 : ¬ (u : Int) < 0 := by omega
    by_cases h : u < 10
    · have h' : (u : Int) < 10 := by omega
      have hd := decI_small h
      have hB := bts_one w (48 + (u : Int)) (by unfold Byt; omega)
      have hb : Below w.heap.size w (w.alloc (.cells #[.int .u8 (48 + (u : Int))] 5)) := (Below.refl _ _).alloc (Nat.le_refl _) _
      have Hd := hide' hd
      clear hd ih
      go_enter Tryz.func36, Tryz.ntmps36
      go_wp2
      go_ret
      exact ⟨_, rfl, by rw [Hd.out]; exact hB, hb⟩
    · have h' : ¬ (u : Int) < 10 := by omega
      have Hd := hide' (decI_big h)
      have HI := hide' (ih (u / 10) (by omega) (by omega) w)
      have hln := decI_len (u / 10) (by omega)
      have hq : ((u / 10 : Nat) : Int) = (u : Int) / 10 := by omega
      have hr : ((u % 10 : Nat) : Int) = (u : Int) % 10 := by omega
      rw [hr] at Hd
      rw [hq] at HI
      have hc1 : 0 ≤ (u : Int) % 10 ∧ (u : Int) % 10 < 10 := by omega
      clear ih hq hr
      go_enter Tryz.func36, Tryz.ntmps36
      go_wp2_with fail
      refine HI.out.mono ?_
      rintro e w1 ⟨v1, rfl, hv1, b1⟩
      have z1 := b1.size
      have hS : Seg (w1.alloc (.cells #[.int .u8 (48 + (u : Int) % 10)] 5)) (some ⟨w1.heap.size, 0, none⟩) [48 + (u : Int) % 10] := seg_one w1 _ (by unfold Byt; omega)
      have hA := hv1.alloc (.cells #[.int .u8 (48 + (u : Int) % 10)] 5)
      have hb2 : Below w.heap.size w (w1.alloc (.cells #[.int .u8 (48 + (u : Int) % 10)] 5)) := b1.alloc z1 _
      go_wp2_with (at_builtin; refine wpList_append_seg rfl (.tmp 18) (.tmp 23) (by rfl) w.heap.size v1 (decI (u / 10)) [48 + (u : Int) % 10] (by rfl) hA _ 1 1 rfl (by rfl) hS (by simp) (by simp; omega) (by simp; omega) ?_; intro v2 w2 hv2 hg2)
      go_ret
      exact ⟨_, rfl, by rw [Hd.out]; exact hv2, hb2.grown hg2 (by simp; omega) hv1.own⟩
end Go.Proofs.YtdhlmcgbgdljmaaGreatDoor
/-
  'append(own, ys...)' as a step of a region that draws its order.
-/
namespace Go.Proofs.YtdhlmcgbgdljmaaGreatDoor
open Go.RowKit
set_option linter.unusedVariables false
set_option linter.unusedSimpArgs false

theorem step_append_seg {ops : Array Oper} {o : Oper} {a : Act} {w : World} {K : Act → World → Prop} {Q : Exit → Act → World → Prop} {E : Prop} (hgd : o.guard = none) (s x : Operand)
    (ho : o.op = .call { callee := .builtin .append, args := #[s, x], argTypes := #[23, 23] })
    (base : Nat) (v : Value) (xs ys : List Int) (hs : a.eval s = v) (hB : Bts w base v xs) (ad : Option Addr) (m c : Nat) (hm : m = ys.length) (hx : a.eval x = .slice ad m c) (hS : Seg w ad ys) (hc : ad = none → c = 0)
    (hlen : xs.length + ys.length ≤ 1099511627776) (hbase : base ≤ w.heap.size)
    (h : ∀ v' w', Bts w' base v' (xs ++ ys) → w.grownBy w' v.ownBlock → K (a.put o.dst v') w') : if Region.wanted o (yielded ops a.tmps) = true then Oper.wp Tryz.prog o a w K Q else E := by
  have hw : Region.wanted o (yielded ops a.tmps) = true := by simp [Region.wanted, hgd]
  rw [if_pos hw]
  obtain ⟨i0, hi, hz0, hz1, hz2⟩ := info_parts info5
  have hbyt : ∀ z ∈ xs ++ ys, Byt z := by
    intro z hz
    rcases List.mem_append.1 hz with h1 | h1
    · exact hB.1 z h1
    · exact hS.1 z h1
  subst hm
  cases ad with
  | none =>
    have hc0 := hc rfl
    have hy : ys = [] := by
      rcases hS.2 with h0 | ⟨b, off, h1, _⟩
      · exact h0
      · simp at h1
    subst hc0
    subst hy
    have hrun := run_append_owned_none (P := Tryz.prog) (w := w) base 23 o.type 5 i0 1 Tryz.underlying23 hi v xs.length (cellsOf xs) hB.2
    unfold Oper.wp
    simp only [List.length_nil] at hx
    simp [execOp, ho, resolve, invoke, builtin, hs, hx, hrun, Result.andThen]
    exact h v w (by simpa using hB) (World.grownBy.refl _ _)
  | some ad =>
    obtain ⟨v', w', hrun, r1, r2, _⟩ := run_append_own (P := Tryz.prog) w base 23 o.type 5 i0 (.int .u8 0) 1 1 Tryz.underlying23 hi hz0 hz1 hz2 rfl (by decide) v xs.length (cellsOf xs) hB.2 ad ys.length c (cellsOf ys) (by simp [cellsOf])
      (by
        intro j u hu
        rcases hS.2 with h0 | ⟨b, off, h1, h2⟩
        · subst h0; simp [cellsOf] at hu
        · simp at h1
          subst h1
          have hj : j < ys.length := by
            have := (List.getElem?_eq_some_iff.1 hu).1
            simpa [cellsOf] using this
          rw [Addr.add_lit, h2 j hj]
          simp [cellsOf, hj] at hu
          simp [hj, hu])
      (by
        intro u hu
        simp only [cellsOf, List.mem_map] at hu
        obtain ⟨q, _, rfl⟩ := hu
        rfl)
      (by unfold maxLen; omega) (by omega) hbase
    unfold Oper.wp
    simp [execOp, ho, resolve, invoke, builtin, hs, hx, hrun, Result.andThen]
    exact h v' w' ⟨hbyt, by rw [cellsOf_append]; simpa using r1⟩ r2

end Go.Proofs.YtdhlmcgbgdljmaaGreatDoor
