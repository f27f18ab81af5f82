/-
  Texts that a law leans on, one behind the other; no statement is proved here.
-/
import Derived.Shelf.Small.Bits
import Derived.Shelf.Strconv.Itoa0
import Derived.Shelf.SlSortCmp.NoneTotal
import Derived.Ground.SlsfProg
import Derived.Shelf.SlGeneric
import Derived.Test.YtcdonbepfmhdpaaProg
import Derived.Test.YtcdonbepfmhdpaaPk9
import Derived.Test.YtcdonbepfmhdpaaPk7
import Derived.Deep.AppendLies
/-
  DERIVED: THE SHELF's CONTRACTS AT THIS DUMP, IN PLAIN WORDS (tools/lay-plain.mjs out of 'TryShelf.lean', which tools/lay-shelf.mjs wrote): THE SAME DECLARATIONS UNDER THE SAME NAMES: 'import', 'namespace', 'open', 'def', 'theorem' AND NOTHING ELSE: no command of the shelf's: FOR A HAND-IN. Each laying: the table of numbers ('.._ren') and one theorem, a field a fact of the dump's own or the kernel's comparison; each contract: ONE APPLICATION.
-/
namespace Go.Proofs
open Go.Shelf
def Try.sortE_ren : Go.Shelf.Ren := ⟨fun | 6 => 24 | 15 => 45 | 14 => 44 | 28 => 62 | 29 => 63 | 20 => 54 | 21 => 55 | 22 => 56 | 23 => 57 | 24 => 58 | 25 => 59 | 26 => 60 | 27 => 61 | 46 => 64 | 47 => 65 | 48 => 66 | 49 => 67 | 50 => 68 | 57 => 69 | n => n, fun | 22 => 23 | 24 => 36 | 25 => 48 | 3 => 3 | 39 => 75 | 0 => 0 | 53 => 52 | 55 => 98 | 4 => 4 | 46 => 90 | 45 => 89 | 50 => 94 | 5 => 5 | 9 => 9 | 66 => 100 | 70 => 104 | 76 => 106 | 77 => 107 | n => n, fun | n => n⟩
theorem Try.sortE : Go.Proofs.SlLaysF0.n6 Try.prog Try.sortE_ren := {
  mixed := by kernel_rfl
  f6 := ⟨Try.f24.name, by decide, Try.func24.trans (congrArg some (by kernel_rfl))⟩
  f14 := ⟨Try.f44.name, by decide, Try.func44.trans (congrArg some (by kernel_rfl))⟩
  f15 := Try.func45.trans (congrArg some (by kernel_rfl))
  f20 := ⟨Try.f54.name, by decide, Try.func54.trans (congrArg some (by kernel_rfl))⟩
  f21 := ⟨Try.f55.name, by decide, Try.func55.trans (congrArg some (by kernel_rfl))⟩
  f22 := ⟨Try.f56.name, by decide, Try.func56.trans (congrArg some (by kernel_rfl))⟩
  f23 := ⟨Try.f57.name, by decide, Try.func57.trans (congrArg some (by kernel_rfl))⟩
  f24 := ⟨Try.f58.name, by decide, Try.func58.trans (congrArg some (by kernel_rfl))⟩
  f25 := ⟨Try.f59.name, by decide, Try.func59.trans (congrArg some (by kernel_rfl))⟩
  f26 := ⟨Try.f60.name, by decide, Try.func60.trans (congrArg some (by kernel_rfl))⟩
  f27 := ⟨Try.f61.name, by decide, Try.func61.trans (congrArg some (by kernel_rfl))⟩
  f28 := Try.func62.trans (congrArg some (by kernel_rfl))
  f29 := Try.func63.trans (congrArg some (by kernel_rfl))
  f46 := ⟨Try.f64.name, by decide, Try.func64.trans (congrArg some (by kernel_rfl))⟩
  f47 := Try.func65.trans (congrArg some (by kernel_rfl))
  f48 := Try.func66.trans (congrArg some (by kernel_rfl))
  f49 := ⟨Try.f67.name, by decide, Try.func67.trans (congrArg some (by kernel_rfl))⟩
  f50 := ⟨Try.f68.name, by decide, Try.func68.trans (congrArg some (by kernel_rfl))⟩
  f57 := ⟨Try.f69.name, by decide, Try.func69.trans (congrArg some (by kernel_rfl))⟩
  t0 := Try.underlying0
  a0 := Try.isAgg0
  z0 := Try.sizeOf0
  v0 := Try.zeroValue0
  t3 := Try.underlying3
  a3 := Try.isAgg3
  z3 := Try.sizeOf3
  v3 := Try.zeroValue3
  t4 := Try.underlying4
  a4 := Try.isAgg4
  z4 := Try.sizeOf4
  v4 := Try.zeroValue4
  t5 := Try.underlying5
  a5 := Try.isAgg5
  z5 := Try.sizeOf5
  v5 := Try.zeroValue5
  t9 := Try.underlying9
  a9 := Try.isAgg9
  z9 := Try.sizeOf9
  v9 := Try.zeroValue9
  t22 := Try.underlying23
  a22 := Try.isAgg23
  z22 := Try.sizeOf23
  v22 := Try.zeroValue23
  t25 := Try.underlying48
  a25 := Try.isAgg48
  z25 := Try.sizeOf48
  v25 := Try.zeroValue48
  t39 := Try.underlying75
  a39 := Try.isAgg75
  z39 := Try.sizeOf75
  v39 := Try.zeroValue75
  t45 := Try.underlying89
  a45 := Try.isAgg89
  z45 := Try.sizeOf89
  v45 := Try.zeroValue89
  t46 := Try.underlying90
  a46 := Try.isAgg90
  z46 := Try.sizeOf90
  v46 := Try.zeroValue90
  t50 := Try.underlying94
  a50 := Try.isAgg94
  z50 := Try.sizeOf94
  v50 := Try.zeroValue94
  t53 := Try.underlying52
  a53 := Try.isAgg52
  z53 := Try.sizeOf52
  v53 := Try.zeroValue52
  t55 := Try.underlying98
  a55 := Try.isAgg98
  z55 := Try.sizeOf98
  v55 := Try.zeroValue98
  t66 := Try.underlying100
  a66 := Try.isAgg100
  z66 := Try.sizeOf100
  v66 := Try.zeroValue100
  t70 := Try.underlying104
  a70 := Try.isAgg104
  z70 := Try.sizeOf104
  v70 := Try.zeroValue104
  t76 := Try.underlying106
  a76 := Try.isAgg106
  z76 := Try.sizeOf106
  v76 := Try.zeroValue106
  t77 := Try.underlying107
  a77 := Try.isAgg107
  z77 := Try.sizeOf107
  v77 := Try.zeroValue107 }
end Go.Proofs
/-
  Graphs: the library's slices.SortFunc over edges of the call's own, by the shelf's contract.
-/
namespace Go.Proofs.Ytcdonbepfmhdpaa
open Go.Shelf Go.RowKit Go.Lib Go.Sort
set_option linter.unusedVariables false
set_option linter.unusedSimpArgs false
set_option maxRecDepth 100000

/-- An edge as cells. -/
def encE (e : Edg) : List Value := [.int .i64 e.1, .int .i64 e.2]
theorem eC_flat (l : List Edg) : eC l = l.flatMap encE := by
  rw [List.flatMap_def]
  rfl

set_option maxHeartbeats 3200000 in
theorem cmpEdges_grow (a b : Edg) (w : World) :
    Calls Try.prog 23 #[.agg #[.int .i64 a.1, .int .i64 a.2], .agg #[.int .i64 b.1, .int .i64 b.2]] w fun e w' => e = .returned (.int .i64 (edgC a b)) ∧ ∃ q os', w' = grow (w.drewN q) os' := by
  obtain ⟨a1, a2⟩ := a
  obtain ⟨b1, b2⟩ := b
  simp only [edgC]
  have HR : Hid (∀ (o o' : Obj) (p q : Int), Calls Try.prog 42 #[.slice (some ⟨w.heap.size + 1 + 1, 0, none⟩) 2 2] (((w.alloc o).alloc o').alloc (.cells #[.int .i64 p, .int .i64 q] 3)).drew fun e w' => e = .returned (.int .i64 (or2 p q)) ∧ (((w.alloc o).alloc o').alloc (.cells #[.int .i64 p, .int .i64 q] 3)).drew = w') := by
    intro o o' p q
    obtain ⟨x0, x1, _⟩ := row2 (three_boxes w o o' (.cells #[.int .i64 p, .int .i64 q] 3)).2.2.1
    exact or2_any (w.heap.size + 1 + 1) p q (((w.alloc o).alloc o').alloc (.cells #[.int .i64 p, .int .i64 q] 3)).drew x0 x1
  have HG : Hid (∀ o o' o'' : Obj, ∃ q os', (((w.alloc o).alloc o').alloc o'').drew = grow (w.drewN q) os') := fun o o' o'' => ⟨1, _, by
    rw [alloc_eq_grow, alloc_eq_grow, alloc_eq_grow, grow_grow, grow_grow]
    rfl⟩
  go_enter Try.func23, Try.ntmps23
  go_wp2_with fail
  go_region_held3 (fun wx => wx.cell? ⟨w.heap.size, 0, none⟩ = some (.int .i64 a1) ∧ wx.cell? ⟨w.heap.size, 1, none⟩ = some (.int .i64 a2) ∧ wx.cell? ⟨w.heap.size + 1, 0, none⟩ = some (.int .i64 b1) ∧ wx.cell? ⟨w.heap.size + 1, 1, none⟩ = some (.int .i64 b2)) (go_keep) (first
    | (go_at_call 43; refine (cmpInt_any _ _ _).mono ?_; rintro e w1 ⟨rfl, e1⟩; obtain rfl := e1)
    | (go_at_call 42; refine (HR.out _ _ _ _).mono ?_; rintro e w1 ⟨rfl, e1⟩; obtain rfl := e1))
  all_goals
    go_wp2
    go_ret
    exact ⟨rfl, HG.out _ _ _⟩

theorem cmpLaysE (blk off size : Nat) (w : World) : CmpLays Try.prog 23 #[] encE 2 edgC blk off size w := fun _ _ _ _ x y => cmpEdges_grow x y _

theorem swoE : SWO (ltOf edgC) := by
  have h : ∀ a b, ltOf edgC a b = lessE a b := fun a b => edgC_dec a b
  refine ⟨fun x => ?_, fun x y z => ?_, fun x y z => ?_⟩
  · rw [h]
    simp only [lessE, Bool.or_eq_false_iff, Bool.and_eq_false_iff, decide_eq_false_iff_not]
    omega
  · rw [h, h, h]
    simp only [lessE, Bool.or_eq_true, Bool.and_eq_true, decide_eq_true_eq]
    omega
  · rw [h, h, h]
    simp only [lessE, Bool.or_eq_false_iff, Bool.and_eq_false_iff, decide_eq_false_iff_not]
    omega
theorem totE (x y : Edg) (h1 : ltOf edgC x y = false) (h2 : ltOf edgC y x = false) : x = y := leE_anti x y (by unfold leE; have : decide (edgC y x < 0) = false := h2; rw [this]; rfl) (by unfold leE; have : decide (edgC x y < 0) = false := h1; rw [this]; rfl)

theorem flatE_at : ∀ (es : List Edg) (t : Nat) (h : t / 2 < es.length), (es.flatMap encE)[t]? = some ((encE es[t / 2])[t % 2]!)
  | [], t, h => by simp at h
  | x :: es, t, h => by
    match t with
    | 0 => rfl
    | 1 => rfl
    | t + 2 =>
      have e1 : (t + 2) / 2 = t / 2 + 1 := by omega
      have e2 : (t + 2) % 2 = t % 2 := by omega
      have ih := flatE_at es t (by simp at h; omega)
      simp only [e1, e2, List.getElem_cons_succ, List.flatMap_cons]
      rw [← ih]
      rfl
theorem holdsE {w : World} {g : Nat} {cur : Array Value} {e : TypeId} {es : List Edg} (hb : w.heap[g]? = some (.cells cur e (0, 0))) (ht : cur.toList.take (es.length * 2) = eC es) : HoldsK encE 2 w g 0 es.toArray := by
  rw [eC_flat] at ht
  intro j hj
  rw [size_flatK] at hj
  have hj' : j < es.length * 2 := by simpa using hj
  refine ⟨?_, by simp [World.frozen?, hb]⟩
  have h1 : (cur.toList.take (es.length * 2))[j]? = (es.flatMap encE)[j]? := by rw [ht]
  rw [List.getElem?_take_of_lt hj', flatE_at es j (by omega)] at h1
  rw [get_flatK _ _ _ _ hj]
  simp only [World.cell?, hb, Nat.zero_add]
  simp only [Option.isSome_none, Bool.false_eq_true, if_false]
  rw [← Array.getElem?_toList, h1]
  have e3 : es.toArray[j / 2]! = es[j / 2]'(by omega) := by
    rw [getElem!_pos es.toArray (j / 2) (by simp; omega)]
    simp
  rw [e3]
  rfl
theorem grownE {w : World} {g n : Nat} {os : Array Obj} (d : Array Edg) : w.grownBy (grow (putRowK encE 2 (Sort.ahead w n) g 0 d) os) (some g) := by
  refine ⟨rfl, rfl, rfl, by simp [putRowK], fun k hk hne => ?_⟩
  rw [heap_grow_old _ _ (by simpa [putRowK] using hk)]
  have : g ≠ k := fun e => hne (by rw [e])
  simp [putRowK, putRow, mapBlock, Sort.ahead, Array.getElem?_modify, this]
theorem heapE {w : World} {g n : Nat} {os : Array Obj} {cur : Array Value} {e : TypeId} {fr : Nat × Nat} (d : Array Edg) (hb : w.heap[g]? = some (.cells cur e fr)) :
    (grow (putRowK encE 2 (Sort.ahead w n) g 0 d) os).heap[g]? = some (.cells (putCells id 0 (flatK encE 2 d) cur) e fr) := by
  have hg : g < w.heap.size := (Array.getElem?_eq_some_iff.1 hb).1
  rw [heap_grow_old _ _ (by simpa [putRowK] using hg)]
  simp [putRowK, putRow, mapBlock, Sort.ahead, Array.getElem?_modify, hb, onCells]
theorem takeE (cur : Array Value) (ts : List Edg) (h : ts.length * 2 ≤ cur.size) : (putCells id 0 (flatK encE 2 ts.toArray) cur).toList.take (ts.length * 2) = eC ts := by
  rw [eC_flat]
  apply List.ext_getElem?
  intro j
  by_cases hj : j < ts.length * 2
  · rw [List.getElem?_take_of_lt hj, Array.getElem?_toList, flatE_at ts j (by omega)]
    have h1 := get_flatK encE 2 ts.toArray j (by simpa using hj)
    have e3 : ts.toArray[j / 2]! = ts[j / 2]'(by omega) := by
      rw [getElem!_pos ts.toArray (j / 2) (by simp; omega)]
      simp
    rw [e3] at h1
    simp only [putCells, Array.getElem?_mapIdx, Array.getElem?_eq_getElem (show j < cur.size by omega), Option.map_some, size_flatK, List.size_toArray, Nat.zero_le, Nat.zero_add, Nat.sub_zero, true_and]
    rw [if_pos hj, h1]
    rfl
  · have hl : (ts.flatMap encE).length = ts.length * 2 := by rw [← eC_flat, eC_len]
    rw [List.getElem?_take_eq_none (by omega), List.getElem?_eq_none (by omega)]

/-- slices.SortFunc over edges of the call's own. -/
theorem sort_edges (base : Nat) (u : Value) (l : List Edg) (w : World) (h : EOwn w base u l) (hsz : l.length ≤ 400) :
    Calls Try.prog 24 #[u, .func (.func 23) #[] #[]] w fun e w' => e = .returned (.tuple #[]) ∧ EOwn w' base u (l.mergeSort leE) ∧ w.grownBy w' u.ownBlock := by
  have hml : (l.mergeSort leE).length = l.length := List.length_mergeSort l
  obtain ⟨h1, ⟨rfl, h2⟩ | ⟨g, cap, cur, rfl, hb, hg, hn, hm, hs, ht⟩⟩ := h
  · refine (AnyF.slices_SortFunc_none Try.sortE none 0 _ w).mono ?_
    rintro e w' ⟨rfl, rfl⟩
    have hl : l = [] := List.length_eq_zero_iff.1 h2
    subst hl
    refine ⟨rfl, ?_, ⟨rfl, rfl, rfl, Nat.le_refl _, fun _ _ _ => rfl⟩⟩
    rw [List.mergeSort_nil]
    exact EOwn.nil _ _
  · have hH := holdsE hg ht
    have hcon := AnyQ.slices_SortFunc_total Try.sortE 2 (fun w => Try.isAgg36 w) (fun w => Try.sizeOf36 w) encE (fun _ => rfl) (fun x v hv => by simp [encE] at hv; rcases hv with rfl | rfl <;> rfl) edgC swoE 23 #[] g 0 cap l.toArray w (enters_of Try.func23 (by kernel_rfl) rfl) (cmpLaysE g 0 l.toArray.size w) hH (Array.getElem?_eq_some_iff.1 hg).1 (by simp; omega) totE
    have e1 : l.toArray.size = l.length := by simp
    rw [e1] at hcon
    refine hcon.mono ?_
    rintro e w' ⟨rfl, n, os, rfl⟩
    have e2 : (l.toArray.toList.mergeSort fun x y => !(ltOf edgC) y x) = l.mergeSort leE := by
      simp only [List.toList_toArray]
      rfl
    rw [e2]
    refine ⟨rfl, ?_, grownE _⟩
    unfold EOwn sortWorldK
    rw [hml]
    refine ⟨by rw [eC_len, hml], .inr ⟨g, cap, _, rfl, hb, heapE _ hg, hn, hm, by simp [putCells, hs], ?_⟩⟩
    have := takeE cur (l.mergeSort leE) (by rw [hml, hs]; omega)
    rw [hml] at this
    exact this
end Go.Proofs.Ytcdonbepfmhdpaa
/-
  Turned of the program.
-/
namespace Go.Proofs.Ytcdonbepfmhdpaa
open Go.RowKit
set_option linter.unusedVariables false
set_option linter.unusedSimpArgs false

theorem turnA_len (n : Int) (E : List Edg) : (turnA n E).length ≤ 1048576 := by
  unfold turnA
  split
  · next h =>
    obtain ⟨h0, h1, h2, _⟩ := gB_iff.1 h
    have h3 := turnF_len E n.toNat
    have h4 : n.toNat * E.length ≤ 20 * 400 := Nat.mul_le_mul (by omega) h2
    omega
  · simp
theorem fSt_onT {w wr w' : World} {o o' : Obj} {R : Nat} {n : Int} {l : List Edg} {u : Value} (h : FSt w o o' R n l u wr) (hb : Below wr.heap.size wr w') : FSt w o o' R n l u w' := by
  obtain ⟨h1, h2, h3, h4, h5, h6⟩ := h
  have hl : ∀ b o, wr.heap[b]? = some o → w'.heap[b]? = some o := fun b o h => (hb.block b (Array.getElem?_eq_some_iff.1 h).1).trans h
  exact ⟨hl _ _ h1, hl _ _ h2, Below.on h3 hb, h4, hl _ _ h5, h6.on hb⟩
/-- The row was put in order. -/
theorem fSt_sorted {w wr w' : World} {o o' : Obj} {R : Nat} {n : Int} {l l' : List Edg} {u : Value} (h : FSt w o o' R n l u wr) (h1 : EOwn w' (R + 1) u l') (h2 : wr.grownBy w' u.ownBlock) : FSt w o o' R n l' u w' := by
  obtain ⟨k1, k2, k3, k4, k5, k6⟩ := h
  have hR : R < wr.heap.size := (Array.getElem?_eq_some_iff.1 k5).1
  have hk : ∀ b, b ≤ R → w'.heap[b]? = wr.heap[b]? := fun b hb => h2.block b (by omega) (fun e => by have := (k6.lt b e.symm).1; omega)
  exact ⟨(hk _ (by omega)).trans k1, (hk _ (by omega)).trans k2, ⟨h2.os.trans k3.os, h2.tape.trans k3.tape, h2.output.trans k3.output, Nat.le_trans k3.size h2.size, fun k hk' => (hk k (by omega)).trans (k3.block k hk')⟩, k4, (hk _ (Nat.le_refl _)).trans k5, h1⟩

set_option maxHeartbeats 6400000 in
set_option maxRecDepth 100000 in
theorem impl_Turned_any (N : Nat) (n : Int) (x : Value) (E : List Edg) (w : World) (hx : ESeg (fun b => b < N) w x E) (hN : N ≤ w.heap.size) :
    Calls Try.prog 10 #[.agg #[.int .i64 n, x]] w (GrEnd (turnN n E) (turnA n E) (gB n E) w) := by
  have HX : Hid (∀ wx, Below w.heap.size w wx → ESeg (fun b => b < N) wx x E) := fun wx hb => hx.agree (agree_below (hb.mono hN))
  have Hb2 : Hid (∀ o o' : Obj, Below w.heap.size w ((w.alloc o).alloc o')) := fun o o' => ((Below.refl _ _).alloc (Nat.le_refl _) o).alloc (by simp) o'
  have HG : Hid (∀ wx, Below w.heap.size w wx → Calls Try.prog 9 #[.agg #[.int .i64 n, x]] wx fun e w' => e = .returned (.bool (gB n E)) ∧ Below wx.heap.size wx w') := fun wx hb => impl_GraphOk_any N n x E wx (HX.out wx hb) (by have := hb.size; omega)
  obtain ⟨iE, hiE, hz0, hz1, hz2⟩ := info_parts infoE
  obtain ⟨a, cap, rfl, hlc, hcm, -, -⟩ := hx
  unfold maxLen at hcm
  show Calls _ _ _ _ fun e w' => ∃ u, e = .returned (.tuple #[.agg #[.int .i64 (turnN n E), u], .bool (gB n E)]) ∧ EOwn w' w.heap.size u (turnA n E) ∧ Below w.heap.size w w'
  by_cases hok : gB n E = true
  rotate_left
  · have hok' : gB n E = false := by simpa using hok
    have ha0 : turnA n E = [] := by simp [turnA, hok']
    have hn0 : turnN n E = 0 := by simp [turnN, hok']
    rw [hok'] at HG
    rw [hok', ha0, hn0]
    clear hok hok' ha0 hn0 HX
    generalize E.length = ll at *
    go_enter Try.func10, Try.ntmps10
    go_wp2_with fail
    refine (HG.out _ (Hb2.out _ _)).mono ?_
    rintro e w1 ⟨rfl, b1⟩
    obtain ⟨h1, h2, h3, h4⟩ := two_after b1
    obtain ⟨t0, t1, tf⟩ := row2 h2
    have tf0 := tf 0
    have tf1 := tf 1
    have hrow := row2 (set2_heap (j := 0) (.int .i64 0) (.slice none 0 0) h2)
    simp only [set2, Nat.zero_add] at hrow
    have Hrow := hide' hrow
    have hgr := set2_grown w1 (w.heap.size + 1) 0 (.int .i64 0) (.slice none 0 0)
    have HB := hide' (h3.grown hgr (by omega) (by intro k hk; simp at hk; omega))
    clear b1 h1 h2 tf hrow hgr
    go_wp2_with fail
    obtain ⟨u0, u1, _⟩ := Hrow.out
    refine bodyPost_ret (v := .tuple #[.agg #[.int .i64 0, .slice none 0 0], .bool false]) (by simp [results, Try.results10, go_sem, u0, u1]) rfl ?_
    exact ⟨_, rfl, EOwn.nil _ _, HB.out⟩
  obtain ⟨c0, c1, hel, _⟩ := gB_iff.1 hok
  have HTa : Hid ((E.map swapE).mergeSort leE = turnA n E) := by
    show _ = _
    obtain ⟨m, rfl⟩ : ∃ m : Nat, n = (m : Int) := ⟨n.toNat, by omega⟩
    rw [turn_sort hok]
    simp [turnA, hok]
  have HTn : Hid (turnN n E = n) := by show _ = _; simp [turnN, hok]
  rw [hok] at HG
  rw [hok, HTn.out]
  clear hok HTn c0 c1
  go_enter Try.func10, Try.ntmps10
  go_wp2_with fail
  refine (HG.out _ (Hb2.out _ _)).mono ?_
  rintro e w1 ⟨rfl, b1⟩
  obtain ⟨h1, h2, h3, h4⟩ := two_after b1
  obtain ⟨g0, g1, -⟩ := row2 h1
  have hI0 : Hid (FSt w (.cells #[.int .i64 n, .slice a E.length cap] 25) (.cells #[.int .i64 0, .slice none 0 0] 25) w1.heap.size n ((E.take 0).map swapE) (.slice none 0 0) (w1.alloc (.cells #[.int .i64 n, .slice none 0 0] 25))) :=
    ⟨(Below.heap_alloc w1 _ _ (by omega)).trans h1, (Below.heap_alloc w1 _ _ (by omega)).trans h2, h3.alloc (by omega) _, h4, (MapKept.heap_alloc w1 _).1, EOwn.nil _ _⟩
  have g1o : ∀ o, (w1.alloc o).cell? ⟨w.heap.size, 1, none⟩ = some (.slice a E.length cap) := fun o => (World.cell?_of_block (Below.heap_alloc w1 o w.heap.size (by omega))).trans g1
  clear b1 h1 h2 HG
  go_wp2_with fail
  go_loopw [17] (fun i wr => ∃ j : Nat, i = .int .i64 j ∧ j ≤ E.length ∧ ∃ u, Hid (FSt w (.cells #[.int .i64 n, .slice a E.length cap] 25) (.cells #[.int .i64 0, .slice none 0 0] 25) w1.heap.size n ((E.take j).map swapE) u wr)) (fun i _ => E.length - (intOf i).toNat)
  case atStart => exact ⟨0, rfl, Nat.zero_le _, _, hI0⟩
  case round =>
    clear hI0 g0 g1 g1o
    obtain ⟨j, rfl, hj, u, hF⟩ := hrel
    obtain ⟨h1, h2, h3, h4', h5, h6⟩ := hF.out
    obtain ⟨ua, uc, rfl⟩ := h6.form
    have hR : w1.heap.size < wr.heap.size := (Array.getElem?_eq_some_iff.1 h5).1
    have hfl : ((E.take j).map swapE).length ≤ 400 := by simp; omega
    by_cases hjl : j < E.length
    · have hjl' : (j : Int) < (E.length : Int) := by omega
      obtain ⟨b, off, rfl, hbN, q0, q1⟩ := (HX.out wr h3).at hjl
      have hfs : (E.take (j + 1)).map swapE = (E.take j).map swapE ++ [(E[j].2, E[j].1)] := by
        rw [List.take_succ_eq_append_getElem hjl, List.map_append]
        rfl
      have bA : Below wr.heap.size wr (wr.alloc (.cells #[.int .i64 E[j].1, .int .i64 E[j].2] 36)) := (Below.refl _ _).alloc (Nat.le_refl _) _
      have hFa := fSt_onT hF.out bA
      obtain ⟨r0, r1, -⟩ := row2 hFa.2.2.2.2.1
      have HOw : Hid (∀ o, ((wr.alloc (.cells #[.int .i64 E[j].1, .int .i64 E[j].2] 36)).alloc o).ownsRow (w1.heap.size + 1) 36 2 (.slice ua ((E.take j).map swapE).length uc) ((E.take j).map swapE).length (eC ((E.take j).map swapE))) := fun o => World.ownsRow.alloc hFa.2.2.2.2.2 o
      have HAd : Hid (∀ o1 g cp w6, w6.ownsRow (w1.heap.size + 1) 36 2 (.slice (some ⟨g, 0, none⟩) (((E.take j).map swapE).length + 1) cp) (((E.take j).map swapE).length + 1) (eC ((E.take j).map swapE) ++ [.int .i64 E[j].2, .int .i64 E[j].1]) → ((wr.alloc (.cells #[.int .i64 E[j].1, .int .i64 E[j].2] 36)).alloc o1).grownBy w6 (Value.slice ua ((E.take j).map swapE).length uc).ownBlock → (w6.cell? ⟨w1.heap.size, 1, none⟩ = some (.slice ua ((E.take j).map swapE).length uc) ∧ w6.frozen? ⟨w1.heap.size, 1, none⟩ = false) ∧ FSt w (.cells #[.int .i64 n, .slice (some ⟨b, off, none⟩) E.length cap] 25) (.cells #[.int .i64 0, .slice none 0 0] 25) w1.heap.size n ((E.take (j + 1)).map swapE) (.slice (some ⟨g, 0, none⟩) (((E.take j).map swapE).length + 1) cp) (w6.setCell ⟨w1.heap.size, 1, none⟩ (.slice (some ⟨g, 0, none⟩) (((E.take j).map swapE).length + 1) cp))) := fun o1 g cp w6 k1 k2 => by
        have := fSt_add (e := (E[j].2, E[j].1)) hFa k1 k2
        rw [hfs]
        exact this
      have hsz1 : (wr.alloc (.cells #[.int .i64 E[j].1, .int .i64 E[j].2] 36)).heap.size = wr.heap.size + 1 := by simp
      clear hF h1 h2 h5 h6 hfs hFa bA
      generalize (E.take j).map swapE = fl at *
      generalize fl.length = fn at *
      generalize E[j].1 = ef at *
      generalize E[j].2 = et at *
      go_wp2_with (at_builtin; refine wpList_append_lies _ rfl (.tmp 22) (.tmp 28) 23 (by rfl) (w1.heap.size + 1) 36 iE _ 2 16 Try.underlying23 hiE hz0 hz1 hz2 rfl (by decide) (.slice ua fn uc) fn (eC fl) (by rfl) (HOw.out _) ⟨wr.heap.size + 1, 0, none⟩ 1 1 [.int .i64 et, .int .i64 ef] (by rfl) (by rfl) (World.news_of_block (cs := #[.int .i64 et, .int .i64 ef]) (t := 36) (fr := (0, 0)) (by have := heap_alloc_new (wr.alloc (.cells #[.int .i64 ef, .int .i64 et] 36)) (.cells #[.int .i64 et, .int .i64 ef] 36); rw [hsz1] at this; exact this)) (by simp [Value.oneCell']) (by omega) (by unfold maxLen; omega) (by omega) (by simp; omega) (wr.heap.size + 1 + 1) (by simp) ?_; intro g6 cp6 w6 hown6 hg6 hat6 hlt6; obtain ⟨⟨s1, s2⟩, hF6⟩ := HAd.out _ _ _ _ hown6 hg6; replace hF6 := hide' hF6; clear hown6 hg6 hat6 hlt6)
      go_wp2
      go_roundw
      case rel => exact ⟨j + 1, by go_num, by omega, _, hF6⟩
      case measure => simp [intOf]; omega
    · have hjl' : ¬ (j : Int) < (E.length : Int) := by omega
      obtain rfl : j = E.length := by omega
      have hF0 := hF.out
      rw [List.take_length] at hF0
      obtain ⟨r0, r1, -⟩ := row2 hF0.2.2.2.2.1
      have HSo : Hid (Calls Try.prog 24 #[.slice ua (E.map swapE).length uc, .func (.func 23) #[] #[]] wr fun e w' => e = .returned (.tuple #[]) ∧ FSt w (.cells #[.int .i64 n, .slice a E.length cap] 25) (.cells #[.int .i64 0, .slice none 0 0] 25) w1.heap.size n (turnA n E) (.slice ua (E.map swapE).length uc) w') := by
        refine (sort_edges (w1.heap.size + 1) _ (E.map swapE) wr hF0.2.2.2.2.2 (by simpa using hel)).mono ?_
        rintro e w' ⟨rfl, k1, k2⟩
        rw [HTa.out] at k1
        exact ⟨rfl, fSt_sorted hF0 k1 k2⟩
      clear hF h1 h2 h5 h6 hF0 HTa HX hfl
      generalize (E.map swapE).length = fn at *
      go_wp2_with fail
      refine HSo.out.mono ?_
      rintro e w5 ⟨rfl, hF5⟩
      obtain ⟨h1, h2, h3', h4'', h5, h6⟩ := hF5
      clear r0 r1
      obtain ⟨r0, r1, -⟩ := row2 h5
      obtain ⟨t0, t1, tf⟩ := row2 h2
      have tf0 := tf 0
      have tf1 := tf 1
      have hrow := row2 (set2_heap (j := 0) (.int .i64 n) (.slice ua fn uc) h2)
      simp only [set2, Nat.zero_add] at hrow
      have Hrow := hide' hrow
      have hgr := set2_grown w5 (w.heap.size + 1) 0 (.int .i64 n) (.slice ua fn uc)
      have HB := hide' (h3'.grown hgr (by have := (Array.getElem?_eq_some_iff.1 h2).1; omega) (by intro k hk; simp at hk; omega))
      have HO := hide' ((h6.far hgr (fun q hq => by have := (h6.lt q hq).1; simp; omega)).down (base' := w.heap.size) (by omega))
      clear h1 h2 h5 h6 tf hrow hgr HSo
      go_wp2_with fail
      obtain ⟨u0, u1, _⟩ := Hrow.out
      refine bodyPost_ret (v := .tuple #[.agg #[.int .i64 n, .slice ua fn uc], .bool true]) (by simp [results, Try.results10, go_sem, u0, u1]) rfl ?_
      exact ⟨_, rfl, HO.out, HB.out⟩
end Go.Proofs.Ytcdonbepfmhdpaa
