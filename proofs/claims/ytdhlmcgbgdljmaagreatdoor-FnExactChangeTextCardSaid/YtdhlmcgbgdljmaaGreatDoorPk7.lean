/-
  Texts that a law leans on, one behind the other; no statement is proved here.
-/
import Derived.Test.YtdhlmcgbgdljmaaGreatDoorPk3
import Derived.Test.YtdhlmcgbgdljmaaGreatDoorPk2
import Derived.Test.YtdhlmcgbgdljmaaGreatDoorPk6
import Derived.Test.YtdhlmcgbgdljmaaGreatDoorPk5
import Derived.Test.YtdhlmcgbgdljmaaGreatDoorPk0
import Derived.Deep.RegionHeld3
/-
  eqChange, eqChangeS: two readings of one list of changes.
-/
namespace Go.Proofs.YtdhlmcgbgdljmaaGreatDoor
open Go.RowKit
set_option linter.unusedVariables false
set_option linter.unusedSimpArgs false

set_option maxHeartbeats 3200000 in
set_option maxRecDepth 100000 in
theorem eqChange_any (d N : Nat) (cs cs' : List Value) (x : Chg d) (w : World) (h : CSg (fun b => b < N) w d cs x) (h' : CSg (fun b => b < N) w d cs' x) (hN : N ≤ w.heap.size) (hz : CSz d x) :
    Calls Tryz.prog 9 #[.agg cs.toArray, .agg cs'.toArray] w fun e w' => e = .returned (.bool true) ∧ Below w.heap.size w w' := by
  obtain ⟨pa, pc, ok, on, o2, ol2, op2, o3, ol3, op3, o4, ol4, op4, nk, nn, n2, nl2, np2, n3, nl3, np3, n4, nl4, np4, rfl, ht, hv, hu⟩ := h.form
  obtain ⟨pa', pc', ok', on', o2', ol2', op2', o3', ol3', op3', o4', ol4', op4', nk', nn', n2', nl2', np2', n3', nl3', np3', n4', nl4', np4', rfl, ht', hv', hu'⟩ := h'.form
  obtain ⟨pth, had, old, has, new⟩ := x
  obtain ⟨z0, z1, z2⟩ := hz
  simp only at ht hv hu ht' hv' hu' z0 z1 z2 ⊢
  have HB : Hid (∀ o o' : Obj, Below w.heap.size w ((w.alloc o).alloc o')) := fun o o' => ((Below.refl _ _).alloc (Nat.le_refl _) o).alloc (by simp) o'
  have Hbox : Hid (∀ o o' wx, Below ((w.alloc o).alloc o').heap.size ((w.alloc o).alloc o') wx → wx.heap[w.heap.size]? = some o ∧ wx.heap[w.heap.size + 1]? = some o') := fun o o' wx h => ⟨(h.block _ (by simp; omega)).trans (two_boxes w o o').1, (h.block _ (by simp)).trans (two_boxes w o o').2⟩
  have hA : ∀ wx, Below w.heap.size w wx → Agree (fun b => b < N) w wx := fun wx hb => agree_below (hb.mono hN)
  have HT : Hid (∀ wx, Below w.heap.size w wx → Calls Tryz.prog 23 #[.slice pa pth.length pc, .slice pa' pth.length pc'] wx fun e w' => e = .returned (.bool true) ∧ Below wx.heap.size wx w') := fun wx hb => eqStepS_same N _ _ pth wx (ht.agree (hA wx hb)) (ht'.agree (hA wx hb)) (by have := hb.size; omega) z0
  have HV : Hid (∀ wx, Below w.heap.size w wx → Calls Tryz.prog 24 #[.agg #[.int .i64 ok, .int .i64 on, .slice o2 ol2 op2, .slice o3 ol3 op3, .slice o4 ol4 op4], .agg #[.int .i64 ok', .int .i64 on', .slice o2' ol2' op2', .slice o3' ol3' op3', .slice o4' ol4' op4']] wx fun e w' => e = .returned (.bool true) ∧ Below wx.heap.size wx w') := fun wx hb => eqValue_any d N (.int .i64 ok, .int .i64 on, .slice o2 ol2 op2, .slice o3 ol3 op3, .slice o4 ol4 op4) (.int .i64 ok', .int .i64 on', .slice o2' ol2' op2', .slice o3' ol3' op3', .slice o4' ol4' op4') old wx (VSeg.agree (hA wx hb) d hv) (VSeg.agree (hA wx hb) d hv') (by have := hb.size; omega) z1
  have HU : Hid (∀ wx, Below w.heap.size w wx → Calls Tryz.prog 24 #[.agg #[.int .i64 nk, .int .i64 nn, .slice n2 nl2 np2, .slice n3 nl3 np3, .slice n4 nl4 np4], .agg #[.int .i64 nk', .int .i64 nn', .slice n2' nl2' np2', .slice n3' nl3' np3', .slice n4' nl4' np4']] wx fun e w' => e = .returned (.bool true) ∧ Below wx.heap.size wx w') := fun wx hb => eqValue_any d N (.int .i64 nk, .int .i64 nn, .slice n2 nl2 np2, .slice n3 nl3 np3, .slice n4 nl4 np4) (.int .i64 nk', .int .i64 nn', .slice n2' nl2' np2', .slice n3' nl3' np3', .slice n4' nl4' np4') new wx (VSeg.agree (hA wx hb) d hu) (VSeg.agree (hA wx hb) d hu') (by have := hb.size; omega) z2
  clear ht hv hu ht' hv' hu' h h' hA
  have hb1 : (had != had) = false := by simp
  have hb2 : (has != has) = false := by simp
  generalize pth.length = pl at *
  go_enter Tryz.func9, Tryz.ntmps9
  go_wp2_with fail
  refine (HT.out _ (HB.out _ _)).mono ?_
  rintro e w1 ⟨rfl, b1⟩
  obtain ⟨r1, r2⟩ := Hbox.out _ _ _ b1
  have u1 := cell_of_row _ _ 1 _ _ _ r1
  have t1 := cell_of_row _ _ 1 _ _ _ r2
  have u2 := cell_of_row _ _ 2 _ _ _ r1
  have t2 := cell_of_row _ _ 2 _ _ _ r2
  have u3 := cell_of_row _ _ 3 _ _ _ r1
  have t3 := cell_of_row _ _ 3 _ _ _ r2
  have u4 := cell_of_row _ _ 4 _ _ _ r1
  have t4 := cell_of_row _ _ 4 _ _ _ r2
  have u5 := cell_of_row _ _ 5 _ _ _ r1
  have t5 := cell_of_row _ _ 5 _ _ _ r2
  have u6 := cell_of_row _ _ 6 _ _ _ r1
  have t6 := cell_of_row _ _ 6 _ _ _ r2
  simp at u1 u2 u3 u4 u5 u6 t1 t2 t3 t4 t5 t6
  have B1 := hide' b1
  clear r1 r2 b1
  go_wp2_with fail
  refine (HV.out _ (Below.on (HB.out _ _) B1.out)).mono ?_
  rintro e w2 ⟨rfl, b2⟩
  have B2 := hide' (Below.on B1.out b2)
  obtain ⟨r1, r2⟩ := Hbox.out _ _ _ B2.out
  clear u1 u2 u3 u4 u5 u6 t1 t2 t3 t4 t5 t6
  have u7 := cell_of_row _ _ 7 _ _ _ r1
  have t7 := cell_of_row _ _ 7 _ _ _ r2
  have u8 := cell_of_row _ _ 8 _ _ _ r1
  have t8 := cell_of_row _ _ 8 _ _ _ r2
  have u9 := cell_of_row _ _ 9 _ _ _ r1
  have t9 := cell_of_row _ _ 9 _ _ _ r2
  have u10 := cell_of_row _ _ 10 _ _ _ r1
  have t10 := cell_of_row _ _ 10 _ _ _ r2
  have u11 := cell_of_row _ _ 11 _ _ _ r1
  have t11 := cell_of_row _ _ 11 _ _ _ r2
  have u12 := cell_of_row _ _ 12 _ _ _ r1
  have t12 := cell_of_row _ _ 12 _ _ _ r2
  simp at u7 u8 u9 u10 u11 u12 t7 t8 t9 t10 t11 t12
  clear r1 r2 b2
  go_wp2_with fail
  refine (HU.out _ (Below.on (HB.out _ _) B2.out)).mono ?_
  rintro e w3 ⟨rfl, b3⟩
  have B3 := hide' (Below.on (HB.out _ _) (Below.on B2.out b3))
  clear b3
  go_wp2
  go_ret
  exact ⟨rfl, B3.out⟩

end Go.Proofs.YtdhlmcgbgdljmaaGreatDoor
/-
  The order of texts, as the specification asks it: l2bytes.
-/
namespace Go.Proofs.YtdhlmcgbgdljmaaGreatDoor
open Go.RowKit
set_option linter.unusedVariables false
set_option linter.unusedSimpArgs false

/-- The order of two texts. -/
def bytesC (xs ys : List Int) : Int := Lib.compareBytes (u8s xs) (u8s ys)

theorem cmp_swap : ∀ (a b : List UInt8), Lib.compareBytes b a = - Lib.compareBytes a b
  | [], [] => by simp [Lib.compareBytes]
  | [], _ :: _ => by simp [Lib.compareBytes]
  | _ :: _, [] => by simp [Lib.compareBytes]
  | x :: a, y :: b => by
    have ih := cmp_swap a b
    unfold Lib.compareBytes
    by_cases h1 : x < y
    · have h2 : ¬ y < x := fun h => absurd (UInt8.lt_trans h1 h) (UInt8.lt_irrefl _)
      have h3 : ¬ x = y := fun e => by subst e; exact absurd h1 (UInt8.lt_irrefl _)
      have h4 : ¬ y = x := fun e => h3 e.symm
      simp [h1, h2, h3, h4]
    · by_cases h2 : y < x
      · have h3 : ¬ x = y := fun e => by subst e; exact absurd h2 (UInt8.lt_irrefl _)
        have h4 : ¬ y = x := fun e => h3 e.symm
        simp [h1, h2, h3, h4]
      · have h3 : x = y := UInt8.le_antisymm (UInt8.not_lt.1 h2) (UInt8.not_lt.1 h1)
        subst h3
        simp [h1, ih]

theorem less_ab (xs ys : List Int) : Op.bytesLess (strOf xs).toList (strOf ys).toList = decide (bytesC xs ys < 0) := by rw [strOf_list, strOf_list, less_cmp]; rfl
theorem less_ba (xs ys : List Int) : Op.bytesLess (strOf ys).toList (strOf xs).toList = decide (0 < bytesC xs ys) := by
  rw [strOf_list, strOf_list, less_cmp, cmp_swap]
  show decide (-(bytesC xs ys) < 0) = _
  by_cases h : 0 < bytesC xs ys
  · simp [h]
  · simp [h]
theorem cmp_zero : ∀ (a b : List UInt8), Lib.compareBytes a b = 0 ↔ a = b
  | [], [] => by simp [Lib.compareBytes]
  | [], _ :: _ => by simp [Lib.compareBytes]
  | _ :: _, [] => by simp [Lib.compareBytes]
  | x :: a, y :: b => by
    have ih := cmp_zero a b
    unfold Lib.compareBytes
    by_cases h1 : x < y
    · have h3 : ¬ x = y := fun e => by subst e; exact absurd h1 (UInt8.lt_irrefl _)
      simp [h1, h3]
    · by_cases h2 : y < x
      · have h3 : ¬ x = y := fun e => by subst e; exact absurd h2 (UInt8.lt_irrefl _)
        simp [h1, h2, h3]
      · have h3 : x = y := UInt8.le_antisymm (UInt8.not_lt.1 h2) (UInt8.not_lt.1 h1)
        subst h3
        simp [h1, ih]
theorem same_ab (xs ys : List Int) : ((strOf xs).toList == (strOf ys).toList) = decide (bytesC xs ys = 0) := by
  rw [strOf_list, strOf_list]
  have h := cmp_zero (u8s xs) (u8s ys)
  show _ = decide (Lib.compareBytes (u8s xs) (u8s ys) = 0)
  by_cases e : u8s xs = u8s ys
  · simp [e, h.2 e]
    exact (cmp_zero _ _).2 rfl
  · have : ¬ Lib.compareBytes (u8s xs) (u8s ys) = 0 := fun k => e (h.1 k)
    simp [e, this]
theorem bytesC_cases (xs ys : List Int) : bytesC xs ys = -1 ∨ bytesC xs ys = 0 ∨ bytesC xs ys = 1 := by
  have := cmp_range (u8s xs) (u8s ys)
  have e : bytesC xs ys = Lib.compareBytes (u8s xs) (u8s ys) := rfl
  omega

set_option maxHeartbeats 800000 in
theorem l2bytes_any (a b : Option Addr) (c1 c2 : Nat) (xs ys : List Int) (w : World) (ha : Seg w a xs) (hb : Seg w b ys) :
    Calls Tryz.prog 71 #[.slice a xs.length c1, .slice b ys.length c2] w fun e w' => e = .returned (.int .i64 (bytesC xs ys)) ∧ w = w' := by
  have k1 := conv_seg c1 ha
  have k2 := conv_seg c2 hb
  have l1 := less_ab xs ys
  have l2 := less_ba xs ys
  have l3 := same_ab xs ys
  rcases bytesC_cases xs ys with h | h | h
  · rw [h] at l1 l2 l3
    simp only [Int.reduceNeg, Int.reduceLT, Int.reduceEq, decide_true, decide_false, Int.lt_irrefl] at l1 l2 l3
    have HO := hide' h
    clear h
    go_enter Tryz.func71, Tryz.ntmps71
    go_wp2
    go_ret
    exact ⟨ret_i64 (by rw [HO.out]), rfl⟩
  · rw [h] at l1 l2 l3
    simp only [Int.reduceNeg, Int.reduceLT, Int.reduceEq, decide_true, decide_false, Int.lt_irrefl] at l1 l2 l3
    have HO := hide' h
    clear h
    go_enter Tryz.func71, Tryz.ntmps71
    go_wp2
    go_ret
    exact ⟨ret_i64 (by rw [HO.out]), rfl⟩
  · rw [h] at l1 l2 l3
    simp only [Int.reduceNeg, Int.reduceLT, Int.reduceEq, decide_true, decide_false, Int.lt_irrefl] at l1 l2 l3
    have HO := hide' h
    clear h
    go_enter Tryz.func71, Tryz.ntmps71
    go_wp2
    go_ret
    exact ⟨ret_i64 (by rw [HO.out]), rfl⟩

end Go.Proofs.YtdhlmcgbgdljmaaGreatDoor
/-
  The order of numbers and of texts, as the specification and as the program ask it: l2num; cmp.Compare at int.
-/
namespace Go.Proofs.YtdhlmcgbgdljmaaGreatDoor
open Go.RowKit
set_option linter.unusedVariables false
set_option linter.unusedSimpArgs false

/-- The order of two numbers. -/
def numC (a b : Int) : Int := if a < b then -1 else if b < a then 1 else 0
theorem numC_lt {a b : Int} (h : a < b) : numC a b = -1 := by simp [numC, h]
theorem numC_gt {a b : Int} (h : b < a) : numC a b = 1 := by
  have : ¬ a < b := by omega
  simp [numC, h, this]
theorem numC_eq (a : Int) : numC a a = 0 := by simp [numC]

set_option maxHeartbeats 800000 in
theorem l2num_any (a b : Int) (w : World) : Calls Tryz.prog 61 #[.int .i64 a, .int .i64 b] w fun e w' => e = .returned (.int .i64 (numC a b)) ∧ w = w' := by
  by_cases h1 : a < b
  · have HO := hide' (numC_lt h1)
    go_enter Tryz.func61, Tryz.ntmps61
    go_wp2
    go_ret
    exact ⟨ret_i64 (by rw [HO.out]), rfl⟩
  · by_cases h2 : b < a
    · have HO := hide' (numC_gt h2)
      go_enter Tryz.func61, Tryz.ntmps61
      go_wp2
      go_ret
      exact ⟨ret_i64 (by rw [HO.out]), rfl⟩
    · have h3 : a = b := by omega
      subst h3
      have HO := hide' (numC_eq a)
      go_enter Tryz.func61, Tryz.ntmps61
      go_wp2
      go_ret
      exact ⟨ret_i64 (by rw [HO.out]), rfl⟩

end Go.Proofs.YtdhlmcgbgdljmaaGreatDoor
/-
  cmp.Or at three ints: the first that is not 0.
-/
namespace Go.Proofs.YtdhlmcgbgdljmaaGreatDoor
open Go.RowKit
set_option linter.unusedVariables false
set_option linter.unusedSimpArgs false

/-- The first of three that is not 0. -/
def or3 (a b c : Int) : Int := if a ≠ 0 then a else if b ≠ 0 then b else c

end Go.Proofs.YtdhlmcgbgdljmaaGreatDoor
/-
  PathOk, of the program and of the specification: of a path it tells whether it may be, and turns nothing old.
-/
namespace Go.Proofs.YtdhlmcgbgdljmaaGreatDoor
open Go.RowKit
set_option linter.unusedVariables false

/-- A step that may be. -/
def stpB (s : Stp) : Bool := (decide (s.1 = 0) && (nameB s.2.1 && decide (s.2.2 = 0))) || (decide (s.1 = 1) && (decide (s.2.1.length = 0) && decide (0 ≤ s.2.2) && decide (s.2.2 < 40)))
/-- A path that may be. -/
def pathB (l : List Stp) : Bool := decide (l.length ≤ 6) && l.all stpB

theorem stpB_key (ss : List Int) (i : Int) : stpB (0, ss, i) = (nameB ss && decide (i = 0)) := by simp [stpB]
theorem stpB_item (ss : List Int) (i : Int) : stpB (1, ss, i) = (decide (ss.length = 0) && decide (0 ≤ i) && decide (i < 40)) := by simp [stpB]
theorem stpB_none (k : Int) (ss : List Int) (i : Int) (h0 : k ≠ 0) (h1 : k ≠ 1) : stpB (k, ss, i) = false := by simp [stpB, h0, h1]

theorem pathB_long (l : List Stp) (h : 6 < l.length) : pathB l = false := by simp [pathB]; omega
theorem pathB_all (l : List Stp) (h : ¬ 6 < l.length) : pathB l = l.all stpB := by
  have h' : l.length ≤ 6 := by omega
  simp [pathB, h']

/-- The first k all fulfil p. -/
def fstP (l : List Stp) (k : Nat) : Prop := ∀ i (h : i < l.length), i < k → stpB l[i] = true
theorem fstP_succ {l : List Stp} {k : Nat} (h : fstP l k) (hk : k < l.length) (hs : stpB l[k] = true) : fstP l (k + 1) := by
  intro i hi hik
  by_cases e : i = k
  · subst e; exact hs
  · exact h i hi (by omega)
theorem all_fstP {l : List Stp} (h : fstP l l.length) : l.all stpB = true := by
  rw [List.all_eq_true]
  intro x hx
  obtain ⟨i, hi, rfl⟩ := List.getElem_of_mem hx
  exact h i hi hi
theorem not_all_stp {l : List Stp} {k : Nat} (hk : k < l.length) (h : stpB l[k] = false) : l.all stpB = false := by
  rw [List.all_eq_false]
  exact ⟨l[k], List.getElem_mem hk, by rw [h]; simp⟩

theorem ret_bl {x y : Bool} (h : x = y) : Ending.returned (.bool x) = .returned (.bool y) := by rw [h]

set_option maxHeartbeats 1600000 in
theorem impl_stepOk_any (N : Nat) (c0 c1 c2 : Value) (s : Stp) (w : World) (hs : StSeg (fun b => b < N) w (c0, c1, c2) s) (hN : N ≤ w.heap.size) :
    Calls Tryz.prog 63 #[.agg #[c0, c1, c2]] w fun e w' => e = .returned (.bool (stpB s)) ∧ Below w.heap.size w w' := by
  obtain ⟨sk, ss, si⟩ := s
  obtain ⟨e0, ht, e2⟩ := hs
  simp only at e0 ht e2
  subst e0
  subst e2
  have Ht : Hid (∀ w' : World, Below w.heap.size w w' → TSeg (fun b => b < N) w' c1 ss) := fun w' h => ht.agree (agree_below (h.mono hN))
  obtain ⟨a2, cp2, rfl, s2, hl2, hm2, _, _⟩ := ht
  have hb0 : ∀ o : Obj, Below w.heap.size w (w.alloc o) := fun o => (Below.refl _ _).alloc (Nat.le_refl _) o
  have Hb := hide' hb0
  unfold maxLen at hm2
  clear s2 hb0
  by_cases h0 : sk = 0
  · subst h0
    have HO := hide' (stpB_key ss si)
    have HS : Hid (∀ o : Obj, Calls Tryz.prog 73 #[.slice a2 ss.length cp2] (w.alloc o) fun e w' => e = .returned (.bool (nameB ss)) ∧ w.alloc o = w') := by
      intro o
      obtain ⟨a2', cp2', e2, sT, _⟩ := Ht.out _ (Hb.out o)
      simp only [Value.slice.injEq, true_and] at e2
      obtain ⟨rfl, rfl⟩ := e2
      exact impl_NameOk_any _ _ ss _ sT (by unfold maxLen; omega)
    clear Ht
    go_enter Tryz.func63, Tryz.ntmps63
    go_wp2_with fail
    refine (HS.out _).mono ?_
    rintro e w1 ⟨rfl, e1⟩
    obtain rfl := e1
    generalize nameB ss = nb at *
    cases nb
    · go_wp2
      go_ret
      exact ⟨ret_bl (by rw [HO.out]; simp), Hb.out _⟩
    · go_wp2
      go_ret
      exact ⟨ret_bl (by rw [HO.out, Bool.true_and]; rfl), Hb.out _⟩
  · by_cases h1 : sk = 1
    · subst h1
      have HO := hide' (stpB_item ss si)
      clear Ht
      by_cases hl : ss.length = 0
      · have hl' : (ss.length : Int) = 0 := by omega
        by_cases hi : 0 ≤ si
        · have HQ : Hid (stpB (1, ss, si) = decide (si < 40)) := by show stpB (1, ss, si) = _; rw [HO.out]; simp [hl, hi]
          clear HO
          go_enter Tryz.func63, Tryz.ntmps63
          go_wp2
          go_ret
          exact ⟨ret_bl (by rw [HQ.out]), Hb.out _⟩
        · have HQ : Hid (stpB (1, ss, si) = false) := by show stpB (1, ss, si) = _; rw [HO.out]; simp [hi]
          clear HO
          go_enter Tryz.func63, Tryz.ntmps63
          go_wp2
          go_ret
          exact ⟨ret_bl (by rw [HQ.out]), Hb.out _⟩
      · have hl' : ¬ (ss.length : Int) = 0 := by omega
        have HQ : Hid (stpB (1, ss, si) = false) := by show stpB (1, ss, si) = _; rw [HO.out]; simp [hl]
        clear HO
        go_enter Tryz.func63, Tryz.ntmps63
        go_wp2
        go_ret
        exact ⟨ret_bl (by rw [HQ.out]), Hb.out _⟩
    · have HQ := hide' (stpB_none sk ss si h0 h1)
      clear Ht
      go_enter Tryz.func63, Tryz.ntmps63
      go_wp2
      go_ret
      exact ⟨ret_bl (by rw [HQ.out]), Hb.out _⟩

set_option maxHeartbeats 1600000 in
theorem impl_PathOk_any (N : Nat) (x : Value) (l : List Stp) (w : World) (hx : PthSeg (fun b => b < N) w x l) (hN : N ≤ w.heap.size) :
    Calls Tryz.prog 43 #[x] w fun e w' => e = .returned (.bool (pathB l)) ∧ Below w.heap.size w w' := by
  have HC := hide' hx
  obtain ⟨a, cap, rfl, hlc, hcm, ka, hc⟩ := hx
  unfold maxLen at hcm
  clear hc
  by_cases hlong : 6 < l.length
  · have HO := hide' (pathB_long l hlong)
    have h' : (6 : Int) < (l.length : Int) := by omega
    go_enter Tryz.func43, Tryz.ntmps43
    go_wp2
    go_ret
    exact ⟨ret_bl (by rw [HO.out]), Below.refl _ _⟩
  · have HO := hide' (pathB_all l hlong)
    have h' : ¬ (6 : Int) < (l.length : Int) := by omega
    go_enter Tryz.func43, Tryz.ntmps43
    go_wp2
    go_loopw [10] (fun i wr => ∃ k : Nat, k ≤ l.length ∧ i = .int .i64 k ∧ fstP l k ∧ Below w.heap.size w wr) (fun i _ => l.length - (intOf i).toNat)
    case atStart => exact ⟨0, Nat.zero_le _, rfl, fun i _ h => by omega, Below.refl _ _⟩
    case round =>
      obtain ⟨k, hk, rfl, hall, hbel⟩ := hrel
      have hsz := hbel.size
      by_cases hlt : k < l.length
      · have hlt' : (k : Int) < (l.length : Int) := by omega
        obtain ⟨b, off, c0, c1, c2, rfl, _, h3, hv⟩ := (HC.out.agree (agree_below (hbel.mono hN))).at hlt
        obtain ⟨q0, q1, q2⟩ := h3
        simp only at q0 q1 q2
        have HF : Hid (stpB l[k] = true → fstP l (k + 1)) := fun h => fstP_succ hall hlt h
        have HN : Hid (stpB l[k] = false → l.all stpB = false) := fun h => not_all_stp hlt h
        have HS : Hid (∀ o : Obj, Calls Tryz.prog 63 #[.agg #[c0, c1, c2]] (wr.alloc o) fun e w' => e = .returned (.bool (stpB l[k])) ∧ Below w.heap.size w w') := by
          intro o
          have b0 : Below wr.heap.size wr (wr.alloc o) := (Below.refl _ _).alloc (Nat.le_refl _) o
          refine (impl_stepOk_any N c0 c1 c2 l[k] (wr.alloc o) (hv.agree (agree_below (b0.mono (by omega)))) (by have := b0.size; omega)).mono fun e w' h => ⟨h.1, Below.on (Below.on hbel b0) h.2⟩
        obtain ⟨g0, gt, g2⟩ := hv
        obtain ⟨a2, cp2, g1, _⟩ := gt
        simp only at g0 g1 g2
        subst g0
        subst g1
        subst g2
        generalize (l[k]).1 = vk at *
        generalize (l[k]).2.1.length = vn at *
        generalize (l[k]).2.2 = vi at *
        generalize stpB l[k] = sb at *
        clear hall
        go_wp2_with fail
        refine (HS.out _).mono ?_
        rintro e w1 ⟨rfl, B1⟩
        clear HS q0 q1 q2
        cases sb
        · have HF' := hide' (HN.out rfl)
          go_wp2
          go_ret
          exact ⟨ret_bl (by rw [HO.out, HF'.out]), B1⟩
        · have HF' := hide' (HF.out rfl)
          go_wp2
          go_roundw
          case rel => exact ⟨k + 1, by omega, by go_num, HF'.out, B1⟩
          case measure => simp [intOf]; omega
      · have hkn : k = l.length := by omega
        have hkn' : ¬ (k : Int) < (l.length : Int) := by omega
        rw [hkn] at hall
        have HF := hide' (all_fstP hall)
        clear hkn hall
        go_wp2
        go_ret
        exact ⟨ret_bl (by rw [HO.out, HF.out]), hbel⟩

/-- What each case of the specification's loop may rest on. -/
theorem stpB_at (s : Stp) : stpB s = stpB (s.1, s.2.1, s.2.2) := rfl

set_option maxHeartbeats 3200000 in
theorem spec_PathOk_any (N : Nat) (x : Value) (l : List Stp) (w : World) (hx : PthSeg (fun b => b < N) w x l) (hN : N ≤ w.heap.size) :
    Calls Tryz.prog 31 #[x] w fun e w' => e = .returned (.bool (pathB l)) ∧ Below w.heap.size w w' := by
  have HC := hide' hx
  obtain ⟨a, cap, rfl, hlc, hcm, ka, hc⟩ := hx
  unfold maxLen at hcm
  clear hc
  by_cases hlong : 6 < l.length
  · have HO := hide' (pathB_long l hlong)
    have h' : (6 : Int) < (l.length : Int) := by omega
    go_enter Tryz.func31, Tryz.ntmps31
    go_wp2
    go_ret
    exact ⟨ret_bl (by rw [HO.out]), Below.refl _ _⟩
  · have HO := hide' (pathB_all l hlong)
    have h' : ¬ (6 : Int) < (l.length : Int) := by omega
    go_enter Tryz.func31, Tryz.ntmps31
    go_wp2
    go_loopw [3] (fun i wr => ∃ k : Nat, k ≤ l.length ∧ i = .int .i64 k ∧ fstP l k ∧ Below w.heap.size w wr) (fun i _ => l.length - (intOf i).toNat)
    case atStart => exact ⟨0, Nat.zero_le _, rfl, fun i _ h => by omega, Below.refl _ _⟩
    case round =>
      obtain ⟨k, hk, rfl, hall, hbel⟩ := hrel
      have hsz := hbel.size
      by_cases hlt : k < l.length
      · have hlt' : (k : Int) < (l.length : Int) := by omega
        obtain ⟨b, off, c0, c1, c2, rfl, _, h3, hv⟩ := (HC.out.agree (agree_below (hbel.mono hN))).at hlt
        obtain ⟨q0, q1, q2⟩ := h3
        simp only at q0 q1 q2
        have HF : Hid (stpB ((l[k]).1, (l[k]).2.1, (l[k]).2.2) = true → fstP l (k + 1)) := fun h => fstP_succ hall hlt h
        have HN : Hid (stpB ((l[k]).1, (l[k]).2.1, (l[k]).2.2) = false → l.all stpB = false) := fun h => not_all_stp hlt h
        have HB : Hid (∀ o : Obj, Below w.heap.size w (wr.alloc o)) := fun o => Below.on hbel ((Below.refl _ _).alloc (Nat.le_refl _) o)
        obtain ⟨g0, gt, g2⟩ := hv
        simp only at g0 gt g2
        generalize (l[k]).1 = vk at *
        generalize (l[k]).2.1 = ss at *
        generalize (l[k]).2.2 = si at *
        have Ht : Hid (∀ o : Obj, TSeg (fun b => b < N) (wr.alloc o) c1 ss) := fun o => gt.agree (agree_below (((Below.refl _ _).alloc (Nat.le_refl _) o : Below wr.heap.size wr (wr.alloc o)).mono (by omega)))
        obtain ⟨a2, cp2, g1, _, hl2, hm2, _⟩ := gt
        subst g0
        subst g1
        subst g2
        unfold maxLen at hm2
        clear hall
        by_cases h0 : vk = 0
        · subst h0
          rw [stpB_key] at HF HN
          have HS : Hid (∀ o : Obj, Calls Tryz.prog 57 #[.slice a2 ss.length cp2] (wr.alloc o) fun e w' => e = .returned (.bool (nameB ss)) ∧ wr.alloc o = w') := by
            intro o
            obtain ⟨a2', cp2', e2, sT, _⟩ := Ht.out o
            simp only [Value.slice.injEq, true_and] at e2
            obtain ⟨rfl, rfl⟩ := e2
            exact spec_NameOk_any _ _ ss _ sT (by unfold maxLen; omega)
          clear Ht
          generalize nameB ss = nb at *
          by_cases hi0 : si = 0
          · subst hi0
            cases nb
            · have HF' := hide' (HN.out rfl)
              go_wp2_with fail
              refine (HS.out _).mono ?_
              rintro e w1 ⟨rfl, e1⟩
              obtain rfl := e1
              go_wp2
              go_ret
              exact ⟨ret_bl (by rw [HO.out, HF'.out]), HB.out _⟩
            · have HF' := hide' (HF.out rfl)
              go_wp2_with fail
              refine (HS.out _).mono ?_
              rintro e w1 ⟨rfl, e1⟩
              obtain rfl := e1
              go_wp2
              go_roundw
              case rel => exact ⟨k + 1, by omega, by go_num, HF'.out, HB.out _⟩
              case measure => simp [intOf]; omega
          · have HF' := hide' (HN.out (by simp [hi0]))
            have hin : (si != 0) = true := by simp [hi0]
            go_wp2_with fail
            refine (HS.out _).mono ?_
            rintro e w1 ⟨rfl, e1⟩
            obtain rfl := e1
            cases nb
            · go_wp2
              go_ret
              exact ⟨ret_bl (by rw [HO.out, HF'.out]), HB.out _⟩
            · go_wp2
              go_ret
              exact ⟨ret_bl (by rw [HO.out, HF'.out]), HB.out _⟩
        · by_cases h1 : vk = 1
          · subst h1
            rw [stpB_item] at HF HN
            clear Ht
            by_cases hl : ss.length = 0
            · have hl' : ¬ (0 : Int) < (ss.length : Int) := by omega
              by_cases hi : 0 ≤ si
              · have hi' : ¬ si < 0 := by omega
                by_cases hj : si < 40
                · have HF' := hide' (HF.out (by simp [hl, hi, hj]))
                  have hj' : ¬ (40 : Int) ≤ si := by omega
                  go_wp2
                  go_roundw
                  case rel => exact ⟨k + 1, by omega, by go_num, HF'.out, HB.out _⟩
                  case measure => simp [intOf]; omega
                · have HF' := hide' (HN.out (by simp [hj]))
                  have hj' : (40 : Int) ≤ si := by omega
                  go_wp2
                  go_ret
                  exact ⟨ret_bl (by rw [HO.out, HF'.out]), HB.out _⟩
              · have HF' := hide' (HN.out (by simp [hi]))
                have hi' : si < 0 := by omega
                go_wp2
                go_ret
                exact ⟨ret_bl (by rw [HO.out, HF'.out]), HB.out _⟩
            · have HF' := hide' (HN.out (by simp [hl]))
              have hl' : (0 : Int) < (ss.length : Int) := by omega
              go_wp2
              go_ret
              exact ⟨ret_bl (by rw [HO.out, HF'.out]), HB.out _⟩
          · have HF' := hide' (HN.out (stpB_none vk ss si h0 h1))
            clear Ht
            go_wp2
            go_ret
            exact ⟨ret_bl (by rw [HO.out, HF'.out]), HB.out _⟩
      · have hkn : k = l.length := by omega
        have hkn' : ¬ (k : Int) < (l.length : Int) := by omega
        rw [hkn] at hall
        have HF := hide' (all_fstP hall)
        clear hkn hall
        go_wp2
        go_ret
        exact ⟨ret_bl (by rw [HO.out, HF.out]), hbel⟩
end Go.Proofs.YtdhlmcgbgdljmaaGreatDoor
/-
  PathCmp, of the program and of the specification, at paths that may be: the order of paths.
-/
namespace Go.Proofs.YtdhlmcgbgdljmaaGreatDoor
open Go.RowKit
set_option linter.unusedVariables false
set_option linter.unusedSimpArgs false

/-- The order of two steps, as the specification has it. -/
def stpC (s t : Stp) : Int := if s.1 ≠ t.1 then numC s.1 t.1 else if s.1 = 1 then numC s.2.2 t.2.2 else bytesC s.2.1 t.2.1

/-- The order of two paths. -/
def pthC : List Stp → List Stp → Int
  | [], [] => 0
  | [], _ :: _ => -1
  | _ :: _, [] => 1
  | s :: l, t :: m => if stpC s t ≠ 0 then stpC s t else pthC l m

theorem bytesC_self (xs : List Int) : bytesC xs xs = 0 := (cmp_zero _ _).2 rfl

/-- Of steps that may be it is what the program asks. -/
theorem stpC_or (s t : Stp) (hs : stpB s = true) (ht : stpB t = true) : stpC s t = or3 (numC s.1 t.1) (bytesC s.2.1 t.2.1) (numC s.2.2 t.2.2) := by
  obtain ⟨sk, ss, si⟩ := s
  obtain ⟨tk, ts, ti⟩ := t
  by_cases h : sk = tk
  · subst h
    by_cases h1 : sk = 1
    · subst h1
      rw [stpB_item] at hs ht
      simp at hs ht
      have e1 : ss = [] := by have := hs.1.1; simpa using this
      have e2 : ts = [] := by have := ht.1.1; simpa using this
      subst e1
      subst e2
      simp [stpC, or3, numC_eq, bytesC_self]
    · by_cases h0 : sk = 0
      · subst h0
        rw [stpB_key] at hs ht
        simp at hs ht
        obtain ⟨_, rfl⟩ := hs
        obtain ⟨_, rfl⟩ := ht
        simp [stpC, or3, numC_eq]
      · rw [stpB_none sk ss si h0 h1] at hs
        simp at hs
  · have : numC sk tk ≠ 0 := by
      unfold numC
      split
      · decide
      · split
        · decide
        · omega
    simp [stpC, or3, h, this]

/-- What comes of two paths from their k-th steps on. -/
theorem pthC_step {l m : List Stp} {k : Nat} (hl : k < l.length) (hm : k < m.length) : pthC (l.drop k) (m.drop k) = if stpC l[k] m[k] ≠ 0 then stpC l[k] m[k] else pthC (l.drop (k + 1)) (m.drop (k + 1)) := by
  rw [List.drop_eq_getElem_cons hl, List.drop_eq_getElem_cons hm]
  rfl
theorem pthC_end1 {l m : List Stp} {k : Nat} (hl : k < l.length) (hm : ¬ k < m.length) : pthC (l.drop k) (m.drop k) = 1 := by
  rw [List.drop_eq_getElem_cons hl, List.drop_eq_nil_of_le (by omega : m.length ≤ k)]
  rfl
theorem pthC_end2 {l m : List Stp} {k : Nat} (hl : ¬ k < l.length) (hm : k < m.length) : pthC (l.drop k) (m.drop k) = -1 := by
  rw [List.drop_eq_getElem_cons hm, List.drop_eq_nil_of_le (by omega : l.length ≤ k)]
  rfl
theorem pthC_end3 {l m : List Stp} {k : Nat} (hl : ¬ k < l.length) (hm : ¬ k < m.length) : pthC (l.drop k) (m.drop k) = 0 := by
  rw [List.drop_eq_nil_of_le (by omega : m.length ≤ k), List.drop_eq_nil_of_le (by omega : l.length ≤ k)]
  rfl

/-- The texts of two steps, read behind two new blocks. -/
theorem seg_of_T {R : Nat → Prop} {w : World} {a : Option Addr} {n c : Nat} {xs : List Int} (h : TSeg R w (.slice a n c) xs) : Seg w a xs ∧ n = xs.length := by
  obtain ⟨a', c', e, hs, _⟩ := h
  simp at e
  exact ⟨e.1 ▸ hs, e.2.1⟩

set_option maxHeartbeats 1600000 in
theorem l3step_any (N : Nat) (c0 c1 c2 e0 e1 e2 : Value) (s t : Stp) (w : World) (h : StSeg (fun b => b < N) w (c0, c1, c2) s) (h' : StSeg (fun b => b < N) w (e0, e1, e2) t) (hN : N ≤ w.heap.size) :
    Calls Tryz.prog 60 #[.agg #[c0, c1, c2], .agg #[e0, e1, e2]] w fun e w' => e = .returned (.int .i64 (stpC s t)) ∧ Below w.heap.size w w' := by
  obtain ⟨sk, ss, si⟩ := s
  obtain ⟨tk, ts, ti⟩ := t
  obtain ⟨g0, ht, g2⟩ := h
  obtain ⟨f0, ht', f2⟩ := h'
  simp only at g0 ht g2 f0 ht' f2
  subst g0
  subst g2
  subst f0
  subst f2
  have Hb : Hid (∀ o o' : Obj, Below w.heap.size w ((w.alloc o).alloc o')) := fun o o' => ((Below.refl _ _).alloc (Nat.le_refl _) o).alloc (by simp) o'
  have Ht : Hid (∀ o o' : Obj, TSeg (fun b => b < N) ((w.alloc o).alloc o') c1 ss ∧ TSeg (fun b => b < N) ((w.alloc o).alloc o') e1 ts) := fun o o' => ⟨ht.agree (agree_below ((Hb.out o o').mono hN)), ht'.agree (agree_below ((Hb.out o o').mono hN))⟩
  obtain ⟨a2, cp2, rfl, s2, hl2, hm2, _, _⟩ := ht
  obtain ⟨a2', cp2', rfl, s2', hl2', hm2', _, _⟩ := ht'
  clear s2 s2'
  by_cases hk : sk = tk
  · subst hk
    by_cases h1 : sk = 1
    · subst h1
      have HO : Hid (stpC (1, ss, si) (1, ts, ti) = numC si ti) := by show stpC _ _ = _; simp [stpC]
      go_enter Tryz.func60, Tryz.ntmps60
      go_wp2_with fail
      refine (l2num_any si ti _).mono ?_
      rintro e w1 ⟨rfl, e1⟩
      obtain rfl := e1
      go_wp2
      go_ret
      exact ⟨ret_i64 (by rw [HO.out]), Hb.out _ _⟩
    · have HO : Hid (stpC (sk, ss, si) (sk, ts, ti) = bytesC ss ts) := by show stpC _ _ = _; simp [stpC, h1]
      have h1' : (sk == 1) = false := by simp [h1]
      go_enter Tryz.func60, Tryz.ntmps60
      go_wp2_with fail
      refine (l2bytes_any _ _ _ _ ss ts _ (seg_of_T (Ht.out _ _).1).1 (seg_of_T (Ht.out _ _).2).1).mono ?_
      rintro e w1 ⟨rfl, e1⟩
      obtain rfl := e1
      go_wp2
      go_ret
      exact ⟨ret_i64 (by rw [HO.out]), Hb.out _ _⟩
  · have HO : Hid (stpC (sk, ss, si) (tk, ts, ti) = numC sk tk) := by show stpC _ _ = _; simp [stpC, hk]
    have hk' : (sk != tk) = true := by simp [hk]
    go_enter Tryz.func60, Tryz.ntmps60
    go_wp2_with fail
    refine (l2num_any sk tk _).mono ?_
    rintro e w1 ⟨rfl, e1⟩
    obtain rfl := e1
    go_wp2
    go_ret
    exact ⟨ret_i64 (by rw [HO.out]), Hb.out _ _⟩

set_option maxHeartbeats 1600000 in
theorem l3cmp_any (N : Nat) (x y : Value) (l m : List Stp) (w : World) (hx : PthSeg (fun b => b < N) w x l) (hy : PthSeg (fun b => b < N) w y m) (hN : N ≤ w.heap.size) :
    Calls Tryz.prog 34 #[x, y] w fun e w' => e = .returned (.int .i64 (pthC l m)) ∧ Below w.heap.size w w' := by
  have HC := hide' hx
  have HC' := hide' hy
  obtain ⟨a, cap, rfl, hlc, hcm, ka, hc⟩ := hx
  obtain ⟨a', cap', rfl, hlc', hcm', ka', hc'⟩ := hy
  clear hc hc'
  unfold maxLen at hcm hcm'
  go_enter Tryz.func34, Tryz.ntmps34
  go_wp2
  go_loopw [5, 6] (fun i _ wr => ∃ k : Nat, k ≤ l.length ∧ k ≤ m.length ∧ i = .int .i64 k ∧ pthC l m = pthC (l.drop k) (m.drop k) ∧ Below w.heap.size w wr) (fun i _ _ => l.length - (intOf i).toNat)
  case atStart => exact ⟨0, Nat.zero_le _, Nat.zero_le _, rfl, rfl, Below.refl _ _⟩
  case round =>
    obtain ⟨k, hk, hk', rfl, hP, hbel⟩ := hrel
    have hsz2 := hbel.size
    by_cases hlt : k < l.length
    · by_cases hlt2 : k < m.length
      · obtain ⟨b, off, c0, c1, c2, rfl, _, h3, hv⟩ := (HC.out.agree (agree_below (hbel.mono hN))).at hlt
        obtain ⟨b', off', e0, e1, e2, rfl, _, h3', hv'⟩ := (HC'.out.agree (agree_below (hbel.mono hN))).at hlt2
        obtain ⟨q0, q1, q2⟩ := h3
        obtain ⟨r0, r1, r2⟩ := h3'
        simp only at q0 q1 q2 r0 r1 r2
        have hlt' : (k : Int) < (l.length : Int) := by omega
        have hlt2' : (k : Int) < (m.length : Int) := by omega
        have hE := hide' (l3step_any N c0 c1 c2 e0 e1 e2 l[k] m[k] wr.drew (hv.agree (w' := wr.drew) (fun b _ => rfl)) (hv'.agree (w' := wr.drew) (fun b _ => rfl)) (by show N ≤ wr.heap.size; omega))
        rw [pthC_step hlt hlt2] at hP
        have HP := hide' hP
        clear hv hv' hP
        generalize stpC l[k] m[k] = sc at *
        by_cases h0 : sc = 0
        · subst h0
          have HP' : Hid (pthC l m = pthC (l.drop (k + 1)) (m.drop (k + 1))) := by show pthC l m = _; rw [HP.out]; simp
          clear HP
          go_wp2_with fail
          go_region_with (go_at_call 60; refine hE.out.mono ?_; rintro e w1 ⟨rfl, b1⟩)
          all_goals
            have B1 : Below w.heap.size w w1 := Below.on hbel.drew b1
            clear q0 q1 q2 r0 r1 r2
            go_wp2
            go_roundw
            case rel => exact ⟨k + 1, by omega, by omega, by go_num, HP'.out, B1⟩
            case measure => simp [intOf]; omega
        · have HP' : Hid (pthC l m = sc) := by show pthC l m = _; rw [HP.out]; simp [h0]
          have h0' : (sc != 0) = true := by simp [h0]
          clear HP
          go_wp2_with fail
          go_region_with (go_at_call 60; refine hE.out.mono ?_; rintro e w1 ⟨rfl, b1⟩)
          all_goals
            have B1 : Below w.heap.size w w1 := Below.on hbel.drew b1
            clear q0 q1 q2 r0 r1 r2
            go_wp2
            go_ret
            exact ⟨ret_i64 (by rw [HP'.out]), B1⟩
      · have hlt' : (k : Int) < (l.length : Int) := by omega
        have hlt2' : ¬ (k : Int) < (m.length : Int) := by omega
        rw [pthC_end1 hlt hlt2] at hP
        have HP := hide' hP
        have hnum : numC (l.length : Int) (m.length : Int) = 1 := numC_gt (by omega)
        have Hn := hide' hnum
        clear hP hnum
        go_wp2_with fail
        refine (l2num_any _ _ _).mono ?_
        rintro e w1 ⟨rfl, e1⟩
        obtain rfl := e1
        go_wp2
        go_ret
        exact ⟨ret_i64 (by rw [HP.out, Hn.out]), hbel⟩
    · have hlt' : ¬ (k : Int) < (l.length : Int) := by omega
      have hkl : k = l.length := by omega
      by_cases hlt2 : k < m.length
      · rw [pthC_end2 hlt hlt2] at hP
        have HP := hide' hP
        have Hn : Hid (numC (l.length : Int) (m.length : Int) = -1) := numC_lt (by omega)
        clear hP hkl
        go_wp2_with fail
        refine (l2num_any _ _ _).mono ?_
        rintro e w1 ⟨rfl, e1⟩
        obtain rfl := e1
        go_wp2
        go_ret
        exact ⟨ret_i64 (by rw [HP.out, Hn.out]), hbel⟩
      · rw [pthC_end3 hlt hlt2] at hP
        have HP := hide' hP
        have Hn : Hid (numC (l.length : Int) (m.length : Int) = 0) := by
          show numC (l.length : Int) (m.length : Int) = 0
          have : (l.length : Int) = (m.length : Int) := by omega
          rw [this]
          exact numC_eq _
        clear hP hkl
        go_wp2_with fail
        refine (l2num_any _ _ _).mono ?_
        rintro e w1 ⟨rfl, e1⟩
        obtain rfl := e1
        go_wp2
        go_ret
        exact ⟨ret_i64 (by rw [HP.out, Hn.out]), hbel⟩
end Go.Proofs.YtdhlmcgbgdljmaaGreatDoor
/-
  slices.CompareFunc as PathCmp calls it; PathCmp of the program and of the specification: the order of two paths, 0 if one may not be.
-/
namespace Go.Proofs.YtdhlmcgbgdljmaaGreatDoor
open Go.RowKit
set_option linter.unusedVariables false
set_option linter.unusedSimpArgs false

theorem all_at {l : List Stp} (h : l.all stpB = true) {k : Nat} (hk : k < l.length) : stpB l[k] = true := List.all_eq_true.1 h _ (List.getElem_mem hk)

/-- What PathCmp goes on with, of both sides. -/
def CmpEnd_spec (x y : Value) (l m : List Stp) (w : World) : Prop := Calls Tryz.prog 34 #[x, y] w fun e w' => e = .returned (.int .i64 (pthC l m)) ∧ Below w.heap.size w w'
theorem cmpEnd_spec (N : Nat) (x y : Value) (l m : List Stp) (w : World) (hx : PthSeg (fun b => b < N) w x l) (hy : PthSeg (fun b => b < N) w y m) (hN : N ≤ w.heap.size) (hl : l.all stpB = true) (hm : m.all stpB = true) : CmpEnd_spec x y l m w := l3cmp_any N x y l m w hx hy hN
end Go.Proofs.YtdhlmcgbgdljmaaGreatDoor
/-
  What l2int of the specification answers.
-/
namespace Go.Proofs.YtdhlmcgbgdljmaaGreatDoor
open Go.RowKit
set_option linter.unusedVariables false

/-- A number of a value. -/
def intB (n : Int) : Bool := decide (-1000000000000 ≤ n) && decide (n ≤ 1000000000000)

set_option maxHeartbeats 800000 in
theorem spec_l2int_any (n : Int) (w : World) :
    Calls Tryz.prog 69 #[.int .i64 n] w fun e w' => e = .returned (.bool (intB n)) ∧ w = w' := by
  by_cases h1 : -1000000000000 ≤ n
  · by_cases h2 : n ≤ 1000000000000
    · have HO : Hid (intB n = true) := by simp [Hid, intB, h1, h2]
      go_enter Tryz.func69, Tryz.ntmps69
      go_wp2
      go_ret
      exact ⟨ret_bool HO.out.symm, rfl⟩
    · have HO : Hid (intB n = false) := by simp [Hid, intB, h2]
      go_enter Tryz.func69, Tryz.ntmps69
      go_wp2
      go_ret
      exact ⟨ret_bool HO.out.symm, rfl⟩
  · have HO : Hid (intB n = false) := by simp [Hid, intB, h1]
    go_enter Tryz.func69, Tryz.ntmps69
    go_wp2
    go_ret
    exact ⟨ret_bool HO.out.symm, rfl⟩
end Go.Proofs.YtdhlmcgbgdljmaaGreatDoor
/-
  bare of the program: it tells whether all fields are nought that a kind does not have.
-/
namespace Go.Proofs.YtdhlmcgbgdljmaaGreatDoor
open Go.RowKit
set_option linter.unusedVariables false
set_option linter.unusedSimpArgs false

/-- All fields are nought that the kind does not have. -/
def bareB (vk vn : Int) (n2 n3 n4 : Nat) : Bool := (decide (vk = 1) || decide (vk = 2) || decide (vn = 0)) && (decide (vk = 3) || decide (n2 = 0)) && (decide (vk = 5) || decide (n3 = 0)) && (decide (vk = 4) || decide (vk = 5) || decide (n4 = 0))

set_option maxHeartbeats 4000000 in
theorem impl_bare_any (vk vn : Int) (a2 a3 a4 : Option Addr) (n2 n3 n4 p2 p3 p4 : Nat) (w : World) :
    Calls Tryz.prog 81 #[.agg #[.int .i64 vk, .int .i64 vn, .slice a2 n2 p2, .slice a3 n3 p3, .slice a4 n4 p4]] w fun e w' => e = .returned (.bool (bareB vk vn n2 n3 n4)) ∧ Below w.heap.size w w' := by
  have Hb : Hid (∀ o : Obj, Below w.heap.size w (w.alloc o)) := fun o => (Below.refl _ _).alloc (Nat.le_refl _) o
  by_cases k1 : vk = 1
  · subst k1
    by_cases an2 : n2 = 0
    · subst an2
      by_cases an3 : n3 = 0
      · subst an3
        by_cases an4 : n4 = 0
        · subst an4
          go_enter Tryz.func81, Tryz.ntmps81
          go_wp2
          go_ret
          exact ⟨ret_bool (by simp [bareB, *]), Hb.out _⟩
        · have bn4 : ¬ (n4 : Int) = 0 := by omega
          go_enter Tryz.func81, Tryz.ntmps81
          go_wp2
          go_ret
          exact ⟨ret_bool (by simp [bareB, *]), Hb.out _⟩
      · have bn3 : ¬ (n3 : Int) = 0 := by omega
        go_enter Tryz.func81, Tryz.ntmps81
        go_wp2
        go_ret
        exact ⟨ret_bool (by simp [bareB, *]), Hb.out _⟩
    · have bn2 : ¬ (n2 : Int) = 0 := by omega
      go_enter Tryz.func81, Tryz.ntmps81
      go_wp2
      go_ret
      exact ⟨ret_bool (by simp [bareB, *]), Hb.out _⟩
  by_cases k2 : vk = 2
  · subst k2
    by_cases an2 : n2 = 0
    · subst an2
      by_cases an3 : n3 = 0
      · subst an3
        by_cases an4 : n4 = 0
        · subst an4
          go_enter Tryz.func81, Tryz.ntmps81
          go_wp2
          go_ret
          exact ⟨ret_bool (by simp [bareB, *]), Hb.out _⟩
        · have bn4 : ¬ (n4 : Int) = 0 := by omega
          go_enter Tryz.func81, Tryz.ntmps81
          go_wp2
          go_ret
          exact ⟨ret_bool (by simp [bareB, *]), Hb.out _⟩
      · have bn3 : ¬ (n3 : Int) = 0 := by omega
        go_enter Tryz.func81, Tryz.ntmps81
        go_wp2
        go_ret
        exact ⟨ret_bool (by simp [bareB, *]), Hb.out _⟩
    · have bn2 : ¬ (n2 : Int) = 0 := by omega
      go_enter Tryz.func81, Tryz.ntmps81
      go_wp2
      go_ret
      exact ⟨ret_bool (by simp [bareB, *]), Hb.out _⟩
  by_cases k3 : vk = 3
  · subst k3
    by_cases an : vn = 0
    · subst an
      by_cases an3 : n3 = 0
      · subst an3
        by_cases an4 : n4 = 0
        · subst an4
          go_enter Tryz.func81, Tryz.ntmps81
          go_wp2
          go_ret
          exact ⟨ret_bool (by simp [bareB, *]), Hb.out _⟩
        · have bn4 : ¬ (n4 : Int) = 0 := by omega
          go_enter Tryz.func81, Tryz.ntmps81
          go_wp2
          go_ret
          exact ⟨ret_bool (by simp [bareB, *]), Hb.out _⟩
      · have bn3 : ¬ (n3 : Int) = 0 := by omega
        go_enter Tryz.func81, Tryz.ntmps81
        go_wp2
        go_ret
        exact ⟨ret_bool (by simp [bareB, *]), Hb.out _⟩
    · go_enter Tryz.func81, Tryz.ntmps81
      go_wp2
      go_ret
      exact ⟨ret_bool (by simp [bareB, *]), Hb.out _⟩
  by_cases k4 : vk = 4
  · subst k4
    by_cases an : vn = 0
    · subst an
      by_cases an2 : n2 = 0
      · subst an2
        by_cases an3 : n3 = 0
        · subst an3
          go_enter Tryz.func81, Tryz.ntmps81
          go_wp2
          go_ret
          exact ⟨ret_bool (by simp [bareB, *]), Hb.out _⟩
        · have bn3 : ¬ (n3 : Int) = 0 := by omega
          go_enter Tryz.func81, Tryz.ntmps81
          go_wp2
          go_ret
          exact ⟨ret_bool (by simp [bareB, *]), Hb.out _⟩
      · have bn2 : ¬ (n2 : Int) = 0 := by omega
        go_enter Tryz.func81, Tryz.ntmps81
        go_wp2
        go_ret
        exact ⟨ret_bool (by simp [bareB, *]), Hb.out _⟩
    · go_enter Tryz.func81, Tryz.ntmps81
      go_wp2
      go_ret
      exact ⟨ret_bool (by simp [bareB, *]), Hb.out _⟩
  by_cases k5 : vk = 5
  · subst k5
    by_cases an : vn = 0
    · subst an
      by_cases an2 : n2 = 0
      · subst an2
        go_enter Tryz.func81, Tryz.ntmps81
        go_wp2
        go_ret
        exact ⟨ret_bool (by simp [bareB, *]), Hb.out _⟩
      · have bn2 : ¬ (n2 : Int) = 0 := by omega
        go_enter Tryz.func81, Tryz.ntmps81
        go_wp2
        go_ret
        exact ⟨ret_bool (by simp [bareB, *]), Hb.out _⟩
    · go_enter Tryz.func81, Tryz.ntmps81
      go_wp2
      go_ret
      exact ⟨ret_bool (by simp [bareB, *]), Hb.out _⟩
  by_cases an : vn = 0
  · subst an
    by_cases an2 : n2 = 0
    · subst an2
      by_cases an3 : n3 = 0
      · subst an3
        by_cases an4 : n4 = 0
        · subst an4
          go_enter Tryz.func81, Tryz.ntmps81
          go_wp2
          go_ret
          exact ⟨ret_bool (by simp [bareB, *]), Hb.out _⟩
        · have bn4 : ¬ (n4 : Int) = 0 := by omega
          go_enter Tryz.func81, Tryz.ntmps81
          go_wp2
          go_ret
          exact ⟨ret_bool (by simp [bareB, *]), Hb.out _⟩
      · have bn3 : ¬ (n3 : Int) = 0 := by omega
        go_enter Tryz.func81, Tryz.ntmps81
        go_wp2
        go_ret
        exact ⟨ret_bool (by simp [bareB, *]), Hb.out _⟩
    · have bn2 : ¬ (n2 : Int) = 0 := by omega
      go_enter Tryz.func81, Tryz.ntmps81
      go_wp2
      go_ret
      exact ⟨ret_bool (by simp [bareB, *]), Hb.out _⟩
  · go_enter Tryz.func81, Tryz.ntmps81
    go_wp2
    go_ret
    exact ⟨ret_bool (by simp [bareB, *]), Hb.out _⟩
end Go.Proofs.YtdhlmcgbgdljmaaGreatDoor
