/-
  Texts that a law leans on, one behind the other; no statement is proved here.
-/
import Derived.Test.YtcepgdlnlmhecaaPk3
import Derived.Deep.RegionWith
import Derived.Deep.RegionHeld3
/-
  eqStep, eqStepS of the laws: of two readings of the same path they answer true, and turn nothing old.
-/
namespace Go.Proofs.Ytcepgdlnlmhecaa
open Go.RowKit
set_option linter.unusedVariables false

set_option maxHeartbeats 1600000 in
theorem eqStep_same (N : Nat) (c0 c1 c2 e0 e1 e2 : Value) (s : Stp) (w : World) (h : StSeg (fun b => b < N) w (c0, c1, c2) s) (h' : StSeg (fun b => b < N) w (e0, e1, e2) s) (hN : N ≤ w.heap.size) (hz : s.2.1.length ≤ 1048576) :
    Calls Try.prog 47 #[.agg #[c0, c1, c2], .agg #[e0, e1, e2]] w fun e w' => e = .returned (.bool true) ∧ Below w.heap.size w w' := by
  obtain ⟨sk, ss, si⟩ := s
  obtain ⟨g0, ht, g2⟩ := h
  obtain ⟨f0, ht', f2⟩ := h'
  simp only at g0 ht g2 f0 ht' f2 hz
  subst g0
  subst g2
  subst f0
  subst f2
  have Ht : Hid (∀ wx, Below w.heap.size w wx → TSeg (fun b => b < N) wx c1 ss ∧ TSeg (fun b => b < N) wx e1 ss) := fun wx hb => ⟨ht.agree (agree_below (hb.mono hN)), ht'.agree (agree_below (hb.mono hN))⟩
  have Hb : Hid (∀ o o' : Obj, Below w.heap.size w ((w.alloc o).alloc o')) := fun o o' => ((Below.refl _ _).alloc (Nat.le_refl _) o).alloc (by simp) o'
  obtain ⟨a2, cp2, rfl, s2, hl2, hm2, _, _⟩ := ht
  obtain ⟨a2', cp2', rfl, s2', hl2', hm2', _, _⟩ := ht'
  have Hs : Hid (∀ wx, Below w.heap.size w wx → Seg wx a2 ss ∧ Seg wx a2' ss) := by
    intro wx hb
    obtain ⟨x1, x2⟩ := Ht.out wx hb
    obtain ⟨_, _, y1, y2, _⟩ := x1
    obtain ⟨_, _, z1, z2, _⟩ := x2
    simp at y1 z1
    exact ⟨y1.1 ▸ y2, z1.1 ▸ z2⟩
  clear Ht s2 s2'
  have R1 := hide' (two_boxes w (.cells #[.int .i64 sk, .slice a2 ss.length cp2, .int .i64 si] 47) (.cells #[.int .i64 sk, .slice a2' ss.length cp2', .int .i64 si] 47))
  go_enter Try.func47, Try.ntmps47
  go_wp2_with fail
  have q1 := Hb.out (.cells #[.int .i64 sk, .slice a2 ss.length cp2, .int .i64 si] 47) (.cells #[.int .i64 sk, .slice a2' ss.length cp2', .int .i64 si] 47)
  refine (eqByteS_same _ _ _ _ ss _ (Hs.out _ q1).1 (Hs.out _ q1).2 (by omega)).mono ?_
  rintro e w1 ⟨rfl, b1⟩
  have B1 := Below.on q1 b1
  obtain ⟨_, _, x2, _⟩ := row3 ((b1.block _ (by rw [size2]; omega)).trans R1.out.1)
  obtain ⟨_, _, y2, _⟩ := row3 ((b1.block _ (by rw [size2]; omega)).trans R1.out.2)
  clear q1 b1 Hs
  go_wp2
  go_ret
  exact ⟨rfl, B1⟩

set_option maxHeartbeats 1600000 in
theorem eqStepS_same (N : Nat) (x y : Value) (l : List Stp) (w : World) (hx : PthSeg (fun b => b < N) w x l) (hy : PthSeg (fun b => b < N) w y l) (hN : N ≤ w.heap.size) (hz : szP l ≤ 1048576) :
    Calls Try.prog 29 #[x, y] w fun e w' => e = .returned (.bool true) ∧ Below w.heap.size w w' := by
  have HC := hide' hx
  have HC' := hide' hy
  obtain ⟨a, cap, rfl, hlc, hcm, ka, hc⟩ := hx
  obtain ⟨a', cap', rfl, hlc', hcm', ka', hc'⟩ := hy
  have hn : l.length ≤ 1048576 := by unfold szP at hz; omega
  have HZ := hide' hz
  clear hc hc' hz
  unfold maxLen at hcm hcm'
  go_enter Try.func29, Try.ntmps29
  go_wp2
  go_loopw [5] (fun i wr => ∃ k : Nat, k ≤ l.length ∧ i = .int .i64 k ∧ Below w.heap.size w wr) (fun i _ => l.length - (intOf i).toNat)
  case atStart => exact ⟨0, Nat.zero_le _, rfl, Below.refl _ _⟩
  case round =>
    obtain ⟨k, hk, rfl, hbel⟩ := hrel
    have hsz2 := hbel.size
    by_cases hlt : k < l.length
    · obtain ⟨b, off, c0, c1, c2, rfl, _, h3, hv⟩ := (HC.out.agree (agree_below (hbel.mono hN))).at hlt
      obtain ⟨b', off', e0, e1, e2, rfl, _, h3', hv'⟩ := (HC'.out.agree (agree_below (hbel.mono hN))).at hlt
      obtain ⟨q0, q1, q2⟩ := h3
      obtain ⟨r0, r1, r2⟩ := h3'
      simp only at q0 q1 q2 r0 r1 r2
      have hlt' : (k : Int) < (l.length : Int) := by omega
      have hzk := Nat.le_trans (szP_elem hlt) HZ.out
      have hE := hide' (eqStep_same N c0 c1 c2 e0 e1 e2 l[k] wr.drew (hv.agree (w' := wr.drew) (fun b _ => rfl)) (hv'.agree (w' := wr.drew) (fun b _ => rfl)) (by show N ≤ wr.heap.size; omega) hzk)
      clear hv hv' hzk
      go_wp2_with fail
      go_region_with (go_at_call 47; refine hE.out.mono ?_; rintro e w1 ⟨rfl, b1⟩)
      all_goals
        have B1 : Below w.heap.size w w1 := Below.on hbel.drew b1
        clear q0 q1 q2 r0 r1 r2
        go_wp2
        go_roundw
        case rel => exact ⟨k + 1, by omega, by go_num, B1⟩
        case measure => simp [intOf]; omega
    · have hlt' : ¬ (k : Int) < (l.length : Int) := by omega
      go_wp2
      go_ret
      exact ⟨rfl, hbel⟩
end Go.Proofs.Ytcepgdlnlmhecaa
/-
  NameOk, of the program and of the specification: of a slice of bytes it tells whether it is a name, and turns nothing; the law FnExactNameOk.
-/
namespace Go.Proofs.Ytcepgdlnlmhecaa
open Go.RowKit
set_option linter.unusedVariables false

/-- A letter of a name. -/
def letB (c : Int) : Bool := decide (97 ≤ c) && decide (c ≤ 122)
/-- A name. -/
def nameB (xs : List Int) : Bool := decide (1 ≤ xs.length) && decide (xs.length ≤ 8) && xs.all letB

theorem nameB_short (xs : List Int) (h : xs.length < 1) : nameB xs = false := by simp [nameB]; omega
theorem nameB_long (xs : List Int) (h : 8 < xs.length) : nameB xs = false := by simp [nameB]; omega
theorem nameB_all (xs : List Int) (h1 : 1 ≤ xs.length) (h2 : xs.length ≤ 8) : nameB xs = xs.all letB := by simp [nameB, h1, h2]

/-- The first k all fulfil p. -/
def fstAll (p : Int → Bool) (xs : List Int) (k : Nat) : Prop := ∀ i, i < k → p (xs.getD i 0) = true
theorem fstAll_zero (p : Int → Bool) (xs : List Int) : fstAll p xs 0 := fun i h => by omega
theorem fstAll_succ {p : Int → Bool} {xs : List Int} {k : Nat} (h : fstAll p xs k) (hk : p (xs.getD k 0) = true) : fstAll p xs (k + 1) := by
  intro i hi
  by_cases e : i = k
  · rw [e]; exact hk
  · exact h i (by omega)
theorem all_of_fstAll {p : Int → Bool} {xs : List Int} (h : fstAll p xs xs.length) : xs.all p = true := by
  rw [List.all_eq_true]
  intro x hx
  obtain ⟨i, hi, rfl⟩ := List.getElem_of_mem hx
  have := h i hi
  simpa [List.getD_eq_getElem?_getD, hi] using this
theorem not_all_of {p : Int → Bool} {xs : List Int} {k : Nat} (hk : k < xs.length) (h : p (xs.getD k 0) = false) : xs.all p = false := by
  rw [List.all_eq_false]
  refine ⟨xs[k], List.getElem_mem hk, ?_⟩
  simpa [List.getD_eq_getElem?_getD, hk] using h

set_option maxHeartbeats 800000 in
theorem impl_NameOk_any (a : Option Addr) (c1 : Nat) (xs : List Int) (w : World) (ha : Seg w a xs) (hl : xs.length ≤ maxLen) :
    Calls Try.prog 57 #[.slice a xs.length c1] w fun e w' => e = .returned (.bool (nameB xs)) ∧ w = w' := by
  unfold maxLen at hl
  by_cases h1 : xs.length < 1
  · have HO : Hid (nameB xs = false) := nameB_short xs h1
    have h1' : (xs.length : Int) < 1 := by omega
    go_enter Try.func57, Try.ntmps57
    go_wp2
    go_ret
    exact ⟨ret_bool HO.out.symm, rfl⟩
  by_cases h2 : 8 < xs.length
  · have HO : Hid (nameB xs = false) := nameB_long xs h2
    have h1' : ¬ (xs.length : Int) < 1 := by omega
    have h2' : (8 : Int) < (xs.length : Int) := by omega
    go_enter Try.func57, Try.ntmps57
    go_wp2
    go_ret
    exact ⟨ret_bool HO.out.symm, rfl⟩
  have HO : Hid (nameB xs = xs.all letB) := nameB_all xs (by omega) (by omega)
  have hb := getD_byt ha.1
  generalize hn : xs.length = n at *
  have Hn : Hid (xs.length = n) := hn
  have h1' : ¬ (n : Int) < 1 := by omega
  have h2' : ¬ (8 : Int) < (n : Int) := by omega
  clear hn
  go_enter Try.func57, Try.ntmps57
  go_wp2
  go_loopw [15] (fun i wr => ∃ k : Nat, k ≤ n ∧ i = .int .i64 k ∧ fstAll letB xs k ∧ wr = w) (fun i _ => n - (intOf i).toNat)
  case atStart => exact ⟨0, Nat.zero_le _, rfl, fstAll_zero _ _, rfl⟩
  case round =>
    obtain ⟨k, hk, rfl, hall, rfl⟩ := hrel
    by_cases hlt : k < n
    · obtain ⟨b1, o1, rfl, hc1⟩ := ha.at (k := k) (by have := Hn.out; omega)
      have hbk := hb k
      have HS : Hid (letB (xs.getD k 0) = true → fstAll letB xs (k + 1)) := fun h => fstAll_succ hall h
      have HN : Hid (letB (xs.getD k 0) = false → xs.all letB = false) := fun h => not_all_of (by have := Hn.out; omega) h
      generalize xs.getD k 0 = c at hc1 hbk HS HN
      have hlt' : (k : Int) < (n : Int) := by omega
      obtain ⟨hb1, hb2⟩ := hbk
      by_cases hc : c < 97
      · have HF : Hid (xs.all letB = false) := HN.out (by simp [letB]; omega)
        go_wp2
        go_ret
        exact ⟨ret_bool (by rw [HO.out, HF.out]), rfl⟩
      · by_cases hd : 122 < c
        · have HF : Hid (xs.all letB = false) := HN.out (by simp [letB]; omega)
          go_wp2
          go_ret
          exact ⟨ret_bool (by rw [HO.out, HF.out]), rfl⟩
        · have HF : Hid (fstAll letB xs (k + 1)) := HS.out (by simp [letB]; omega)
          go_wp2
          go_roundw
          case rel => exact ⟨k + 1, by omega, by go_num, HF.out, by first | rfl | trivial⟩
          case measure => simp [intOf]; omega
    · have HF : Hid (xs.all letB = true) := all_of_fstAll (by rw [Hn.out]; have e : k = n := by omega
                                                              rw [← e]; exact hall)
      have hlt' : ¬ (k : Int) < (n : Int) := by omega
      go_wp2
      go_ret
      exact ⟨ret_bool (by rw [HO.out, HF.out]), rfl⟩

set_option maxHeartbeats 800000 in
theorem spec_NameOk_any (a : Option Addr) (c1 : Nat) (xs : List Int) (w : World) (ha : Seg w a xs) (hl : xs.length ≤ maxLen) :
    Calls Try.prog 20 #[.slice a xs.length c1] w fun e w' => e = .returned (.bool (nameB xs)) ∧ w = w' := by
  unfold maxLen at hl
  by_cases h1 : xs.length < 1
  · have HO : Hid (nameB xs = false) := nameB_short xs h1
    have h1' : (xs.length : Int) < 1 := by omega
    go_enter Try.func20, Try.ntmps20
    go_wp2
    go_ret
    exact ⟨ret_bool HO.out.symm, rfl⟩
  by_cases h2 : 8 < xs.length
  · have HO : Hid (nameB xs = false) := nameB_long xs h2
    have h1' : ¬ (xs.length : Int) < 1 := by omega
    have h2' : (8 : Int) < (xs.length : Int) := by omega
    go_enter Try.func20, Try.ntmps20
    go_wp2
    go_ret
    exact ⟨ret_bool HO.out.symm, rfl⟩
  have HO : Hid (nameB xs = xs.all letB) := nameB_all xs (by omega) (by omega)
  have hb := getD_byt ha.1
  generalize hn : xs.length = n at *
  have Hn : Hid (xs.length = n) := hn
  have h1' : ¬ (n : Int) < 1 := by omega
  have h2' : ¬ (8 : Int) < (n : Int) := by omega
  clear hn
  go_enter Try.func20, Try.ntmps20
  go_wp2
  go_loopw [3] (fun i wr => ∃ k : Nat, k ≤ n ∧ i = .int .i64 k ∧ fstAll letB xs k ∧ wr = w) (fun i _ => n - (intOf i).toNat)
  case atStart => exact ⟨0, Nat.zero_le _, rfl, fstAll_zero _ _, rfl⟩
  case round =>
    obtain ⟨k, hk, rfl, hall, rfl⟩ := hrel
    by_cases hlt : k < n
    · obtain ⟨b1, o1, rfl, hc1⟩ := ha.at (k := k) (by have := Hn.out; omega)
      have hbk := hb k
      have HS : Hid (letB (xs.getD k 0) = true → fstAll letB xs (k + 1)) := fun h => fstAll_succ hall h
      have HN : Hid (letB (xs.getD k 0) = false → xs.all letB = false) := fun h => not_all_of (by have := Hn.out; omega) h
      generalize xs.getD k 0 = c at hc1 hbk HS HN
      have hlt' : (k : Int) < (n : Int) := by omega
      obtain ⟨hb1, hb2⟩ := hbk
      by_cases hc : c < 97
      · have HF : Hid (xs.all letB = false) := HN.out (by simp [letB]; omega)
        go_wp2
        go_ret
        exact ⟨ret_bool (by rw [HO.out, HF.out]), rfl⟩
      · by_cases hd : 122 < c
        · have HF : Hid (xs.all letB = false) := HN.out (by simp [letB]; omega)
          go_wp2
          go_ret
          exact ⟨ret_bool (by rw [HO.out, HF.out]), rfl⟩
        · have HF : Hid (fstAll letB xs (k + 1)) := HS.out (by simp [letB]; omega)
          go_wp2
          go_roundw
          case rel => exact ⟨k + 1, by omega, by go_num, HF.out, by first | rfl | trivial⟩
          case measure => simp [intOf]; omega
    · have HF : Hid (xs.all letB = true) := all_of_fstAll (by rw [Hn.out]; have e : k = n := by omega
                                                              rw [← e]; exact hall)
      have hlt' : ¬ (k : Int) < (n : Int) := by omega
      go_wp2
      go_ret
      exact ⟨ret_bool (by rw [HO.out, HF.out]), rfl⟩
end Go.Proofs.Ytcepgdlnlmhecaa
/-
  PathOk, of the program and of the specification: of a path it tells whether it may be, and turns nothing old.
-/
namespace Go.Proofs.Ytcepgdlnlmhecaa
open Go.RowKit
set_option linter.unusedVariables false

/-- A step that may be. -/
def stpB (s : Stp) : Bool := (decide (s.1 = 0) && (nameB s.2.1 && decide (s.2.2 = 0))) || (decide (s.1 = 1) && (decide (s.2.1.length = 0) && decide (0 ≤ s.2.2) && decide (s.2.2 < 40)))
/-- A path that may be. -/
def pathB (l : List Stp) : Bool := decide (l.length ≤ 6) && l.all stpB

theorem stpB_key (ss : List Int) (i : Int) : stpB (0, ss, i) = (nameB ss && decide (i = 0)) := by simp [stpB]
theorem stpB_item (ss : List Int) (i : Int) : stpB (1, ss, i) = (decide (ss.length = 0) && decide (0 ≤ i) && decide (i < 40)) := by simp [stpB]
theorem stpB_none (k : Int) (ss : List Int) (i : Int) (h0 : k ≠ 0) (h1 : k ≠ 1) : stpB (k, ss, i) = false := by simp [stpB, h0, h1]

theorem pathB_long (l : List Stp) (h : 6 < l.length) : pathB l = false := by simp [pathB]; omega
theorem pathB_all (l : List Stp) (h : ¬ 6 < l.length) : pathB l = l.all stpB := by
  have h' : l.length ≤ 6 := by omega
  simp [pathB, h']

/-- The first k all fulfil p. -/
def fstP (l : List Stp) (k : Nat) : Prop := ∀ i (h : i < l.length), i < k → stpB l[i] = true
theorem fstP_succ {l : List Stp} {k : Nat} (h : fstP l k) (hk : k < l.length) (hs : stpB l[k] = true) : fstP l (k + 1) := by
  intro i hi hik
  by_cases e : i = k
  · subst e; exact hs
  · exact h i hi (by omega)
theorem all_fstP {l : List Stp} (h : fstP l l.length) : l.all stpB = true := by
  rw [List.all_eq_true]
  intro x hx
  obtain ⟨i, hi, rfl⟩ := List.getElem_of_mem hx
  exact h i hi hi
theorem not_all_stp {l : List Stp} {k : Nat} (hk : k < l.length) (h : stpB l[k] = false) : l.all stpB = false := by
  rw [List.all_eq_false]
  exact ⟨l[k], List.getElem_mem hk, by rw [h]; simp⟩

theorem ret_bl {x y : Bool} (h : x = y) : Ending.returned (.bool x) = .returned (.bool y) := by rw [h]

set_option maxHeartbeats 1600000 in
theorem impl_stepOk_any (N : Nat) (c0 c1 c2 : Value) (s : Stp) (w : World) (hs : StSeg (fun b => b < N) w (c0, c1, c2) s) (hN : N ≤ w.heap.size) :
    Calls Try.prog 52 #[.agg #[c0, c1, c2]] w fun e w' => e = .returned (.bool (stpB s)) ∧ Below w.heap.size w w' := by
  obtain ⟨sk, ss, si⟩ := s
  obtain ⟨e0, ht, e2⟩ := hs
  simp only at e0 ht e2
  subst e0
  subst e2
  have Ht : Hid (∀ w' : World, Below w.heap.size w w' → TSeg (fun b => b < N) w' c1 ss) := fun w' h => ht.agree (agree_below (h.mono hN))
  obtain ⟨a2, cp2, rfl, s2, hl2, hm2, _, _⟩ := ht
  have hb0 : ∀ o : Obj, Below w.heap.size w (w.alloc o) := fun o => (Below.refl _ _).alloc (Nat.le_refl _) o
  have Hb := hide' hb0
  unfold maxLen at hm2
  clear s2 hb0
  by_cases h0 : sk = 0
  · subst h0
    have HO := hide' (stpB_key ss si)
    have HS : Hid (∀ o : Obj, Calls Try.prog 57 #[.slice a2 ss.length cp2] (w.alloc o) fun e w' => e = .returned (.bool (nameB ss)) ∧ w.alloc o = w') := by
      intro o
      obtain ⟨a2', cp2', e2, sT, _⟩ := Ht.out _ (Hb.out o)
      simp only [Value.slice.injEq, true_and] at e2
      obtain ⟨rfl, rfl⟩ := e2
      exact impl_NameOk_any _ _ ss _ sT (by unfold maxLen; omega)
    clear Ht
    go_enter Try.func52, Try.ntmps52
    go_wp2_with fail
    refine (HS.out _).mono ?_
    rintro e w1 ⟨rfl, e1⟩
    obtain rfl := e1
    generalize nameB ss = nb at *
    cases nb
    · go_wp2
      go_ret
      exact ⟨ret_bl (by rw [HO.out]; simp), Hb.out _⟩
    · go_wp2
      go_ret
      exact ⟨ret_bl (by rw [HO.out, Bool.true_and]; rfl), Hb.out _⟩
  · by_cases h1 : sk = 1
    · subst h1
      have HO := hide' (stpB_item ss si)
      clear Ht
      by_cases hl : ss.length = 0
      · have hl' : (ss.length : Int) = 0 := by omega
        by_cases hi : 0 ≤ si
        · have HQ : Hid (stpB (1, ss, si) = decide (si < 40)) := by show stpB (1, ss, si) = _; rw [HO.out]; simp [hl, hi]
          clear HO
          go_enter Try.func52, Try.ntmps52
          go_wp2
          go_ret
          exact ⟨ret_bl (by rw [HQ.out]), Hb.out _⟩
        · have HQ : Hid (stpB (1, ss, si) = false) := by show stpB (1, ss, si) = _; rw [HO.out]; simp [hi]
          clear HO
          go_enter Try.func52, Try.ntmps52
          go_wp2
          go_ret
          exact ⟨ret_bl (by rw [HQ.out]), Hb.out _⟩
      · have hl' : ¬ (ss.length : Int) = 0 := by omega
        have HQ : Hid (stpB (1, ss, si) = false) := by show stpB (1, ss, si) = _; rw [HO.out]; simp [hl]
        clear HO
        go_enter Try.func52, Try.ntmps52
        go_wp2
        go_ret
        exact ⟨ret_bl (by rw [HQ.out]), Hb.out _⟩
    · have HQ := hide' (stpB_none sk ss si h0 h1)
      clear Ht
      go_enter Try.func52, Try.ntmps52
      go_wp2
      go_ret
      exact ⟨ret_bl (by rw [HQ.out]), Hb.out _⟩

set_option maxHeartbeats 1600000 in
theorem impl_PathOk_any (N : Nat) (x : Value) (l : List Stp) (w : World) (hx : PthSeg (fun b => b < N) w x l) (hN : N ≤ w.heap.size) :
    Calls Try.prog 43 #[x] w fun e w' => e = .returned (.bool (pathB l)) ∧ Below w.heap.size w w' := by
  have HC := hide' hx
  obtain ⟨a, cap, rfl, hlc, hcm, ka, hc⟩ := hx
  unfold maxLen at hcm
  clear hc
  by_cases hlong : 6 < l.length
  · have HO := hide' (pathB_long l hlong)
    have h' : (6 : Int) < (l.length : Int) := by omega
    go_enter Try.func43, Try.ntmps43
    go_wp2
    go_ret
    exact ⟨ret_bl (by rw [HO.out]), Below.refl _ _⟩
  · have HO := hide' (pathB_all l hlong)
    have h' : ¬ (6 : Int) < (l.length : Int) := by omega
    go_enter Try.func43, Try.ntmps43
    go_wp2
    go_loopw [10] (fun i wr => ∃ k : Nat, k ≤ l.length ∧ i = .int .i64 k ∧ fstP l k ∧ Below w.heap.size w wr) (fun i _ => l.length - (intOf i).toNat)
    case atStart => exact ⟨0, Nat.zero_le _, rfl, fun i _ h => by omega, Below.refl _ _⟩
    case round =>
      obtain ⟨k, hk, rfl, hall, hbel⟩ := hrel
      have hsz := hbel.size
      by_cases hlt : k < l.length
      · have hlt' : (k : Int) < (l.length : Int) := by omega
        obtain ⟨b, off, c0, c1, c2, rfl, _, h3, hv⟩ := (HC.out.agree (agree_below (hbel.mono hN))).at hlt
        obtain ⟨q0, q1, q2⟩ := h3
        simp only at q0 q1 q2
        have HF : Hid (stpB l[k] = true → fstP l (k + 1)) := fun h => fstP_succ hall hlt h
        have HN : Hid (stpB l[k] = false → l.all stpB = false) := fun h => not_all_stp hlt h
        have HS : Hid (∀ o : Obj, Calls Try.prog 52 #[.agg #[c0, c1, c2]] (wr.alloc o) fun e w' => e = .returned (.bool (stpB l[k])) ∧ Below w.heap.size w w') := by
          intro o
          have b0 : Below wr.heap.size wr (wr.alloc o) := (Below.refl _ _).alloc (Nat.le_refl _) o
          refine (impl_stepOk_any N c0 c1 c2 l[k] (wr.alloc o) (hv.agree (agree_below (b0.mono (by omega)))) (by have := b0.size; omega)).mono fun e w' h => ⟨h.1, Below.on (Below.on hbel b0) h.2⟩
        obtain ⟨g0, gt, g2⟩ := hv
        obtain ⟨a2, cp2, g1, _⟩ := gt
        simp only at g0 g1 g2
        subst g0
        subst g1
        subst g2
        generalize (l[k]).1 = vk at *
        generalize (l[k]).2.1.length = vn at *
        generalize (l[k]).2.2 = vi at *
        generalize stpB l[k] = sb at *
        clear hall
        go_wp2_with fail
        refine (HS.out _).mono ?_
        rintro e w1 ⟨rfl, B1⟩
        clear HS q0 q1 q2
        cases sb
        · have HF' := hide' (HN.out rfl)
          go_wp2
          go_ret
          exact ⟨ret_bl (by rw [HO.out, HF'.out]), B1⟩
        · have HF' := hide' (HF.out rfl)
          go_wp2
          go_roundw
          case rel => exact ⟨k + 1, by omega, by go_num, HF'.out, B1⟩
          case measure => simp [intOf]; omega
      · have hkn : k = l.length := by omega
        have hkn' : ¬ (k : Int) < (l.length : Int) := by omega
        rw [hkn] at hall
        have HF := hide' (all_fstP hall)
        clear hkn hall
        go_wp2
        go_ret
        exact ⟨ret_bl (by rw [HO.out, HF.out]), hbel⟩

/-- What each case of the specification's loop may rest on. -/
theorem stpB_at (s : Stp) : stpB s = stpB (s.1, s.2.1, s.2.2) := rfl

set_option maxHeartbeats 3200000 in
theorem spec_PathOk_any (N : Nat) (x : Value) (l : List Stp) (w : World) (hx : PthSeg (fun b => b < N) w x l) (hN : N ≤ w.heap.size) :
    Calls Try.prog 10 #[x] w fun e w' => e = .returned (.bool (pathB l)) ∧ Below w.heap.size w w' := by
  have HC := hide' hx
  obtain ⟨a, cap, rfl, hlc, hcm, ka, hc⟩ := hx
  unfold maxLen at hcm
  clear hc
  by_cases hlong : 6 < l.length
  · have HO := hide' (pathB_long l hlong)
    have h' : (6 : Int) < (l.length : Int) := by omega
    go_enter Try.func10, Try.ntmps10
    go_wp2
    go_ret
    exact ⟨ret_bl (by rw [HO.out]), Below.refl _ _⟩
  · have HO := hide' (pathB_all l hlong)
    have h' : ¬ (6 : Int) < (l.length : Int) := by omega
    go_enter Try.func10, Try.ntmps10
    go_wp2
    go_loopw [3] (fun i wr => ∃ k : Nat, k ≤ l.length ∧ i = .int .i64 k ∧ fstP l k ∧ Below w.heap.size w wr) (fun i _ => l.length - (intOf i).toNat)
    case atStart => exact ⟨0, Nat.zero_le _, rfl, fun i _ h => by omega, Below.refl _ _⟩
    case round =>
      obtain ⟨k, hk, rfl, hall, hbel⟩ := hrel
      have hsz := hbel.size
      by_cases hlt : k < l.length
      · have hlt' : (k : Int) < (l.length : Int) := by omega
        obtain ⟨b, off, c0, c1, c2, rfl, _, h3, hv⟩ := (HC.out.agree (agree_below (hbel.mono hN))).at hlt
        obtain ⟨q0, q1, q2⟩ := h3
        simp only at q0 q1 q2
        have HF : Hid (stpB ((l[k]).1, (l[k]).2.1, (l[k]).2.2) = true → fstP l (k + 1)) := fun h => fstP_succ hall hlt h
        have HN : Hid (stpB ((l[k]).1, (l[k]).2.1, (l[k]).2.2) = false → l.all stpB = false) := fun h => not_all_stp hlt h
        have HB : Hid (∀ o : Obj, Below w.heap.size w (wr.alloc o)) := fun o => Below.on hbel ((Below.refl _ _).alloc (Nat.le_refl _) o)
        obtain ⟨g0, gt, g2⟩ := hv
        simp only at g0 gt g2
        generalize (l[k]).1 = vk at *
        generalize (l[k]).2.1 = ss at *
        generalize (l[k]).2.2 = si at *
        have Ht : Hid (∀ o : Obj, TSeg (fun b => b < N) (wr.alloc o) c1 ss) := fun o => gt.agree (agree_below (((Below.refl _ _).alloc (Nat.le_refl _) o : Below wr.heap.size wr (wr.alloc o)).mono (by omega)))
        obtain ⟨a2, cp2, g1, _, hl2, hm2, _⟩ := gt
        subst g0
        subst g1
        subst g2
        unfold maxLen at hm2
        clear hall
        by_cases h0 : vk = 0
        · subst h0
          rw [stpB_key] at HF HN
          have HS : Hid (∀ o : Obj, Calls Try.prog 20 #[.slice a2 ss.length cp2] (wr.alloc o) fun e w' => e = .returned (.bool (nameB ss)) ∧ wr.alloc o = w') := by
            intro o
            obtain ⟨a2', cp2', e2, sT, _⟩ := Ht.out o
            simp only [Value.slice.injEq, true_and] at e2
            obtain ⟨rfl, rfl⟩ := e2
            exact spec_NameOk_any _ _ ss _ sT (by unfold maxLen; omega)
          clear Ht
          generalize nameB ss = nb at *
          by_cases hi0 : si = 0
          · subst hi0
            cases nb
            · have HF' := hide' (HN.out rfl)
              go_wp2_with fail
              refine (HS.out _).mono ?_
              rintro e w1 ⟨rfl, e1⟩
              obtain rfl := e1
              go_wp2
              go_ret
              exact ⟨ret_bl (by rw [HO.out, HF'.out]), HB.out _⟩
            · have HF' := hide' (HF.out rfl)
              go_wp2_with fail
              refine (HS.out _).mono ?_
              rintro e w1 ⟨rfl, e1⟩
              obtain rfl := e1
              go_wp2
              go_roundw
              case rel => exact ⟨k + 1, by omega, by go_num, HF'.out, HB.out _⟩
              case measure => simp [intOf]; omega
          · have HF' := hide' (HN.out (by simp [hi0]))
            have hin : (si != 0) = true := by simp [hi0]
            go_wp2_with fail
            refine (HS.out _).mono ?_
            rintro e w1 ⟨rfl, e1⟩
            obtain rfl := e1
            cases nb
            · go_wp2
              go_ret
              exact ⟨ret_bl (by rw [HO.out, HF'.out]), HB.out _⟩
            · go_wp2
              go_ret
              exact ⟨ret_bl (by rw [HO.out, HF'.out]), HB.out _⟩
        · by_cases h1 : vk = 1
          · subst h1
            rw [stpB_item] at HF HN
            clear Ht
            by_cases hl : ss.length = 0
            · have hl' : ¬ (0 : Int) < (ss.length : Int) := by omega
              by_cases hi : 0 ≤ si
              · have hi' : ¬ si < 0 := by omega
                by_cases hj : si < 40
                · have HF' := hide' (HF.out (by simp [hl, hi, hj]))
                  have hj' : ¬ (40 : Int) ≤ si := by omega
                  go_wp2
                  go_roundw
                  case rel => exact ⟨k + 1, by omega, by go_num, HF'.out, HB.out _⟩
                  case measure => simp [intOf]; omega
                · have HF' := hide' (HN.out (by simp [hj]))
                  have hj' : (40 : Int) ≤ si := by omega
                  go_wp2
                  go_ret
                  exact ⟨ret_bl (by rw [HO.out, HF'.out]), HB.out _⟩
              · have HF' := hide' (HN.out (by simp [hi]))
                have hi' : si < 0 := by omega
                go_wp2
                go_ret
                exact ⟨ret_bl (by rw [HO.out, HF'.out]), HB.out _⟩
            · have HF' := hide' (HN.out (by simp [hl]))
              have hl' : (0 : Int) < (ss.length : Int) := by omega
              go_wp2
              go_ret
              exact ⟨ret_bl (by rw [HO.out, HF'.out]), HB.out _⟩
          · have HF' := hide' (HN.out (stpB_none vk ss si h0 h1))
            clear Ht
            go_wp2
            go_ret
            exact ⟨ret_bl (by rw [HO.out, HF'.out]), HB.out _⟩
      · have hkn : k = l.length := by omega
        have hkn' : ¬ (k : Int) < (l.length : Int) := by omega
        rw [hkn] at hall
        have HF := hide' (all_fstP hall)
        clear hkn hall
        go_wp2
        go_ret
        exact ⟨ret_bl (by rw [HO.out, HF.out]), hbel⟩
end Go.Proofs.Ytcepgdlnlmhecaa
/-
  bytes.Compare of two slices of bytes.
-/
namespace Go.Proofs.Ytcepgdlnlmhecaa
open Go.RowKit
set_option linter.unusedVariables false

set_option maxHeartbeats 800000 in
set_option maxRecDepth 100000 in
theorem bytes_Compare_any (a b : Option Addr) (c1 c2 : Nat) (xs ys : List Int) (w : World) (ha : Seg w a xs) (hb : Seg w b ys) :
    Calls Try.prog 61 #[.slice a xs.length c1, .slice b ys.length c2] w fun e w' => e = .returned (.int .i64 (Lib.compareBytes (u8s xs) (u8s ys))) ∧ w = w' := by
  go_enter Try.func61, Try.ntmps61
  go_wp2
  rw [run_callFunc_extern Try.func67 (by kernel_rfl) (by kernel_rfl) (by kernel_rfl) (e := Extern.BytealgCompare.compare) (by kernel_rfl), run_compare_seg c1 c2 ha hb]
  simp only [Result.andThen]
  rw [Oper.upon_value]
  go_wp2
  go_ret
  exact ⟨rfl, rfl⟩

end Go.Proofs.Ytcepgdlnlmhecaa
/-
  PathCmp, of the program and of the specification, at paths that may be: the order of paths.
-/
namespace Go.Proofs.Ytcepgdlnlmhecaa
open Go.RowKit
set_option linter.unusedVariables false
set_option linter.unusedSimpArgs false

/-- The order of two steps, as the specification has it. -/
def stpC (s t : Stp) : Int := if s.1 ≠ t.1 then numC s.1 t.1 else if s.1 = 1 then numC s.2.2 t.2.2 else bytesC s.2.1 t.2.1

/-- The order of two paths. -/
def pthC : List Stp → List Stp → Int
  | [], [] => 0
  | [], _ :: _ => -1
  | _ :: _, [] => 1
  | s :: l, t :: m => if stpC s t ≠ 0 then stpC s t else pthC l m

theorem bytesC_self (xs : List Int) : bytesC xs xs = 0 := (cmp_zero _ _).2 rfl

/-- Of steps that may be it is what the program asks. -/
theorem stpC_or (s t : Stp) (hs : stpB s = true) (ht : stpB t = true) : stpC s t = or3 (numC s.1 t.1) (bytesC s.2.1 t.2.1) (numC s.2.2 t.2.2) := by
  obtain ⟨sk, ss, si⟩ := s
  obtain ⟨tk, ts, ti⟩ := t
  by_cases h : sk = tk
  · subst h
    by_cases h1 : sk = 1
    · subst h1
      rw [stpB_item] at hs ht
      simp at hs ht
      have e1 : ss = [] := by have := hs.1.1; simpa using this
      have e2 : ts = [] := by have := ht.1.1; simpa using this
      subst e1
      subst e2
      simp [stpC, or3, numC_eq, bytesC_self]
    · by_cases h0 : sk = 0
      · subst h0
        rw [stpB_key] at hs ht
        simp at hs ht
        obtain ⟨_, rfl⟩ := hs
        obtain ⟨_, rfl⟩ := ht
        simp [stpC, or3, numC_eq]
      · rw [stpB_none sk ss si h0 h1] at hs
        simp at hs
  · have : numC sk tk ≠ 0 := by
      unfold numC
      split
      · decide
      · split
        · decide
        · omega
    simp [stpC, or3, h, this]

/-- What comes of two paths from their k-th steps on. -/
theorem pthC_step {l m : List Stp} {k : Nat} (hl : k < l.length) (hm : k < m.length) : pthC (l.drop k) (m.drop k) = if stpC l[k] m[k] ≠ 0 then stpC l[k] m[k] else pthC (l.drop (k + 1)) (m.drop (k + 1)) := by
  rw [List.drop_eq_getElem_cons hl, List.drop_eq_getElem_cons hm]
  rfl
theorem pthC_end1 {l m : List Stp} {k : Nat} (hl : k < l.length) (hm : ¬ k < m.length) : pthC (l.drop k) (m.drop k) = 1 := by
  rw [List.drop_eq_getElem_cons hl, List.drop_eq_nil_of_le (by omega : m.length ≤ k)]
  rfl
theorem pthC_end2 {l m : List Stp} {k : Nat} (hl : ¬ k < l.length) (hm : k < m.length) : pthC (l.drop k) (m.drop k) = -1 := by
  rw [List.drop_eq_getElem_cons hm, List.drop_eq_nil_of_le (by omega : l.length ≤ k)]
  rfl
theorem pthC_end3 {l m : List Stp} {k : Nat} (hl : ¬ k < l.length) (hm : ¬ k < m.length) : pthC (l.drop k) (m.drop k) = 0 := by
  rw [List.drop_eq_nil_of_le (by omega : m.length ≤ k), List.drop_eq_nil_of_le (by omega : l.length ≤ k)]
  rfl

/-- The texts of two steps, read behind two new blocks. -/
theorem seg_of_T {R : Nat → Prop} {w : World} {a : Option Addr} {n c : Nat} {xs : List Int} (h : TSeg R w (.slice a n c) xs) : Seg w a xs ∧ n = xs.length := by
  obtain ⟨a', c', e, hs, _⟩ := h
  simp at e
  exact ⟨e.1 ▸ hs, e.2.1⟩

set_option maxHeartbeats 1600000 in
theorem l3step_any (N : Nat) (c0 c1 c2 e0 e1 e2 : Value) (s t : Stp) (w : World) (h : StSeg (fun b => b < N) w (c0, c1, c2) s) (h' : StSeg (fun b => b < N) w (e0, e1, e2) t) (hN : N ≤ w.heap.size) :
    Calls Try.prog 23 #[.agg #[c0, c1, c2], .agg #[e0, e1, e2]] w fun e w' => e = .returned (.int .i64 (stpC s t)) ∧ Below w.heap.size w w' := by
  obtain ⟨sk, ss, si⟩ := s
  obtain ⟨tk, ts, ti⟩ := t
  obtain ⟨g0, ht, g2⟩ := h
  obtain ⟨f0, ht', f2⟩ := h'
  simp only at g0 ht g2 f0 ht' f2
  subst g0
  subst g2
  subst f0
  subst f2
  have Hb : Hid (∀ o o' : Obj, Below w.heap.size w ((w.alloc o).alloc o')) := fun o o' => ((Below.refl _ _).alloc (Nat.le_refl _) o).alloc (by simp) o'
  have Ht : Hid (∀ o o' : Obj, TSeg (fun b => b < N) ((w.alloc o).alloc o') c1 ss ∧ TSeg (fun b => b < N) ((w.alloc o).alloc o') e1 ts) := fun o o' => ⟨ht.agree (agree_below ((Hb.out o o').mono hN)), ht'.agree (agree_below ((Hb.out o o').mono hN))⟩
  obtain ⟨a2, cp2, rfl, s2, hl2, hm2, _, _⟩ := ht
  obtain ⟨a2', cp2', rfl, s2', hl2', hm2', _, _⟩ := ht'
  clear s2 s2'
  by_cases hk : sk = tk
  · subst hk
    by_cases h1 : sk = 1
    · subst h1
      have HO : Hid (stpC (1, ss, si) (1, ts, ti) = numC si ti) := by show stpC _ _ = _; simp [stpC]
      go_enter Try.func23, Try.ntmps23
      go_wp2_with fail
      refine (l2num_any si ti _).mono ?_
      rintro e w1 ⟨rfl, e1⟩
      obtain rfl := e1
      go_wp2
      go_ret
      exact ⟨ret_i64 (by rw [HO.out]), Hb.out _ _⟩
    · have HO : Hid (stpC (sk, ss, si) (sk, ts, ti) = bytesC ss ts) := by show stpC _ _ = _; simp [stpC, h1]
      have h1' : (sk == 1) = false := by simp [h1]
      go_enter Try.func23, Try.ntmps23
      go_wp2_with fail
      refine (l2bytes_any _ _ _ _ ss ts _ (seg_of_T (Ht.out _ _).1).1 (seg_of_T (Ht.out _ _).2).1).mono ?_
      rintro e w1 ⟨rfl, e1⟩
      obtain rfl := e1
      go_wp2
      go_ret
      exact ⟨ret_i64 (by rw [HO.out]), Hb.out _ _⟩
  · have HO : Hid (stpC (sk, ss, si) (tk, ts, ti) = numC sk tk) := by show stpC _ _ = _; simp [stpC, hk]
    have hk' : (sk != tk) = true := by simp [hk]
    go_enter Try.func23, Try.ntmps23
    go_wp2_with fail
    refine (l2num_any sk tk _).mono ?_
    rintro e w1 ⟨rfl, e1⟩
    obtain rfl := e1
    go_wp2
    go_ret
    exact ⟨ret_i64 (by rw [HO.out]), Hb.out _ _⟩

set_option maxHeartbeats 3200000 in
theorem cmpSteps_any (N : Nat) (c0 c1 c2 e0 e1 e2 : Value) (s t : Stp) (w : World) (h : StSeg (fun b => b < N) w (c0, c1, c2) s) (h' : StSeg (fun b => b < N) w (e0, e1, e2) t) (hN : N ≤ w.heap.size) :
    Calls Try.prog 55 #[.agg #[c0, c1, c2], .agg #[e0, e1, e2]] w fun e w' => e = .returned (.int .i64 (or3 (numC s.1 t.1) (bytesC s.2.1 t.2.1) (numC s.2.2 t.2.2))) ∧ Below w.heap.size w w' := by
  obtain ⟨sk, ss, si⟩ := s
  obtain ⟨tk, ts, ti⟩ := t
  obtain ⟨g0, ht, g2⟩ := h
  obtain ⟨f0, ht', f2⟩ := h'
  simp only at g0 ht g2 f0 ht' f2 ⊢
  subst g0
  subst g2
  subst f0
  subst f2
  have Hb : Hid (∀ o o' : Obj, Below w.heap.size w ((w.alloc o).alloc o')) := fun o o' => ((Below.refl _ _).alloc (Nat.le_refl _) o).alloc (by simp) o'
  have Ht : Hid (∀ o o' : Obj, TSeg (fun b => b < N) ((w.alloc o).alloc o') c1 ss ∧ TSeg (fun b => b < N) ((w.alloc o).alloc o') e1 ts) := fun o o' => ⟨ht.agree (agree_below ((Hb.out o o').mono hN)), ht'.agree (agree_below ((Hb.out o o').mono hN))⟩
  obtain ⟨a2, cp2, rfl, s2, hl2, hm2, _, _⟩ := ht
  obtain ⟨a2', cp2', rfl, s2', hl2', hm2', _, _⟩ := ht'
  clear s2 s2'
  have HB : Hid (∀ (o o' : Obj), Calls Try.prog 61 #[.slice a2 ss.length cp2, .slice a2' ts.length cp2'] ((w.alloc o).alloc o').drew fun e w' => e = .returned (.int .i64 (bytesC ss ts)) ∧ ((w.alloc o).alloc o').drew = w') := fun o o' =>
    bytes_Compare_any _ _ _ _ ss ts _ ((seg_of_T (Ht.out o o').1).1) ((seg_of_T (Ht.out o o').2).1)
  have HR : Hid (∀ (o o' : Obj) (a b c : Int), Calls Try.prog 59 #[.slice (some ⟨w.heap.size + 1 + 1, 0, none⟩) 3 3] (((w.alloc o).alloc o').alloc (.cells #[.int .i64 a, .int .i64 b, .int .i64 c] 3)).drew fun e w' => e = .returned (.int .i64 (or3 a b c)) ∧ (((w.alloc o).alloc o').alloc (.cells #[.int .i64 a, .int .i64 b, .int .i64 c] 3)).drew = w') := by
    intro o o' a b c
    obtain ⟨_, _, h3, _, hb⟩ := three_boxes w o o' (.cells #[.int .i64 a, .int .i64 b, .int .i64 c] 3)
    obtain ⟨x0, x1, x2, _⟩ := row3 h3
    exact or_any (w.heap.size + 1 + 1) a b c (((w.alloc o).alloc o').alloc (.cells #[.int .i64 a, .int .i64 b, .int .i64 c] 3)).drew x0 x1 x2
  have HB3 : Hid (∀ (o o' o'' : Obj), Below w.heap.size w (((w.alloc o).alloc o').alloc o'').drew) := fun o o' o'' => (three_boxes w o o' o'').2.2.2.2.drew
  generalize bytesC ss ts = bc at *
  go_enter Try.func55, Try.ntmps55
  go_wp2_with fail
  go_region_held3 (fun wx => wx.cell? ⟨w.heap.size, 0, none⟩ = some (.int .i64 sk) ∧ wx.cell? ⟨w.heap.size, 1, none⟩ = some (.slice a2 ss.length cp2) ∧ wx.cell? ⟨w.heap.size, 2, none⟩ = some (.int .i64 si) ∧ wx.cell? ⟨w.heap.size + 1, 0, none⟩ = some (.int .i64 tk) ∧ wx.cell? ⟨w.heap.size + 1, 1, none⟩ = some (.slice a2' ts.length cp2') ∧ wx.cell? ⟨w.heap.size + 1, 2, none⟩ = some (.int .i64 ti)) (go_keep) (first
    | (go_at_call 60; refine (cmpInt_any _ _ _).mono ?_; rintro e w1 ⟨rfl, e1⟩; obtain rfl := e1)
    | (go_at_call 61; refine (HB.out _ _).mono ?_; rintro e w1 ⟨rfl, e1⟩; obtain rfl := e1)
    | (go_at_call 59; refine (HR.out _ _ _ _ _).mono ?_; rintro e w1 ⟨rfl, e1⟩; obtain rfl := e1))
  all_goals
    go_wp2
    go_ret
    exact ⟨rfl, HB3.out _ _ _⟩

set_option maxHeartbeats 1600000 in
theorem l3cmp_any (N : Nat) (x y : Value) (l m : List Stp) (w : World) (hx : PthSeg (fun b => b < N) w x l) (hy : PthSeg (fun b => b < N) w y m) (hN : N ≤ w.heap.size) :
    Calls Try.prog 13 #[x, y] w fun e w' => e = .returned (.int .i64 (pthC l m)) ∧ Below w.heap.size w w' := by
  have HC := hide' hx
  have HC' := hide' hy
  obtain ⟨a, cap, rfl, hlc, hcm, ka, hc⟩ := hx
  obtain ⟨a', cap', rfl, hlc', hcm', ka', hc'⟩ := hy
  clear hc hc'
  unfold maxLen at hcm hcm'
  go_enter Try.func13, Try.ntmps13
  go_wp2
  go_loopw [5, 6] (fun i _ wr => ∃ k : Nat, k ≤ l.length ∧ k ≤ m.length ∧ i = .int .i64 k ∧ pthC l m = pthC (l.drop k) (m.drop k) ∧ Below w.heap.size w wr) (fun i _ _ => l.length - (intOf i).toNat)
  case atStart => exact ⟨0, Nat.zero_le _, Nat.zero_le _, rfl, rfl, Below.refl _ _⟩
  case round =>
    obtain ⟨k, hk, hk', rfl, hP, hbel⟩ := hrel
    have hsz2 := hbel.size
    by_cases hlt : k < l.length
    · by_cases hlt2 : k < m.length
      · obtain ⟨b, off, c0, c1, c2, rfl, _, h3, hv⟩ := (HC.out.agree (agree_below (hbel.mono hN))).at hlt
        obtain ⟨b', off', e0, e1, e2, rfl, _, h3', hv'⟩ := (HC'.out.agree (agree_below (hbel.mono hN))).at hlt2
        obtain ⟨q0, q1, q2⟩ := h3
        obtain ⟨r0, r1, r2⟩ := h3'
        simp only at q0 q1 q2 r0 r1 r2
        have hlt' : (k : Int) < (l.length : Int) := by omega
        have hlt2' : (k : Int) < (m.length : Int) := by omega
        have hE := hide' (l3step_any N c0 c1 c2 e0 e1 e2 l[k] m[k] wr.drew (hv.agree (w' := wr.drew) (fun b _ => rfl)) (hv'.agree (w' := wr.drew) (fun b _ => rfl)) (by show N ≤ wr.heap.size; omega))
        rw [pthC_step hlt hlt2] at hP
        have HP := hide' hP
        clear hv hv' hP
        generalize stpC l[k] m[k] = sc at *
        by_cases h0 : sc = 0
        · subst h0
          have HP' : Hid (pthC l m = pthC (l.drop (k + 1)) (m.drop (k + 1))) := by show pthC l m = _; rw [HP.out]; simp
          clear HP
          go_wp2_with fail
          go_region_with (go_at_call 23; refine hE.out.mono ?_; rintro e w1 ⟨rfl, b1⟩)
          all_goals
            have B1 : Below w.heap.size w w1 := Below.on hbel.drew b1
            clear q0 q1 q2 r0 r1 r2
            go_wp2
            go_roundw
            case rel => exact ⟨k + 1, by omega, by omega, by go_num, HP'.out, B1⟩
            case measure => simp [intOf]; omega
        · have HP' : Hid (pthC l m = sc) := by show pthC l m = _; rw [HP.out]; simp [h0]
          have h0' : (sc != 0) = true := by simp [h0]
          clear HP
          go_wp2_with fail
          go_region_with (go_at_call 23; refine hE.out.mono ?_; rintro e w1 ⟨rfl, b1⟩)
          all_goals
            have B1 : Below w.heap.size w w1 := Below.on hbel.drew b1
            clear q0 q1 q2 r0 r1 r2
            go_wp2
            go_ret
            exact ⟨ret_i64 (by rw [HP'.out]), B1⟩
      · have hlt' : (k : Int) < (l.length : Int) := by omega
        have hlt2' : ¬ (k : Int) < (m.length : Int) := by omega
        rw [pthC_end1 hlt hlt2] at hP
        have HP := hide' hP
        have hnum : numC (l.length : Int) (m.length : Int) = 1 := numC_gt (by omega)
        have Hn := hide' hnum
        clear hP hnum
        go_wp2_with fail
        refine (l2num_any _ _ _).mono ?_
        rintro e w1 ⟨rfl, e1⟩
        obtain rfl := e1
        go_wp2
        go_ret
        exact ⟨ret_i64 (by rw [HP.out, Hn.out]), hbel⟩
    · have hlt' : ¬ (k : Int) < (l.length : Int) := by omega
      have hkl : k = l.length := by omega
      by_cases hlt2 : k < m.length
      · rw [pthC_end2 hlt hlt2] at hP
        have HP := hide' hP
        have Hn : Hid (numC (l.length : Int) (m.length : Int) = -1) := numC_lt (by omega)
        clear hP hkl
        go_wp2_with fail
        refine (l2num_any _ _ _).mono ?_
        rintro e w1 ⟨rfl, e1⟩
        obtain rfl := e1
        go_wp2
        go_ret
        exact ⟨ret_i64 (by rw [HP.out, Hn.out]), hbel⟩
      · rw [pthC_end3 hlt hlt2] at hP
        have HP := hide' hP
        have Hn : Hid (numC (l.length : Int) (m.length : Int) = 0) := by
          show numC (l.length : Int) (m.length : Int) = 0
          have : (l.length : Int) = (m.length : Int) := by omega
          rw [this]
          exact numC_eq _
        clear hP hkl
        go_wp2_with fail
        refine (l2num_any _ _ _).mono ?_
        rintro e w1 ⟨rfl, e1⟩
        obtain rfl := e1
        go_wp2
        go_ret
        exact ⟨ret_i64 (by rw [HP.out, Hn.out]), hbel⟩
end Go.Proofs.Ytcepgdlnlmhecaa
