/-
  PathCmp, of the program and of the specification, at paths that may be: the order of paths.
-/
import Derived.Test.YtliheeiooppnbaaCmp0
import Derived.Test.YtliheeiooppnbaaPthOk
import Derived.Deep.RegionHeld3
namespace Go.Proofs.Ytliheeiooppnbaa
open Go.RowKit
set_option linter.unusedVariables false
set_option linter.unusedSimpArgs false

/-- The order of two steps, as the specification has it. -/
def stpC (s t : Stp) : Int := if s.1 ≠ t.1 then numC s.1 t.1 else if s.1 = 1 then numC s.2.2 t.2.2 else bytesC s.2.1 t.2.1

/-- The order of two paths. -/
def pthC : List Stp → List Stp → Int
  | [], [] => 0
  | [], _ :: _ => -1
  | _ :: _, [] => 1
  | s :: l, t :: m => if stpC s t ≠ 0 then stpC s t else pthC l m

theorem bytesC_self (xs : List Int) : bytesC xs xs = 0 := (cmp_zero _ _).2 rfl

/-- Of steps that may be it is what the program asks. -/
theorem stpC_or (s t : Stp) (hs : stpB s = true) (ht : stpB t = true) : stpC s t = or3 (numC s.1 t.1) (bytesC s.2.1 t.2.1) (numC s.2.2 t.2.2) := by
  obtain ⟨sk, ss, si⟩ := s
  obtain ⟨tk, ts, ti⟩ := t
  by_cases h : sk = tk
  · subst h
    by_cases h1 : sk = 1
    · subst h1
      rw [stpB_item] at hs ht
      simp at hs ht
      have e1 : ss = [] := by have := hs.1.1; simpa using this
      have e2 : ts = [] := by have := ht.1.1; simpa using this
      subst e1
      subst e2
      simp [stpC, or3, numC_eq, bytesC_self]
    · by_cases h0 : sk = 0
      · subst h0
        rw [stpB_key] at hs ht
        simp at hs ht
        obtain ⟨_, rfl⟩ := hs
        obtain ⟨_, rfl⟩ := ht
        simp [stpC, or3, numC_eq]
      · rw [stpB_none sk ss si h0 h1] at hs
        simp at hs
  · have : numC sk tk ≠ 0 := by
      unfold numC
      split
      · decide
      · split
        · decide
        · omega
    simp [stpC, or3, h, this]

/-- What comes of two paths from their k-th steps on. -/
theorem pthC_step {l m : List Stp} {k : Nat} (hl : k < l.length) (hm : k < m.length) : pthC (l.drop k) (m.drop k) = if stpC l[k] m[k] ≠ 0 then stpC l[k] m[k] else pthC (l.drop (k + 1)) (m.drop (k + 1)) := by
  rw [List.drop_eq_getElem_cons hl, List.drop_eq_getElem_cons hm]
  rfl
theorem pthC_end1 {l m : List Stp} {k : Nat} (hl : k < l.length) (hm : ¬ k < m.length) : pthC (l.drop k) (m.drop k) = 1 := by
  rw [List.drop_eq_getElem_cons hl, List.drop_eq_nil_of_le (by omega : m.length ≤ k)]
  rfl
theorem pthC_end2 {l m : List Stp} {k : Nat} (hl : ¬ k < l.length) (hm : k < m.length) : pthC (l.drop k) (m.drop k) = -1 := by
  rw [List.drop_eq_getElem_cons hm, List.drop_eq_nil_of_le (by omega : l.length ≤ k)]
  rfl
theorem pthC_end3 {l m : List Stp} {k : Nat} (hl : ¬ k < l.length) (hm : ¬ k < m.length) : pthC (l.drop k) (m.drop k) = 0 := by
  rw [List.drop_eq_nil_of_le (by omega : m.length ≤ k), List.drop_eq_nil_of_le (by omega : l.length ≤ k)]
  rfl

/-- The texts of two steps, read behind two new blocks. -/
theorem seg_of_T {R : Nat → Prop} {w : World} {a : Option Addr} {n c : Nat} {xs : List Int} (h : TSeg R w (.slice a n c) xs) : Seg w a xs ∧ n = xs.length := by
  obtain ⟨a', c', e, hs, _⟩ := h
  simp at e
  exact ⟨e.1 ▸ hs, e.2.1⟩

set_option maxHeartbeats 1600000 in
theorem l3step_any (N : Nat) (c0 c1 c2 e0 e1 e2 : Value) (s t : Stp) (w : World) (h : StSeg (fun b => b < N) w (c0, c1, c2) s) (h' : StSeg (fun b => b < N) w (e0, e1, e2) t) (hN : N ≤ w.heap.size) :
    Calls Try.prog 24 #[.agg #[c0, c1, c2], .agg #[e0, e1, e2]] w fun e w' => e = .returned (.int .i64 (stpC s t)) ∧ Below w.heap.size w w' := by
  obtain ⟨sk, ss, si⟩ := s
  obtain ⟨tk, ts, ti⟩ := t
  obtain ⟨g0, ht, g2⟩ := h
  obtain ⟨f0, ht', f2⟩ := h'
  simp only at g0 ht g2 f0 ht' f2
  subst g0
  subst g2
  subst f0
  subst f2
  have Hb : Hid (∀ o o' : Obj, Below w.heap.size w ((w.alloc o).alloc o')) := fun o o' => ((Below.refl _ _).alloc (Nat.le_refl _) o).alloc (by simp) o'
  have Ht : Hid (∀ o o' : Obj, TSeg (fun b => b < N) ((w.alloc o).alloc o') c1 ss ∧ TSeg (fun b => b < N) ((w.alloc o).alloc o') e1 ts) := fun o o' => ⟨ht.agree (agree_below ((Hb.out o o').mono hN)), ht'.agree (agree_below ((Hb.out o o').mono hN))⟩
  obtain ⟨a2, cp2, rfl, s2, hl2, hm2, _, _⟩ := ht
  obtain ⟨a2', cp2', rfl, s2', hl2', hm2', _, _⟩ := ht'
  clear s2 s2'
  by_cases hk : sk = tk
  · subst hk
    by_cases h1 : sk = 1
    · subst h1
      have HO : Hid (stpC (1, ss, si) (1, ts, ti) = numC si ti) := by show stpC _ _ = _; simp [stpC]
      go_enter Try.func24, Try.ntmps24
      go_wp2_with fail
      refine (l2num_any si ti _).mono ?_
      rintro e w1 ⟨rfl, e1⟩
      obtain rfl := e1
      go_wp2
      go_ret
      exact ⟨ret_i64 (by rw [HO.out]), Hb.out _ _⟩
    · have HO : Hid (stpC (sk, ss, si) (sk, ts, ti) = bytesC ss ts) := by show stpC _ _ = _; simp [stpC, h1]
      have h1' : (sk == 1) = false := by simp [h1]
      go_enter Try.func24, Try.ntmps24
      go_wp2_with fail
      refine (l2bytes_any _ _ _ _ ss ts _ (seg_of_T (Ht.out _ _).1).1 (seg_of_T (Ht.out _ _).2).1).mono ?_
      rintro e w1 ⟨rfl, e1⟩
      obtain rfl := e1
      go_wp2
      go_ret
      exact ⟨ret_i64 (by rw [HO.out]), Hb.out _ _⟩
  · have HO : Hid (stpC (sk, ss, si) (tk, ts, ti) = numC sk tk) := by show stpC _ _ = _; simp [stpC, hk]
    have hk' : (sk != tk) = true := by simp [hk]
    go_enter Try.func24, Try.ntmps24
    go_wp2_with fail
    refine (l2num_any sk tk _).mono ?_
    rintro e w1 ⟨rfl, e1⟩
    obtain rfl := e1
    go_wp2
    go_ret
    exact ⟨ret_i64 (by rw [HO.out]), Hb.out _ _⟩

set_option maxHeartbeats 3200000 in
theorem cmpSteps_any (N : Nat) (c0 c1 c2 e0 e1 e2 : Value) (s t : Stp) (w : World) (h : StSeg (fun b => b < N) w (c0, c1, c2) s) (h' : StSeg (fun b => b < N) w (e0, e1, e2) t) (hN : N ≤ w.heap.size) :
    Calls Try.prog 19 #[.agg #[c0, c1, c2], .agg #[e0, e1, e2]] w fun e w' => e = .returned (.int .i64 (or3 (numC s.1 t.1) (bytesC s.2.1 t.2.1) (numC s.2.2 t.2.2))) ∧ Below w.heap.size w w' := by
  obtain ⟨sk, ss, si⟩ := s
  obtain ⟨tk, ts, ti⟩ := t
  obtain ⟨g0, ht, g2⟩ := h
  obtain ⟨f0, ht', f2⟩ := h'
  simp only at g0 ht g2 f0 ht' f2 ⊢
  subst g0
  subst g2
  subst f0
  subst f2
  have Hb : Hid (∀ o o' : Obj, Below w.heap.size w ((w.alloc o).alloc o')) := fun o o' => ((Below.refl _ _).alloc (Nat.le_refl _) o).alloc (by simp) o'
  have Ht : Hid (∀ o o' : Obj, TSeg (fun b => b < N) ((w.alloc o).alloc o') c1 ss ∧ TSeg (fun b => b < N) ((w.alloc o).alloc o') e1 ts) := fun o o' => ⟨ht.agree (agree_below ((Hb.out o o').mono hN)), ht'.agree (agree_below ((Hb.out o o').mono hN))⟩
  obtain ⟨a2, cp2, rfl, s2, hl2, hm2, _, _⟩ := ht
  obtain ⟨a2', cp2', rfl, s2', hl2', hm2', _, _⟩ := ht'
  clear s2 s2'
  have HB : Hid (∀ (o o' : Obj), Calls Try.prog 28 #[.slice a2 ss.length cp2, .slice a2' ts.length cp2'] ((w.alloc o).alloc o').drew fun e w' => e = .returned (.int .i64 (bytesC ss ts)) ∧ ((w.alloc o).alloc o').drew = w') := fun o o' =>
    bytes_Compare_any _ _ _ _ ss ts _ ((seg_of_T (Ht.out o o').1).1) ((seg_of_T (Ht.out o o').2).1)
  have HR : Hid (∀ (o o' : Obj) (a b c : Int), Calls Try.prog 26 #[.slice (some ⟨w.heap.size + 1 + 1, 0, none⟩) 3 3] (((w.alloc o).alloc o').alloc (.cells #[.int .i64 a, .int .i64 b, .int .i64 c] 3)).drew fun e w' => e = .returned (.int .i64 (or3 a b c)) ∧ (((w.alloc o).alloc o').alloc (.cells #[.int .i64 a, .int .i64 b, .int .i64 c] 3)).drew = w') := by
    intro o o' a b c
    obtain ⟨_, _, h3, _, hb⟩ := three_boxes w o o' (.cells #[.int .i64 a, .int .i64 b, .int .i64 c] 3)
    obtain ⟨x0, x1, x2, _⟩ := row3 h3
    exact or_any (w.heap.size + 1 + 1) a b c (((w.alloc o).alloc o').alloc (.cells #[.int .i64 a, .int .i64 b, .int .i64 c] 3)).drew x0 x1 x2
  have HB3 : Hid (∀ (o o' o'' : Obj), Below w.heap.size w (((w.alloc o).alloc o').alloc o'').drew) := fun o o' o'' => (three_boxes w o o' o'').2.2.2.2.drew
  generalize bytesC ss ts = bc at *
  go_enter Try.func19, Try.ntmps19
  go_wp2_with fail
  go_region_held3 (fun wx => wx.cell? ⟨w.heap.size, 0, none⟩ = some (.int .i64 sk) ∧ wx.cell? ⟨w.heap.size, 1, none⟩ = some (.slice a2 ss.length cp2) ∧ wx.cell? ⟨w.heap.size, 2, none⟩ = some (.int .i64 si) ∧ wx.cell? ⟨w.heap.size + 1, 0, none⟩ = some (.int .i64 tk) ∧ wx.cell? ⟨w.heap.size + 1, 1, none⟩ = some (.slice a2' ts.length cp2') ∧ wx.cell? ⟨w.heap.size + 1, 2, none⟩ = some (.int .i64 ti)) (go_keep) (first
    | (go_at_call 27; refine (cmpInt_any _ _ _).mono ?_; rintro e w1 ⟨rfl, e1⟩; obtain rfl := e1)
    | (go_at_call 28; refine (HB.out _ _).mono ?_; rintro e w1 ⟨rfl, e1⟩; obtain rfl := e1)
    | (go_at_call 26; refine (HR.out _ _ _ _ _).mono ?_; rintro e w1 ⟨rfl, e1⟩; obtain rfl := e1))
  all_goals
    go_wp2
    go_ret
    exact ⟨rfl, HB3.out _ _ _⟩

set_option maxHeartbeats 1600000 in
theorem l3cmp_any (N : Nat) (x y : Value) (l m : List Stp) (w : World) (hx : PthSeg (fun b => b < N) w x l) (hy : PthSeg (fun b => b < N) w y m) (hN : N ≤ w.heap.size) :
    Calls Try.prog 17 #[x, y] w fun e w' => e = .returned (.int .i64 (pthC l m)) ∧ Below w.heap.size w w' := by
  have HC := hide' hx
  have HC' := hide' hy
  obtain ⟨a, cap, rfl, hlc, hcm, ka, hc⟩ := hx
  obtain ⟨a', cap', rfl, hlc', hcm', ka', hc'⟩ := hy
  clear hc hc'
  unfold maxLen at hcm hcm'
  go_enter Try.func17, Try.ntmps17
  go_wp2
  go_loopw [5, 6] (fun i _ wr => ∃ k : Nat, k ≤ l.length ∧ k ≤ m.length ∧ i = .int .i64 k ∧ pthC l m = pthC (l.drop k) (m.drop k) ∧ Below w.heap.size w wr) (fun i _ _ => l.length - (intOf i).toNat)
  case atStart => exact ⟨0, Nat.zero_le _, Nat.zero_le _, rfl, rfl, Below.refl _ _⟩
  case round =>
    obtain ⟨k, hk, hk', rfl, hP, hbel⟩ := hrel
    have hsz2 := hbel.size
    by_cases hlt : k < l.length
    · by_cases hlt2 : k < m.length
      · obtain ⟨b, off, c0, c1, c2, rfl, _, h3, hv⟩ := (HC.out.agree (agree_below (hbel.mono hN))).at hlt
        obtain ⟨b', off', e0, e1, e2, rfl, _, h3', hv'⟩ := (HC'.out.agree (agree_below (hbel.mono hN))).at hlt2
        obtain ⟨q0, q1, q2⟩ := h3
        obtain ⟨r0, r1, r2⟩ := h3'
        simp only at q0 q1 q2 r0 r1 r2
        have hlt' : (k : Int) < (l.length : Int) := by omega
        have hlt2' : (k : Int) < (m.length : Int) := by omega
        have hE := hide' (l3step_any N c0 c1 c2 e0 e1 e2 l[k] m[k] wr.drew (hv.agree (w' := wr.drew) (fun b _ => rfl)) (hv'.agree (w' := wr.drew) (fun b _ => rfl)) (by show N ≤ wr.heap.size; omega))
        rw [pthC_step hlt hlt2] at hP
        have HP := hide' hP
        clear hv hv' hP
        generalize stpC l[k] m[k] = sc at *
        by_cases h0 : sc = 0
        · subst h0
          have HP' : Hid (pthC l m = pthC (l.drop (k + 1)) (m.drop (k + 1))) := by show pthC l m = _; rw [HP.out]; simp
          clear HP
          go_wp2_with fail
          go_region_with (go_at_call 24; refine hE.out.mono ?_; rintro e w1 ⟨rfl, b1⟩)
          all_goals
            have B1 : Below w.heap.size w w1 := Below.on hbel.drew b1
            clear q0 q1 q2 r0 r1 r2
            go_wp2
            go_roundw
            case rel => exact ⟨k + 1, by omega, by omega, by go_num, HP'.out, B1⟩
            case measure => simp [intOf]; omega
        · have HP' : Hid (pthC l m = sc) := by show pthC l m = _; rw [HP.out]; simp [h0]
          have h0' : (sc != 0) = true := by simp [h0]
          clear HP
          go_wp2_with fail
          go_region_with (go_at_call 24; refine hE.out.mono ?_; rintro e w1 ⟨rfl, b1⟩)
          all_goals
            have B1 : Below w.heap.size w w1 := Below.on hbel.drew b1
            clear q0 q1 q2 r0 r1 r2
            go_wp2
            go_ret
            exact ⟨ret_i64 (by rw [HP'.out]), B1⟩
      · have hlt' : (k : Int) < (l.length : Int) := by omega
        have hlt2' : ¬ (k : Int) < (m.length : Int) := by omega
        rw [pthC_end1 hlt hlt2] at hP
        have HP := hide' hP
        have hnum : numC (l.length : Int) (m.length : Int) = 1 := numC_gt (by omega)
        have Hn := hide' hnum
        clear hP hnum
        go_wp2_with fail
        refine (l2num_any _ _ _).mono ?_
        rintro e w1 ⟨rfl, e1⟩
        obtain rfl := e1
        go_wp2
        go_ret
        exact ⟨ret_i64 (by rw [HP.out, Hn.out]), hbel⟩
    · have hlt' : ¬ (k : Int) < (l.length : Int) := by omega
      have hkl : k = l.length := by omega
      by_cases hlt2 : k < m.length
      · rw [pthC_end2 hlt hlt2] at hP
        have HP := hide' hP
        have Hn : Hid (numC (l.length : Int) (m.length : Int) = -1) := numC_lt (by omega)
        clear hP hkl
        go_wp2_with fail
        refine (l2num_any _ _ _).mono ?_
        rintro e w1 ⟨rfl, e1⟩
        obtain rfl := e1
        go_wp2
        go_ret
        exact ⟨ret_i64 (by rw [HP.out, Hn.out]), hbel⟩
      · rw [pthC_end3 hlt hlt2] at hP
        have HP := hide' hP
        have Hn : Hid (numC (l.length : Int) (m.length : Int) = 0) := by
          show numC (l.length : Int) (m.length : Int) = 0
          have : (l.length : Int) = (m.length : Int) := by omega
          rw [this]
          exact numC_eq _
        clear hP hkl
        go_wp2_with fail
        refine (l2num_any _ _ _).mono ?_
        rintro e w1 ⟨rfl, e1⟩
        obtain rfl := e1
        go_wp2
        go_ret
        exact ⟨ret_i64 (by rw [HP.out, Hn.out]), hbel⟩
end Go.Proofs.Ytliheeiooppnbaa
