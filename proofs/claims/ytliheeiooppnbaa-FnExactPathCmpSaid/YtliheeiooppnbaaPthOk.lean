/-
  PathOk, of the program and of the specification: of a path it tells whether it may be, and turns nothing old.
-/
import Derived.Test.YtliheeiooppnbaaStpEq
import Derived.Test.YtliheeiooppnbaaNames
namespace Go.Proofs.Ytliheeiooppnbaa
open Go.RowKit
set_option linter.unusedVariables false

/-- A step that may be. -/
def stpB (s : Stp) : Bool := (decide (s.1 = 0) && (nameB s.2.1 && decide (s.2.2 = 0))) || (decide (s.1 = 1) && (decide (s.2.1.length = 0) && decide (0 ≤ s.2.2) && decide (s.2.2 < 40)))
/-- A path that may be. -/
def pathB (l : List Stp) : Bool := decide (l.length ≤ 6) && l.all stpB

theorem stpB_key (ss : List Int) (i : Int) : stpB (0, ss, i) = (nameB ss && decide (i = 0)) := by simp [stpB]
theorem stpB_item (ss : List Int) (i : Int) : stpB (1, ss, i) = (decide (ss.length = 0) && decide (0 ≤ i) && decide (i < 40)) := by simp [stpB]
theorem stpB_none (k : Int) (ss : List Int) (i : Int) (h0 : k ≠ 0) (h1 : k ≠ 1) : stpB (k, ss, i) = false := by simp [stpB, h0, h1]

theorem pathB_long (l : List Stp) (h : 6 < l.length) : pathB l = false := by simp [pathB]; omega
theorem pathB_all (l : List Stp) (h : ¬ 6 < l.length) : pathB l = l.all stpB := by
  have h' : l.length ≤ 6 := by omega
  simp [pathB, h']

/-- The first k all fulfil p. -/
def fstP (l : List Stp) (k : Nat) : Prop := ∀ i (h : i < l.length), i < k → stpB l[i] = true
theorem fstP_succ {l : List Stp} {k : Nat} (h : fstP l k) (hk : k < l.length) (hs : stpB l[k] = true) : fstP l (k + 1) := by
  intro i hi hik
  by_cases e : i = k
  · subst e; exact hs
  · exact h i hi (by omega)
theorem all_fstP {l : List Stp} (h : fstP l l.length) : l.all stpB = true := by
  rw [List.all_eq_true]
  intro x hx
  obtain ⟨i, hi, rfl⟩ := List.getElem_of_mem hx
  exact h i hi hi
theorem not_all_stp {l : List Stp} {k : Nat} (hk : k < l.length) (h : stpB l[k] = false) : l.all stpB = false := by
  rw [List.all_eq_false]
  exact ⟨l[k], List.getElem_mem hk, by rw [h]; simp⟩

theorem ret_bl {x y : Bool} (h : x = y) : Ending.returned (.bool x) = .returned (.bool y) := by rw [h]

set_option maxHeartbeats 1600000 in
theorem impl_stepOk_any (N : Nat) (c0 c1 c2 : Value) (s : Stp) (w : World) (hs : StSeg (fun b => b < N) w (c0, c1, c2) s) (hN : N ≤ w.heap.size) :
    Calls Try.prog 15 #[.agg #[c0, c1, c2]] w fun e w' => e = .returned (.bool (stpB s)) ∧ Below w.heap.size w w' := by
  obtain ⟨sk, ss, si⟩ := s
  obtain ⟨e0, ht, e2⟩ := hs
  simp only at e0 ht e2
  subst e0
  subst e2
  have Ht : Hid (∀ w' : World, Below w.heap.size w w' → TSeg (fun b => b < N) w' c1 ss) := fun w' h => ht.agree (agree_below (h.mono hN))
  obtain ⟨a2, cp2, rfl, s2, hl2, hm2, _, _⟩ := ht
  have hb0 : ∀ o : Obj, Below w.heap.size w (w.alloc o) := fun o => (Below.refl _ _).alloc (Nat.le_refl _) o
  have Hb := hide' hb0
  unfold maxLen at hm2
  clear s2 hb0
  by_cases h0 : sk = 0
  · subst h0
    have HO := hide' (stpB_key ss si)
    have HS : Hid (∀ o : Obj, Calls Try.prog 22 #[.slice a2 ss.length cp2] (w.alloc o) fun e w' => e = .returned (.bool (nameB ss)) ∧ w.alloc o = w') := by
      intro o
      obtain ⟨a2', cp2', e2, sT, _⟩ := Ht.out _ (Hb.out o)
      simp only [Value.slice.injEq, true_and] at e2
      obtain ⟨rfl, rfl⟩ := e2
      exact impl_NameOk_any _ _ ss _ sT (by unfold maxLen; omega)
    clear Ht
    go_enter Try.func15, Try.ntmps15
    go_wp2_with fail
    refine (HS.out _).mono ?_
    rintro e w1 ⟨rfl, e1⟩
    obtain rfl := e1
    generalize nameB ss = nb at *
    cases nb
    · go_wp2
      go_ret
      exact ⟨ret_bl (by rw [HO.out]; simp), Hb.out _⟩
    · go_wp2
      go_ret
      exact ⟨ret_bl (by rw [HO.out, Bool.true_and]; rfl), Hb.out _⟩
  · by_cases h1 : sk = 1
    · subst h1
      have HO := hide' (stpB_item ss si)
      clear Ht
      by_cases hl : ss.length = 0
      · have hl' : (ss.length : Int) = 0 := by omega
        by_cases hi : 0 ≤ si
        · have HQ : Hid (stpB (1, ss, si) = decide (si < 40)) := by show stpB (1, ss, si) = _; rw [HO.out]; simp [hl, hi]
          clear HO
          go_enter Try.func15, Try.ntmps15
          go_wp2
          go_ret
          exact ⟨ret_bl (by rw [HQ.out]), Hb.out _⟩
        · have HQ : Hid (stpB (1, ss, si) = false) := by show stpB (1, ss, si) = _; rw [HO.out]; simp [hi]
          clear HO
          go_enter Try.func15, Try.ntmps15
          go_wp2
          go_ret
          exact ⟨ret_bl (by rw [HQ.out]), Hb.out _⟩
      · have hl' : ¬ (ss.length : Int) = 0 := by omega
        have HQ : Hid (stpB (1, ss, si) = false) := by show stpB (1, ss, si) = _; rw [HO.out]; simp [hl]
        clear HO
        go_enter Try.func15, Try.ntmps15
        go_wp2
        go_ret
        exact ⟨ret_bl (by rw [HQ.out]), Hb.out _⟩
    · have HQ := hide' (stpB_none sk ss si h0 h1)
      clear Ht
      go_enter Try.func15, Try.ntmps15
      go_wp2
      go_ret
      exact ⟨ret_bl (by rw [HQ.out]), Hb.out _⟩

set_option maxHeartbeats 1600000 in
theorem impl_PathOk_any (N : Nat) (x : Value) (l : List Stp) (w : World) (hx : PthSeg (fun b => b < N) w x l) (hN : N ≤ w.heap.size) :
    Calls Try.prog 8 #[x] w fun e w' => e = .returned (.bool (pathB l)) ∧ Below w.heap.size w w' := by
  have HC := hide' hx
  obtain ⟨a, cap, rfl, hlc, hcm, ka, hc⟩ := hx
  unfold maxLen at hcm
  clear hc
  by_cases hlong : 6 < l.length
  · have HO := hide' (pathB_long l hlong)
    have h' : (6 : Int) < (l.length : Int) := by omega
    go_enter Try.func8, Try.ntmps8
    go_wp2
    go_ret
    exact ⟨ret_bl (by rw [HO.out]), Below.refl _ _⟩
  · have HO := hide' (pathB_all l hlong)
    have h' : ¬ (6 : Int) < (l.length : Int) := by omega
    go_enter Try.func8, Try.ntmps8
    go_wp2
    go_loopw [10] (fun i wr => ∃ k : Nat, k ≤ l.length ∧ i = .int .i64 k ∧ fstP l k ∧ Below w.heap.size w wr) (fun i _ => l.length - (intOf i).toNat)
    case atStart => exact ⟨0, Nat.zero_le _, rfl, fun i _ h => by omega, Below.refl _ _⟩
    case round =>
      obtain ⟨k, hk, rfl, hall, hbel⟩ := hrel
      have hsz := hbel.size
      by_cases hlt : k < l.length
      · have hlt' : (k : Int) < (l.length : Int) := by omega
        obtain ⟨b, off, c0, c1, c2, rfl, _, h3, hv⟩ := (HC.out.agree (agree_below (hbel.mono hN))).at hlt
        obtain ⟨q0, q1, q2⟩ := h3
        simp only at q0 q1 q2
        have HF : Hid (stpB l[k] = true → fstP l (k + 1)) := fun h => fstP_succ hall hlt h
        have HN : Hid (stpB l[k] = false → l.all stpB = false) := fun h => not_all_stp hlt h
        have HS : Hid (∀ o : Obj, Calls Try.prog 15 #[.agg #[c0, c1, c2]] (wr.alloc o) fun e w' => e = .returned (.bool (stpB l[k])) ∧ Below w.heap.size w w') := by
          intro o
          have b0 : Below wr.heap.size wr (wr.alloc o) := (Below.refl _ _).alloc (Nat.le_refl _) o
          refine (impl_stepOk_any N c0 c1 c2 l[k] (wr.alloc o) (hv.agree (agree_below (b0.mono (by omega)))) (by have := b0.size; omega)).mono fun e w' h => ⟨h.1, Below.on (Below.on hbel b0) h.2⟩
        obtain ⟨g0, gt, g2⟩ := hv
        obtain ⟨a2, cp2, g1, _⟩ := gt
        simp only at g0 g1 g2
        subst g0
        subst g1
        subst g2
        generalize (l[k]).1 = vk at *
        generalize (l[k]).2.1.length = vn at *
        generalize (l[k]).2.2 = vi at *
        generalize stpB l[k] = sb at *
        clear hall
        go_wp2_with fail
        refine (HS.out _).mono ?_
        rintro e w1 ⟨rfl, B1⟩
        clear HS q0 q1 q2
        cases sb
        · have HF' := hide' (HN.out rfl)
          go_wp2
          go_ret
          exact ⟨ret_bl (by rw [HO.out, HF'.out]), B1⟩
        · have HF' := hide' (HF.out rfl)
          go_wp2
          go_roundw
          case rel => exact ⟨k + 1, by omega, by go_num, HF'.out, B1⟩
          case measure => simp [intOf]; omega
      · have hkn : k = l.length := by omega
        have hkn' : ¬ (k : Int) < (l.length : Int) := by omega
        rw [hkn] at hall
        have HF := hide' (all_fstP hall)
        clear hkn hall
        go_wp2
        go_ret
        exact ⟨ret_bl (by rw [HO.out, HF.out]), hbel⟩

/-- What each case of the specification's loop may rest on. -/
theorem stpB_at (s : Stp) : stpB s = stpB (s.1, s.2.1, s.2.2) := rfl

set_option maxHeartbeats 3200000 in
theorem spec_PathOk_any (N : Nat) (x : Value) (l : List Stp) (w : World) (hx : PthSeg (fun b => b < N) w x l) (hN : N ≤ w.heap.size) :
    Calls Try.prog 6 #[x] w fun e w' => e = .returned (.bool (pathB l)) ∧ Below w.heap.size w w' := by
  have HC := hide' hx
  obtain ⟨a, cap, rfl, hlc, hcm, ka, hc⟩ := hx
  unfold maxLen at hcm
  clear hc
  by_cases hlong : 6 < l.length
  · have HO := hide' (pathB_long l hlong)
    have h' : (6 : Int) < (l.length : Int) := by omega
    go_enter Try.func6, Try.ntmps6
    go_wp2
    go_ret
    exact ⟨ret_bl (by rw [HO.out]), Below.refl _ _⟩
  · have HO := hide' (pathB_all l hlong)
    have h' : ¬ (6 : Int) < (l.length : Int) := by omega
    go_enter Try.func6, Try.ntmps6
    go_wp2
    go_loopw [3] (fun i wr => ∃ k : Nat, k ≤ l.length ∧ i = .int .i64 k ∧ fstP l k ∧ Below w.heap.size w wr) (fun i _ => l.length - (intOf i).toNat)
    case atStart => exact ⟨0, Nat.zero_le _, rfl, fun i _ h => by omega, Below.refl _ _⟩
    case round =>
      obtain ⟨k, hk, rfl, hall, hbel⟩ := hrel
      have hsz := hbel.size
      by_cases hlt : k < l.length
      · have hlt' : (k : Int) < (l.length : Int) := by omega
        obtain ⟨b, off, c0, c1, c2, rfl, _, h3, hv⟩ := (HC.out.agree (agree_below (hbel.mono hN))).at hlt
        obtain ⟨q0, q1, q2⟩ := h3
        simp only at q0 q1 q2
        have HF : Hid (stpB ((l[k]).1, (l[k]).2.1, (l[k]).2.2) = true → fstP l (k + 1)) := fun h => fstP_succ hall hlt h
        have HN : Hid (stpB ((l[k]).1, (l[k]).2.1, (l[k]).2.2) = false → l.all stpB = false) := fun h => not_all_stp hlt h
        have HB : Hid (∀ o : Obj, Below w.heap.size w (wr.alloc o)) := fun o => Below.on hbel ((Below.refl _ _).alloc (Nat.le_refl _) o)
        obtain ⟨g0, gt, g2⟩ := hv
        simp only at g0 gt g2
        generalize (l[k]).1 = vk at *
        generalize (l[k]).2.1 = ss at *
        generalize (l[k]).2.2 = si at *
        have Ht : Hid (∀ o : Obj, TSeg (fun b => b < N) (wr.alloc o) c1 ss) := fun o => gt.agree (agree_below (((Below.refl _ _).alloc (Nat.le_refl _) o : Below wr.heap.size wr (wr.alloc o)).mono (by omega)))
        obtain ⟨a2, cp2, g1, _, hl2, hm2, _⟩ := gt
        subst g0
        subst g1
        subst g2
        unfold maxLen at hm2
        clear hall
        by_cases h0 : vk = 0
        · subst h0
          rw [stpB_key] at HF HN
          have HS : Hid (∀ o : Obj, Calls Try.prog 13 #[.slice a2 ss.length cp2] (wr.alloc o) fun e w' => e = .returned (.bool (nameB ss)) ∧ wr.alloc o = w') := by
            intro o
            obtain ⟨a2', cp2', e2, sT, _⟩ := Ht.out o
            simp only [Value.slice.injEq, true_and] at e2
            obtain ⟨rfl, rfl⟩ := e2
            exact spec_NameOk_any _ _ ss _ sT (by unfold maxLen; omega)
          clear Ht
          generalize nameB ss = nb at *
          by_cases hi0 : si = 0
          · subst hi0
            cases nb
            · have HF' := hide' (HN.out rfl)
              go_wp2_with fail
              refine (HS.out _).mono ?_
              rintro e w1 ⟨rfl, e1⟩
              obtain rfl := e1
              go_wp2
              go_ret
              exact ⟨ret_bl (by rw [HO.out, HF'.out]), HB.out _⟩
            · have HF' := hide' (HF.out rfl)
              go_wp2_with fail
              refine (HS.out _).mono ?_
              rintro e w1 ⟨rfl, e1⟩
              obtain rfl := e1
              go_wp2
              go_roundw
              case rel => exact ⟨k + 1, by omega, by go_num, HF'.out, HB.out _⟩
              case measure => simp [intOf]; omega
          · have HF' := hide' (HN.out (by simp [hi0]))
            have hin : (si != 0) = true := by simp [hi0]
            go_wp2_with fail
            refine (HS.out _).mono ?_
            rintro e w1 ⟨rfl, e1⟩
            obtain rfl := e1
            cases nb
            · go_wp2
              go_ret
              exact ⟨ret_bl (by rw [HO.out, HF'.out]), HB.out _⟩
            · go_wp2
              go_ret
              exact ⟨ret_bl (by rw [HO.out, HF'.out]), HB.out _⟩
        · by_cases h1 : vk = 1
          · subst h1
            rw [stpB_item] at HF HN
            clear Ht
            by_cases hl : ss.length = 0
            · have hl' : ¬ (0 : Int) < (ss.length : Int) := by omega
              by_cases hi : 0 ≤ si
              · have hi' : ¬ si < 0 := by omega
                by_cases hj : si < 40
                · have HF' := hide' (HF.out (by simp [hl, hi, hj]))
                  have hj' : ¬ (40 : Int) ≤ si := by omega
                  go_wp2
                  go_roundw
                  case rel => exact ⟨k + 1, by omega, by go_num, HF'.out, HB.out _⟩
                  case measure => simp [intOf]; omega
                · have HF' := hide' (HN.out (by simp [hj]))
                  have hj' : (40 : Int) ≤ si := by omega
                  go_wp2
                  go_ret
                  exact ⟨ret_bl (by rw [HO.out, HF'.out]), HB.out _⟩
              · have HF' := hide' (HN.out (by simp [hi]))
                have hi' : si < 0 := by omega
                go_wp2
                go_ret
                exact ⟨ret_bl (by rw [HO.out, HF'.out]), HB.out _⟩
            · have HF' := hide' (HN.out (by simp [hl]))
              have hl' : (0 : Int) < (ss.length : Int) := by omega
              go_wp2
              go_ret
              exact ⟨ret_bl (by rw [HO.out, HF'.out]), HB.out _⟩
          · have HF' := hide' (HN.out (stpB_none vk ss si h0 h1))
            clear Ht
            go_wp2
            go_ret
            exact ⟨ret_bl (by rw [HO.out, HF'.out]), HB.out _⟩
      · have hkn : k = l.length := by omega
        have hkn' : ¬ (k : Int) < (l.length : Int) := by omega
        rw [hkn] at hall
        have HF := hide' (all_fstP hall)
        clear hkn hall
        go_wp2
        go_ret
        exact ⟨ret_bl (by rw [HO.out, HF.out]), hbel⟩
end Go.Proofs.Ytliheeiooppnbaa
