/-
  Texts that a law leans on, one behind the other; no statement is proved here.
-/
import Derived.Test.YteafpgaefphkfaaGreatDoorPk4
import Derived.Test.YteafpgaefphkfaaGreatDoorPk8
import Derived.Deep.RegionWith
import Derived.Test.YteafpgaefphkfaaGreatDoorPk2
/-
  toValue of the laws at every depth.
-/
namespace Go.Proofs.YteafpgaefphkfaaGreatDoor
open Go.RowKit
set_option linter.unusedVariables false

theorem KOwn.nodup {w : World} {v : Value} {ks : List (List Int)} {B : List Nat} (h : KOwn w v ks B) : B.Nodup := by
  rcases h with ⟨_, _, rfl⟩ | ⟨_, _, _, _, _, _, _, _, _, _, _, _, hn⟩
  · simp
  · exact hn
theorem LOwn.nodup {w : World} {d : Nat} {x : Value} {l : List (Vl d)} {B : List Nat} (h : LOwn w d x l B) : B.Nodup := by
  rcases h with ⟨_, _, rfl⟩ | ⟨_, _, _, _, _, _, _, _, _, _, _, _, hn⟩
  · simp
  · exact hn

end Go.Proofs.YteafpgaefphkfaaGreatDoor
/-
  eqStep, eqStepS of the laws: of two readings of the same path they answer true, and turn nothing old.
-/
namespace Go.Proofs.YteafpgaefphkfaaGreatDoor
open Go.RowKit
set_option linter.unusedVariables false

end Go.Proofs.YteafpgaefphkfaaGreatDoor
/-
  What a call that makes a value leaves; a block of five cells, read behind new blocks.
-/
namespace Go.Proofs.YteafpgaefphkfaaGreatDoor
open Go.RowKit
set_option linter.unusedVariables false
set_option linter.unusedSimpArgs false

/-- A block of five, read behind a new block. -/
theorem box_later {w : World} {g : Nat} {T : TypeId} {c0 c1 c2 c3 c4 : Value} (h : w.heap[g]? = some (.cells #[c0, c1, c2, c3, c4] T (0, 0))) :
    (∀ o, (w.alloc o).cell? ⟨g, 0, none⟩ = some c0) ∧ (∀ o, (w.alloc o).cell? ⟨g, 1, none⟩ = some c1) ∧ (∀ o, (w.alloc o).cell? ⟨g, 2, none⟩ = some c2) ∧ (∀ o, (w.alloc o).cell? ⟨g, 3, none⟩ = some c3) ∧ (∀ o, (w.alloc o).cell? ⟨g, 4, none⟩ = some c4) ∧ ∀ o j, (w.alloc o).frozen? ⟨g, j, none⟩ = false := by
  have hr : ∀ o, (w.alloc o).heap[g]? = some (.cells #[c0, c1, c2, c3, c4] T (0, 0)) := fun o => (Below.heap_alloc w o g (Array.getElem?_eq_some_iff.1 h).1).trans h
  exact ⟨fun o => (row5 (hr o)).1, fun o => (row5 (hr o)).2.1, fun o => (row5 (hr o)).2.2.1, fun o => (row5 (hr o)).2.2.2.1, fun o => (row5 (hr o)).2.2.2.2.1, fun o j => (row5 (hr o)).2.2.2.2.2 j⟩

/-- What valueOf leaves. -/
def ValEnd (d : Nat) (v : Vl d) (w : World) (e : Ending) (w' : World) : Prop :=
  ∃ u0 u1 u2 u3 u4, e = .returned (.agg #[u0, u1, u2, u3, u4]) ∧ ∃ B, VOwn w' d (u0, u1, u2, u3, u4) v B ∧ (∀ b ∈ B, w.heap.size ≤ b ∧ b < w'.heap.size) ∧ Below w.heap.size w w'

/-- .. and behind two. -/
theorem box_later2 {w : World} {g : Nat} {T : TypeId} {c0 c1 c2 c3 c4 : Value} (h : w.heap[g]? = some (.cells #[c0, c1, c2, c3, c4] T (0, 0))) :
    (∀ o o', ((w.alloc o).alloc o').cell? ⟨g, 0, none⟩ = some c0) ∧ (∀ o o', ((w.alloc o).alloc o').cell? ⟨g, 1, none⟩ = some c1) ∧ (∀ o o', ((w.alloc o).alloc o').cell? ⟨g, 2, none⟩ = some c2) ∧ (∀ o o', ((w.alloc o).alloc o').cell? ⟨g, 3, none⟩ = some c3) ∧ (∀ o o', ((w.alloc o).alloc o').cell? ⟨g, 4, none⟩ = some c4) ∧ ∀ o o' j, ((w.alloc o).alloc o').frozen? ⟨g, j, none⟩ = false := by
  have hr : ∀ o, (w.alloc o).heap[g]? = some (.cells #[c0, c1, c2, c3, c4] T (0, 0)) := fun o => (Below.heap_alloc w o g (Array.getElem?_eq_some_iff.1 h).1).trans h
  exact ⟨fun o => (box_later (hr o)).1, fun o => (box_later (hr o)).2.1, fun o => (box_later (hr o)).2.2.1, fun o => (box_later (hr o)).2.2.2.1, fun o => (box_later (hr o)).2.2.2.2.1, fun o => (box_later (hr o)).2.2.2.2.2⟩

end Go.Proofs.YteafpgaefphkfaaGreatDoor
/-
  PathOk, of the program and of the specification: of a path it tells whether it may be, and turns nothing old.
-/
namespace Go.Proofs.YteafpgaefphkfaaGreatDoor
open Go.RowKit
set_option linter.unusedVariables false

/-- A step that may be. -/
def stpB (s : Stp) : Bool := (decide (s.1 = 0) && (nameB s.2.1 && decide (s.2.2 = 0))) || (decide (s.1 = 1) && (decide (s.2.1.length = 0) && decide (0 ≤ s.2.2) && decide (s.2.2 < 40)))
/-- A path that may be. -/
def pathB (l : List Stp) : Bool := decide (l.length ≤ 6) && l.all stpB

theorem stpB_key (ss : List Int) (i : Int) : stpB (0, ss, i) = (nameB ss && decide (i = 0)) := by simp [stpB]
theorem stpB_item (ss : List Int) (i : Int) : stpB (1, ss, i) = (decide (ss.length = 0) && decide (0 ≤ i) && decide (i < 40)) := by simp [stpB]
theorem stpB_none (k : Int) (ss : List Int) (i : Int) (h0 : k ≠ 0) (h1 : k ≠ 1) : stpB (k, ss, i) = false := by simp [stpB, h0, h1]

theorem pathB_long (l : List Stp) (h : 6 < l.length) : pathB l = false := by simp [pathB]; omega
theorem pathB_all (l : List Stp) (h : ¬ 6 < l.length) : pathB l = l.all stpB := by
  have h' : l.length ≤ 6 := by omega
  simp [pathB, h']

/-- The first k all fulfil p. -/
def fstP (l : List Stp) (k : Nat) : Prop := ∀ i (h : i < l.length), i < k → stpB l[i] = true
theorem fstP_succ {l : List Stp} {k : Nat} (h : fstP l k) (hk : k < l.length) (hs : stpB l[k] = true) : fstP l (k + 1) := by
  intro i hi hik
  by_cases e : i = k
  · subst e; exact hs
  · exact h i hi (by omega)
theorem all_fstP {l : List Stp} (h : fstP l l.length) : l.all stpB = true := by
  rw [List.all_eq_true]
  intro x hx
  obtain ⟨i, hi, rfl⟩ := List.getElem_of_mem hx
  exact h i hi hi
theorem not_all_stp {l : List Stp} {k : Nat} (hk : k < l.length) (h : stpB l[k] = false) : l.all stpB = false := by
  rw [List.all_eq_false]
  exact ⟨l[k], List.getElem_mem hk, by rw [h]; simp⟩

theorem ret_bl {x y : Bool} (h : x = y) : Ending.returned (.bool x) = .returned (.bool y) := by rw [h]

set_option maxHeartbeats 1600000 in
theorem impl_stepOk_any (N : Nat) (c0 c1 c2 : Value) (s : Stp) (w : World) (hs : StSeg (fun b => b < N) w (c0, c1, c2) s) (hN : N ≤ w.heap.size) :
    Calls Tryz.prog 29 #[.agg #[c0, c1, c2]] w fun e w' => e = .returned (.bool (stpB s)) ∧ Below w.heap.size w w' := by
  obtain ⟨sk, ss, si⟩ := s
  obtain ⟨e0, ht, e2⟩ := hs
  simp only at e0 ht e2
  subst e0
  subst e2
  have Ht : Hid (∀ w' : World, Below w.heap.size w w' → TSeg (fun b => b < N) w' c1 ss) := fun w' h => ht.agree (agree_below (h.mono hN))
  obtain ⟨a2, cp2, rfl, s2, hl2, hm2, _, _⟩ := ht
  have hb0 : ∀ o : Obj, Below w.heap.size w (w.alloc o) := fun o => (Below.refl _ _).alloc (Nat.le_refl _) o
  have Hb := hide' hb0
  unfold maxLen at hm2
  clear s2 hb0
  by_cases h0 : sk = 0
  · subst h0
    have HO := hide' (stpB_key ss si)
    have HS : Hid (∀ o : Obj, Calls Tryz.prog 44 #[.slice a2 ss.length cp2] (w.alloc o) fun e w' => e = .returned (.bool (nameB ss)) ∧ w.alloc o = w') := by
      intro o
      obtain ⟨a2', cp2', e2, sT, _⟩ := Ht.out _ (Hb.out o)
      simp only [Value.slice.injEq, true_and] at e2
      obtain ⟨rfl, rfl⟩ := e2
      exact impl_NameOk_any _ _ ss _ sT (by unfold maxLen; omega)
    clear Ht
    go_enter Tryz.func29, Tryz.ntmps29
    go_wp2_with fail
    refine (HS.out _).mono ?_
    rintro e w1 ⟨rfl, e1⟩
    obtain rfl := e1
    generalize nameB ss = nb at *
    cases nb
    · go_wp2
      go_ret
      exact ⟨ret_bl (by rw [HO.out]; simp), Hb.out _⟩
    · go_wp2
      go_ret
      exact ⟨ret_bl (by rw [HO.out, Bool.true_and]; rfl), Hb.out _⟩
  · by_cases h1 : sk = 1
    · subst h1
      have HO := hide' (stpB_item ss si)
      clear Ht
      by_cases hl : ss.length = 0
      · have hl' : (ss.length : Int) = 0 := by omega
        by_cases hi : 0 ≤ si
        · have HQ : Hid (stpB (1, ss, si) = decide (si < 40)) := by show stpB (1, ss, si) = _; rw [HO.out]; simp [hl, hi]
          clear HO
          go_enter Tryz.func29, Tryz.ntmps29
          go_wp2
          go_ret
          exact ⟨ret_bl (by rw [HQ.out]), Hb.out _⟩
        · have HQ : Hid (stpB (1, ss, si) = false) := by show stpB (1, ss, si) = _; rw [HO.out]; simp [hi]
          clear HO
          go_enter Tryz.func29, Tryz.ntmps29
          go_wp2
          go_ret
          exact ⟨ret_bl (by rw [HQ.out]), Hb.out _⟩
      · have hl' : ¬ (ss.length : Int) = 0 := by omega
        have HQ : Hid (stpB (1, ss, si) = false) := by show stpB (1, ss, si) = _; rw [HO.out]; simp [hl]
        clear HO
        go_enter Tryz.func29, Tryz.ntmps29
        go_wp2
        go_ret
        exact ⟨ret_bl (by rw [HQ.out]), Hb.out _⟩
    · have HQ := hide' (stpB_none sk ss si h0 h1)
      clear Ht
      go_enter Tryz.func29, Tryz.ntmps29
      go_wp2
      go_ret
      exact ⟨ret_bl (by rw [HQ.out]), Hb.out _⟩

set_option maxHeartbeats 1600000 in
theorem impl_PathOk_any (N : Nat) (x : Value) (l : List Stp) (w : World) (hx : PthSeg (fun b => b < N) w x l) (hN : N ≤ w.heap.size) :
    Calls Tryz.prog 11 #[x] w fun e w' => e = .returned (.bool (pathB l)) ∧ Below w.heap.size w w' := by
  have HC := hide' hx
  obtain ⟨a, cap, rfl, hlc, hcm, ka, hc⟩ := hx
  unfold maxLen at hcm
  clear hc
  by_cases hlong : 6 < l.length
  · have HO := hide' (pathB_long l hlong)
    have h' : (6 : Int) < (l.length : Int) := by omega
    go_enter Tryz.func11, Tryz.ntmps11
    go_wp2
    go_ret
    exact ⟨ret_bl (by rw [HO.out]), Below.refl _ _⟩
  · have HO := hide' (pathB_all l hlong)
    have h' : ¬ (6 : Int) < (l.length : Int) := by omega
    go_enter Tryz.func11, Tryz.ntmps11
    go_wp2
    go_loopw [10] (fun i wr => ∃ k : Nat, k ≤ l.length ∧ i = .int .i64 k ∧ fstP l k ∧ Below w.heap.size w wr) (fun i _ => l.length - (intOf i).toNat)
    case atStart => exact ⟨0, Nat.zero_le _, rfl, fun i _ h => by omega, Below.refl _ _⟩
    case round =>
      obtain ⟨k, hk, rfl, hall, hbel⟩ := hrel
      have hsz := hbel.size
      by_cases hlt : k < l.length
      · have hlt' : (k : Int) < (l.length : Int) := by omega
        obtain ⟨b, off, c0, c1, c2, rfl, _, h3, hv⟩ := (HC.out.agree (agree_below (hbel.mono hN))).at hlt
        obtain ⟨q0, q1, q2⟩ := h3
        simp only at q0 q1 q2
        have HF : Hid (stpB l[k] = true → fstP l (k + 1)) := fun h => fstP_succ hall hlt h
        have HN : Hid (stpB l[k] = false → l.all stpB = false) := fun h => not_all_stp hlt h
        have HS : Hid (∀ o : Obj, Calls Tryz.prog 29 #[.agg #[c0, c1, c2]] (wr.alloc o) fun e w' => e = .returned (.bool (stpB l[k])) ∧ Below w.heap.size w w') := by
          intro o
          have b0 : Below wr.heap.size wr (wr.alloc o) := (Below.refl _ _).alloc (Nat.le_refl _) o
          refine (impl_stepOk_any N c0 c1 c2 l[k] (wr.alloc o) (hv.agree (agree_below (b0.mono (by omega)))) (by have := b0.size; omega)).mono fun e w' h => ⟨h.1, Below.on (Below.on hbel b0) h.2⟩
        obtain ⟨g0, gt, g2⟩ := hv
        obtain ⟨a2, cp2, g1, _⟩ := gt
        simp only at g0 g1 g2
        subst g0
        subst g1
        subst g2
        generalize (l[k]).1 = vk at *
        generalize (l[k]).2.1.length = vn at *
        generalize (l[k]).2.2 = vi at *
        generalize stpB l[k] = sb at *
        clear hall
        go_wp2_with fail
        refine (HS.out _).mono ?_
        rintro e w1 ⟨rfl, B1⟩
        clear HS q0 q1 q2
        cases sb
        · have HF' := hide' (HN.out rfl)
          go_wp2
          go_ret
          exact ⟨ret_bl (by rw [HO.out, HF'.out]), B1⟩
        · have HF' := hide' (HF.out rfl)
          go_wp2
          go_roundw
          case rel => exact ⟨k + 1, by omega, by go_num, HF'.out, B1⟩
          case measure => simp [intOf]; omega
      · have hkn : k = l.length := by omega
        have hkn' : ¬ (k : Int) < (l.length : Int) := by omega
        rw [hkn] at hall
        have HF := hide' (all_fstP hall)
        clear hkn hall
        go_wp2
        go_ret
        exact ⟨ret_bl (by rw [HO.out, HF.out]), hbel⟩

set_option maxHeartbeats 3200000 in
theorem spec_PathOk_any (N : Nat) (x : Value) (l : List Stp) (w : World) (hx : PthSeg (fun b => b < N) w x l) (hN : N ≤ w.heap.size) :
    Calls Tryz.prog 7 #[x] w fun e w' => e = .returned (.bool (pathB l)) ∧ Below w.heap.size w w' := by
  have HC := hide' hx
  obtain ⟨a, cap, rfl, hlc, hcm, ka, hc⟩ := hx
  unfold maxLen at hcm
  clear hc
  by_cases hlong : 6 < l.length
  · have HO := hide' (pathB_long l hlong)
    have h' : (6 : Int) < (l.length : Int) := by omega
    go_enter Tryz.func7, Tryz.ntmps7
    go_wp2
    go_ret
    exact ⟨ret_bl (by rw [HO.out]), Below.refl _ _⟩
  · have HO := hide' (pathB_all l hlong)
    have h' : ¬ (6 : Int) < (l.length : Int) := by omega
    go_enter Tryz.func7, Tryz.ntmps7
    go_wp2
    go_loopw [3] (fun i wr => ∃ k : Nat, k ≤ l.length ∧ i = .int .i64 k ∧ fstP l k ∧ Below w.heap.size w wr) (fun i _ => l.length - (intOf i).toNat)
    case atStart => exact ⟨0, Nat.zero_le _, rfl, fun i _ h => by omega, Below.refl _ _⟩
    case round =>
      obtain ⟨k, hk, rfl, hall, hbel⟩ := hrel
      have hsz := hbel.size
      by_cases hlt : k < l.length
      · have hlt' : (k : Int) < (l.length : Int) := by omega
        obtain ⟨b, off, c0, c1, c2, rfl, _, h3, hv⟩ := (HC.out.agree (agree_below (hbel.mono hN))).at hlt
        obtain ⟨q0, q1, q2⟩ := h3
        simp only at q0 q1 q2
        have HF : Hid (stpB ((l[k]).1, (l[k]).2.1, (l[k]).2.2) = true → fstP l (k + 1)) := fun h => fstP_succ hall hlt h
        have HN : Hid (stpB ((l[k]).1, (l[k]).2.1, (l[k]).2.2) = false → l.all stpB = false) := fun h => not_all_stp hlt h
        have HB : Hid (∀ o : Obj, Below w.heap.size w (wr.alloc o)) := fun o => Below.on hbel ((Below.refl _ _).alloc (Nat.le_refl _) o)
        obtain ⟨g0, gt, g2⟩ := hv
        simp only at g0 gt g2
        generalize (l[k]).1 = vk at *
        generalize (l[k]).2.1 = ss at *
        generalize (l[k]).2.2 = si at *
        have Ht : Hid (∀ o : Obj, TSeg (fun b => b < N) (wr.alloc o) c1 ss) := fun o => gt.agree (agree_below (((Below.refl _ _).alloc (Nat.le_refl _) o : Below wr.heap.size wr (wr.alloc o)).mono (by omega)))
        obtain ⟨a2, cp2, g1, _, hl2, hm2, _⟩ := gt
        subst g0
        subst g1
        subst g2
        unfold maxLen at hm2
        clear hall
        by_cases h0 : vk = 0
        · subst h0
          rw [stpB_key] at HF HN
          have HS : Hid (∀ o : Obj, Calls Tryz.prog 24 #[.slice a2 ss.length cp2] (wr.alloc o) fun e w' => e = .returned (.bool (nameB ss)) ∧ wr.alloc o = w') := by
            intro o
            obtain ⟨a2', cp2', e2, sT, _⟩ := Ht.out o
            simp only [Value.slice.injEq, true_and] at e2
            obtain ⟨rfl, rfl⟩ := e2
            exact spec_NameOk_any _ _ ss _ sT (by unfold maxLen; omega)
          clear Ht
          generalize nameB ss = nb at *
          by_cases hi0 : si = 0
          · subst hi0
            cases nb
            · have HF' := hide' (HN.out rfl)
              go_wp2_with fail
              refine (HS.out _).mono ?_
              rintro e w1 ⟨rfl, e1⟩
              obtain rfl := e1
              go_wp2
              go_ret
              exact ⟨ret_bl (by rw [HO.out, HF'.out]), HB.out _⟩
            · have HF' := hide' (HF.out rfl)
              go_wp2_with fail
              refine (HS.out _).mono ?_
              rintro e w1 ⟨rfl, e1⟩
              obtain rfl := e1
              go_wp2
              go_roundw
              case rel => exact ⟨k + 1, by omega, by go_num, HF'.out, HB.out _⟩
              case measure => simp [intOf]; omega
          · have HF' := hide' (HN.out (by simp [hi0]))
            have hin : (si != 0) = true := by simp [hi0]
            go_wp2_with fail
            refine (HS.out _).mono ?_
            rintro e w1 ⟨rfl, e1⟩
            obtain rfl := e1
            cases nb
            · go_wp2
              go_ret
              exact ⟨ret_bl (by rw [HO.out, HF'.out]), HB.out _⟩
            · go_wp2
              go_ret
              exact ⟨ret_bl (by rw [HO.out, HF'.out]), HB.out _⟩
        · by_cases h1 : vk = 1
          · subst h1
            rw [stpB_item] at HF HN
            clear Ht
            by_cases hl : ss.length = 0
            · have hl' : ¬ (0 : Int) < (ss.length : Int) := by omega
              by_cases hi : 0 ≤ si
              · have hi' : ¬ si < 0 := by omega
                by_cases hj : si < 40
                · have HF' := hide' (HF.out (by simp [hl, hi, hj]))
                  have hj' : ¬ (40 : Int) ≤ si := by omega
                  go_wp2
                  go_roundw
                  case rel => exact ⟨k + 1, by omega, by go_num, HF'.out, HB.out _⟩
                  case measure => simp [intOf]; omega
                · have HF' := hide' (HN.out (by simp [hj]))
                  have hj' : (40 : Int) ≤ si := by omega
                  go_wp2
                  go_ret
                  exact ⟨ret_bl (by rw [HO.out, HF'.out]), HB.out _⟩
              · have HF' := hide' (HN.out (by simp [hi]))
                have hi' : si < 0 := by omega
                go_wp2
                go_ret
                exact ⟨ret_bl (by rw [HO.out, HF'.out]), HB.out _⟩
            · have HF' := hide' (HN.out (by simp [hl]))
              have hl' : (0 : Int) < (ss.length : Int) := by omega
              go_wp2
              go_ret
              exact ⟨ret_bl (by rw [HO.out, HF'.out]), HB.out _⟩
          · have HF' := hide' (HN.out (stpB_none vk ss si h0 h1))
            clear Ht
            go_wp2
            go_ret
            exact ⟨ret_bl (by rw [HO.out, HF'.out]), HB.out _⟩
      · have hkn : k = l.length := by omega
        have hkn' : ¬ (k : Int) < (l.length : Int) := by omega
        rw [hkn] at hall
        have HF := hide' (all_fstP hall)
        clear hkn hall
        go_wp2
        go_ret
        exact ⟨ret_bl (by rw [HO.out, HF.out]), hbel⟩
end Go.Proofs.YteafpgaefphkfaaGreatDoor
/-
  A value that is being built, row by row, on such a heap. No statement is proved here.
-/
namespace Go.Proofs.YteafpgaefphkfaaGreatDoor
open Go.RowKit
set_option linter.unusedVariables false
set_option linter.unusedSimpArgs false

/-- Blocks below n but O are as they were; rows keep their shapes. -/
def Off (n O : Nat) (w w' : World) : Prop := (w'.os = w.os ∧ w'.tape = w.tape ∧ w'.output = w.output ∧ w.heap.size ≤ w'.heap.size) ∧ (∀ b, b < n → b ≠ O → w'.heap[b]? = w.heap[b]?) ∧ Shp w w'

theorem Off.grown {w1 w w' : World} {O : Nat} (h : Off w1.heap.size O w w') (hg : w1.grownBy w (some O)) : w1.grownBy w' (some O) :=
  ⟨h.1.1.trans hg.os, h.1.2.1.trans hg.tape, h.1.2.2.1.trans hg.output, Nat.le_trans hg.size h.1.2.2.2, fun b hb hne => (h.2.1 b hb (fun e => hne (by rw [e]))).trans (hg.block b hb hne)⟩

/-- A new block was made, whatever was drawn. -/
def Alw (w : World) (o : Obj) (w' : World) : Prop := w'.heap = (w.alloc o).heap ∧ w'.os = w.os ∧ w'.tape = w.tape ∧ w'.output = w.output

theorem Hw.heap {B M : Nat} {rk : Nat → Nat} {w w' : World} (h : Hw B M rk w) (e : w'.heap = w.heap) : Hw B M rk w' := by
  refine h.step (fun g cur T fr _ hg => ⟨cur, by rw [e]; exact hg, rfl⟩) (Rks.refl _ _) fun g hg hl => .inl ⟨by rw [e] at hl; exact hl, by rw [e]⟩
theorem Shp.heap {w w' : World} (e : w'.heap = w.heap) : Shp w w' := fun g cur T fr _ hg => ⟨cur, by rw [e]; exact hg, rfl⟩

/-- The block O of five cells has texts in the row K, values in the row L, both made since w1. -/
def SIy (B M : Nat) (rk1 : Nat → Nat) (r : Nat) (w1 : World) (O : Nat) (kd : Int) (m mL : Nat) (rk' : Nat → Nat) (wr : World) (pK : Option Addr) (cK : Nat) (pL : Option Addr) (cL : Nat) : Prop :=
  Hw B M rk' wr ∧ Rks rk1 rk' w1.heap.size ∧ Sli w1.heap.size M 22 1 (fun _ => True) wr (.slice pK m cK) ∧ Sli w1.heap.size M 29 5 (fun g => r ≤ rk' g ∧ rk' g < r + 1) wr (.slice pL mL cL) ∧
    wr.heap[O]? = some (.cells #[.int .i64 kd, .int .i64 0, .slice none 0 0, .slice pK m cK, .slice pL mL cL] 29 (0, 0)) ∧ w1.heap.size ≤ wr.heap.size

theorem Sli.base {B B' M s : Nat} {T : TypeId} {p q : Nat → Prop} {w : World} {v : Value} (h : Sli B M T s p w v) (hB : B' ≤ B) (hp : ∀ g, p g → q g) : Sli B' M T s q w v := by
  obtain ⟨a, n, cap, e, h1, h2, h3, h4 | ⟨g, cur, fr, ha, hg, hpg, r⟩⟩ := h
  · exact ⟨a, n, cap, e, h1, h2, h3, .inl h4⟩
  · exact ⟨a, n, cap, e, h1, h2, h3, .inr ⟨g, cur, fr, ha, by omega, hp g hpg, r⟩⟩

theorem news_one {w wa : World} {c0 : Value} (h : wa.heap = (w.alloc (.cells #[c0] 22)).heap) : ∀ (j : Nat) (u : Value), [c0][j]? = some u → wa.cell? ((⟨w.heap.size, 0, none⟩ : Addr).add j) = some u := by
  intro j u hu
  rw [Addr.add_lit, Nat.zero_add, cell_of_row wa w.heap.size j #[c0] 22 (0, 0) (by rw [h]; exact heap_alloc_new w _)]
  simpa using hu
theorem news_five {w wa : World} {c0 c1 c2 c3 c4 : Value} (h : wa.heap = (w.alloc (.cells #[c0, c1, c2, c3, c4] 29)).heap) : ∀ (j : Nat) (u : Value), [c0, c1, c2, c3, c4][j]? = some u → wa.cell? ((⟨w.heap.size, 0, none⟩ : Addr).add j) = some u := by
  intro j u hu
  rw [Addr.add_lit, Nat.zero_add, cell_of_row wa w.heap.size j #[c0, c1, c2, c3, c4] 29 (0, 0) (by rw [h]; exact heap_alloc_new w _)]
  simpa using hu

section
variable {B M : Nat} {rk1 rk' : Nat → Nat} {r : Nat} {w1 : World} {O : Nat} {kd : Int} {m mL : Nat} {wr wa : World} {pK : Option Addr} {cK : Nat} {pL : Option Addr} {cL : Nat}

/-- A text is appended. -/
theorem siy_k {u : Value} (h : SIy B M rk1 r w1 O kd m mL rk' wr pK cK pL cL) (hB : B ≤ O) (hO : O < w1.heap.size) (hrO : r < rk1 O) (hm : m < M) (hM : M ≤ 1000000) (hu : Sli B M 5 1 (fun _ => True) wr u) (hwa : Alw wr (.cells #[u] 22) wa) (ty : TypeId) :
    ∃ (g' cap' : Nat) (wb : World), (Builtin.append_ #[26, 26] ty #[.slice pK m cK, .slice (some ⟨wr.heap.size, 0, none⟩) 1 1]).run Tryz.prog wa = .ok (.slice (some ⟨g', 0, none⟩) (m + 1) cap') wb ∧
      wb.heap[O]? = some (.cells #[.int .i64 kd, .int .i64 0, .slice none 0 0, .slice pK m cK, .slice pL mL cL] 29 (0, 0)) ∧
      SIy B M rk1 r w1 O kd (m + 1) mL rk' (wb.setCell ⟨O, 3, none⟩ (.slice (some ⟨g', 0, none⟩) (m + 1) cap')) (some ⟨g', 0, none⟩) cap' pL cL ∧ Off w1.heap.size O wr (wb.setCell ⟨O, 3, none⟩ (.slice (some ⟨g', 0, none⟩) (m + 1) cap')) := by
  obtain ⟨h1, h2, h3, h4, h5, h6⟩ := h
  obtain ⟨e0, e1, e2, e3⟩ := hwa
  have hza : wa.heap.size = wr.heap.size + 1 := by rw [e0]; simp
  have hSa : Shp wr wa := (Shp.alloc wr _).trans (Shp.heap e0)
  have hHa : Hw B M rk' wa := (h1.alloc_k u hu).heap e0
  obtain ⟨g', cap', wb, hrun, hHb, hsl, hSb, hgb⟩ := run_append_hk wa ty w1.heap.size B M rk' pK m cK (h3.shp row3_k hSa fun _ _ h => h) hHa (by omega) (by omega) (by omega) u (hu.shp row3_b hSa fun _ _ h => h) ⟨wr.heap.size, 0, none⟩ 1 (news_one e0)
  have hKl := h3.lt
  have hpb : ∀ b, b < w1.heap.size → wb.heap[b]? = wr.heap[b]? := fun b hb => by
    refine (hgb.block b (by omega) fun e => ?_).trans ?_
    · cases pK with
      | none => simp [Value.ownBlock] at e
      | some x => simp [Value.ownBlock] at e; have := hKl x rfl; omega
    · rw [e0]; exact Below.heap_alloc _ _ _ (by omega)
  have hOb := (hpb O hO).trans h5
  have hzb := hgb.size
  have hSc := Shp.setCell wb O 3 (.slice (some ⟨g', 0, none⟩) (m + 1) cap')
  have hnew := hsl M (by omega)
  have hrk : rk' O = rk1 O := h2 O hO
  have hset : Hw B M rk' (wb.setCell ⟨O, 3, none⟩ (.slice (some ⟨g', 0, none⟩) (m + 1) cap')) :=
    hHb.set_v hB hOb 0 3 (by omega) _ fun c0 c1 c2 c3 c4 hG => ⟨hG.1, hG.2.1, hG.2.2.1, hnew.base (by omega) (fun _ h => h), hG.2.2.2.2⟩
  refine ⟨g', cap', wb, hrun, hOb, ⟨hset, h2, hnew.shp row3_k hSc fun _ _ h => h, h4.shp row3_v ((hSa.trans hSb).trans hSc) fun _ _ h => h, heap_setCell_same wb O 3 _ _ _ hOb, by simp [World.setCell]; omega⟩, ⟨?_, fun b hb hne => (Below.heap_setCell wb ⟨O, 3, none⟩ _ b hne).trans (hpb b hb), (hSa.trans hSb).trans hSc⟩⟩
  exact ⟨hgb.os.trans e1, hgb.tape.trans e2, hgb.output.trans e3, by simp [World.setCell]; omega⟩

/-- A value is appended. -/
theorem siy_v {c0 c1 c2 c3 c4 : Value} (h : SIy B M rk1 r w1 O kd m mL rk' wr pK cK pL cL) (hB : B ≤ O) (hO : O < w1.heap.size) (hrO : r < rk1 O) (hm : mL < M) (hM : M ≤ 1000000) (hu : Grp B M rk' r wr (c0, c1, c2, c3, c4)) (hwa : Alw wr (.cells #[c0, c1, c2, c3, c4] 29) wa) (ty : TypeId) :
    ∃ (g' cap' : Nat) (wb : World) (rk2 : Nat → Nat), (Builtin.append_ #[27, 27] ty #[.slice pL mL cL, .slice (some ⟨wr.heap.size, 0, none⟩) 1 1]).run Tryz.prog wa = .ok (.slice (some ⟨g', 0, none⟩) (mL + 1) cap') wb ∧
      wb.heap[O]? = some (.cells #[.int .i64 kd, .int .i64 0, .slice none 0 0, .slice pK m cK, .slice pL mL cL] 29 (0, 0)) ∧
      SIy B M rk1 r w1 O kd m (mL + 1) rk2 (wb.setCell ⟨O, 4, none⟩ (.slice (some ⟨g', 0, none⟩) (mL + 1) cap')) pK cK (some ⟨g', 0, none⟩) cap' ∧ Rks rk' rk2 wr.heap.size ∧ Off w1.heap.size O wr (wb.setCell ⟨O, 4, none⟩ (.slice (some ⟨g', 0, none⟩) (mL + 1) cap')) := by
  obtain ⟨h1, h2, h3, h4, h5, h6⟩ := h
  obtain ⟨e0, e1, e2, e3⟩ := hwa
  have hza : wa.heap.size = wr.heap.size + 1 := by rw [e0]; simp
  have hSa : Shp wr wa := (Shp.alloc wr _).trans (Shp.heap e0)
  have hRa : Rks rk' (rkUp rk' wr.heap.size r) wr.heap.size := rkUp_old _ _ _
  have hHa : Hw B M (rkUp rk' wr.heap.size r) wa := (h1.alloc_v r c0 c1 c2 c3 c4 hu).heap e0
  obtain ⟨g', cap', wb, rk2, hrun, hHb, hR2, hsl, hSb, hgb⟩ := run_append_hv wa ty w1.heap.size B M (rkUp rk' wr.heap.size r) r (r + 1) pL mL cL (h4.shp row3_v hSa fun g hg h => by rw [hRa g hg]; exact h) hHa (by omega) (by omega) (by omega) c0 c1 c2 c3 c4 (hu.shp hSa hRa (Nat.le_refl _)) (by omega) ⟨wr.heap.size, 0, none⟩ 1 (news_five e0)
  have hR : Rks rk' rk2 wr.heap.size := hRa.trans hR2 (by omega)
  have hLl := h4.lt
  have hpb : ∀ b, b < w1.heap.size → wb.heap[b]? = wr.heap[b]? := fun b hb => by
    refine (hgb.block b (by omega) fun e => ?_).trans ?_
    · cases pL with
      | none => simp [Value.ownBlock] at e
      | some x => simp [Value.ownBlock] at e; have := hLl x rfl; omega
    · rw [e0]; exact Below.heap_alloc _ _ _ (by omega)
  have hOb := (hpb O hO).trans h5
  have hzb := hgb.size
  have hSc := Shp.setCell wb O 4 (.slice (some ⟨g', 0, none⟩) (mL + 1) cap')
  have hnew := hsl M (by omega)
  have hrk : rk2 O = rk1 O := (hR O (by omega)).trans (h2 O hO)
  have hset : Hw B M rk2 (wb.setCell ⟨O, 4, none⟩ (.slice (some ⟨g', 0, none⟩) (mL + 1) cap')) :=
    hHb.set_v hB hOb 0 4 (by omega) _ fun c0 c1 c2 c3 c4 hG => ⟨hG.1, hG.2.1, hG.2.2.1, hG.2.2.2.1, hnew.base (by omega) (fun g h => by omega)⟩
  refine ⟨g', cap', wb, rk2, hrun, hOb, ⟨hset, fun g hg => (hR g (by omega)).trans (h2 g hg), h3.shp row3_k ((hSa.trans hSb).trans hSc) fun _ _ h => h, hnew.shp row3_v hSc fun _ _ h => h, heap_setCell_same wb O 4 _ _ _ hOb, by simp [World.setCell]; omega⟩, hR, ⟨?_, fun b hb hne => (Below.heap_setCell wb ⟨O, 4, none⟩ _ b hne).trans (hpb b hb), (hSa.trans hSb).trans hSc⟩⟩
  exact ⟨hgb.os.trans e1, hgb.tape.trans e2, hgb.output.trans e3, by simp [World.setCell]; omega⟩

/-- The four forms for the walk. -/
theorem wpList_set_k {u : Value} {ops : Array Oper} {rest : List Oper} {o : Oper} {a : Act} {Q : Exit → Act → World → Prop} (hgd : o.guard = none) (s x : Operand) (ho : o.op = .call { callee := .builtin .append, args := #[s, x], argTypes := #[26, 26] })
    (h : SIy B M rk1 r w1 O kd m mL rk' wr pK cK pL cL) (hs : a.eval s = .slice pK m cK) (hx : a.eval x = .slice (some ⟨wr.heap.size, 0, none⟩) 1 1) (hB : B ≤ O) (hO : O < w1.heap.size) (hrO : r < rk1 O) (hm : m < M) (hM : M ≤ 1000000) (hu : Sli B M 5 1 (fun _ => True) wr u) (hwa : Alw wr (.cells #[u] 22) wa)
    (hk : ∀ (g' cap' : Nat) (wb : World), wb.heap[O]? = some (.cells #[.int .i64 kd, .int .i64 0, .slice none 0 0, .slice pK m cK, .slice pL mL cL] 29 (0, 0)) → SIy B M rk1 r w1 O kd (m + 1) mL rk' (wb.setCell ⟨O, 3, none⟩ (.slice (some ⟨g', 0, none⟩) (m + 1) cap')) (some ⟨g', 0, none⟩) cap' pL cL → Off w1.heap.size O wr (wb.setCell ⟨O, 3, none⟩ (.slice (some ⟨g', 0, none⟩) (m + 1) cap')) →
      wpList Tryz.prog ops Q rest (a.put o.dst (.slice (some ⟨g', 0, none⟩) (m + 1) cap')) wb) : wpList Tryz.prog ops Q (o :: rest) a wa := by
  refine wpList_plain hgd fun K hK => ?_
  obtain ⟨g', cap', wb, hrun, r1, r2, r3⟩ := siy_k h hB hO hrO hm hM hu hwa o.type
  unfold Oper.wp execOp
  simp only [ho, resolve, invoke, builtin, Sem.run_bind, Sem.run_pure, Result.andThen_ok, List.map_toArray, List.map_cons, List.map_nil, hs, hx, hrun]
  exact hK _ _ (hk g' cap' wb r1 r2 r3)
theorem step_set_k {u : Value} {ops : Array Oper} {o : Oper} {a : Act} {K : Act → World → Prop} {Q : Exit → Act → World → Prop} {E : Prop} (hgd : o.guard = none) (s x : Operand) (ho : o.op = .call { callee := .builtin .append, args := #[s, x], argTypes := #[26, 26] })
    (h : SIy B M rk1 r w1 O kd m mL rk' wr pK cK pL cL) (hs : a.eval s = .slice pK m cK) (hx : a.eval x = .slice (some ⟨wr.heap.size, 0, none⟩) 1 1) (hB : B ≤ O) (hO : O < w1.heap.size) (hrO : r < rk1 O) (hm : m < M) (hM : M ≤ 1000000) (hu : Sli B M 5 1 (fun _ => True) wr u) (hwa : Alw wr (.cells #[u] 22) wa)
    (hk : ∀ (g' cap' : Nat) (wb : World), wb.heap[O]? = some (.cells #[.int .i64 kd, .int .i64 0, .slice none 0 0, .slice pK m cK, .slice pL mL cL] 29 (0, 0)) → SIy B M rk1 r w1 O kd (m + 1) mL rk' (wb.setCell ⟨O, 3, none⟩ (.slice (some ⟨g', 0, none⟩) (m + 1) cap')) (some ⟨g', 0, none⟩) cap' pL cL → Off w1.heap.size O wr (wb.setCell ⟨O, 3, none⟩ (.slice (some ⟨g', 0, none⟩) (m + 1) cap')) →
      K (a.put o.dst (.slice (some ⟨g', 0, none⟩) (m + 1) cap')) wb) : if Region.wanted o (yielded ops a.tmps) = true then Oper.wp Tryz.prog o a wa K Q else E := by
  have hw : Region.wanted o (yielded ops a.tmps) = true := by simp [Region.wanted, hgd]
  rw [if_pos hw]
  obtain ⟨g', cap', wb, hrun, r1, r2, r3⟩ := siy_k h hB hO hrO hm hM hu hwa o.type
  unfold Oper.wp
  simp [execOp, ho, resolve, invoke, builtin, hs, hx, hrun, Result.andThen]
  exact hk g' cap' wb r1 r2 r3
theorem wpList_set_v {c0 c1 c2 c3 c4 : Value} {ops : Array Oper} {rest : List Oper} {o : Oper} {a : Act} {Q : Exit → Act → World → Prop} (hgd : o.guard = none) (s x : Operand) (ho : o.op = .call { callee := .builtin .append, args := #[s, x], argTypes := #[27, 27] })
    (h : SIy B M rk1 r w1 O kd m mL rk' wr pK cK pL cL) (hs : a.eval s = .slice pL mL cL) (hx : a.eval x = .slice (some ⟨wr.heap.size, 0, none⟩) 1 1) (hB : B ≤ O) (hO : O < w1.heap.size) (hrO : r < rk1 O) (hm : mL < M) (hM : M ≤ 1000000) (hu : Grp B M rk' r wr (c0, c1, c2, c3, c4)) (hwa : Alw wr (.cells #[c0, c1, c2, c3, c4] 29) wa)
    (hk : ∀ (g' cap' : Nat) (wb : World) (rk2 : Nat → Nat), wb.heap[O]? = some (.cells #[.int .i64 kd, .int .i64 0, .slice none 0 0, .slice pK m cK, .slice pL mL cL] 29 (0, 0)) → SIy B M rk1 r w1 O kd m (mL + 1) rk2 (wb.setCell ⟨O, 4, none⟩ (.slice (some ⟨g', 0, none⟩) (mL + 1) cap')) pK cK (some ⟨g', 0, none⟩) cap' → Rks rk' rk2 wr.heap.size → Off w1.heap.size O wr (wb.setCell ⟨O, 4, none⟩ (.slice (some ⟨g', 0, none⟩) (mL + 1) cap')) →
      wpList Tryz.prog ops Q rest (a.put o.dst (.slice (some ⟨g', 0, none⟩) (mL + 1) cap')) wb) : wpList Tryz.prog ops Q (o :: rest) a wa := by
  refine wpList_plain hgd fun K hK => ?_
  obtain ⟨g', cap', wb, rk2, hrun, r1, r2, r3, r4⟩ := siy_v h hB hO hrO hm hM hu hwa o.type
  unfold Oper.wp execOp
  simp only [ho, resolve, invoke, builtin, Sem.run_bind, Sem.run_pure, Result.andThen_ok, List.map_toArray, List.map_cons, List.map_nil, hs, hx, hrun]
  exact hK _ _ (hk g' cap' wb rk2 r1 r2 r3 r4)
theorem step_set_v {c0 c1 c2 c3 c4 : Value} {ops : Array Oper} {o : Oper} {a : Act} {K : Act → World → Prop} {Q : Exit → Act → World → Prop} {E : Prop} (hgd : o.guard = none) (s x : Operand) (ho : o.op = .call { callee := .builtin .append, args := #[s, x], argTypes := #[27, 27] })
    (h : SIy B M rk1 r w1 O kd m mL rk' wr pK cK pL cL) (hs : a.eval s = .slice pL mL cL) (hx : a.eval x = .slice (some ⟨wr.heap.size, 0, none⟩) 1 1) (hB : B ≤ O) (hO : O < w1.heap.size) (hrO : r < rk1 O) (hm : mL < M) (hM : M ≤ 1000000) (hu : Grp B M rk' r wr (c0, c1, c2, c3, c4)) (hwa : Alw wr (.cells #[c0, c1, c2, c3, c4] 29) wa)
    (hk : ∀ (g' cap' : Nat) (wb : World) (rk2 : Nat → Nat), wb.heap[O]? = some (.cells #[.int .i64 kd, .int .i64 0, .slice none 0 0, .slice pK m cK, .slice pL mL cL] 29 (0, 0)) → SIy B M rk1 r w1 O kd m (mL + 1) rk2 (wb.setCell ⟨O, 4, none⟩ (.slice (some ⟨g', 0, none⟩) (mL + 1) cap')) pK cK (some ⟨g', 0, none⟩) cap' → Rks rk' rk2 wr.heap.size → Off w1.heap.size O wr (wb.setCell ⟨O, 4, none⟩ (.slice (some ⟨g', 0, none⟩) (mL + 1) cap')) →
      K (a.put o.dst (.slice (some ⟨g', 0, none⟩) (mL + 1) cap')) wb) : if Region.wanted o (yielded ops a.tmps) = true then Oper.wp Tryz.prog o a wa K Q else E := by
  have hw : Region.wanted o (yielded ops a.tmps) = true := by simp [Region.wanted, hgd]
  rw [if_pos hw]
  obtain ⟨g', cap', wb, rk2, hrun, r1, r2, r3, r4⟩ := siy_v h hB hO hrO hm hM hu hwa o.type
  unfold Oper.wp
  simp [execOp, ho, resolve, invoke, builtin, hs, hx, hrun, Result.andThen]
  exact hk g' cap' wb rk2 r1 r2 r3 r4
end
end Go.Proofs.YteafpgaefphkfaaGreatDoor
