/-
  Texts that a law leans on, one behind the other; no statement is proved here.
-/
import Derived.Test.YtpnohgncnmbkdaaPk0
import Derived.Deep.RegionHeld3
import Derived.Deep.Cut
/-
  Numbers and edges marked, and held: markIntS, markEdgeS, markGraph, heldIntS, heldEdgeS, heldGraph; toIntS.
-/
namespace Go.Proofs.Ytpnohgncnmbkdaa
open Go.RowKit
set_option linter.unusedVariables false
set_option linter.unusedSimpArgs false

/-- Running numbers. -/
def mkN (k n : Nat) : List Int := (List.range n).map fun i : Nat => (k : Int) + (i : Int)
/-- Edges with running numbers. -/
def mkE (k n : Nat) : List Edg := (List.range n).map fun i : Nat => ((k : Int) + (i : Int) * 2, (k : Int) + (i : Int) * 2 + 1)
theorem mkN_len (k n : Nat) : (mkN k n).length = n := by simp [mkN]
theorem mkE_len (k n : Nat) : (mkE k n).length = n := by simp [mkE]
theorem mkN_at {k n i : Nat} (h : i < (mkN k n).length) : (mkN k n)[i] = ((k : Int) + (i : Int)) := by simp [mkN]
theorem mkE_at {k n i : Nat} (h : i < (mkE k n).length) : (mkE k n)[i] = (((k : Int) + (i : Int) * 2), ((k : Int) + (i : Int) * 2 + 1)) := by simp [mkE]

theorem nOwn_of_cells {w : World} {g cap base : Nat} {l : List Int} {cur : Array Value} (hb : base ≤ g) (hh : w.heap[g]? = some (.cells cur 3 (0, 0))) (hn : l.length ≤ cap) (hm : cap ≤ maxLen) (hs : cur.size = cap) (hc : ∀ i (h : i < l.length), cur[i]? = some (.int .i64 l[i])) : NOwn w base (.slice (some ⟨g, 0, none⟩) l.length cap) l := by
  refine ⟨by rw [iC_len]; omega, .inr ⟨g, cap, cur, rfl, hb, hh, hn, hm, by omega, ?_⟩⟩
  apply List.ext_getElem?
  intro j
  by_cases hj : j < l.length
  · rw [List.getElem?_take, if_pos (by omega), Array.getElem?_toList, hc j hj, iC_at hj]
  · rw [List.getElem?_eq_none (by simp; omega), List.getElem?_eq_none (by rw [iC_len]; omega)]
theorem eOwn_of_cells {w : World} {g cap base : Nat} {l : List Edg} {cur : Array Value} (hb : base ≤ g) (hh : w.heap[g]? = some (.cells cur 36 (0, 0))) (hn : l.length ≤ cap) (hm : cap ≤ maxLen) (hs : cur.size = cap * 2) (hc : ∀ i (h : i < l.length), cur[i * 2]? = some (.int .i64 l[i].1) ∧ cur[i * 2 + 1]? = some (.int .i64 l[i].2)) : EOwn w base (.slice (some ⟨g, 0, none⟩) l.length cap) l := by
  refine ⟨eC_len l, .inr ⟨g, cap, cur, rfl, hb, hh, hn, hm, hs, ?_⟩⟩
  apply List.ext_getElem?
  intro j
  by_cases hj : j < l.length * 2
  · obtain ⟨q1, q2⟩ := hc (j / 2) (by omega)
    obtain ⟨r1, r2⟩ := eC_at (l := l) (i := j / 2) (by omega)
    rw [List.getElem?_take, if_pos (by omega), Array.getElem?_toList]
    rcases Nat.mod_two_eq_zero_or_one j with e | e
    · have e2 : j / 2 * 2 = j := by omega
      rw [e2] at q1 r1
      rw [q1, r1]
    · have e2 : j / 2 * 2 + 1 = j := by omega
      rw [e2] at q2 r2
      rw [q2, r2]
  · rw [List.getElem?_eq_none (by simp; omega), List.getElem?_eq_none (by rw [eC_len]; omega)]

/-- The first j of a row are marked. -/
def NMk (w : World) (g cap k j : Nat) (wr : World) : Prop := ∃ cur : Array Value, wr.heap[g]? = some (.cells cur 3 (0, 0)) ∧ cur.size = cap ∧ (∀ i, i < j → cur[i]? = some (.int .i64 ((k : Int) + (i : Int)))) ∧ w.grownBy wr (some g)
def EMk (w : World) (g cap k j : Nat) (wr : World) : Prop := ∃ cur : Array Value, wr.heap[g]? = some (.cells cur 36 (0, 0)) ∧ cur.size = cap * 2 ∧ (∀ i, i < j → cur[i * 2]? = some (.int .i64 ((k : Int) + (i : Int) * 2)) ∧ cur[i * 2 + 1]? = some (.int .i64 ((k : Int) + (i : Int) * 2 + 1))) ∧ w.grownBy wr (some g)
theorem nMk_next {w wr : World} {g cap k j : Nat} (h : NMk w g cap k j wr) (hj : j < cap) : NMk w g cap k (j + 1) (wr.setCell ⟨g, j, none⟩ (.int .i64 ((k : Int) + (j : Int)))) := by
  obtain ⟨cur, h1, h2, h3, h4⟩ := h
  refine ⟨_, heap_setCell_same wr g j _ _ _ h1, by simp [h2], fun i hi => ?_, grownBy_trans h4 (grown1 wr g j _)⟩
  by_cases e : i = j
  · subst e
    rw [Array.getElem?_setIfInBounds_self_of_lt (by omega)]
  · rw [Array.getElem?_setIfInBounds_ne (by omega)]
    exact h3 i (by omega)
theorem eMk_next {w wr : World} {g cap k j : Nat} (h : EMk w g cap k j wr) (hj : j < cap) : EMk w g cap k (j + 1) ((wr.setCell ⟨g, j * 2, none⟩ (.int .i64 ((k : Int) + (j : Int) * 2))).setCell ⟨g, j * 2 + 1, none⟩ (.int .i64 ((k : Int) + (j : Int) * 2 + 1))) := by
  obtain ⟨cur, h1, h2, h3, h4⟩ := h
  refine ⟨_, set2_heap _ _ h1, by simp [h2], fun i hi => ?_, grownBy_trans h4 (set2_grown wr g (j * 2) _ _)⟩
  by_cases e : i = j
  · subst e
    constructor
    · rw [Array.getElem?_setIfInBounds_ne (by omega), Array.getElem?_setIfInBounds_self_of_lt (by omega)]
    · rw [Array.getElem?_setIfInBounds_self_of_lt (by simp; omega)]
  · obtain ⟨q1, q2⟩ := h3 i (by omega)
    constructor
    · rw [Array.getElem?_setIfInBounds_ne (by omega), Array.getElem?_setIfInBounds_ne (by omega)]
      exact q1
    · rw [Array.getElem?_setIfInBounds_ne (by omega), Array.getElem?_setIfInBounds_ne (by omega)]
      exact q2

set_option maxHeartbeats 1600000 in
theorem markIntS_any (base : Nat) (v : Value) (l : List Int) (k : Nat) (w : World) (h : NOwn w base v l) (hl : l.length ≤ 2097152) (hk : k ≤ 16777216) :
    Calls Try.prog 33 #[v, .int .i64 (k : Int)] w fun e w' => e = .returned (.int .i64 ((k : Int) + (l.length : Int))) ∧ NOwn w' base v (mkN k l.length) ∧ w.grownBy w' v.ownBlock := by
  have HW := hide' h
  obtain ⟨h1, ⟨rfl, h2⟩ | ⟨g, cap, cur, rfl, hb, hg, hn, hm, hs, -⟩⟩ := h
  · obtain rfl := List.length_eq_zero_iff.1 h2
    go_enter Try.func33, Try.ntmps33
    go_wp2
    go_loopw [1, 5] (fun q i wr => i = .int .i64 0 ∧ q = .int .i64 (k : Int) ∧ wr = w) (fun _ _ _ => 0)
    case atStart => exact ⟨rfl, rfl, rfl⟩
    case round =>
      obtain ⟨rfl, rfl, rfl⟩ := hrel
      go_wp2
      go_ret
      exact ⟨by simp, NOwn.nil _ _, World.grownBy.refl _ _⟩
  · unfold maxLen at hm
    have H0 : Hid (NMk w g cap k 0 w) := ⟨cur, hg, by omega, by intro i hi; omega, World.grownBy.refl _ _⟩
    have HEnd : Hid (∀ wr, NMk w g cap k l.length wr → NOwn wr base (.slice (some ⟨g, 0, none⟩) l.length cap) (mkN k l.length) ∧ w.grownBy wr (some g)) := fun wr ⟨cur', q1, q2, q3, q4⟩ => by
      refine ⟨?_, q4⟩
      have := nOwn_of_cells (l := mkN k l.length) (cap := cap) hb q1 (by rw [mkN_len]; omega) (by unfold maxLen; omega) q2 (fun i hi => by rw [mkN_at hi]; exact q3 i (by rw [mkN_len] at hi; exact hi))
      rw [mkN_len] at this
      exact this
    clear hg hs h1
    generalize l.length = n at *
    go_enter Try.func33, Try.ntmps33
    go_wp2
    go_loopw [1, 5] (fun q i wr => ∃ j : Nat, j ≤ n ∧ i = .int .i64 j ∧ q = .int .i64 ((k : Int) + (j : Int)) ∧ Hid (NMk w g cap k j wr)) (fun _ i _ => n - (intOf i).toNat)
    case atStart => exact ⟨0, Nat.zero_le _, rfl, by simp, H0⟩
    case round =>
      clear H0
      obtain ⟨j, hj, rfl, rfl, hM⟩ := hrel
      by_cases hlt : j < n
      · have hlt' : (j : Int) < (n : Int) := by omega
        obtain ⟨cur', q1, q2, -, -⟩ := hM.out
        obtain ⟨x0, hx0⟩ : ∃ x, wr.cell? ⟨g, j, none⟩ = some x := by
          rw [cell_of_row wr g j _ _ _ q1]
          exact ⟨_, Array.getElem?_eq_getElem (by omega)⟩
        have f0 := frozen_of_row wr g j _ _ q1
        have HN := hide' (nMk_next hM.out (by omega))
        clear q1 q2 hM
        generalize hm0 : ((k : Int) + (j : Int)) = m0 at *
        have hm1 : (k : Int) + ((j + 1 : Nat) : Int) = m0 + 1 := by omega
        have hm2 : 0 ≤ m0 ∧ m0 ≤ 1000000000 := by omega
        go_wp2
        go_roundw
        case rel => exact ⟨j + 1, by omega, by go_num, by rw [hm1], HN⟩
        case measure => simp [intOf]; omega
      · have hlt' : ¬ (j : Int) < (n : Int) := by omega
        obtain rfl : j = n := by omega
        have HF := hide' (HEnd.out wr hM.out)
        go_wp2
        go_ret
        exact ⟨rfl, HF.out.1, HF.out.2⟩

set_option maxHeartbeats 1600000 in
theorem markEdgeS_any (base : Nat) (v : Value) (l : List Edg) (k : Nat) (w : World) (h : EOwn w base v l) (hl : l.length ≤ 2097152) (hk : k ≤ 16777216) :
    Calls Try.prog 68 #[v, .int .i64 (k : Int)] w fun e w' => e = .returned (.int .i64 ((k : Int) + (l.length : Int) * 2)) ∧ EOwn w' base v (mkE k l.length) ∧ w.grownBy w' v.ownBlock := by
  obtain ⟨h1, ⟨rfl, h2⟩ | ⟨g, cap, cur, rfl, hb, hg, hn, hm, hs, -⟩⟩ := h
  · obtain rfl := List.length_eq_zero_iff.1 h2
    go_enter Try.func68, Try.ntmps68
    go_wp2
    go_loopw [1, 5] (fun q i wr => i = .int .i64 0 ∧ q = .int .i64 (k : Int) ∧ wr = w) (fun _ _ _ => 0)
    case atStart => exact ⟨rfl, rfl, rfl⟩
    case round =>
      obtain ⟨rfl, rfl, rfl⟩ := hrel
      go_wp2
      go_ret
      exact ⟨by simp, EOwn.nil _ _, World.grownBy.refl _ _⟩
  · unfold maxLen at hm
    have H0 : Hid (EMk w g cap k 0 w) := ⟨cur, hg, by omega, by intro i hi; omega, World.grownBy.refl _ _⟩
    have HEnd : Hid (∀ wr, EMk w g cap k l.length wr → EOwn wr base (.slice (some ⟨g, 0, none⟩) l.length cap) (mkE k l.length) ∧ w.grownBy wr (some g)) := fun wr ⟨cur', q1, q2, q3, q4⟩ => by
      refine ⟨?_, q4⟩
      have := eOwn_of_cells (l := mkE k l.length) (cap := cap) hb q1 (by rw [mkE_len]; omega) (by unfold maxLen; omega) q2 (fun i hi => by rw [mkE_at hi]; exact q3 i (by rw [mkE_len] at hi; exact hi))
      rw [mkE_len] at this
      exact this
    clear hg hs h1
    generalize l.length = n at *
    go_enter Try.func68, Try.ntmps68
    go_wp2
    go_loopw [1, 5] (fun q i wr => ∃ j : Nat, j ≤ n ∧ i = .int .i64 j ∧ q = .int .i64 ((k : Int) + (j : Int) * 2) ∧ Hid (EMk w g cap k j wr)) (fun _ i _ => n - (intOf i).toNat)
    case atStart => exact ⟨0, Nat.zero_le _, rfl, by simp, H0⟩
    case round =>
      clear H0
      obtain ⟨j, hj, rfl, rfl, hM⟩ := hrel
      by_cases hlt : j < n
      · have hlt' : (j : Int) < (n : Int) := by omega
        obtain ⟨cur', q1, q2, -, -⟩ := hM.out
        have hx : ∀ i, i < cap * 2 → ∃ x, wr.cell? ⟨g, i, none⟩ = some x := fun i hi => by
          rw [cell_of_row wr g i _ _ _ q1]
          exact ⟨_, Array.getElem?_eq_getElem (by omega)⟩
        obtain ⟨x0, hx0⟩ := hx (j * 2) (by omega)
        obtain ⟨x1, hx1⟩ := hx (j * 2 + 1) (by omega)
        have f0 := frozen_of_row wr g (j * 2) _ _ q1
        have f1 := frozen_of_row wr g (j * 2 + 1) _ _ q1
        have HN := hide' (eMk_next hM.out (by omega))
        clear q1 q2 hM hx
        generalize hm0 : ((k : Int) + (j : Int) * 2) = m0 at *
        have hm1 : (k : Int) + ((j + 1 : Nat) : Int) * 2 = m0 + 1 + 1 := by omega
        have hm2 : 0 ≤ m0 ∧ m0 ≤ 1000000000 := by omega
        go_wp2
        go_roundw
        case rel => exact ⟨j + 1, by omega, by go_num, by rw [hm1], HN⟩
        case measure => simp [intOf]; omega
      · have hlt' : ¬ (j : Int) < (n : Int) := by omega
        obtain rfl : j = n := by omega
        have HF := hide' (HEnd.out wr hM.out)
        go_wp2
        go_ret
        exact ⟨rfl, HF.out.1, HF.out.2⟩

set_option maxHeartbeats 1600000 in
theorem heldIntS_any (N : Nat) (v : Value) (k n : Nat) (w : World) (h : NSeg (fun b => b < N) w v (mkN k n)) (hn : n ≤ 2097152) (hk : k ≤ 16777216) :
    Calls Try.prog 34 #[v, .int .i64 (k : Int)] w fun e w' => e = .returned (.int .i64 ((k : Int) + (n : Int))) ∧ w = w' := by
  have HC := hide' h
  obtain ⟨a, cap, rfl, hl, hm, -, -⟩ := h
  rw [mkN_len] at hl HC
  rw [mkN_len]
  unfold maxLen at hm
  go_enter Try.func34, Try.ntmps34
  go_wp2
  go_loopw [1, 5] (fun q i wr => ∃ j : Nat, j ≤ n ∧ i = .int .i64 j ∧ q = .int .i64 ((k : Int) + (j : Int)) ∧ wr = w) (fun _ i _ => n - (intOf i).toNat)
  case atStart => exact ⟨0, Nat.zero_le _, rfl, by simp, rfl⟩
  case round =>
    obtain ⟨j, hj, rfl, rfl, rfl⟩ := hrel
    by_cases hlt : j < n
    · have hlt' : (j : Int) < (n : Int) := by omega
      obtain ⟨b, off, rfl, _, q0⟩ := HC.out.at (k := j) (by rw [mkN_len]; exact hlt)
      rw [mkN_at] at q0
      generalize hm0 : ((k : Int) + (j : Int)) = m0 at *
      have hm1 : (k : Int) + ((j + 1 : Nat) : Int) = m0 + 1 := by omega
      have hm2 : 0 ≤ m0 ∧ m0 ≤ 1000000000 := by omega
      go_wp2
      go_roundw
      case rel => exact ⟨j + 1, by omega, by go_num, by rw [hm1], trivial⟩
      case measure => simp [intOf]; omega
    · have hlt' : ¬ (j : Int) < (n : Int) := by omega
      obtain rfl : j = n := by omega
      go_wp2
      go_ret
      exact ⟨rfl, rfl⟩

set_option maxHeartbeats 1600000 in
theorem heldEdgeS_any (N : Nat) (v : Value) (k n : Nat) (w : World) (h : ESeg (fun b => b < N) w v (mkE k n)) (hn : n ≤ 2097152) (hk : k ≤ 16777216) :
    Calls Try.prog 70 #[v, .int .i64 (k : Int)] w fun e w' => e = .returned (.int .i64 ((k : Int) + (n : Int) * 2)) ∧ w = w' := by
  have HC := hide' h
  obtain ⟨a, cap, rfl, hl, hm, -, -⟩ := h
  rw [mkE_len] at hl HC
  rw [mkE_len]
  unfold maxLen at hm
  go_enter Try.func70, Try.ntmps70
  go_wp2
  go_loopw [1, 5] (fun q i wr => ∃ j : Nat, j ≤ n ∧ i = .int .i64 j ∧ q = .int .i64 ((k : Int) + (j : Int) * 2) ∧ wr = w) (fun _ i _ => n - (intOf i).toNat)
  case atStart => exact ⟨0, Nat.zero_le _, rfl, by simp, rfl⟩
  case round =>
    obtain ⟨j, hj, rfl, rfl, rfl⟩ := hrel
    by_cases hlt : j < n
    · have hlt' : (j : Int) < (n : Int) := by omega
      obtain ⟨b, off, rfl, _, q0, q1⟩ := HC.out.at (k := j) (by rw [mkE_len]; exact hlt)
      rw [mkE_at] at q0 q1
      simp only at q0 q1
      generalize hm0 : ((k : Int) + (j : Int) * 2) = m0 at *
      have hm1 : (k : Int) + ((j + 1 : Nat) : Int) * 2 = m0 + 1 + 1 := by omega
      have hm2 : 0 ≤ m0 ∧ m0 ≤ 1000000000 := by omega
      go_wp2
      go_roundw
      case rel => exact ⟨j + 1, by omega, by go_num, by rw [hm1], trivial⟩
      case measure => simp [intOf]; omega
    · have hlt' : ¬ (j : Int) < (n : Int) := by omega
      obtain rfl : j = n := by omega
      go_wp2
      go_ret
      exact ⟨rfl, rfl⟩
end Go.Proofs.Ytpnohgncnmbkdaa
/-
  A graph marked, and held.
-/
namespace Go.Proofs.Ytpnohgncnmbkdaa
open Go.RowKit
set_option linter.unusedVariables false
set_option linter.unusedSimpArgs false

set_option maxHeartbeats 1600000 in
theorem markGraph_any (base : Nat) (n : Int) (v : Value) (l : List Edg) (k : Nat) (w : World) (h : EOwn w base v l) (hl : l.length ≤ 2097152) (hk : k ≤ 1048576) :
    Calls Try.prog 32 #[.agg #[.int .i64 n, v], .int .i64 (k : Int)] w fun e w' => e = .returned (.int .i64 ((k : Int) + (l.length : Int) * 2)) ∧ EOwn w' base v (mkE k l.length) ∧ w.grownBy w' v.ownBlock := by
  have HC : Hid (∀ o : Obj, Calls Try.prog 68 #[v, .int .i64 (k : Int)] (w.alloc o) fun e w' => e = .returned (.int .i64 ((k : Int) + (l.length : Int) * 2)) ∧ EOwn w' base v (mkE k l.length) ∧ w.grownBy w' v.ownBlock) := fun o => (markEdgeS_any base v l k _ (h.on ((Below.refl _ _).alloc (Nat.le_refl _) o)) hl (by omega)).mono fun e w' ⟨h1, h2, h3⟩ => ⟨h1, h2, grownBy_trans (World.grownBy_alloc w o _) h3⟩
  obtain ⟨a, c, rfl⟩ := h.form
  clear h
  have hq : 0 ≤ (k : Int) + (l.length : Int) * 2 ∧ (k : Int) + (l.length : Int) * 2 ≤ 1000000000 := by omega
  generalize (k : Int) + (l.length : Int) * 2 = q at *
  generalize mkE k l.length = me at *
  generalize l.length = ll at *
  go_enter Try.func32, Try.ntmps32
  go_wp2_with fail
  refine (HC.out _).mono ?_
  rintro e w1 ⟨rfl, h1, h2⟩
  have H := hide' (And.intro h1 h2)
  clear h1 h2
  go_wp2
  go_ret
  exact ⟨rfl, H.out.1, H.out.2⟩

set_option maxHeartbeats 1600000 in
theorem heldGraph_any (N : Nat) (n : Int) (v : Value) (k m : Nat) (w : World) (h : ESeg (fun b => b < N) w v (mkE k m)) (hN : N ≤ w.heap.size) (hm : m ≤ 2097152) (hk : k ≤ 1048576) :
    Calls Try.prog 39 #[.agg #[.int .i64 n, v], .int .i64 (k : Int)] w fun e w' => e = .returned (.int .i64 ((k : Int) + (m : Int) * 2)) ∧ Below w.heap.size w w' := by
  have Hb : Hid (∀ o : Obj, Below w.heap.size w (w.alloc o)) := fun o => (Below.refl _ _).alloc (Nat.le_refl _) o
  have HC : Hid (∀ o : Obj, Calls Try.prog 70 #[v, .int .i64 (k : Int)] (w.alloc o) fun e w' => e = .returned (.int .i64 ((k : Int) + (m : Int) * 2)) ∧ w.alloc o = w') := fun o => heldEdgeS_any N v k m _ (h.agree (agree_below ((Hb.out o).mono hN))) hm (by omega)
  obtain ⟨a, c, rfl⟩ := h.form
  clear h
  have hq : 0 ≤ (k : Int) + (m : Int) * 2 ∧ (k : Int) + (m : Int) * 2 ≤ 1000000000 := by omega
  generalize (k : Int) + (m : Int) * 2 = q at *
  generalize (mkE k m).length = ll at *
  go_enter Try.func39, Try.ntmps39
  go_wp2_with fail
  refine (HC.out _).mono ?_
  rintro e w1 ⟨rfl, e1⟩
  obtain rfl := e1
  go_wp2
  go_ret
  exact ⟨rfl, Hb.out _⟩
end Go.Proofs.Ytpnohgncnmbkdaa
/-
  FnExactGraphOk answers true, once both calls' ends are known; written by wip/gen/graph.py.
-/
namespace Go.Proofs.Ytpnohgncnmbkdaa
open Go.RowKit
set_option linter.unusedVariables false
set_option linter.unusedSimpArgs false

set_option maxHeartbeats 6400000 in
set_option maxRecDepth 100000 in
theorem walk_WgOk (n : Int) (x : Value) (E : List Edg) (R : Bool) (w : World) (hx : ESeg (fun b => b < w.heap.size) w x E)
    (HSp : ∀ u wx, ESeg (fun b => b < wx.heap.size) wx u E → Calls Try.prog 17 #[.agg #[.int .i64 n, u]] wx (fun e w' => e = .returned (.bool R) ∧ Below wx.heap.size wx w'))
    (HIm : ∀ u wx, ESeg (fun b => b < wx.heap.size) wx u E → Below w.heap.size w wx → Calls Try.prog 18 #[.agg #[.int .i64 n, u]] wx (fun e w' => e = .returned (.bool R) ∧ Below wx.heap.size wx w')) :
    Calls Try.prog 6 #[.agg #[.int .i64 n, x]] w fun e w' => e = .returned (.bool true) ∧ Below w.heap.size w w' := by
  have Hb : Hid (∀ o : Obj, Below w.heap.size w (w.alloc o)) := fun o => (Below.refl _ _).alloc (Nat.le_refl _) o
  have Hbox : Hid (∀ o wx, Below (w.alloc o).heap.size (w.alloc o) wx → wx.heap[w.heap.size]? = some o) := fun o wx h => box_row h
  have HX : Hid (∀ wx, Below w.heap.size w wx → ESeg (fun b => b < w.heap.size) wx x E) := fun wx hb => hx.agree (agree_below hb)
  have HS : Hid (∀ wx, Below w.heap.size w wx → Calls Try.prog 27 #[.agg #[.int .i64 n, x], .int .i64 1048576] wx fun e w' => e = .returned (.int .i64 (lessN 1048576 E.length)) ∧ Below wx.heap.size wx w') := fun wx hb => szGraph_any _ n x E wx (HX.out wx hb) (fun b hb' => Nat.lt_of_lt_of_le hb' hb.size)
  have HT : Hid (E.length ≤ 1048576 → ∀ wx, Below w.heap.size w wx → Calls Try.prog 28 #[.agg #[.int .i64 n, x]] wx fun e w' => ∃ u, e = .returned (.agg #[.int .i64 n, u]) ∧ EOwn w' wx.heap.size u E ∧ Below wx.heap.size wx w') := fun hl wx hb => toGraph_any w.heap.size n x E wx (HX.out wx hb) hb.size hl
  have HEq : Hid (∀ (y z : Value) wx, ESeg (fun b => b < wx.heap.size) wx y E → ESeg (fun b => b < wx.heap.size) wx z E → Calls Try.prog 29 #[.agg #[.int .i64 n, y], .agg #[.int .i64 n, z]] wx fun e w' => e = .returned (.bool true) ∧ Below wx.heap.size wx w') := fun y z wx h1 h2 => eqGraph_same wx.heap.size n y z E wx h1 h2 (Nat.le_refl _)
  have HSp' := hide' HSp
  have HIm' := hide' HIm
  obtain ⟨a, cap, rfl, -⟩ := hx
  clear HSp HIm HX
  by_cases hz : (1048576 : Int) < (E.length : Int)
  · have hl : lessN 1048576 E.length = -1 := if_pos hz
    rw [hl] at HS
    clear hl HT HEq HSp' HIm'
    generalize E.length = ll at *
    go_enter Try.func6, Try.ntmps6
    go_wp2_with fail
    refine (HS.out _ (Hb.out _)).mono ?_
    rintro e w1 ⟨rfl, b1⟩
    have B1 := Below.on (Hb.out _) b1
    clear b1
    go_wp2
    go_ret
    exact ⟨rfl, B1⟩
  have hl : lessN 1048576 E.length = 1048576 - E.length := if_neg hz
  rw [hl] at HS
  have HT' := hide' (HT.out (by omega))
  have hll : E.length ≤ 1048576 := by omega
  have hz0 : 0 ≤ (1048576 : Int) - (E.length : Int) := by omega
  have hz1 : (1048576 : Int) - (E.length : Int) ≤ 1048576 := by omega
  clear hl hz HT
  generalize hEl : E.length = ll at *
  generalize (1048576 : Int) - (ll : Int) = lft at *
  go_enter Try.func6, Try.ntmps6
  go_wp2_with fail
  refine (HS.out _ (Hb.out _)).mono ?_
  rintro e w1 ⟨rfl, b1⟩
  obtain ⟨y0, y1, -⟩ := row2 (Hbox.out _ _ b1)
  have B1 := hide' b1
  have HT1 := hide' (HT'.out w1 (Below.on (Hb.out _) b1))
  clear b1 HS
  go_wp2_with fail
  refine HT1.out.mono ?_
  rintro e w2 ⟨u, rfl, hO2, b2⟩
  have hS2 := hide' (HSp'.out u w2 hO2.read)
  have B2 := hide' (Below.on B1.out b2)
  obtain ⟨ua, uc, hu⟩ := hO2.form
  rw [hEl] at hu
  subst hu
  clear hO2 b2 HT1 B1 y0 y1
  go_wp2_with fail
  refine hS2.out.mono ?_
  rintro e w3 ⟨rfl, b3⟩
  have B3 := hide' (Below.on B2.out b3)
  clear b3 hS2 B2
  obtain ⟨y0, y1, -⟩ := row2 (Hbox.out _ _ B3.out)
  have HT3 := hide' (HT'.out w3 (Below.on (Hb.out _) B3.out))
  go_wp2_with fail
  refine HT3.out.mono ?_
  rintro e w4 ⟨v, rfl, hO4, b4⟩
  obtain ⟨va, vc, hvf⟩ := hO4.form
  rw [hEl] at hvf
  subst hvf
  have bal : Below w4.heap.size w4 (w4.alloc (.cells #[.int .i64 n, .slice va ll vc] 25)) := (Below.refl _ _).alloc (Nat.le_refl _) _
  have B4 := hide' (Below.on (Below.on B3.out b4) bal)
  have hI4 := hide' (HIm'.out _ _ (hO4.on bal).read (Below.on (Hb.out _) B4.out))
  have HO4 := hide' (hO4.on bal)
  have hx4 := (MapKept.heap_alloc w4 (.cells #[.int .i64 n, .slice va ll vc] 25)).1
  have HBx : Hid (∀ k, (Value.slice va ll vc).ownBlock = some k → w3.heap.size ≤ k ∧ k < w4.heap.size) := hO4.lt
  have hz34 : w3.heap.size ≤ w4.heap.size := b4.size
  have Hx4 : Hid (∀ wx, Below (w4.alloc (.cells #[.int .i64 n, .slice va ll vc] 25)).heap.size (w4.alloc (.cells #[.int .i64 n, .slice va ll vc] 25)) wx → wx.heap[w4.heap.size]? = some (.cells #[.int .i64 n, .slice va ll vc] 25)) := fun wx hb => box_row hb
  clear hO4 b4 bal HT3 y0 y1 hx4
  go_wp2_with fail
  refine hI4.out.mono ?_
  rintro e w5 ⟨rfl, b5⟩
  have B5 := hide' (Below.on B4.out b5)
  have HO5 := hide' (HO4.out.on b5)
  obtain ⟨v0, v1, -⟩ := row2 (Hx4.out _ b5)
  have Hx5 := hide' (Hx4.out _ b5)
  clear b5 hI4 HO4 B4
  obtain ⟨y0, y1, -⟩ := row2 (Hbox.out _ _ B5.out)
  have HTd : Hid (Calls Try.prog 28 #[.agg #[.int .i64 n, .slice a ll cap]] w5.drew fun e w7 => ∃ za zc, e = .returned (.agg #[.int .i64 n, .slice za ll zc]) ∧ (w7.cell? ⟨w.heap.size, 0, none⟩ = some (.int .i64 n) ∧ w7.cell? ⟨w.heap.size, 1, none⟩ = some (.slice a ll cap) ∧ w7.cell? ⟨w4.heap.size, 0, none⟩ = some (.int .i64 n) ∧ w7.cell? ⟨w4.heap.size, 1, none⟩ = some (.slice va ll vc)) ∧ Hid (Calls Try.prog 29 #[.agg #[.int .i64 n, .slice va ll vc], .agg #[.int .i64 n, .slice za ll zc]] w7 fun e w8 => e = .returned (.bool true) ∧ (w8.cell? ⟨w.heap.size, 0, none⟩ = some (.int .i64 n) ∧ w8.cell? ⟨w.heap.size, 1, none⟩ = some (.slice a ll cap) ∧ w8.cell? ⟨w4.heap.size, 0, none⟩ = some (.int .i64 n) ∧ w8.cell? ⟨w4.heap.size, 1, none⟩ = some (.slice va ll vc)) ∧ Hid (Below w5.heap.size w5 w8))) := by
    refine (HT'.out w5.drew (Below.on (Hb.out _) B5.out).drew).mono ?_
    rintro e w7 ⟨z, rfl, hO7, b7⟩
    obtain ⟨za, zc, hzf⟩ := hO7.form
    rw [hEl] at hzf
    subst hzf
    have b67 : Below w5.heap.size w5 w7 := Below.on (Below.refl _ w5).drew b7
    have hkp : ∀ wy, Below w5.heap.size w5 wy → (wy.cell? ⟨w.heap.size, 0, none⟩ = some (.int .i64 n) ∧ wy.cell? ⟨w.heap.size, 1, none⟩ = some (.slice a ll cap) ∧ wy.cell? ⟨w4.heap.size, 0, none⟩ = some (.int .i64 n) ∧ wy.cell? ⟨w4.heap.size, 1, none⟩ = some (.slice va ll vc)) := fun wy hb => by
      obtain ⟨f0, f1, -⟩ := row2 (Hbox.out _ _ (Below.on B5.out hb))
      obtain ⟨f2, f3, -⟩ := row2 ((hb.block w4.heap.size ((Array.getElem?_eq_some_iff.1 Hx5.out).1)).trans Hx5.out)
      exact ⟨f0, f1, f2, f3⟩
    refine ⟨za, zc, rfl, hkp _ b67, ?_⟩
    exact (HEq.out _ _ w7 (HO5.out.on b67).read hO7.read).mono fun e w8 h => ⟨h.1, hkp _ (Below.on b67 h.2), Below.on b67 h.2⟩
  go_wp2_with fail
  go_region_held3 (fun wx => wx.cell? ⟨w.heap.size, 0, none⟩ = some (.int .i64 n) ∧ wx.cell? ⟨w.heap.size, 1, none⟩ = some (.slice a ll cap) ∧ wx.cell? ⟨w4.heap.size, 0, none⟩ = some (.int .i64 n) ∧ wx.cell? ⟨w4.heap.size, 1, none⟩ = some (.slice va ll vc)) (go_keep) (first
    | (go_at_call 28; refine HTd.out.mono ?_; rintro e w7 ⟨za, zc, rfl, ⟨i0, i1, i2, i3⟩, hE7⟩)
    | (go_at_call 29; refine hE7.out.mono ?_; rintro e w8 ⟨rfl, ⟨j0, j1, j2, j3⟩, hb8⟩)
    | fail)
  have HB := hide' (Below.on (Hb.out _) (Below.on B5.out hb8.out))
  go_wp2
  go_ret
  exact ⟨rfl, HB.out⟩
end Go.Proofs.Ytpnohgncnmbkdaa
/-
  Graphs: what GraphOk answers; plain mathematics, and l9less of the specification.
-/
namespace Go.Proofs.Ytpnohgncnmbkdaa
open Go.RowKit
set_option linter.unusedVariables false
set_option linter.unusedSimpArgs false

/-- One edge is ahead of another. -/
def lessE (a b : Edg) : Bool := decide (a.1 < b.1) || (decide (a.1 = b.1) && decide (a.2 < b.2))
/-- Edge i has its ends among the n, and is behind the one ahead of it. -/
def stepG (n : Int) (E : List Edg) (i : Nat) : Bool :=
  decide (0 ≤ (E.getD i (0, 0)).1) && (decide ((E.getD i (0, 0)).1 < n) && (decide (0 ≤ (E.getD i (0, 0)).2) && (decide ((E.getD i (0, 0)).2 < n) && (decide (i = 0) || lessE (E.getD (i - 1) (0, 0)) (E.getD i (0, 0))))))
/-- What GraphOk answers. -/
def gB (n : Int) (E : List Edg) : Bool := decide (0 ≤ n ∧ n ≤ 20 ∧ E.length ≤ 400 ∧ ∀ i, i < E.length → stepG n E i = true)

theorem g_head {n : Int} {E : List Edg} (h : ¬ (0 ≤ n ∧ n ≤ 20 ∧ E.length ≤ 400)) : gB n E = false := by
  unfold gB
  rw [decide_eq_false_iff_not]
  rintro ⟨h1, h2, h3, _⟩
  exact h ⟨h1, h2, h3⟩
theorem g_step {n : Int} {E : List Edg} {i : Nat} (hi : i < E.length) (h : stepG n E i = false) : gB n E = false := by
  unfold gB
  rw [decide_eq_false_iff_not]
  rintro ⟨_, _, _, h4⟩
  rw [h4 i hi] at h
  cases h
theorem g_yes {n : Int} {E : List Edg} (h0 : 0 ≤ n) (h1 : n ≤ 20) (h2 : E.length ≤ 400) (h3 : ∀ i, i < E.length → stepG n E i = true) : gB n E = true := by
  unfold gB
  rw [decide_eq_true_eq]
  exact ⟨h0, h1, h2, h3⟩
theorem gB_iff {n : Int} {E : List Edg} : gB n E = true ↔ 0 ≤ n ∧ n ≤ 20 ∧ E.length ≤ 400 ∧ ∀ i, i < E.length → stepG n E i = true := by
  unfold gB
  rw [decide_eq_true_eq]
theorem g_ends {n : Int} {E : List Edg} (h : gB n E = true) {e : Edg} (he : e ∈ E) : 0 ≤ e.1 ∧ e.1 < n ∧ 0 ≤ e.2 ∧ e.2 < n := by
  obtain ⟨_, _, _, h4⟩ := gB_iff.1 h
  obtain ⟨i, hi, rfl⟩ := List.getElem_of_mem he
  have := h4 i hi
  have e1 : E.getD i (0, 0) = E[i] := by simp [List.getD_eq_getElem?_getD, hi]
  simp only [stepG, e1, Bool.and_eq_true, decide_eq_true_eq] at this
  exact ⟨this.1, this.2.1, this.2.2.1, this.2.2.2.1⟩

set_option maxHeartbeats 1600000 in
theorem l9less_any (a b : Edg) (w : World) :
    Calls Try.prog 48 #[.agg #[.int .i64 a.1, .int .i64 a.2], .agg #[.int .i64 b.1, .int .i64 b.2]] w fun e w' => e = .returned (.bool (lessE a b)) ∧ Below w.heap.size w w' := by
  obtain ⟨a1, a2⟩ := a
  obtain ⟨b1, b2⟩ := b
  simp only [lessE]
  have Hb : Hid (∀ o o' : Obj, Below w.heap.size w ((w.alloc o).alloc o')) := fun o o' => ((Below.refl _ _).alloc (Nat.le_refl _) o).alloc (by simp) o'
  by_cases h1 : a1 < b1
  · go_enter Try.func48, Try.ntmps48
    go_wp2
    go_ret
    exact ⟨ret_bool (by simp [h1]), Hb.out _ _⟩
  · by_cases h2 : a1 = b1
    · subst h2
      go_enter Try.func48, Try.ntmps48
      go_wp2
      go_ret
      exact ⟨ret_bool (by simp [h1]), Hb.out _ _⟩
    · have h2' : (a1 == b1) = false := by simpa using h2
      go_enter Try.func48, Try.ntmps48
      go_wp2
      go_ret
      exact ⟨ret_bool (by simp [h1, h2]), Hb.out _ _⟩
end Go.Proofs.Ytpnohgncnmbkdaa
/-
  GraphOk of the specification.
-/
namespace Go.Proofs.Ytpnohgncnmbkdaa
open Go.RowKit
set_option linter.unusedVariables false
set_option linter.unusedSimpArgs false

set_option maxHeartbeats 6400000 in
set_option maxRecDepth 100000 in
theorem spec_GraphOk_any (N : Nat) (n : Int) (x : Value) (E : List Edg) (w : World) (hx : ESeg (fun b => b < N) w x E) (hN : N ≤ w.heap.size) :
    Calls Try.prog 17 #[.agg #[.int .i64 n, x]] w fun e w' => e = .returned (.bool (gB n E)) ∧ Below w.heap.size w w' := by
  have HX := hide' hx
  have Hb : Hid (∀ o : Obj, Below w.heap.size w (w.alloc o)) := fun o => (Below.refl _ _).alloc (Nat.le_refl _) o
  have Hbox : Hid (∀ o wx, Below (w.alloc o).heap.size (w.alloc o) wx → wx.heap[w.heap.size]? = some o) := fun o wx h => box_row h
  obtain ⟨a, cap, rfl, hlc, hcm, -, -⟩ := hx
  unfold maxLen at hcm
  by_cases h0 : n < 0
  · have HF := hide' (g_head (n := n) (E := E) (by omega))
    generalize E.length = ll at *
    go_enter Try.func17, Try.ntmps17
    go_wp2
    go_ret
    exact ⟨ret_bool HF.out.symm, Hb.out _⟩
  by_cases h1 : 20 < n
  · have HF := hide' (g_head (n := n) (E := E) (by omega))
    generalize E.length = ll at *
    go_enter Try.func17, Try.ntmps17
    go_wp2
    go_ret
    exact ⟨ret_bool HF.out.symm, Hb.out _⟩
  by_cases h2 : 400 < E.length
  · have HF := hide' (g_head (n := n) (E := E) (by omega))
    have h2' : (400 : Int) < (E.length : Int) := by omega
    go_enter Try.func17, Try.ntmps17
    go_wp2
    go_ret
    exact ⟨ret_bool HF.out.symm, Hb.out _⟩
  have h2' : ¬ (400 : Int) < (E.length : Int) := by omega
  go_enter Try.func17, Try.ntmps17
  go_wp2
  go_loopw [3] (fun i wr => ∃ k : Nat, i = .int .i64 k ∧ k ≤ E.length ∧ Hid (∀ j, j < k → stepG n E j = true) ∧ Hid (Below (w.alloc (.cells #[.int .i64 n, .slice a E.length cap] 25)).heap.size (w.alloc (.cells #[.int .i64 n, .slice a E.length cap] 25)) wr)) (fun i _ => E.length - (intOf i).toNat)
  case atStart => exact ⟨0, rfl, Nat.zero_le _, fun j hj => by omega, Below.refl _ _⟩
  case round =>
    obtain ⟨k, rfl, hk, hall, hbel⟩ := hrel
    obtain ⟨g0, g1, -⟩ := row2 (Hbox.out _ _ hbel.out)
    have B := hide' (Below.on (Hb.out (.cells #[.int .i64 n, .slice a E.length cap] 25)) hbel.out)
    by_cases hlt : k < E.length
    rotate_left
    · have hlt' : ¬ (k : Int) < (E.length : Int) := by omega
      have HF : Hid (gB n E = true) := g_yes (by omega) (by omega) (by omega) (fun i hi => hall.out i (by omega))
      go_wp2
      go_ret
      exact ⟨ret_bool HF.out.symm, B.out⟩
    have hlt' : (k : Int) < (E.length : Int) := by omega
    have hag := agree_below (B.out.mono hN)
    obtain ⟨b, off, rfl, hbN, q0, q1⟩ := (HX.out.agree hag).at hlt
    have hgd : E.getD k (0, 0) = E[k] := by simp [List.getD_eq_getElem?_getD, hlt]
    have hst : stepG n E k = (decide (0 ≤ E[k].1) && (decide (E[k].1 < n) && (decide (0 ≤ E[k].2) && (decide (E[k].2 < n) && (decide (k = 0) || lessE (E.getD (k - 1) (0, 0)) E[k]))))) := by simp only [stepG, hgd]
    have HNo : Hid (stepG n E k = false → gB n E = false) := fun h => g_step hlt h
    have HYes : Hid (stepG n E k = true → ∀ j, j < k + 1 → stepG n E j = true) := fun h j hj => by
      by_cases e : j = k
      · subst e; exact h
      · exact hall.out j (by omega)
    have hz := B.out.size
    have hwr := hbel.out.size
    have BW := hide' (hbel.out.alloc hwr (.cells #[.int .i64 E[k].1, .int .i64 E[k].2] 36))
    have BW2 := hide' (B.out.alloc hz (.cells #[.int .i64 E[k].1, .int .i64 E[k].2] 36))
    obtain ⟨w0, w1, -⟩ := row2 (Hbox.out _ _ BW.out)
    obtain ⟨e0, e1, -⟩ := row2 (MapKept.heap_alloc wr (.cells #[.int .i64 E[k].1, .int .i64 E[k].2] 36)).1
    have HP : Hid (∀ j (h : j < E.length), (wr.alloc (.cells #[.int .i64 E[k].1, .int .i64 E[k].2] 36)).cell? ⟨b, off + j * 2, none⟩ = some (.int .i64 E[j].1) ∧ (wr.alloc (.cells #[.int .i64 E[k].1, .int .i64 E[k].2] 36)).cell? ⟨b, off + j * 2 + 1, none⟩ = some (.int .i64 E[j].2)) := fun j h => by
      obtain ⟨b', off', e', _, p0, p1⟩ := (HX.out.agree (agree_below (BW2.out.mono hN))).at h
      simp only [Option.some.injEq, Addr.mk.injEq, and_true] at e'
      obtain ⟨rfl, rfl⟩ := e'
      exact ⟨p0, p1⟩
    have HLs : Hid (lessE (E.getD (k - 1) (0, 0)) E[k] = lessE (E.getD (k - 1) (0, 0)) (E[k].1, E[k].2)) := rfl
    rw [hst] at HNo HYes
    rw [HLs.out] at HNo HYes
    clear hst hag hgd HLs
    generalize E[k].1 = ef at *
    generalize E[k].2 = et at *
    go_wp2_with fail
    generalize wr.alloc (.cells #[.int .i64 ef, .int .i64 et] 36) = W at *
    generalize wr.heap.size = eb at *
    clear q0 q1 g0 g1 B hbel hz hwr HX Hb Hbox
    by_cases c0 : 0 ≤ ef
    rotate_left
    · have HF := hide' (HNo.out (by simp [c0]))
      have c0' : ef < 0 := by omega
      clear HNo HYes hall
      go_quiet (fail)
      go_wp2
      go_ret
      exact ⟨ret_bool HF.out.symm, below_drewN BW2.out _⟩
    have c0' : ¬ ef < 0 := by omega
    by_cases c1 : ef < n
    rotate_left
    · have HF := hide' (HNo.out (by simp [c1]))
      have c1' : n ≤ ef := by omega
      clear HNo HYes hall
      go_quiet (fail)
      go_wp2
      go_ret
      exact ⟨ret_bool HF.out.symm, below_drewN BW2.out _⟩
    have c1' : ¬ n ≤ ef := by omega
    by_cases c2 : 0 ≤ et
    rotate_left
    · have HF := hide' (HNo.out (by simp [c2]))
      have c2' : et < 0 := by omega
      clear HNo HYes hall
      go_quiet (fail)
      go_wp2
      go_ret
      exact ⟨ret_bool HF.out.symm, below_drewN BW2.out _⟩
    have c2' : ¬ et < 0 := by omega
    by_cases c3 : et < n
    rotate_left
    · have HF := hide' (HNo.out (by simp [c3]))
      have c3' : n ≤ et := by omega
      clear HNo HYes hall
      go_quiet (fail)
      go_wp2
      go_ret
      exact ⟨ret_bool HF.out.symm, below_drewN BW2.out _⟩
    have c3' : ¬ n ≤ et := by omega
    cases k with
    | zero =>
      have HF := hide' (HYes.out (by simp [c0, c1, c2, c3]))
      clear HNo HYes hall
      go_quiet (fail)
      go_wp2
      go_roundw
      case rel => exact ⟨0 + 1, by go_num, by omega, HF, below_drewN BW.out _⟩
      case measure => simp [intOf]; omega
    | succ j =>
      have hjl : j < E.length := by omega
      obtain ⟨p0, p1⟩ := HP.out j hjl
      have hgj : E.getD (j + 1 - 1) (0, 0) = (E[j].1, E[j].2) := by simp [List.getD_eq_getElem?_getD, hjl]
      rw [hgj] at HNo HYes
      have hpos : (0 : Int) < ((j + 1 : Nat) : Int) := by omega
      have hj1 : ((j + 1 : Nat) : Int) - 1 = (j : Int) := by omega
      have hj2 : (j : Int) < (E.length : Int) := by omega
      have hj3 : (0 : Int) ≤ (j : Int) := by omega
      have hj4 : IntKind.i64.wrap (j : Int) = (j : Int) := by rw [IntKind.wrap_i64]; omega
      have hj5 : IntKind.i64.wrap ((j : Int) + 1 - 1) = (j : Int) := by rw [IntKind.wrap_i64]; omega
      generalize E[j].1 = pf at *
      generalize E[j].2 = pt at *
      have HC : Hid (Calls Try.prog 48 #[.agg #[.int .i64 pf, .int .i64 pt], .agg #[.int .i64 ef, .int .i64 et]] W.drew fun e w2 => e = .returned (.bool (lessE (pf, pt) (ef, et))) ∧
          (w2.cell? ⟨eb, 0, none⟩ = some (.int .i64 ef) ∧ w2.cell? ⟨eb, 1, none⟩ = some (.int .i64 et) ∧ w2.cell? ⟨w.heap.size, 0, none⟩ = some (.int .i64 n) ∧ w2.cell? ⟨w.heap.size, 1, none⟩ = some (.slice (some ⟨b, off, none⟩) E.length cap) ∧ w2.cell? ⟨b, off + j * 2, none⟩ = some (.int .i64 pf) ∧ w2.cell? ⟨b, off + j * 2 + 1, none⟩ = some (.int .i64 pt)) ∧ Hid (Below W.heap.size W w2)) := by
        refine (l9less_any (pf, pt) (ef, et) _).mono ?_
        rintro e w2 ⟨rfl, b2⟩
        have b2' : Below W.heap.size W w2 := Below.on (Below.refl _ _).drew b2
        have hkp : ∀ q v, W.cell? q = some v → w2.cell? q = some v := fun q v h => (b2'.cell (World.block_lt_of_cell? W _ h)).trans h
        exact ⟨rfl, ⟨hkp _ _ e0, hkp _ _ e1, hkp _ _ w0, hkp _ _ w1, hkp _ _ p0, hkp _ _ p1⟩, b2'⟩
      clear hgj HP
      generalize hls : lessE (pf, pt) (ef, et) = ls at *
      cases ls with
      | true =>
        have HF := hide' (HYes.out (by simp [c0, c1, c2, c3]))
        clear HNo HYes hall hls
        go_region_held3 (fun wx => wx.cell? ⟨eb, 0, none⟩ = some (.int .i64 ef) ∧ wx.cell? ⟨eb, 1, none⟩ = some (.int .i64 et) ∧ wx.cell? ⟨w.heap.size, 0, none⟩ = some (.int .i64 n) ∧ wx.cell? ⟨w.heap.size, 1, none⟩ = some (.slice (some ⟨b, off, none⟩) E.length cap) ∧ wx.cell? ⟨b, off + j * 2, none⟩ = some (.int .i64 pf) ∧ wx.cell? ⟨b, off + j * 2 + 1, none⟩ = some (.int .i64 pt)) (go_keep) (first
          | (go_at_call 48; refine HC.out.mono ?_; rintro e w2 ⟨rfl, ⟨i0, i1, i2, i3, i4, i5⟩, hB2⟩)
          | fail)
        all_goals
          go_wp2
          go_roundw
          case rel => exact ⟨j + 1 + 1, by go_num, by omega, HF, Below.on BW.out hB2.out⟩
          case measure => simp [intOf]; omega
      | false =>
        have HF := hide' (HNo.out (by simp))
        clear HNo HYes hall hls
        go_region_held3 (fun wx => wx.cell? ⟨eb, 0, none⟩ = some (.int .i64 ef) ∧ wx.cell? ⟨eb, 1, none⟩ = some (.int .i64 et) ∧ wx.cell? ⟨w.heap.size, 0, none⟩ = some (.int .i64 n) ∧ wx.cell? ⟨w.heap.size, 1, none⟩ = some (.slice (some ⟨b, off, none⟩) E.length cap) ∧ wx.cell? ⟨b, off + j * 2, none⟩ = some (.int .i64 pf) ∧ wx.cell? ⟨b, off + j * 2 + 1, none⟩ = some (.int .i64 pt)) (go_keep) (first
          | (go_at_call 48; refine HC.out.mono ?_; rintro e w2 ⟨rfl, ⟨i0, i1, i2, i3, i4, i5⟩, hB2⟩)
          | fail)
        all_goals
          go_wp2
          go_ret
          exact ⟨ret_bool HF.out.symm, Below.on BW2.out hB2.out⟩
end Go.Proofs.Ytpnohgncnmbkdaa
/-
  Graphs: cmp.Compare at int, cmp.Or at two ints; hasVert, cmpEdges of the program.
-/
namespace Go.Proofs.Ytpnohgncnmbkdaa
open Go.RowKit
set_option linter.unusedVariables false
set_option linter.unusedSimpArgs false

/-- The order of two numbers. -/
def numC (a b : Int) : Int := if a < b then -1 else if b < a then 1 else 0
theorem numC_lt {a b : Int} (h : a < b) : numC a b = -1 := by simp [numC, h]
theorem numC_gt {a b : Int} (h : b < a) : numC a b = 1 := by
  have : ¬ a < b := by omega
  simp [numC, h, this]
theorem numC_eq (a : Int) : numC a a = 0 := by simp [numC]

set_option maxHeartbeats 800000 in
theorem isNaN_any (a : Int) (w : World) : Calls Try.prog 94 #[.int .i64 a] w fun e w' => e = .returned (.bool false) ∧ w = w' := by
  go_enter Try.func94, Try.ntmps94
  go_wp2
  go_ret
  exact ⟨rfl, rfl⟩

set_option maxHeartbeats 800000 in
theorem cmpInt_any (a b : Int) (w : World) : Calls Try.prog 81 #[.int .i64 a, .int .i64 b] w fun e w' => e = .returned (.int .i64 (numC a b)) ∧ w = w' := by
  have H1 := hide' (isNaN_any a w)
  have H2 := hide' (isNaN_any b w)
  by_cases h1 : a < b
  · have HO := hide' (numC_lt h1)
    go_enter Try.func81, Try.ntmps81
    go_wp2_with fail
    refine H1.out.mono ?_
    rintro e w1 ⟨rfl, e1⟩
    obtain rfl := e1
    go_wp2_with fail
    refine H2.out.mono ?_
    rintro e w1 ⟨rfl, e1⟩
    obtain rfl := e1
    go_wp2
    go_ret
    exact ⟨ret_i64 (by rw [HO.out]), rfl⟩
  · by_cases h2 : b < a
    · have HO := hide' (numC_gt h2)
      go_enter Try.func81, Try.ntmps81
      go_wp2_with fail
      refine H1.out.mono ?_
      rintro e w1 ⟨rfl, e1⟩
      obtain rfl := e1
      go_wp2_with fail
      refine H2.out.mono ?_
      rintro e w1 ⟨rfl, e1⟩
      obtain rfl := e1
      go_wp2
      go_ret
      exact ⟨ret_i64 (by rw [HO.out]), rfl⟩
    · have h3 : a = b := by omega
      subst h3
      have HO := hide' (numC_eq a)
      go_enter Try.func81, Try.ntmps81
      go_wp2_with fail
      refine H1.out.mono ?_
      rintro e w1 ⟨rfl, e1⟩
      obtain rfl := e1
      go_wp2_with fail
      refine H2.out.mono ?_
      rintro e w1 ⟨rfl, e1⟩
      obtain rfl := e1
      go_wp2
      go_ret
      exact ⟨ret_i64 (by rw [HO.out]), rfl⟩

/-- The first of two that is not 0. -/
def or2 (a b : Int) : Int := if a ≠ 0 then a else b

set_option maxHeartbeats 800000 in
theorem or2_any (g : Nat) (a b : Int) (w : World) (h0 : w.cell? ⟨g, 0, none⟩ = some (.int .i64 a)) (h1 : w.cell? ⟨g, 1, none⟩ = some (.int .i64 b)) :
    Calls Try.prog 80 #[.slice (some ⟨g, 0, none⟩) 2 2] w fun e w' => e = .returned (.int .i64 (or2 a b)) ∧ w = w' := by
  go_enter Try.func80, Try.ntmps80
  go_wp2
  go_loopw [8] (fun i wr => ∃ k : Nat, k ≤ 2 ∧ i = .int .i64 k ∧ (1 ≤ k → a = 0) ∧ (2 ≤ k → b = 0) ∧ wr = w) (fun i _ => 2 - (intOf i).toNat)
  case atStart => exact ⟨0, Nat.zero_le _, rfl, by omega, by omega, rfl⟩
  case round =>
    obtain ⟨k, hk, rfl, hA, hB, rfl⟩ := hrel
    have hk4 : k = 0 ∨ k = 1 ∨ k = 2 := by omega
    rcases hk4 with rfl | rfl | rfl
    · by_cases hz : a = 0
      · subst hz
        go_wp2
        go_roundw
        case rel => exact ⟨1, by omega, by go_num, by first | trivial | (intros; first | rfl | trivial | omega), by first | trivial | (intros; first | rfl | trivial | omega), by first | rfl | trivial⟩
        case measure => simp [intOf]
      · have HO : Hid (or2 a b = a) := by show or2 a b = a; simp [or2, hz]
        go_wp2
        go_ret
        exact ⟨ret_i64 (by rw [HO.out]), rfl⟩
    · have ha := hA (by omega)
      subst ha
      by_cases hz : b = 0
      · subst hz
        go_wp2
        go_roundw
        case rel => exact ⟨2, by omega, by go_num, by first | trivial | (intros; first | rfl | trivial | omega), by first | trivial | (intros; first | rfl | trivial | omega), by first | rfl | trivial⟩
        case measure => simp [intOf]
      · have HO : Hid (or2 0 b = b) := by show or2 0 b = b; simp [or2]
        go_wp2
        go_ret
        exact ⟨ret_i64 (by rw [HO.out]), rfl⟩
    · have ha := hA (by omega)
      subst ha
      have hb := hB (by omega)
      subst hb
      have HO : Hid (or2 0 0 = 0) := by show or2 0 0 = 0; simp [or2]
      go_wp2
      go_ret
      exact ⟨ret_i64 (by rw [HO.out]), rfl⟩

/-- Is v one of them? -/
def hvB (n v : Int) : Bool := decide (0 ≤ v) && decide (v < n)
set_option maxHeartbeats 800000 in
theorem hasVert_any (n v : Int) (x : Value) (w : World) : Calls Try.prog 49 #[.agg #[.int .i64 n, x], .int .i64 v] w fun e w' => e = .returned (.bool (hvB n v)) ∧ Below w.heap.size w w' := by
  have Hb : Hid (∀ o : Obj, Below w.heap.size w (w.alloc o)) := fun o => (Below.refl _ _).alloc (Nat.le_refl _) o
  unfold hvB
  by_cases h0 : 0 ≤ v
  · by_cases h1 : v < n
    · go_enter Try.func49, Try.ntmps49
      go_wp2
      go_ret
      exact ⟨ret_bool (by simp [h0, h1]), Hb.out _⟩
    · go_enter Try.func49, Try.ntmps49
      go_wp2
      go_ret
      exact ⟨ret_bool (by simp [h0, h1]), Hb.out _⟩
  · go_enter Try.func49, Try.ntmps49
    go_wp2
    go_ret
    exact ⟨ret_bool (by simp; omega), Hb.out _⟩

/-- How two edges stand. -/
def edgC (a b : Edg) : Int := or2 (numC a.1 b.1) (numC a.2 b.2)
theorem edgC_less (a b : Edg) : (edgC a b < 0) ↔ lessE a b = true := by
  unfold edgC or2 lessE numC
  simp only [Bool.or_eq_true, Bool.and_eq_true, decide_eq_true_eq]
  split <;> (repeat' split) <;> omega
set_option maxHeartbeats 3200000 in
theorem cmpEdges_any (a b : Edg) (w : World) :
    Calls Try.prog 50 #[.agg #[.int .i64 a.1, .int .i64 a.2], .agg #[.int .i64 b.1, .int .i64 b.2]] w fun e w' => e = .returned (.int .i64 (edgC a b)) ∧ Below w.heap.size w w' := by
  obtain ⟨a1, a2⟩ := a
  obtain ⟨b1, b2⟩ := b
  simp only [edgC]
  have HR : Hid (∀ (o o' : Obj) (p q : Int), Calls Try.prog 80 #[.slice (some ⟨w.heap.size + 1 + 1, 0, none⟩) 2 2] (((w.alloc o).alloc o').alloc (.cells #[.int .i64 p, .int .i64 q] 3)).drew fun e w' => e = .returned (.int .i64 (or2 p q)) ∧ (((w.alloc o).alloc o').alloc (.cells #[.int .i64 p, .int .i64 q] 3)).drew = w') := by
    intro o o' p q
    obtain ⟨x0, x1, _⟩ := row2 (three_boxes w o o' (.cells #[.int .i64 p, .int .i64 q] 3)).2.2.1
    exact or2_any (w.heap.size + 1 + 1) p q (((w.alloc o).alloc o').alloc (.cells #[.int .i64 p, .int .i64 q] 3)).drew x0 x1
  have HB3 : Hid (∀ (o o' o'' : Obj), Below w.heap.size w (((w.alloc o).alloc o').alloc o'').drew) := fun o o' o'' => (three_boxes w o o' o'').2.2.2.2.drew
  go_enter Try.func50, Try.ntmps50
  go_wp2_with fail
  go_region_held3 (fun wx => wx.cell? ⟨w.heap.size, 0, none⟩ = some (.int .i64 a1) ∧ wx.cell? ⟨w.heap.size, 1, none⟩ = some (.int .i64 a2) ∧ wx.cell? ⟨w.heap.size + 1, 0, none⟩ = some (.int .i64 b1) ∧ wx.cell? ⟨w.heap.size + 1, 1, none⟩ = some (.int .i64 b2)) (go_keep) (first
    | (go_at_call 81; refine (cmpInt_any _ _ _).mono ?_; rintro e w1 ⟨rfl, e1⟩; obtain rfl := e1)
    | (go_at_call 80; refine (HR.out _ _ _ _).mono ?_; rintro e w1 ⟨rfl, e1⟩; obtain rfl := e1))
  all_goals
    go_wp2
    go_ret
    exact ⟨rfl, HB3.out _ _ _⟩
end Go.Proofs.Ytpnohgncnmbkdaa
