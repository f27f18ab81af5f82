/-
  Texts that a law leans on, one behind the other; no statement is proved here.
-/
import Derived.Test.YthkbapkndmlpfaaDoorPk3
/-
  shaped of the program: what it answers where the table of shapes lies as it was laid: 'shpB'.
-/
namespace Go.Proofs.YthkbapkndmlpfaaDoor
open Go.RowKit
set_option linter.unusedVariables false
set_option linter.unusedSimpArgs false

/-- The table of shapes lies in its variable's block. -/
def ShpT (w : World) : Prop := ∀ k : Nat, k < 24 → w.cell? ⟨0, k * 4, none⟩ = some (.int .i64 (mostI k)) ∧ w.cell? ⟨0, k * 4 + 1, none⟩ = some (.int .i64 (saysI k)) ∧
  w.cell? ⟨0, k * 4 + 2, none⟩ = some (.bool (decide (k = 5))) ∧ w.cell? ⟨0, k * 4 + 3, none⟩ = some (.int .i64 (arI k))

theorem ShpT.lt {w : World} (h : ShpT w) : 0 < w.heap.size := World.block_lt_of_cell? w _ (h 0 (by omega)).1

theorem ShpT.below {w w' : World} (h : ShpT w) (hb : Below w.heap.size w w') : ShpT w' := fun k hk => by
  obtain ⟨h0, h1, h2, h3⟩ := h k hk
  have hl := h.lt
  exact ⟨(hb.cell (p := ⟨0, k * 4, none⟩) hl).trans h0, (hb.cell (p := ⟨0, k * 4 + 1, none⟩) hl).trans h1, (hb.cell (p := ⟨0, k * 4 + 2, none⟩) hl).trans h2, (hb.cell (p := ⟨0, k * 4 + 3, none⟩) hl).trans h3⟩

theorem ShpT.agree {R : Nat → Prop} {w w' : World} (h : ShpT w) (ha : Agree R w w') (hR : R 0) : ShpT w' := fun k hk => by
  obtain ⟨h0, h1, h2, h3⟩ := h k hk
  exact ⟨(cell_agree ha hR).trans h0, (cell_agree ha hR).trans h1, (cell_agree ha hR).trans h2, (cell_agree ha hR).trans h3⟩

set_option maxHeartbeats 1600000 in
theorem shaped_out (k n : Int) (c2 c3 c4 : Value) (w : World) (h : k < 0 ∨ 23 < k) :
    Calls Tryd.prog 51 #[.agg #[.int .i64 k, .int .i64 n, c2, c3, c4]] w fun e w' => e = .returned (.bool false) ∧ Below w.heap.size w w' := by
  have b0 : ∀ o : Obj, Below w.heap.size w (w.alloc o) := fun o => (Below.refl _ _).alloc (Nat.le_refl _) o
  have Hb := hide' b0
  clear b0
  rcases h with h | h
  all_goals
    go_enter Tryd.func51, Tryd.ntmps51
    go_wp2
    go_ret
    exact ⟨rfl, Hb.out _⟩

/-- What shaped answers, of numbers. -/
def shpR (kb : Bool) (q m n : Int) (l3 l4 : Nat) (ab sb : Bool) : Bool :=
  (if kb then decide (l3 = l4) && ab else decide (l3 = 0)) && (decide (q = -1) || decide (q = l4)) && decide (0 ≤ n) && decide (n ≤ m) && sb

theorem shpB_R (k : Nat) (hk : k < 24) (n : Int) (vs : List Int) (vK : List (List Int)) (l4 : Nat) :
    shpB k n vs vK l4 = shpR (decide (k = 5)) (arI k) (mostI k) n vK.length l4 (ascB vK) (saysB (saysI k) vs) := by
  have h1 : (0 : Int) ≤ (k : Int) := by omega
  have h2 : (k : Int) ≤ 23 := by omega
  have h3 : ((k : Int) = 5) ↔ k = 5 := by omega
  simp [shpB, shpR, keysB, kidsB, h1, h2, h3]

set_option maxHeartbeats 4000000 in
theorem shaped_in (R : Nat → Prop) (k : Nat) (hk : k < 24) (n : Int) (a2 a3 a4 : Option Addr) (p2 p3 p4 l4 : Nat) (vs : List Int) (vK : List (List Int)) (w : World) (hT : ShpT w) (s2 : Seg w a2 vs) (m2 : vs.length ≤ maxLen)
    (h3 : KSeg (fun b => b < w.heap.size) w (.slice a3 vK.length p3) vK) (hl4 : l4 ≤ maxLen) :
    Calls Tryd.prog 51 #[.agg #[.int .i64 k, .int .i64 n, .slice a2 vs.length p2, .slice a3 vK.length p3, .slice a4 l4 p4]] w fun e w' => e = .returned (.bool (shpB k n vs vK l4)) ∧ Below w.heap.size w w' := by
  have b0 : ∀ o : Obj, Below w.heap.size w (w.alloc o) := fun o => (Below.refl _ _).alloc (Nat.le_refl _) o
  have b1 : ∀ o o' : Obj, Below w.heap.size w ((w.alloc o).alloc o') := fun o o' => (b0 o).alloc (by simp) o'
  have Hb := hide' b1
  have hlt := hT.lt
  obtain ⟨t0, t1, t2, t3⟩ := hT k hk
  have u0 : ∀ o : Obj, (w.alloc o).cell? ⟨0, k * 4, none⟩ = some (.int .i64 (mostI k)) := fun o => ((b0 o).cell (p := ⟨0, k * 4, none⟩) hlt).trans t0
  have u1 : ∀ o : Obj, (w.alloc o).cell? ⟨0, k * 4 + 1, none⟩ = some (.int .i64 (saysI k)) := fun o => ((b0 o).cell (p := ⟨0, k * 4 + 1, none⟩) hlt).trans t1
  have u2 : ∀ o : Obj, (w.alloc o).cell? ⟨0, k * 4 + 2, none⟩ = some (.bool (decide (k = 5))) := fun o => ((b0 o).cell (p := ⟨0, k * 4 + 2, none⟩) hlt).trans t2
  have u3 : ∀ o : Obj, (w.alloc o).cell? ⟨0, k * 4 + 3, none⟩ = some (.int .i64 (arI k)) := fun o => ((b0 o).cell (p := ⟨0, k * 4 + 3, none⟩) hlt).trans t3
  have HA : Hid (∀ wx, Below w.heap.size w wx → Calls Tryd.prog 47 #[.slice a3 vK.length p3] wx fun e w' => e = .returned (.bool (ascB vK)) ∧ wx = w') := fun wx hb => ascendingNames_any _ _ vK wx (h3.agree (agree_below hb))
  have HS : Hid (∀ wx, Below w.heap.size w wx → Calls Tryd.prog 63 #[.int .i64 (saysI k), .slice a2 vs.length p2] wx fun e w' => e = .returned (.bool (saysB (saysI k) vs)) ∧ wx = w') := fun wx hb => impl_saysOk_any _ a2 p2 vs wx (s2.grow hb) m2
  have HW := hide' (shpB_R k hk n vs vK l4)
  have h1 : ¬ (k : Int) < 0 := by omega
  have h2 : ¬ (23 : Int) < (k : Int) := by omega
  have hl3 : vK.length ≤ maxLen := by
    obtain ⟨_, _, e, h, h', _⟩ := h3
    simp at e
    omega
  generalize ascB vK = ab at *
  generalize saysB (saysI k) vs = sb at *
  generalize saysI k = c at *
  generalize mostI k = m at *
  generalize arI k = q at *
  generalize decide (k = 5) = kb at *
  generalize vK.length = l3 at *
  unfold maxLen at hl4 hl3
  clear t0 t1 t2 t3 b0 b1 h3 s2 hT
  cases kb
  all_goals
    go_enter Tryd.func51, Tryd.ntmps51
    go_wp2_with (first
      | (go_at_call 47; refine (HA.out _ (Hb.out _ _)).mono ?_; rintro e w1 ⟨rfl, e1⟩; obtain rfl := e1)
      | (go_at_call 63; refine (HS.out _ (Hb.out _ _)).mono ?_; rintro e w1 ⟨rfl, e1⟩; obtain rfl := e1))
    all_goals
      go_ret
      refine ⟨ret_bool ?_, Hb.out _ _⟩
      rw [HW.out]
      clear HW HA HS Hb u0 u1 u2 u3
      first | (simp [shpR, *]; done) | (simp [shpR, *]; omega)
end Go.Proofs.YthkbapkndmlpfaaDoor
/-
  takes of the program: it counts the parts of an expression, and answers whether all may be: 'goodE'.
-/
namespace Go.Proofs.YthkbapkndmlpfaaDoor
open Go.RowKit
set_option linter.unusedVariables false
set_option linter.unusedSimpArgs false

theorem grownE_fresh {w w1 w2 : World} {r r' : Option Nat} (h : w.grownBy w1 r) (k : w1.grownBy w2 r') (hr : ∀ j, r' = some j → w.heap.size ≤ j) : w.grownBy w2 r :=
  ⟨k.os.trans h.os, k.tape.trans h.tape, k.output.trans h.output, Nat.le_trans h.size k.size, fun i hi hne => (k.block i (Nat.lt_of_lt_of_le hi h.size) (fun e => by have := hr i e.symm; omega)).trans (h.block i hi hne)⟩
theorem grownE_trans {w w1 w2 : World} {r : Option Nat} (h : w.grownBy w1 r) (k : w1.grownBy w2 r) : w.grownBy w2 r :=
  ⟨k.os.trans h.os, k.tape.trans h.tape, k.output.trans h.output, Nat.le_trans h.size k.size, fun i hi hne => (k.block i (Nat.lt_of_lt_of_le hi h.size) hne).trans (h.block i hi hne)⟩
theorem belowE_grown {w w' : World} (h : Below w.heap.size w w') (r : Option Nat) : w.grownBy w' r := ⟨h.os, h.tape, h.output, h.size, fun k hk _ => h.block k hk⟩
theorem agreeE_grown {N q : Nat} {w w' : World} (h : w.grownBy w' (some q)) (hN : N ≤ q) (hq : q < w.heap.size) : Agree (fun b => b < N) w w' := fun b hb => h.block b (by omega) (by simp; omega)

/-- The counter of a tally. -/
def ECnt (w : World) (q : Nat) (n : Nat) : Prop := w.heap[q]? = some (.cells #[.int .i64 n] 50 (0, 0))

theorem ECnt.cell {w : World} {q n : Nat} (h : ECnt w q n) : w.cell? ⟨q, 0, none⟩ = some (.int .i64 n) ∧ w.frozen? ⟨q, 0, none⟩ = false := by
  refine ⟨?_, frozen_of_row w q 0 _ _ h⟩
  rw [cell_of_row w q 0 _ _ (0, 0) h]
  rfl
theorem ECnt.set {w : World} {q n : Nat} (h : ECnt w q n) (m : Nat) : ECnt (w.setCell ⟨q, 0, none⟩ (.int .i64 m)) q m := heap_setCell_same w q 0 _ _ _ h
theorem ECnt.keep {w w' : World} {q n : Nat} {r : Option Nat} (h : ECnt w q n) (hg : w.grownBy w' r) (hr : some q ≠ r) : ECnt w' q n :=
  (hg.block q (Array.getElem?_eq_some_iff.1 h).1 hr).trans h

/-- The contract of takes at depth d. -/
def ETkAt (d : Nat) : Prop := ∀ (N q n : Nat) (c : Value × Value × Value × Value × Value) (v : Vl d) (deep : Nat) (w : World), VSeg (fun b => b < N) w d c v → N ≤ q → q < w.heap.size → ECnt w q n → ShpT w → 0 < N → n ≤ 150 → deep ≤ 11 →
  Calls Tryd.prog 52 #[.pointer (some ⟨q, 0, none⟩), .agg #[c.1, c.2.1, c.2.2.1, c.2.2.2.1, c.2.2.2.2], .int .i64 deep] w fun e w' =>
    w.grownBy w' (some q) ∧ ((e = .returned (.bool true) ∧ goodE d v deep = true ∧ n + partsE d v ≤ 150 ∧ ECnt w' q (n + partsE d v)) ∨ (e = .returned (.bool false) ∧ ¬ (goodE d v deep = true ∧ n + partsE d v ≤ 150)))

/-- What takes has done ahead of the kids: its counter has one more, its argument lies in a box. -/
def EAhead (w : World) (q n : Nat) (o : Obj) (w2 : World) : Prop :=
  w.grownBy w2 (some q) ∧ ECnt w2 q (n + 1) ∧ w2.heap[w.heap.size]? = some o

theorem eahead_of {w : World} {q n : Nat} {o : Obj} {w2 : World} {x : Int} (hx : x = (n : Int) + 1) (hq : q < w.heap.size) (hc : ECnt w q n)
    (hb : Below ((w.setCell ⟨q, 0, none⟩ (.int .i64 x)).alloc o).heap.size ((w.setCell ⟨q, 0, none⟩ (.int .i64 x)).alloc o) w2) :
    EAhead w q n o w2 := by
  subst hx
  have hg := grown1 w q 0 (.int .i64 ((n : Int) + 1))
  have hcs : ECnt (w.setCell ⟨q, 0, none⟩ (.int .i64 ((n : Int) + 1))) q (n + 1) := hc.set (n + 1)
  have hsz : (w.setCell ⟨q, 0, none⟩ (.int .i64 ((n : Int) + 1))).heap.size = w.heap.size := by simp [World.setCell]
  have hal := World.grownBy_alloc (w.setCell ⟨q, 0, none⟩ (.int .i64 ((n : Int) + 1))) o none
  have hb2 := belowE_grown hb none
  have hnew := (MapKept.heap_alloc (w.setCell ⟨q, 0, none⟩ (.int .i64 ((n : Int) + 1))) o).1
  rw [hsz] at hnew
  refine ⟨grownE_fresh (grownE_fresh hg hal (by simp)) hb2 (by simp), (hcs.keep hal (by simp)).keep hb2 (by simp), (hb2.block w.heap.size (by simp [hsz]) (by simp)).trans hnew⟩

set_option maxHeartbeats 4000000 in
set_option maxRecDepth 100000 in
theorem takes_over (q n : Nat) (vk vn : Int) (a2 a3 a4 : Option Addr) (l2 l3 l4 p2 p3 p4 : Nat) (deep : Nat) (w : World) (hq : q < w.heap.size) (hc : ECnt w q n) (hn : n ≤ 150) (hd : deep ≤ 11) (h : n = 150 ∨ 10 < deep) :
    Calls Tryd.prog 52 #[.pointer (some ⟨q, 0, none⟩), .agg #[.int .i64 vk, .int .i64 vn, .slice a2 l2 p2, .slice a3 l3 p3, .slice a4 l4 p4], .int .i64 deep] w fun e w' => w.grownBy w' (some q) ∧ e = .returned (.bool false) := by
  have HA : Hid (ECnt w q n) := hc
  obtain ⟨hc0, hf0⟩ := hc.cell
  have hne : q ≠ w.heap.size := by omega
  clear hc
  by_cases hn1 : n = 150
  · subst hn1
    go_enter Tryd.func52, Tryd.ntmps52
    go_wp2
    go_ret
    exact ⟨(eahead_of (n := 150) rfl hq HA.out (Below.refl _ _)).1, rfl⟩
  · have hnn : ¬ (150 : Int) < (n : Int) + 1 := by omega
    have hdd : (10 : Int) < (deep : Int) := by omega
    go_enter Tryd.func52, Tryd.ntmps52
    go_wp2
    go_ret
    exact ⟨(eahead_of rfl hq HA.out (Below.refl _ _)).1, rfl⟩

/-- What holds ahead of the round k of takes. -/
def TK (d : Nat) (vL : List (Vl d)) (deep n q : Nat) (w wr : World) (o : Obj) (k : Nat) : Prop :=
  k ≤ vL.length ∧ n + 1 + pre (partsE d) vL k ≤ 150 ∧ ECnt wr q (n + 1 + pre (partsE d) vL k) ∧ w.grownBy wr (some q) ∧ wr.heap[w.heap.size]? = some o ∧ ∀ j (h : j < vL.length), j < k → goodE d vL[j] (deep + 1) = true

set_option maxHeartbeats 8000000 in
set_option maxRecDepth 100000 in
theorem takes_succ (d : Nat) (ih : ETkAt d) : ETkAt (d + 1) := by
  intro N q n c v deep w hv hNq hq hc hT hgN hn hd
  obtain ⟨c0, c1, c2, c3, c4⟩ := c
  obtain ⟨vk, vn, vs, vK, vL⟩ := v
  obtain ⟨e0, e1, ht, hk, hl⟩ := (VSeg_succ _ _ _ _ _).1 hv
  simp only at e0 e1 ht hk hl
  subst e0
  subst e1
  clear hv
  simp only
  have HK := hide' hk
  have HL := hide' hl
  obtain ⟨a2, p2, rfl, s2, l2, m2, _, r2⟩ := ht
  obtain ⟨a3, p3, rfl, _, _, _, _⟩ := hk
  obtain ⟨a4, p4, rfl, hlc4, hcm4, _, _⟩ := hl
  by_cases h0 : n = 150 ∨ 10 < deep
  · refine (takes_over q n vk vn a2 a3 a4 _ _ _ p2 p3 p4 deep w hq hc hn hd h0).mono ?_
    rintro e w1 ⟨hg, rfl⟩
    refine ⟨hg, .inr ⟨rfl, ?_⟩⟩
    rintro ⟨h1, h2⟩
    have := ((goodE_succ _ _ _ _ _ _ _).1 h1).1
    have := partsE_pos d (vk, vn, vs, vK, vL)
    omega
  have hn1 : n < 150 := by omega
  have hd1 : deep ≤ 10 := by omega
  -- what shaped answers, in a world in which the counter has turned
  have HSh : Hid (∀ wx, Agree (fun b => b < N) w wx → w.heap.size ≤ wx.heap.size → Calls Tryd.prog 51 #[.agg #[.int .i64 vk, .int .i64 vn, .slice a2 vs.length p2, .slice a3 vK.length p3, .slice a4 vL.length p4]] wx fun e w' => e = .returned (.bool (shpB vk vn vs vK vL.length)) ∧ Below wx.heap.size wx w') := by
    intro wx ha hsz
    by_cases hr : vk < 0 ∨ 23 < vk
    · refine (shaped_out vk vn _ _ _ wx hr).mono ?_
      rintro e w' ⟨rfl, hb⟩
      refine ⟨ret_bool ?_, hb⟩
      rcases hr with hr | hr
      · have h1 : ¬ (0 : Int) ≤ vk := by omega
        simp [shpB, h1]
      · have h1 : ¬ vk ≤ 23 := by omega
        simp [shpB, h1]
    · obtain ⟨k, rfl⟩ : ∃ k : Nat, vk = k := ⟨vk.toNat, by omega⟩
      have hs : Seg wx a2 vs := by
        refine ⟨s2.1, ?_⟩
        rcases s2.2 with h0 | ⟨b, off, rfl, hcc⟩
        · exact .inl h0
        · by_cases he : vs = []
          · exact .inl he
          · exact .inr ⟨b, off, rfl, fun i hi => (cell_agree ha (r2 _ rfl he)).trans (hcc i hi)⟩
      exact shaped_in (fun _ => True) k (by omega) vn a2 a3 a4 p2 p3 p4 vL.length vs vK wx (hT.agree ha hgN) hs (by omega) ((HK.out.agree ha).mono (fun b hb => by omega)) (by omega)
  have HA : Hid (ECnt w q n) := hc
  obtain ⟨hc0, hf0⟩ := hc.cell
  have hne : q ≠ w.heap.size := by omega
  have hnn : ¬ (150 : Int) < (n : Int) + 1 := by omega
  have hdd : ¬ (10 : Int) < (deep : Int) := by omega
  have HAg : Hid (∀ (x : Int) (o : Obj), Agree (fun b => b < N) w ((w.setCell ⟨q, 0, none⟩ (.int .i64 x)).alloc o) ∧ w.heap.size ≤ ((w.setCell ⟨q, 0, none⟩ (.int .i64 x)).alloc o).heap.size) := by
    intro x o
    have hg := grownE_fresh (grown1 w q 0 (.int .i64 x)) (World.grownBy_alloc (w.setCell ⟨q, 0, none⟩ (.int .i64 x)) o none) (by simp)
    exact ⟨agreeE_grown hg hNq hq, hg.size⟩
  have HT := hide' hT
  have HI := hide' ih
  have Hd1 := hide' hd1
  clear hc hT ih s2
  cases hb : shpB vk vn vs vK vL.length with
  | false =>
    have HF : Hid (¬ (goodE (d + 1) (vk, vn, vs, vK, vL) deep = true ∧ n + partsE (d + 1) (vk, vn, vs, vK, vL) ≤ 150)) := fun ⟨h1, _⟩ => by
      have := ((goodE_succ _ _ _ _ _ _ _).1 h1).2.1
      rw [hb] at this
      simp at this
    rw [hb] at HSh
    clear hb
    go_enter Tryd.func52, Tryd.ntmps52
    go_wp2_with fail
    refine (HSh.out _ (HAg.out _ _).1 (HAg.out _ _).2).mono ?_
    rintro e w2 ⟨rfl, b2⟩
    have hA := hide' (eahead_of rfl hq HA.out b2)
    clear b2
    go_wp2
    go_ret
    exact ⟨hA.out.1, .inr ⟨rfl, HF.out⟩⟩
  | true =>
    rw [hb] at HSh
    have Hshp := hide' hb
    clear hb
    obtain ⟨ob, HOb⟩ : ∃ ob, Hid (ob = Obj.cells #[.int .i64 vk, .int .i64 vn, .slice a2 vs.length p2, .slice a3 vK.length p3, .slice a4 vL.length p4] 40) := ⟨_, rfl⟩
    unfold maxLen at hcm4
    go_enter Tryd.func52, Tryd.ntmps52
    go_wp2_with fail
    refine (HSh.out _ (HAg.out _ _).1 (HAg.out _ _).2).mono ?_
    rintro e w2 ⟨rfl, b2⟩
    have hA := eahead_of rfl hq HA.out b2
    have hrow := hA.2.2
    obtain ⟨y0, y1, y2, y3, y4, _⟩ := row5 hrow
    rw [← HOb.out] at hA
    have H0 : Hid (TK d vL deep n q w w2 ob 0) := ⟨Nat.zero_le _, by rw [pre_zero]; omega, by rw [pre_zero]; exact hA.2.1, hA.1, hA.2.2, fun j _ h => by omega⟩
    clear b2 hA hrow HSh HAg
    go_wp2
    go_loopw [33] (fun i wr => ∃ k : Nat, i = .int .i64 k ∧ TK d vL deep n q w wr ob k) (fun i _ => vL.length - (intOf i).toNat)
    case atStart => exact ⟨0, rfl, H0.out⟩
    case round =>
      clear y0 y1 y2 y3 y4 H0
      obtain ⟨k, rfl, hT⟩ := hrel
      have HTk := hide' hT
      obtain ⟨hk, hple, hcnt, hgr, hbox, hgood⟩ := hT
      clear hgood
      by_cases hlt : k < vL.length
      · have hlt' : (k : Int) < (vL.length : Int) := by omega
        have hag := agreeE_grown hgr hNq hq
        have hcell : ∃ b off c, a4 = some ⟨b, off, none⟩ ∧ Five wr b (off + k * 5) c ∧ VSeg (fun b => b < N) wr d c (vL[k]) := by
          obtain ⟨a', cap', e1, _, _, _, h5⟩ := HL.out
          simp only [Value.slice.injEq] at e1
          obtain ⟨rfl, _, _⟩ := e1
          rcases h5 with h0 | ⟨b, off, rfl, hR, hcc⟩
          · rw [h0] at hlt; simp at hlt
          · obtain ⟨c, h5, hv⟩ := hcc k hlt
            exact ⟨b, off, c, rfl, h5.agree hag hR, VSeg.agree hag d hv⟩
        obtain ⟨b, off, c, rfl, h5', hv⟩ := hcell
        obtain ⟨c0, c1, c2, c3, c4⟩ := c
        obtain ⟨q0, q1, q2, q3, q4⟩ := h5'
        simp only at q0 q1 q2 q3 q4
        have hs := hgr.size
        obtain ⟨ck, cn, s2, l2', e2, s3, l3, e3, s4, l4, e4, rfl, rfl, rfl, rfl, rfl⟩ := VSeg.form d hv
        have hgW := World.grownBy_alloc wr (.cells #[.int .i64 ck, .int .i64 cn, .slice s2 l2' e2, .slice s3 l3 e3, .slice s4 l4 e4] 40) none
        have hC := HI.out N q (n + 1 + pre (partsE d) vL k) _ vL[k] (deep + 1) _ (VSeg.agree (fun b hb => hgW.block b (by omega) (by simp)) d hv) hNq (by simp; omega) (hcnt.keep hgW (by simp)) ((HT.out.agree hag hgN).below ((Below.refl _ _).alloc (Nat.le_refl _) _)) hgN hple (by have := Hd1.out; omega)
        rw [Int.natCast_add] at hC
        have HC := hide' hC
        have HgW := hide' (grownE_fresh hgr hgW (by simp))
        have hszW : wr.heap.size < (wr.alloc (.cells #[.int .i64 ck, .int .i64 cn, .slice s2 l2' e2, .slice s3 l3 e3, .slice s4 l4 e4] 40)).heap.size := by simp
        have HboxW : Hid ((wr.alloc (.cells #[.int .i64 ck, .int .i64 cn, .slice s2 l2' e2, .slice s3 l3 e3, .slice s4 l4 e4] 40)).heap[w.heap.size]? = some ob) := (hgW.block _ (Array.getElem?_eq_some_iff.1 hbox).1 (by simp)).trans hbox
        have hltb := (Array.getElem?_eq_some_iff.1 hbox).1
        have HszW := hide' hszW
        clear hv hag hgr hC hgW hbox hcnt hszW
        go_wp2_with fail
        refine HC.out.mono ?_
        rintro e w1 ⟨hg1, hcase⟩
        clear q0 q1 q2 q3 q4
        have HG1 := hide' (grownE_trans HgW.out hg1)
        have HB1 : Hid (w1.heap[w.heap.size]? = some ob) := (hg1.block _ (by have := HszW.out; omega) (by simp; omega)).trans HboxW.out
        have hps := hide' (pre_succ (partsE d) vL k hlt)
        rcases hcase with ⟨rfl, hgd, hpl, hcn⟩ | ⟨rfl, hbad⟩
        · have HN : Hid (TK d vL deep n q w w1 ob (k + 1)) := by
            refine ⟨hlt, by rw [hps.out]; omega, by rw [hps.out, ← Nat.add_assoc]; exact hcn, HG1.out, HB1.out, fun j hj hjk => ?_⟩
            by_cases e : j = k
            · subst e; exact hgd
            · exact HTk.out.2.2.2.2.2 j hj (by omega)
          clear hg1 hgd hpl hcn
          go_wp2
          go_roundw
          case rel => exact ⟨k + 1, by go_num, HN.out⟩
          case measure => simp [intOf]; omega
        · have HF : Hid (¬ (goodE (d + 1) (vk, vn, vs, vK, vL) deep = true ∧ n + partsE (d + 1) (vk, vn, vs, vK, vL) ≤ 150)) := fun ⟨h1, h2⟩ => by
            refine hbad ⟨((goodE_succ _ _ _ _ _ _ _).1 h1).2.2 k hlt, ?_⟩
            rw [partsE_succ] at h2
            have h4 := pre_le (partsE d) vL (k + 1)
            have h5 := pre_all (partsE d) vL
            have h6 := hps.out
            omega
          clear hg1 hbad
          go_wp2
          go_ret
          exact ⟨HG1.out, .inr ⟨rfl, HF.out⟩⟩
      · have hkn : k = vL.length := by omega
        have hlt' : ¬ (k : Int) < (vL.length : Int) := by omega
        have HF : Hid (goodE (d + 1) (vk, vn, vs, vK, vL) deep = true ∧ n + partsE (d + 1) (vk, vn, vs, vK, vL) ≤ 150 ∧ ECnt wr q (n + partsE (d + 1) (vk, vn, vs, vK, vL))) := by
          have hp := partsE_succ d vk vn vs vK vL
          obtain ⟨_, g2, g3, _, _, g6⟩ := HTk.out
          rw [hkn] at g2 g3
          refine ⟨(goodE_succ _ _ _ _ _ _ _).2 ⟨Hd1.out, Hshp.out, fun j h => g6 j h (by omega)⟩, by rw [hp]; omega, ?_⟩
          rw [hp, ← Nat.add_assoc]
          exact g3
        have HG := hide' hgr
        clear hkn hgr hcnt hbox
        go_wp2
        go_ret
        exact ⟨HG.out, .inl ⟨rfl, HF.out⟩⟩

theorem takes_any (d : Nat) : ETkAt d := by
  induction d with
  | zero => intro N q n c v deep w hv; exact hv.elim
  | succ d ih => exact takes_succ d ih

end Go.Proofs.YthkbapkndmlpfaaDoor
/-
  takesItem of the program: it counts the parts of an item's expressions.
-/
namespace Go.Proofs.YthkbapkndmlpfaaDoor
open Go.RowKit
set_option linter.unusedVariables false
set_option linter.unusedSimpArgs false

/-- By and the expressions may be. -/
def tkB (d : Nat) (it : Itm d) : Bool := (if it.2.2.1 = 0 then zeroE d it.2.2.2.1 else goodE d it.2.2.2.1 1) && it.2.2.2.2.2.all fun e => goodE d e 1

/-- What takesItem leaves. -/
def TIEnd (d : Nat) (it : Itm d) (n q : Nat) (w : World) (e : Ending) (w' : World) : Prop :=
  w.grownBy w' (some q) ∧ ((e = .returned (.bool true) ∧ tkB d it = true ∧ n + itemP d it ≤ 150 ∧ ECnt w' q (n + itemP d it)) ∨ (e = .returned (.bool false) ∧ ¬ (tkB d it = true ∧ n + itemP d it ≤ 150)))

theorem shp_zero (n : Int) (vs : List Int) (vK : List (List Int)) (nL : Nat) : shpB 0 n vs vK nL = (decide (n = 0) && (decide (vs.length = 0) && (decide (vK.length = 0) && decide (nL = 0)))) := by
  by_cases h1 : n = 0
  · subst h1
    by_cases h2 : vs.length = 0
    · by_cases h3 : vK.length = 0
      · by_cases h4 : nL = 0
        · simp [shpB, keysB, kidsB, arI, mostI, saysI, saysB, h2, h3, h4]
        · have h4' : ¬ (0 : Int) = (nL : Int) := by omega
          simp [shpB, keysB, kidsB, arI, mostI, saysI, saysB, h4, h4']
      · simp [shpB, keysB, h3]
    · simp [shpB, saysB, saysI, h2]
  · have h : ¬ (0 ≤ n ∧ n ≤ 0) := by omega
    by_cases h2 : 0 ≤ n
    · have h3 : ¬ n ≤ 0 := by omega
      simp [shpB, mostI, h1, h3]
    · simp [shpB, h1, h2]

/-- What holds ahead of the round k of takesItem. -/
def TI (d : Nat) (es : List (Vl d)) (n q : Nat) (w wr : World) (o : Obj) (k : Nat) : Prop :=
  k ≤ es.length ∧ n + pre (partsE d) es k ≤ 150 ∧ ECnt wr q (n + pre (partsE d) es k) ∧ w.grownBy wr (some q) ∧ wr.heap[w.heap.size]? = some o ∧ ∀ j (h : j < es.length), j < k → goodE d es[j] 1 = true

theorem ti_end {d : Nat} {it : Itm d} {n q : Nat} {w wr : World} {o : Obj} (h : TI d it.2.2.2.2.2 (n + byP d it) q w wr o it.2.2.2.2.2.length) (hb : (if it.2.2.1 = 0 then zeroE d it.2.2.2.1 else goodE d it.2.2.2.1 1) = true) : TIEnd d it n q w (.returned (.bool true)) wr := by
  obtain ⟨_, h1, h2, h3, _, h4⟩ := h
  refine ⟨h3, .inl ⟨rfl, ?_, ?_, ?_⟩⟩
  · simp only [tkB, hb, Bool.true_and, List.all_eq_true]
    intro x hx
    obtain ⟨j, hj, rfl⟩ := List.getElem_of_mem hx
    exact h4 j hj hj
  · unfold itemP; omega
  · unfold itemP
    rw [← Nat.add_assoc]
    exact h2
theorem ti_no {d : Nat} {it : Itm d} {n k : Nat} (hk : k < it.2.2.2.2.2.length) (h : ¬ (goodE d it.2.2.2.2.2[k] 1 = true ∧ n + byP d it + pre (partsE d) it.2.2.2.2.2 k + partsE d it.2.2.2.2.2[k] ≤ 150)) : ¬ (tkB d it = true ∧ n + itemP d it ≤ 150) := by
  rintro ⟨h1, h2⟩
  apply h
  simp only [tkB, Bool.and_eq_true, List.all_eq_true] at h1
  refine ⟨h1.2 _ (List.getElem_mem hk), ?_⟩
  have h3 := pre_succ (partsE d) it.2.2.2.2.2 k hk
  have h4 := pre_le (partsE d) it.2.2.2.2.2 (k + 1)
  have h5 := pre_all (partsE d) it.2.2.2.2.2
  unfold itemP at h2
  omega

set_option maxHeartbeats 3200000 in
set_option maxRecDepth 100000 in
theorem takesItem_some (d N q n : Nat) (cs : List Value) (k : Int) (nm : List Int) (mn : Int) (by' : Vl d) (ks : List (List Int)) (es : List (Vl d)) (w : World) (h : ISeg (fun b => b < N) w d cs ((k, nm, mn, by', ks, es) : Itm d)) (hNq : N ≤ q) (hq : q < w.heap.size) (hc : ECnt w q n) (hT : ShpT w) (hgN : 0 < N) (hn : n ≤ 150) (hm : ¬ mn = 0) :
    Calls Tryd.prog 22 #[.pointer (some ⟨q, 0, none⟩), .agg cs.toArray] w (TIEnd d ((k, nm, mn, by', ks, es) : Itm d) n q w) := by
  obtain ⟨na, np, bk, bn, a2, l2, p2, a3, l3, p3, a4, l4, p4, xa, xp, ea, ep, rfl, ht, hv, hk, hl⟩ := h.form
  simp only at ht hv hk hl ⊢
  obtain ⟨ob, HOb⟩ : ∃ ob, Hid (ob = Obj.cells #[.int .i64 k, .slice na nm.length np, .int .i64 mn, .int .i64 bk, .int .i64 bn, .slice a2 l2 p2, .slice a3 l3 p3, .slice a4 l4 p4, .slice xa ks.length xp, .slice ea es.length ep] 42) := ⟨_, rfl⟩
  have HL := hide' hl
  have hBy : Hid (byP d ((k, nm, mn, by', ks, es) : Itm d) = partsE d by') := by show byP _ _ = _; simp [byP, hm]
  have hw0 := World.grownBy_alloc w (.cells #[.int .i64 k, .slice na nm.length np, .int .i64 mn, .int .i64 bk, .int .i64 bn, .slice a2 l2 p2, .slice a3 l3 p3, .slice a4 l4 p4, .slice xa ks.length xp, .slice ea es.length ep] 42) none
  have Hw0 := hide' hw0
  have HBy := hide' (takes_any d N q n (.int .i64 bk, .int .i64 bn, .slice a2 l2 p2, .slice a3 l3 p3, .slice a4 l4 p4) by' 1 (w.alloc (.cells #[.int .i64 k, .slice na nm.length np, .int .i64 mn, .int .i64 bk, .int .i64 bn, .slice a2 l2 p2, .slice a3 l3 p3, .slice a4 l4 p4, .slice xa ks.length xp, .slice ea es.length ep] 42)) (VSeg.agree (fun b hb => hw0.block b (by omega) (by simp)) d hv) hNq (by simp; omega) (hc.keep hw0 (by simp)) (hT.below ((Below.refl _ _).alloc (Nat.le_refl _) _)) hgN hn (by omega))
  have HT := hide' hT
  have Hnew : Hid (∀ o : Obj, (w.alloc o).heap[w.heap.size]? = some o) := fun o => (MapKept.heap_alloc w o).1
  have hmb : (mn == 0) = false := by simpa using hm
  have mE : es.length ≤ 9223372036854775807 := by obtain ⟨_, _, e, q, m, _⟩ := hl; unfold maxLen at m; omega
  clear ht hv hk hl h hw0 hc hT
  go_enter Tryd.func22, Tryd.ntmps22
  go_wp2_with fail
  refine HBy.out.mono ?_
  rintro e w1 ⟨hg1, hcase⟩
  have HG1 := hide' (grownE_trans (World.grownBy_alloc w (.cells #[.int .i64 k, .slice na nm.length np, .int .i64 mn, .int .i64 bk, .int .i64 bn, .slice a2 l2 p2, .slice a3 l3 p3, .slice a4 l4 p4, .slice xa ks.length xp, .slice ea es.length ep] 42) (some q)) hg1)
  have hrow := (hg1.block w.heap.size (by simp) (by simp; omega)).trans (Hnew.out _)
  have HB1 : Hid (w1.heap[w.heap.size]? = some ob) := by rw [HOb.out]; exact hrow
  have y9 := cell_of_row _ _ 9 _ _ _ hrow
  simp at y9
  rcases hcase with ⟨rfl, hgd, hpl, hcn⟩ | ⟨rfl, hbad⟩
  rotate_left
  · have HF : Hid (¬ (tkB d ((k, nm, mn, by', ks, es) : Itm d) = true ∧ n + itemP d ((k, nm, mn, by', ks, es) : Itm d) ≤ 150)) := by
      rintro ⟨h1, h2⟩
      apply hbad
      simp only [tkB, if_neg hm, Bool.and_eq_true] at h1
      refine ⟨h1.1, ?_⟩
      unfold itemP at h2
      rw [hBy.out] at h2
      omega
    clear hbad hg1 hrow
    go_wp2
    go_ret
    exact ⟨HG1.out, .inr ⟨rfl, HF.out⟩⟩
  have H0 : Hid (TI d es (n + byP d ((k, nm, mn, by', ks, es) : Itm d)) q w w1 ob 0) := ⟨Nat.zero_le _, by rw [pre_zero, hBy.out]; omega, by rw [pre_zero, hBy.out]; exact hcn, HG1.out, HB1.out, fun j _ h => by omega⟩
  have HOk : Hid ((if mn = 0 then zeroE d by' else goodE d by' 1) = true) := by show _ = _; rw [if_neg hm]; exact hgd
  clear hgd hpl hcn hg1 hrow HBy HG1 HB1
  go_wp2
  go_loopw [28] (fun i wr => ∃ j : Nat, i = .int .i64 j ∧ Hid (TI d es (n + byP d ((k, nm, mn, by', ks, es) : Itm d)) q w wr ob j)) (fun i _ => es.length - (intOf i).toNat)
  case atStart => exact ⟨0, rfl, H0⟩
  case round =>
    clear H0 y9
    obtain ⟨j, rfl, hTI⟩ := hrel
    obtain ⟨hj, hple, hcnt, hgr, hbox, hgood⟩ := hTI.out
    clear hgood
    by_cases hlt : j < es.length
    · have hlt' : (j : Int) < (es.length : Int) := by omega
      have hag := agreeE_grown hgr hNq hq
      have hcell : ∃ b off c, ea = some ⟨b, off, none⟩ ∧ Five wr b (off + j * 5) c ∧ VSeg (fun b => b < N) wr d c (es[j]) := by
        obtain ⟨a', cap', e1, _, _, _, h5⟩ := HL.out
        simp only [Value.slice.injEq] at e1
        obtain ⟨rfl, _, _⟩ := e1
        rcases h5 with h0 | ⟨b, off, rfl, hR, hcc⟩
        · rw [h0] at hlt; simp at hlt
        · obtain ⟨c, h5, hv⟩ := hcc j hlt
          exact ⟨b, off, c, rfl, h5.agree hag hR, VSeg.agree hag d hv⟩
      obtain ⟨b, off, c, rfl, h5', hv⟩ := hcell
      obtain ⟨c0, c1, c2, c3, c4⟩ := c
      obtain ⟨q0, q1, q2, q3, q4⟩ := h5'
      simp only at q0 q1 q2 q3 q4
      have hs := hgr.size
      obtain ⟨ck, cn, s2, l2', e2, s3, l3', e3, s4, l4', e4, rfl, rfl, rfl, rfl, rfl⟩ := VSeg.form d hv
      have hgW := World.grownBy_alloc wr (.cells #[.int .i64 ck, .int .i64 cn, .slice s2 l2' e2, .slice s3 l3' e3, .slice s4 l4' e4] 40) none
      have HC := hide' (takes_any d N q (n + byP d ((k, nm, mn, by', ks, es) : Itm d) + pre (partsE d) es j) _ es[j] 1 _ (VSeg.agree (fun b hb => hgW.block b (by omega) (by simp)) d hv) hNq (by simp; omega) (hcnt.keep hgW (by simp)) ((HT.out.agree hag hgN).below ((Below.refl _ _).alloc (Nat.le_refl _) _)) hgN hple (by omega))
      have HgW := hide' (grownE_fresh hgr hgW (by simp))
      have HboxW : Hid ((wr.alloc (.cells #[.int .i64 ck, .int .i64 cn, .slice s2 l2' e2, .slice s3 l3' e3, .slice s4 l4' e4] 40)).heap[w.heap.size]? = some ob) := (hgW.block _ (Array.getElem?_eq_some_iff.1 hbox).1 (by simp)).trans hbox
      have HltW := hide' (Array.getElem?_eq_some_iff.1 HboxW.out).1
      clear hv hag hgr hgW hbox hcnt
      go_wp2_with fail
      refine HC.out.mono ?_
      rintro e w3 ⟨hg3, hcase3⟩
      clear q0 q1 q2 q3 q4
      have HG3 := hide' (grownE_trans HgW.out hg3)
      have HB3 : Hid (w3.heap[w.heap.size]? = some ob) := (hg3.block _ HltW.out (by simp; omega)).trans HboxW.out
      have hps := hide' (pre_succ (partsE d) es j hlt)
      rcases hcase3 with ⟨rfl, hgd, hpl, hcn⟩ | ⟨rfl, hbad⟩
      · have HN : Hid (TI d es (n + byP d ((k, nm, mn, by', ks, es) : Itm d)) q w w3 ob (j + 1)) := by
          refine ⟨hlt, by rw [hps.out]; omega, by rw [hps.out, ← Nat.add_assoc]; exact hcn, HG3.out, HB3.out, fun i hi hij => ?_⟩
          by_cases e : i = j
          · subst e; exact hgd
          · exact hTI.out.2.2.2.2.2 i hi (by omega)
        clear hg3 hgd hpl hcn
        go_wp2
        go_roundw
        case rel => exact ⟨j + 1, by go_num, HN⟩
        case measure => simp [intOf]; omega
      · have HF := hide' (ti_no (it := ((k, nm, mn, by', ks, es) : Itm d)) (n := n) hlt hbad)
        clear hg3 hbad
        go_wp2
        go_ret
        exact ⟨HG3.out, .inr ⟨rfl, HF.out⟩⟩
    · have hjn : j = es.length := by omega
      have hlt' : ¬ (j : Int) < (es.length : Int) := by omega
      have HF : Hid (TIEnd d ((k, nm, mn, by', ks, es) : Itm d) n q w (.returned (.bool true)) wr) := ti_end (it := ((k, nm, mn, by', ks, es) : Itm d)) (by show TI d es _ q w wr ob es.length; rw [← hjn]; exact hTI.out) HOk.out
      clear hjn
      go_wp2
      go_ret
      exact HF.out
end Go.Proofs.YthkbapkndmlpfaaDoor
/-
  takesItem of the program, at every item.
-/
namespace Go.Proofs.YthkbapkndmlpfaaDoor
open Go.RowKit
set_option linter.unusedVariables false
set_option linter.unusedSimpArgs false

/-- shaped of the zero kind, at a value that is read. -/
theorem shaped_zero (d N : Nat) (bn : Int) (c2 c3 c4 : Value) (v : Vl d) (w : World) (hv : VSeg (fun b => b < N) w d (.int .i64 0, .int .i64 bn, c2, c3, c4) v) (hN : N ≤ w.heap.size) (hT : ShpT w) :
    Calls Tryd.prog 51 #[.agg #[.int .i64 0, .int .i64 bn, c2, c3, c4]] w fun e w' => e = .returned (.bool (zeroE d v)) ∧ Below w.heap.size w w' := by
  cases d with
  | zero => exact hv.elim
  | succ d =>
    obtain ⟨vk, vn, vs, vK, vL⟩ := v
    obtain ⟨e0, e1, ht, hk, hl⟩ := (VSeg_succ _ _ _ _ _).1 hv
    simp only [Value.int.injEq, true_and] at e0 e1 ht hk hl
    subst e0
    subst e1
    have hk' := hk.mono (R' := fun b => b < w.heap.size) fun b hb => by omega
    obtain ⟨a2, p2, rfl, s2, q2, m2, -⟩ := ht
    obtain ⟨a3, p3, rfl, -⟩ := hk
    obtain ⟨a4, p4, rfl, q4, m4, -⟩ := hl
    have := shaped_in (fun _ => True) 0 (by omega) bn a2 a3 a4 p2 p3 p4 vL.length vs vK w hT s2 (by omega) hk' (by omega)
    refine this.mono fun e w' h => ⟨?_, h.2⟩
    rw [h.1]
    congr 2
    have hz : zeroE (d + 1) ((0, bn, vs, vK, vL) : Vl (d + 1)) = (decide ((0 : Int) = 0) && (decide (bn = 0) && (decide (vs.length = 0) && (decide (vK.length = 0) && decide (vL.length = 0))))) := rfl
    rw [hz]
    have hs := shp_zero bn vs vK vL.length
    simpa using hs

set_option maxHeartbeats 3200000 in
set_option maxRecDepth 100000 in
theorem takesItem_none (d N q n : Nat) (cs : List Value) (k : Int) (nm : List Int) (by' : Vl d) (ks : List (List Int)) (es : List (Vl d)) (w : World) (h : ISeg (fun b => b < N) w d cs ((k, nm, 0, by', ks, es) : Itm d)) (hNq : N ≤ q) (hq : q < w.heap.size) (hc : ECnt w q n) (hT : ShpT w) (hgN : 0 < N) (hn : n ≤ 150) :
    Calls Tryd.prog 22 #[.pointer (some ⟨q, 0, none⟩), .agg cs.toArray] w (TIEnd d ((k, nm, 0, by', ks, es) : Itm d) n q w) := by
  obtain ⟨na, np, bk, bn, a2, l2, p2, a3, l3, p3, a4, l4, p4, xa, xp, ea, ep, rfl, ht, hv, hk, hl⟩ := h.form
  simp only at ht hv hk hl ⊢
  obtain ⟨ob, HOb⟩ : ∃ ob, Hid (ob = Obj.cells #[.int .i64 k, .slice na nm.length np, .int .i64 0, .int .i64 bk, .int .i64 bn, .slice a2 l2 p2, .slice a3 l3 p3, .slice a4 l4 p4, .slice xa ks.length xp, .slice ea es.length ep] 42) := ⟨_, rfl⟩
  have HL := hide' hl
  have hBy : Hid (byP d ((k, nm, 0, by', ks, es) : Itm d) = 0) := rfl
  have HT := hide' hT
  have Hnew : Hid (∀ o : Obj, (w.alloc o).heap[w.heap.size]? = some o) := fun o => (MapKept.heap_alloc w o).1
  have mE : es.length ≤ 9223372036854775807 := by obtain ⟨_, _, e, q, m, _⟩ := hl; unfold maxLen at m; omega
  have Hb : Hid (∀ o : Obj, Below w.heap.size w (w.alloc o)) := fun o => (Below.refl _ _).alloc (Nat.le_refl _) o
  have HNz : Hid (zeroE d by' = false → ¬ (tkB d ((k, nm, 0, by', ks, es) : Itm d) = true ∧ n + itemP d ((k, nm, 0, by', ks, es) : Itm d) ≤ 150)) := fun hz ⟨h1, _⟩ => by simp [tkB, hz] at h1
  have HC0 := hide' hc
  by_cases hb : bk = 0
  rotate_left
  · have hz : zeroE d by' = false := by
      cases d with
      | zero => exact hv.elim
      | succ d =>
        have := hv.1
        simp only [Value.int.injEq, true_and] at this
        have h2 : ¬ by'.1 = 0 := by rw [← this]; exact hb
        simp [zeroE, h2]
    have HF := hide' (HNz.out hz)
    have hbb : (bk != 0) = true := by simpa using hb
    clear ht hv hk hl h hc hT hz
    go_enter Tryd.func22, Tryd.ntmps22
    go_wp2
    go_ret
    exact ⟨World.grownBy_alloc w _ (some q), .inr ⟨rfl, HF.out⟩⟩
  subst hb
  have HS : Hid (∀ o : Obj, Calls Tryd.prog 51 #[.agg #[.int .i64 0, .int .i64 bn, .slice a2 l2 p2, .slice a3 l3 p3, .slice a4 l4 p4]] (w.alloc o) fun e w' => e = .returned (.bool (zeroE d by')) ∧ Below (w.alloc o).heap.size (w.alloc o) w') := fun o =>
    shaped_zero d N bn _ _ _ by' (w.alloc o) (VSeg.agree (agree_below ((Hb.out o).mono (by omega))) d hv) (by simp; omega) (hT.below (Hb.out o))
  clear ht hv hk hl h hc hT
  cases hz : zeroE d by' with
  | false =>
    have HF := hide' (HNz.out hz)
    rw [hz] at HS
    clear hz
    go_enter Tryd.func22, Tryd.ntmps22
    go_wp2_with fail
    refine (HS.out _).mono ?_
    rintro e w1 ⟨rfl, b1⟩
    have HG := hide' (belowE_grown (Below.on (Hb.out _) b1) (some q))
    clear b1
    go_wp2
    go_ret
    exact ⟨HG.out, .inr ⟨rfl, HF.out⟩⟩
  | true =>
  rw [hz] at HS
  have HOk : Hid ((if (0 : Int) = 0 then zeroE d by' else goodE d by' 1) = true) := by show _ = _; rw [if_pos rfl]; exact hz
  clear hz
  go_enter Tryd.func22, Tryd.ntmps22
  go_wp2_with fail
  refine (HS.out _).mono ?_
  rintro e w1 ⟨rfl, b1⟩
  have hrow := (b1.block w.heap.size (by simp)).trans (Hnew.out _)
  have HB1 : Hid (w1.heap[w.heap.size]? = some ob) := by rw [HOb.out]; exact hrow
  have y9 := cell_of_row _ _ 9 _ _ _ hrow
  simp at y9
  have hG1 : w.grownBy w1 (some q) := belowE_grown (Below.on (Hb.out _) b1) (some q)
  have hcn : ECnt w1 q n := HC0.out.keep (belowE_grown (Below.on (Hb.out _) b1) none) (by simp)
  have H0 : Hid (TI d es (n + byP d ((k, nm, 0, by', ks, es) : Itm d)) q w w1 ob 0) := ⟨Nat.zero_le _, by rw [pre_zero, hBy.out]; omega, by rw [pre_zero, hBy.out]; exact hcn, hG1, HB1.out, fun j _ h => by omega⟩
  clear b1 hrow hG1 hcn HB1 HS HC0
  go_wp2
  go_loopw [28] (fun i wr => ∃ j : Nat, i = .int .i64 j ∧ Hid (TI d es (n + byP d ((k, nm, 0, by', ks, es) : Itm d)) q w wr ob j)) (fun i _ => es.length - (intOf i).toNat)
  case atStart => exact ⟨0, rfl, H0⟩
  case round =>
    clear H0 y9
    obtain ⟨j, rfl, hTI⟩ := hrel
    obtain ⟨hj, hple, hcnt, hgr, hbox, hgood⟩ := hTI.out
    clear hgood
    by_cases hlt : j < es.length
    · have hlt' : (j : Int) < (es.length : Int) := by omega
      have hag := agreeE_grown hgr hNq hq
      have hcell : ∃ b off c, ea = some ⟨b, off, none⟩ ∧ Five wr b (off + j * 5) c ∧ VSeg (fun b => b < N) wr d c (es[j]) := by
        obtain ⟨a', cap', e1, _, _, _, h5⟩ := HL.out
        simp only [Value.slice.injEq] at e1
        obtain ⟨rfl, _, _⟩ := e1
        rcases h5 with h0 | ⟨b, off, rfl, hR, hcc⟩
        · rw [h0] at hlt; simp at hlt
        · obtain ⟨c, h5, hv⟩ := hcc j hlt
          exact ⟨b, off, c, rfl, h5.agree hag hR, VSeg.agree hag d hv⟩
      obtain ⟨b, off, c, rfl, h5', hv⟩ := hcell
      obtain ⟨c0, c1, c2, c3, c4⟩ := c
      obtain ⟨q0, q1, q2, q3, q4⟩ := h5'
      simp only at q0 q1 q2 q3 q4
      have hs := hgr.size
      obtain ⟨ck, cn, s2, l2', e2, s3, l3', e3, s4, l4', e4, rfl, rfl, rfl, rfl, rfl⟩ := VSeg.form d hv
      have hgW := World.grownBy_alloc wr (.cells #[.int .i64 ck, .int .i64 cn, .slice s2 l2' e2, .slice s3 l3' e3, .slice s4 l4' e4] 40) none
      have HC := hide' (takes_any d N q (n + byP d ((k, nm, 0, by', ks, es) : Itm d) + pre (partsE d) es j) _ es[j] 1 _ (VSeg.agree (fun b hb => hgW.block b (by omega) (by simp)) d hv) hNq (by simp; omega) (hcnt.keep hgW (by simp)) ((HT.out.agree hag hgN).below ((Below.refl _ _).alloc (Nat.le_refl _) _)) hgN hple (by omega))
      have HgW := hide' (grownE_fresh hgr hgW (by simp))
      have HboxW : Hid ((wr.alloc (.cells #[.int .i64 ck, .int .i64 cn, .slice s2 l2' e2, .slice s3 l3' e3, .slice s4 l4' e4] 40)).heap[w.heap.size]? = some ob) := (hgW.block _ (Array.getElem?_eq_some_iff.1 hbox).1 (by simp)).trans hbox
      have HltW := hide' (Array.getElem?_eq_some_iff.1 HboxW.out).1
      clear hv hag hgr hgW hbox hcnt
      go_wp2_with fail
      refine HC.out.mono ?_
      rintro e w3 ⟨hg3, hcase3⟩
      clear q0 q1 q2 q3 q4
      have HG3 := hide' (grownE_trans HgW.out hg3)
      have HB3 : Hid (w3.heap[w.heap.size]? = some ob) := (hg3.block _ HltW.out (by simp; omega)).trans HboxW.out
      have hps := hide' (pre_succ (partsE d) es j hlt)
      rcases hcase3 with ⟨rfl, hgd, hpl, hcn⟩ | ⟨rfl, hbad⟩
      · have HN : Hid (TI d es (n + byP d ((k, nm, 0, by', ks, es) : Itm d)) q w w3 ob (j + 1)) := by
          refine ⟨hlt, by rw [hps.out]; omega, by rw [hps.out, ← Nat.add_assoc]; exact hcn, HG3.out, HB3.out, fun i hi hij => ?_⟩
          by_cases e : i = j
          · subst e; exact hgd
          · exact hTI.out.2.2.2.2.2 i hi (by omega)
        clear hg3 hgd hpl hcn
        go_wp2
        go_roundw
        case rel => exact ⟨j + 1, by go_num, HN⟩
        case measure => simp [intOf]; omega
      · have HF := hide' (ti_no (it := ((k, nm, 0, by', ks, es) : Itm d)) (n := n) hlt hbad)
        clear hg3 hbad
        go_wp2
        go_ret
        exact ⟨HG3.out, .inr ⟨rfl, HF.out⟩⟩
    · have hjn : j = es.length := by omega
      have hlt' : ¬ (j : Int) < (es.length : Int) := by omega
      have HF : Hid (TIEnd d ((k, nm, 0, by', ks, es) : Itm d) n q w (.returned (.bool true)) wr) := ti_end (it := ((k, nm, 0, by', ks, es) : Itm d)) (by show TI d es _ q w wr ob es.length; rw [← hjn]; exact hTI.out) HOk.out
      clear hjn
      go_wp2
      go_ret
      exact HF.out

theorem takesItem_any (d N q n : Nat) (cs : List Value) (it : Itm d) (w : World) (h : ISeg (fun b => b < N) w d cs it) (hNq : N ≤ q) (hq : q < w.heap.size) (hc : ECnt w q n) (hT : ShpT w) (hgN : 0 < N) (hn : n ≤ 150) :
    Calls Tryd.prog 22 #[.pointer (some ⟨q, 0, none⟩), .agg cs.toArray] w (TIEnd d it n q w) := by
  obtain ⟨k, nm, mn, by', ks, es⟩ := it
  by_cases hm : mn = 0
  · subst hm
    exact takesItem_none d N q n cs k nm by' ks es w h hNq hq hc hT hgN hn
  · exact takesItem_some d N q n cs k nm mn by' ks es w h hNq hq hc hT hgN hn hm
end Go.Proofs.YthkbapkndmlpfaaDoor
/-
  szItemS: a list of items is not too great.
-/
namespace Go.Proofs.YthkbapkndmlpfaaDoor
open Go.RowKit
set_option linter.unusedVariables false
set_option linter.unusedSimpArgs false

theorem info_laws_item {n : Nat} (h : n = 10) : (Tryd.prog.info? 35).map (·.size) = some n := by rw [h]; kernel_rfl
theorem info_item {n : Nat} (h : n = 10) : (Tryd.prog.info? 42).map (·.size) = some n := by rw [h]; kernel_rfl

/-- What szItemS leaves. -/
def SzIEnd (d : Nat) (l : List (Itm d)) (w : World) (e : Ending) (w' : World) : Prop := (e = .returned (.int .i64 (-1)) ∨ ∃ n : Int, 0 ≤ n ∧ n ≤ 1048576 ∧ e = .returned (.int .i64 n) ∧ l.length ≤ 1048576 ∧ ∀ i (h : i < l.length), ISz d l[i]) ∧ Below w.heap.size w w'

set_option maxHeartbeats 3200000 in
set_option maxRecDepth 100000 in
theorem szItemS_any (d N : Nat) (x : Value) (l : List (Itm d)) (w : World) (hx : ILSeg (fun b => b < N) w d x l) (hN : N ≤ w.heap.size) :
    Calls Tryd.prog 5 #[x, .int .i64 1048576] w (SzIEnd d l w) := by
  have HX := hide' hx
  obtain ⟨a, cap, rfl, hlc, hcm, _, _⟩ := hx
  unfold maxLen at hcm
  by_cases hl : (1048576 : Int) - (l.length : Int) < 0
  · go_enter Tryd.func5, Tryd.ntmps5
    go_wp2
    go_ret
    exact ⟨.inl rfl, Below.refl _ _⟩
  have hll : l.length ≤ 1048576 := by omega
  go_enter Tryd.func5, Tryd.ntmps5
  go_wp2
  go_loopw [1, 5] (fun n i wr => ∃ (k : Nat) (m : Int), k ≤ l.length ∧ n = .int .i64 m ∧ 0 ≤ m ∧ m ≤ 1048576 ∧ i = .int .i64 k ∧ Below w.heap.size w wr ∧ Hid (∀ j (h : j < l.length), j < k → ISz d l[j])) (fun _ i _ => l.length - (intOf i).toNat)
  case atStart => exact ⟨0, _, Nat.zero_le _, rfl, by omega, by omega, rfl, Below.refl _ _, fun j h h' => by omega⟩
  case round =>
    obtain ⟨k, m, hk, rfl, hm0, hm1, rfl, hbel, hall⟩ := hrel
    have hz := hbel.size
    by_cases hlt : k < l.length
    · have hlt' : (k : Int) < (l.length : Int) := by omega
      have hXr := HX.out.agree (agree_below (hbel.mono hN))
      obtain ⟨b, off, cs, rfl, hbN, hr, hs⟩ := hXr.at hlt
      have HC := hide' (szItem_any d N cs l[k] m wr hs (by omega) hm0 hm1)
      have hlen := hs.len
      clear hs hXr
      go_wp2_with (refine wpList_load_mid rfl 35 (.tmp 20) (by rfl) b (off + k * 10) (by rfl) cs _ hr Tryd.underlying35 rfl (info_laws_item hlen) ?_)
      refine HC.out.mono ?_
      rintro e w1 ⟨hcase, b1⟩
      have B1 := Below.on hbel b1
      clear hr b1
      rcases hcase with rfl | ⟨q, hq0, hq1, rfl, hI⟩
      · go_wp2
        go_ret
        exact ⟨.inl rfl, B1⟩
      · have HA : Hid (∀ j (h : j < l.length), j < k + 1 → ISz d l[j]) := fun j h h' => by
          by_cases e : j = k
          · subst e; exact hI
          · exact hall.out j h (by omega)
        clear hI hall
        go_wp2
        go_roundw
        case rel => exact ⟨k + 1, q, by omega, rfl, hq0, by omega, by go_num, B1, HA⟩
        case measure => simp [intOf]; omega
    · have hlt' : ¬ (k : Int) < (l.length : Int) := by omega
      have HA : Hid (∀ j (h : j < l.length), ISz d l[j]) := fun j h => hall.out j h (by omega)
      clear hall
      go_wp2
      go_ret
      exact ⟨.inr ⟨m, hm0, hm1, rfl, hll, HA.out⟩, hbel⟩
end Go.Proofs.YthkbapkndmlpfaaDoor
