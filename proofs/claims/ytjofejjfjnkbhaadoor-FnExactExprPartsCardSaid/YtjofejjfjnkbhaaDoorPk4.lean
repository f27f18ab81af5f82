/-
  Texts that a law leans on, one behind the other; no statement is proved here.
-/
import Derived.Test.YtjofejjfjnkbhaaDoorPk3
import Derived.Deep.Light
/-
  takes of the program: it counts the parts of an expression, and answers whether all may be: 'goodE'.
-/
namespace Go.Proofs.YtjofejjfjnkbhaaDoor
open Go.RowKit
set_option linter.unusedVariables false
set_option linter.unusedSimpArgs false

theorem grownE_fresh {w w1 w2 : World} {r r' : Option Nat} (h : w.grownBy w1 r) (k : w1.grownBy w2 r') (hr : ∀ j, r' = some j → w.heap.size ≤ j) : w.grownBy w2 r :=
  ⟨k.os.trans h.os, k.tape.trans h.tape, k.output.trans h.output, Nat.le_trans h.size k.size, fun i hi hne => (k.block i (Nat.lt_of_lt_of_le hi h.size) (fun e => by have := hr i e.symm; omega)).trans (h.block i hi hne)⟩
theorem grownE_trans {w w1 w2 : World} {r : Option Nat} (h : w.grownBy w1 r) (k : w1.grownBy w2 r) : w.grownBy w2 r :=
  ⟨k.os.trans h.os, k.tape.trans h.tape, k.output.trans h.output, Nat.le_trans h.size k.size, fun i hi hne => (k.block i (Nat.lt_of_lt_of_le hi h.size) hne).trans (h.block i hi hne)⟩
theorem belowE_grown {w w' : World} (h : Below w.heap.size w w') (r : Option Nat) : w.grownBy w' r := ⟨h.os, h.tape, h.output, h.size, fun k hk _ => h.block k hk⟩
theorem agreeE_grown {N q : Nat} {w w' : World} (h : w.grownBy w' (some q)) (hN : N ≤ q) (hq : q < w.heap.size) : Agree (fun b => b < N) w w' := fun b hb => h.block b (by omega) (by simp; omega)

/-- The counter of a tally. -/
def ECnt (w : World) (q : Nat) (n : Nat) : Prop := w.heap[q]? = some (.cells #[.int .i64 n] 48 (0, 0))

theorem ECnt.cell {w : World} {q n : Nat} (h : ECnt w q n) : w.cell? ⟨q, 0, none⟩ = some (.int .i64 n) ∧ w.frozen? ⟨q, 0, none⟩ = false := by
  refine ⟨?_, frozen_of_row w q 0 _ _ h⟩
  rw [cell_of_row w q 0 _ _ (0, 0) h]
  rfl
theorem ECnt.set {w : World} {q n : Nat} (h : ECnt w q n) (m : Nat) : ECnt (w.setCell ⟨q, 0, none⟩ (.int .i64 m)) q m := heap_setCell_same w q 0 _ _ _ h
theorem ECnt.keep {w w' : World} {q n : Nat} {r : Option Nat} (h : ECnt w q n) (hg : w.grownBy w' r) (hr : some q ≠ r) : ECnt w' q n :=
  (hg.block q (Array.getElem?_eq_some_iff.1 h).1 hr).trans h

/-- The contract of takes at depth d. -/
def ETkAt (d : Nat) : Prop := ∀ (N q n : Nat) (c : Value × Value × Value × Value × Value) (v : Vl d) (deep : Nat) (w : World), VSeg (fun b => b < N) w d c v → N ≤ q → q < w.heap.size → ECnt w q n → ShpT w → 0 < N → n ≤ 150 → deep ≤ 11 →
  Calls Tryd.prog 24 #[.pointer (some ⟨q, 0, none⟩), .agg #[c.1, c.2.1, c.2.2.1, c.2.2.2.1, c.2.2.2.2], .int .i64 deep] w fun e w' =>
    w.grownBy w' (some q) ∧ ((e = .returned (.bool true) ∧ goodE d v deep = true ∧ n + partsE d v ≤ 150 ∧ ECnt w' q (n + partsE d v)) ∨ (e = .returned (.bool false) ∧ ¬ (goodE d v deep = true ∧ n + partsE d v ≤ 150)))

/-- What takes has done ahead of the kids: its counter has one more, its argument lies in a box. -/
def EAhead (w : World) (q n : Nat) (o : Obj) (w2 : World) : Prop :=
  w.grownBy w2 (some q) ∧ ECnt w2 q (n + 1) ∧ w2.heap[w.heap.size]? = some o

theorem eahead_of {w : World} {q n : Nat} {o : Obj} {w2 : World} {x : Int} (hx : x = (n : Int) + 1) (hq : q < w.heap.size) (hc : ECnt w q n)
    (hb : Below ((w.setCell ⟨q, 0, none⟩ (.int .i64 x)).alloc o).heap.size ((w.setCell ⟨q, 0, none⟩ (.int .i64 x)).alloc o) w2) :
    EAhead w q n o w2 := by
  subst hx
  have hg := grown1 w q 0 (.int .i64 ((n : Int) + 1))
  have hcs : ECnt (w.setCell ⟨q, 0, none⟩ (.int .i64 ((n : Int) + 1))) q (n + 1) := hc.set (n + 1)
  have hsz : (w.setCell ⟨q, 0, none⟩ (.int .i64 ((n : Int) + 1))).heap.size = w.heap.size := by simp [World.setCell]
  have hal := World.grownBy_alloc (w.setCell ⟨q, 0, none⟩ (.int .i64 ((n : Int) + 1))) o none
  have hb2 := belowE_grown hb none
  have hnew := (MapKept.heap_alloc (w.setCell ⟨q, 0, none⟩ (.int .i64 ((n : Int) + 1))) o).1
  rw [hsz] at hnew
  refine ⟨grownE_fresh (grownE_fresh hg hal (by simp)) hb2 (by simp), (hcs.keep hal (by simp)).keep hb2 (by simp), (hb2.block w.heap.size (by simp [hsz]) (by simp)).trans hnew⟩

set_option maxHeartbeats 4000000 in
set_option maxRecDepth 100000 in
theorem takes_over (q n : Nat) (vk vn : Int) (a2 a3 a4 : Option Addr) (l2 l3 l4 p2 p3 p4 : Nat) (deep : Nat) (w : World) (hq : q < w.heap.size) (hc : ECnt w q n) (hn : n ≤ 150) (hd : deep ≤ 11) (h : n = 150 ∨ 10 < deep) :
    Calls Tryd.prog 24 #[.pointer (some ⟨q, 0, none⟩), .agg #[.int .i64 vk, .int .i64 vn, .slice a2 l2 p2, .slice a3 l3 p3, .slice a4 l4 p4], .int .i64 deep] w fun e w' => w.grownBy w' (some q) ∧ e = .returned (.bool false) := by
  have HA : Hid (ECnt w q n) := hc
  obtain ⟨hc0, hf0⟩ := hc.cell
  have hne : q ≠ w.heap.size := by omega
  clear hc
  by_cases hn1 : n = 150
  · subst hn1
    go_enter Tryd.func24, Tryd.ntmps24
    go_wp2
    go_ret
    exact ⟨(eahead_of (n := 150) rfl hq HA.out (Below.refl _ _)).1, rfl⟩
  · have hnn : ¬ (150 : Int) < (n : Int) + 1 := by omega
    have hdd : (10 : Int) < (deep : Int) := by omega
    go_enter Tryd.func24, Tryd.ntmps24
    go_wp2
    go_ret
    exact ⟨(eahead_of rfl hq HA.out (Below.refl _ _)).1, rfl⟩

/-- What holds ahead of the round k of takes. -/
def TK (d : Nat) (vL : List (Vl d)) (deep n q : Nat) (w wr : World) (o : Obj) (k : Nat) : Prop :=
  k ≤ vL.length ∧ n + 1 + pre (partsE d) vL k ≤ 150 ∧ ECnt wr q (n + 1 + pre (partsE d) vL k) ∧ w.grownBy wr (some q) ∧ wr.heap[w.heap.size]? = some o ∧ ∀ j (h : j < vL.length), j < k → goodE d vL[j] (deep + 1) = true

set_option maxHeartbeats 8000000 in
set_option maxRecDepth 100000 in
theorem takes_succ (d : Nat) (ih : ETkAt d) : ETkAt (d + 1) := by
  intro N q n c v deep w hv hNq hq hc hT hgN hn hd
  obtain ⟨c0, c1, c2, c3, c4⟩ := c
  obtain ⟨vk, vn, vs, vK, vL⟩ := v
  obtain ⟨e0, e1, ht, hk, hl⟩ := (VSeg_succ _ _ _ _ _).1 hv
  simp only at e0 e1 ht hk hl
  subst e0
  subst e1
  clear hv
  simp only
  have HK := hide' hk
  have HL := hide' hl
  obtain ⟨a2, p2, rfl, s2, l2, m2, _, r2⟩ := ht
  obtain ⟨a3, p3, rfl, _, _, _, _⟩ := hk
  obtain ⟨a4, p4, rfl, hlc4, hcm4, _, _⟩ := hl
  by_cases h0 : n = 150 ∨ 10 < deep
  · refine (takes_over q n vk vn a2 a3 a4 _ _ _ p2 p3 p4 deep w hq hc hn hd h0).mono ?_
    rintro e w1 ⟨hg, rfl⟩
    refine ⟨hg, .inr ⟨rfl, ?_⟩⟩
    rintro ⟨h1, h2⟩
    have := ((goodE_succ _ _ _ _ _ _ _).1 h1).1
    have := partsE_pos d (vk, vn, vs, vK, vL)
    omega
  have hn1 : n < 150 := by omega
  have hd1 : deep ≤ 10 := by omega
  -- what shaped answers, in a world in which the counter has turned
  have HSh : Hid (∀ wx, Agree (fun b => b < N) w wx → w.heap.size ≤ wx.heap.size → Calls Tryd.prog 39 #[.agg #[.int .i64 vk, .int .i64 vn, .slice a2 vs.length p2, .slice a3 vK.length p3, .slice a4 vL.length p4]] wx fun e w' => e = .returned (.bool (shpB vk vn vs vK vL.length)) ∧ Below wx.heap.size wx w') := by
    intro wx ha hsz
    by_cases hr : vk < 0 ∨ 23 < vk
    · refine (shaped_out vk vn _ _ _ wx hr).mono ?_
      rintro e w' ⟨rfl, hb⟩
      refine ⟨ret_bool ?_, hb⟩
      rcases hr with hr | hr
      · have h1 : ¬ (0 : Int) ≤ vk := by omega
        simp [shpB, h1]
      · have h1 : ¬ vk ≤ 23 := by omega
        simp [shpB, h1]
    · obtain ⟨k, rfl⟩ : ∃ k : Nat, vk = k := ⟨vk.toNat, by omega⟩
      have hs : Seg wx a2 vs := by
        refine ⟨s2.1, ?_⟩
        rcases s2.2 with h0 | ⟨b, off, rfl, hcc⟩
        · exact .inl h0
        · by_cases he : vs = []
          · exact .inl he
          · exact .inr ⟨b, off, rfl, fun i hi => (cell_agree ha (r2 _ rfl he)).trans (hcc i hi)⟩
      exact shaped_in (fun _ => True) k (by omega) vn a2 a3 a4 p2 p3 p4 vL.length vs vK wx (hT.agree ha hgN) hs (by omega) ((HK.out.agree ha).mono (fun b hb => by omega)) (by omega)
  have HA : Hid (ECnt w q n) := hc
  obtain ⟨hc0, hf0⟩ := hc.cell
  have hne : q ≠ w.heap.size := by omega
  have hnn : ¬ (150 : Int) < (n : Int) + 1 := by omega
  have hdd : ¬ (10 : Int) < (deep : Int) := by omega
  have HAg : Hid (∀ (x : Int) (o : Obj), Agree (fun b => b < N) w ((w.setCell ⟨q, 0, none⟩ (.int .i64 x)).alloc o) ∧ w.heap.size ≤ ((w.setCell ⟨q, 0, none⟩ (.int .i64 x)).alloc o).heap.size) := by
    intro x o
    have hg := grownE_fresh (grown1 w q 0 (.int .i64 x)) (World.grownBy_alloc (w.setCell ⟨q, 0, none⟩ (.int .i64 x)) o none) (by simp)
    exact ⟨agreeE_grown hg hNq hq, hg.size⟩
  have HT := hide' hT
  have HI := hide' ih
  have Hd1 := hide' hd1
  clear hc hT ih s2
  cases hb : shpB vk vn vs vK vL.length with
  | false =>
    have HF : Hid (¬ (goodE (d + 1) (vk, vn, vs, vK, vL) deep = true ∧ n + partsE (d + 1) (vk, vn, vs, vK, vL) ≤ 150)) := fun ⟨h1, _⟩ => by
      have := ((goodE_succ _ _ _ _ _ _ _).1 h1).2.1
      rw [hb] at this
      simp at this
    rw [hb] at HSh
    clear hb
    go_enter Tryd.func24, Tryd.ntmps24
    go_wp2_with fail
    refine (HSh.out _ (HAg.out _ _).1 (HAg.out _ _).2).mono ?_
    rintro e w2 ⟨rfl, b2⟩
    have hA := hide' (eahead_of rfl hq HA.out b2)
    clear b2
    go_wp2
    go_ret
    exact ⟨hA.out.1, .inr ⟨rfl, HF.out⟩⟩
  | true =>
    rw [hb] at HSh
    have Hshp := hide' hb
    clear hb
    obtain ⟨ob, HOb⟩ : ∃ ob, Hid (ob = Obj.cells #[.int .i64 vk, .int .i64 vn, .slice a2 vs.length p2, .slice a3 vK.length p3, .slice a4 vL.length p4] 31) := ⟨_, rfl⟩
    unfold maxLen at hcm4
    go_enter Tryd.func24, Tryd.ntmps24
    go_wp2_with fail
    refine (HSh.out _ (HAg.out _ _).1 (HAg.out _ _).2).mono ?_
    rintro e w2 ⟨rfl, b2⟩
    have hA := eahead_of rfl hq HA.out b2
    have hrow := hA.2.2
    obtain ⟨y0, y1, y2, y3, y4, _⟩ := row5 hrow
    rw [← HOb.out] at hA
    have H0 : Hid (TK d vL deep n q w w2 ob 0) := ⟨Nat.zero_le _, by rw [pre_zero]; omega, by rw [pre_zero]; exact hA.2.1, hA.1, hA.2.2, fun j _ h => by omega⟩
    clear b2 hA hrow HSh HAg
    go_wp2
    go_loopw [33] (fun i wr => ∃ k : Nat, i = .int .i64 k ∧ TK d vL deep n q w wr ob k) (fun i _ => vL.length - (intOf i).toNat)
    case atStart => exact ⟨0, rfl, H0.out⟩
    case round =>
      clear y0 y1 y2 y3 y4 H0
      obtain ⟨k, rfl, hT⟩ := hrel
      have HTk := hide' hT
      obtain ⟨hk, hple, hcnt, hgr, hbox, hgood⟩ := hT
      clear hgood
      by_cases hlt : k < vL.length
      · have hlt' : (k : Int) < (vL.length : Int) := by omega
        have hag := agreeE_grown hgr hNq hq
        have hcell : ∃ b off c, a4 = some ⟨b, off, none⟩ ∧ Five wr b (off + k * 5) c ∧ VSeg (fun b => b < N) wr d c (vL[k]) := by
          obtain ⟨a', cap', e1, _, _, _, h5⟩ := HL.out
          simp only [Value.slice.injEq] at e1
          obtain ⟨rfl, _, _⟩ := e1
          rcases h5 with h0 | ⟨b, off, rfl, hR, hcc⟩
          · rw [h0] at hlt; simp at hlt
          · obtain ⟨c, h5, hv⟩ := hcc k hlt
            exact ⟨b, off, c, rfl, h5.agree hag hR, VSeg.agree hag d hv⟩
        obtain ⟨b, off, c, rfl, h5', hv⟩ := hcell
        obtain ⟨c0, c1, c2, c3, c4⟩ := c
        obtain ⟨q0, q1, q2, q3, q4⟩ := h5'
        simp only at q0 q1 q2 q3 q4
        have hs := hgr.size
        obtain ⟨ck, cn, s2, l2', e2, s3, l3, e3, s4, l4, e4, rfl, rfl, rfl, rfl, rfl⟩ := VSeg.form d hv
        have hgW := World.grownBy_alloc wr (.cells #[.int .i64 ck, .int .i64 cn, .slice s2 l2' e2, .slice s3 l3 e3, .slice s4 l4 e4] 31) none
        have hC := HI.out N q (n + 1 + pre (partsE d) vL k) _ vL[k] (deep + 1) _ (VSeg.agree (fun b hb => hgW.block b (by omega) (by simp)) d hv) hNq (by simp; omega) (hcnt.keep hgW (by simp)) ((HT.out.agree hag hgN).below ((Below.refl _ _).alloc (Nat.le_refl _) _)) hgN hple (by have := Hd1.out; omega)
        rw [Int.natCast_add] at hC
        have HC := hide' hC
        have HgW := hide' (grownE_fresh hgr hgW (by simp))
        have hszW : wr.heap.size < (wr.alloc (.cells #[.int .i64 ck, .int .i64 cn, .slice s2 l2' e2, .slice s3 l3 e3, .slice s4 l4 e4] 31)).heap.size := by simp
        have HboxW : Hid ((wr.alloc (.cells #[.int .i64 ck, .int .i64 cn, .slice s2 l2' e2, .slice s3 l3 e3, .slice s4 l4 e4] 31)).heap[w.heap.size]? = some ob) := (hgW.block _ (Array.getElem?_eq_some_iff.1 hbox).1 (by simp)).trans hbox
        have hltb := (Array.getElem?_eq_some_iff.1 hbox).1
        have HszW := hide' hszW
        clear hv hag hgr hC hgW hbox hcnt hszW
        go_wp2_with fail
        refine HC.out.mono ?_
        rintro e w1 ⟨hg1, hcase⟩
        clear q0 q1 q2 q3 q4
        have HG1 := hide' (grownE_trans HgW.out hg1)
        have HB1 : Hid (w1.heap[w.heap.size]? = some ob) := (hg1.block _ (by have := HszW.out; omega) (by simp; omega)).trans HboxW.out
        have hps := hide' (pre_succ (partsE d) vL k hlt)
        rcases hcase with ⟨rfl, hgd, hpl, hcn⟩ | ⟨rfl, hbad⟩
        · have HN : Hid (TK d vL deep n q w w1 ob (k + 1)) := by
            refine ⟨hlt, by rw [hps.out]; omega, by rw [hps.out, ← Nat.add_assoc]; exact hcn, HG1.out, HB1.out, fun j hj hjk => ?_⟩
            by_cases e : j = k
            · subst e; exact hgd
            · exact HTk.out.2.2.2.2.2 j hj (by omega)
          clear hg1 hgd hpl hcn
          go_wp2
          go_roundw
          case rel => exact ⟨k + 1, by go_num, HN.out⟩
          case measure => simp [intOf]; omega
        · have HF : Hid (¬ (goodE (d + 1) (vk, vn, vs, vK, vL) deep = true ∧ n + partsE (d + 1) (vk, vn, vs, vK, vL) ≤ 150)) := fun ⟨h1, h2⟩ => by
            refine hbad ⟨((goodE_succ _ _ _ _ _ _ _).1 h1).2.2 k hlt, ?_⟩
            rw [partsE_succ] at h2
            have h4 := pre_le (partsE d) vL (k + 1)
            have h5 := pre_all (partsE d) vL
            have h6 := hps.out
            omega
          clear hg1 hbad
          go_wp2
          go_ret
          exact ⟨HG1.out, .inr ⟨rfl, HF.out⟩⟩
      · have hkn : k = vL.length := by omega
        have hlt' : ¬ (k : Int) < (vL.length : Int) := by omega
        have HF : Hid (goodE (d + 1) (vk, vn, vs, vK, vL) deep = true ∧ n + partsE (d + 1) (vk, vn, vs, vK, vL) ≤ 150 ∧ ECnt wr q (n + partsE (d + 1) (vk, vn, vs, vK, vL))) := by
          have hp := partsE_succ d vk vn vs vK vL
          obtain ⟨_, g2, g3, _, _, g6⟩ := HTk.out
          rw [hkn] at g2 g3
          refine ⟨(goodE_succ _ _ _ _ _ _ _).2 ⟨Hd1.out, Hshp.out, fun j h => g6 j h (by omega)⟩, by rw [hp]; omega, ?_⟩
          rw [hp, ← Nat.add_assoc]
          exact g3
        have HG := hide' hgr
        clear hkn hgr hcnt hbox
        go_wp2
        go_ret
        exact ⟨HG.out, .inl ⟨rfl, HF.out⟩⟩

theorem takes_any (d : Nat) : ETkAt d := by
  induction d with
  | zero => intro N q n c v deep w hv; exact hv.elim
  | succ d ih => exact takes_succ d ih

set_option maxHeartbeats 1600000 in
theorem impl_ExprOk_any (d N : Nat) (c0 c1 c2 c3 c4 : Value) (v : Vl d) (w : World) (hv : VSeg (fun b => b < N) w d (c0, c1, c2, c3, c4) v) (hN : N ≤ w.heap.size) (hT : ShpT w) (hgN : 0 < N) :
    Calls Tryd.prog 30 #[.agg #[c0, c1, c2, c3, c4]] w fun e w' => e = .returned (.bool (exprB d v)) ∧ Below w.heap.size w w' := by
  have b0 : ∀ o o' : Obj, Below w.heap.size w ((w.alloc o).alloc o') := fun o o' => ((Below.refl _ _).alloc (Nat.le_refl _) o).alloc (by simp) o'
  have HC : Hid (∀ o : Obj, Calls Tryd.prog 24 #[.pointer (some ⟨w.heap.size + 1, 0, none⟩), .agg #[c0, c1, c2, c3, c4], .int .i64 1] ((w.alloc o).alloc (.cells #[.int .i64 0] 48)) fun e w' =>
      ((w.alloc o).alloc (.cells #[.int .i64 0] 48)).grownBy w' (some (w.heap.size + 1)) ∧ ((e = .returned (.bool true) ∧ goodE d v 1 = true ∧ 0 + partsE d v ≤ 150 ∧ ECnt w' (w.heap.size + 1) (0 + partsE d v)) ∨ (e = .returned (.bool false) ∧ ¬ (goodE d v 1 = true ∧ 0 + partsE d v ≤ 150)))) := fun o =>
    takes_any d N (w.heap.size + 1) 0 (c0, c1, c2, c3, c4) v 1 ((w.alloc o).alloc (.cells #[.int .i64 0] 48)) (VSeg.agree (agree_below ((b0 o _).mono hN)) d hv) (by omega) (by rw [size2]; omega) (two_boxes w o _).2 (hT.below (b0 o _)) hgN (by omega) (by omega)
  have Hb := hide' b0
  have hsz := fun o o' => size2 w o o'
  have Hsz := hide' hsz
  clear b0 hsz hT
  go_enter Tryd.func30, Tryd.ntmps30
  go_wp2_with fail
  refine (HC.out _).mono ?_
  rintro e w1 ⟨hg1, hcase⟩
  have hB1 := (Hb.out _ _).grown hg1 (by rw [Hsz.out]; omega) (by intro j hj; simp at hj; omega)
  rcases hcase with ⟨rfl, h1, h2, h3⟩ | ⟨rfl, hno⟩
  · have hE : Hid (exprB d v = true) := by
      show exprB d v = true
      simp [exprB, h1]
      omega
    clear h1 h2 h3 hg1
    go_wp2
    go_ret
    exact ⟨ret_bool hE.out.symm, hB1⟩
  · have hE : Hid (exprB d v = false) := by
      show exprB d v = false
      cases h : exprB d v with
      | false => rfl
      | true => simp [exprB] at h; exact absurd ⟨h.1, by omega⟩ hno
    clear hno hg1
    go_wp2
    go_ret
    exact ⟨ret_bool hE.out.symm, hB1⟩
end Go.Proofs.YtjofejjfjnkbhaaDoor
/-
  l6arity of the specification; l6expr where something is wrong ahead of the kids.
-/
namespace Go.Proofs.YtjofejjfjnkbhaaDoor
open Go.RowKit
set_option linter.unusedVariables false
set_option linter.unusedSimpArgs false

set_option maxHeartbeats 1600000 in
theorem l6arity_any (k : Int) (w : World) :
    Calls Tryd.prog 45 #[.int .i64 k] w fun e w' => e = .returned (.int .i64 (arI k)) ∧ w = w' := by
  go_enter Tryd.func45, Tryd.ntmps45
  go_wp2
  all_goals first
    | (exfalso; simp_all; done)
    | (go_ret; refine ⟨ret_i64 ?_, rfl⟩; simp_all [arI]; done)
    | (go_ret; refine ⟨ret_i64 ?_, rfl⟩; simp_all [arI]; omega)

/-- What is asked of one part ahead of its kids and of its keys' order. -/
def hdR (kb : Bool) (q m n : Int) (l3 l4 : Nat) (sb : Bool) : Bool :=
  (if kb then decide (l3 = l4) else decide (l3 = 0)) && (decide (q = -1) || decide (q = l4)) && decide (0 ≤ n) && decide (n ≤ m) && sb

set_option maxHeartbeats 4000000 in
set_option maxRecDepth 100000 in
theorem l6bad_other (k : Int) (k0 : 0 ≤ k) (k24 : k ≤ 23) (k1 : ¬ k = 1) (k2 : ¬ k = 2) (k3 : ¬ k = 3) (k4 : ¬ k = 4) (k5 : ¬ k = 5) (k6 : ¬ k = 6) (k7 : ¬ k = 7) (k8 : ¬ k = 8) (k23 : ¬ k = 23) (n : Int) (a2 a3 a4 : Option Addr) (p2 p3 p4 l2 l3 l4 : Nat) (deep : Nat) (left : Int) (w : World)
    (h1 : 1 ≤ left) (h2 : left ≤ 150) (h3 : deep ≤ 10) (hl2 : l2 ≤ maxLen) (hl3 : l3 ≤ maxLen) (hl4 : l4 ≤ maxLen) (hq : -1 ≤ arI k ∧ arI k ≤ 3) (hbad : hdR false (arI k) 0 n l3 l4 (decide (l2 = 0)) = false) :
    Calls Tryd.prog 38 #[.agg #[.int .i64 k, .int .i64 n, .slice a2 l2 p2, .slice a3 l3 p3, .slice a4 l4 p4], .int .i64 deep, .int .i64 left] w fun e w' => e = .returned (.int .i64 (-1)) ∧ Below w.heap.size w w' := by
  have b0 : ∀ o : Obj, Below w.heap.size w (w.alloc o) := fun o => (Below.refl _ _).alloc (Nat.le_refl _) o
  have Hb := hide' b0
  have HAr : Hid (∀ wx, Calls Tryd.prog 45 #[.int .i64 k] wx fun e w' => e = .returned (.int .i64 (arI k)) ∧ wx = w') := fun wx => l6arity_any k wx
  have Hbad := hide' hbad
  generalize arI k = q at *
  have d1 : ¬ left - 1 < 0 := by omega
  have d2 : ¬ (10 : Int) < (deep : Int) := by omega
  have d3 : ¬ k < 0 := by omega
  have d4 : ¬ (23 : Int) < k := by omega
  have e5 : (k == 5) = false := by simpa using k5
  have e5' : (k != 5) = true := by simpa using k5
  obtain ⟨q1, q2⟩ := hq
  unfold maxLen at hl2 hl3 hl4
  clear b0 hbad
  go_enter Tryd.func38, Tryd.ntmps38
  go_wp2_with (go_at_call 45; refine (HAr.out _).mono ?_; rintro e w1 ⟨rfl, e1⟩; obtain rfl := e1)
  all_goals first
    | (go_ret; exact ⟨rfl, Hb.out _⟩)
    | (exfalso; have hbad := Hbad.out; clear Hbad HAr Hb; go_light; simp [hdR] at hbad; simp_all <;> omega)
end Go.Proofs.YtjofejjfjnkbhaaDoor
/-
  l6expr of the specification where something is wrong ahead of the kids: -1.
-/
namespace Go.Proofs.YtjofejjfjnkbhaaDoor
open Go.RowKit
set_option linter.unusedVariables false
set_option linter.unusedSimpArgs false

set_option maxHeartbeats 4000000 in
set_option maxRecDepth 100000 in
theorem l6bad_c1 (n : Int) (a2 a3 a4 : Option Addr) (p2 p3 p4 l3 l4 : Nat) (vs : List Int) (deep : Nat) (left : Int) (w : World)
    (h1 : 1 ≤ left) (h2 : left ≤ 150) (h3 : deep ≤ 10) (s2 : Seg w a2 vs) (hl2 : vs.length ≤ maxLen) (hl3 : l3 ≤ maxLen) (hl4 : l4 ≤ maxLen) (hbad : hdR false (0) 1 n l3 l4 (decide (vs.length = 0)) = false) :
    Calls Tryd.prog 38 #[.agg #[.int .i64 1, .int .i64 n, .slice a2 vs.length p2, .slice a3 l3 p3, .slice a4 l4 p4], .int .i64 deep, .int .i64 left] w fun e w' => e = .returned (.int .i64 (-1)) ∧ Below w.heap.size w w' := by
  have b0 : ∀ o : Obj, Below w.heap.size w (w.alloc o) := fun o => (Below.refl _ _).alloc (Nat.le_refl _) o
  have Hb := hide' b0
  have HAr : Hid (∀ wx, Calls Tryd.prog 45 #[.int .i64 1] wx fun e w' => e = .returned (.int .i64 (0)) ∧ wx = w') := fun wx => l6arity_any 1 wx
  have Hbad := hide' hbad
  have d1 : ¬ left - 1 < 0 := by omega
  have d2 : ¬ (10 : Int) < (deep : Int) := by omega
  unfold maxLen at hl2 hl3 hl4
  clear b0 hbad s2
  go_enter Tryd.func38, Tryd.ntmps38
  go_wp2_with (first | (go_at_call 45; refine (HAr.out _).mono ?_; rintro e w1 ⟨rfl, e1⟩; obtain rfl := e1))
  all_goals first
    | (go_ret; exact ⟨rfl, Hb.out _⟩)
    | (exfalso; have hbad := Hbad.out; clear Hbad HAr Hb; go_light; simp [hdR] at hbad; simp_all <;> omega)

set_option maxHeartbeats 4000000 in
set_option maxRecDepth 100000 in
theorem l6bad_c2 (n : Int) (a2 a3 a4 : Option Addr) (p2 p3 p4 l3 l4 : Nat) (vs : List Int) (deep : Nat) (left : Int) (w : World)
    (h1 : 1 ≤ left) (h2 : left ≤ 150) (h3 : deep ≤ 10) (s2 : Seg w a2 vs) (hl2 : vs.length ≤ maxLen) (hl3 : l3 ≤ maxLen) (hl4 : l4 ≤ maxLen) (hbad : hdR false (0) 1000000000000 n l3 l4 (decide (vs.length = 0)) = false) :
    Calls Tryd.prog 38 #[.agg #[.int .i64 2, .int .i64 n, .slice a2 vs.length p2, .slice a3 l3 p3, .slice a4 l4 p4], .int .i64 deep, .int .i64 left] w fun e w' => e = .returned (.int .i64 (-1)) ∧ Below w.heap.size w w' := by
  have b0 : ∀ o : Obj, Below w.heap.size w (w.alloc o) := fun o => (Below.refl _ _).alloc (Nat.le_refl _) o
  have Hb := hide' b0
  have HAr : Hid (∀ wx, Calls Tryd.prog 45 #[.int .i64 2] wx fun e w' => e = .returned (.int .i64 (0)) ∧ wx = w') := fun wx => l6arity_any 2 wx
  have Hbad := hide' hbad
  have d1 : ¬ left - 1 < 0 := by omega
  have d2 : ¬ (10 : Int) < (deep : Int) := by omega
  unfold maxLen at hl2 hl3 hl4
  clear b0 hbad s2
  go_enter Tryd.func38, Tryd.ntmps38
  go_wp2_with (first | (go_at_call 45; refine (HAr.out _).mono ?_; rintro e w1 ⟨rfl, e1⟩; obtain rfl := e1))
  all_goals first
    | (go_ret; exact ⟨rfl, Hb.out _⟩)
    | (exfalso; have hbad := Hbad.out; clear Hbad HAr Hb; go_light; simp [hdR] at hbad; simp_all <;> omega)

set_option maxHeartbeats 4000000 in
set_option maxRecDepth 100000 in
theorem l6bad_c3 (n : Int) (a2 a3 a4 : Option Addr) (p2 p3 p4 l3 l4 : Nat) (vs : List Int) (deep : Nat) (left : Int) (w : World)
    (h1 : 1 ≤ left) (h2 : left ≤ 150) (h3 : deep ≤ 10) (s2 : Seg w a2 vs) (hl2 : vs.length ≤ maxLen) (hl3 : l3 ≤ maxLen) (hl4 : l4 ≤ maxLen) (hbad : hdR false (0) 0 n l3 l4 (textB vs) = false) :
    Calls Tryd.prog 38 #[.agg #[.int .i64 3, .int .i64 n, .slice a2 vs.length p2, .slice a3 l3 p3, .slice a4 l4 p4], .int .i64 deep, .int .i64 left] w fun e w' => e = .returned (.int .i64 (-1)) ∧ Below w.heap.size w w' := by
  have b0 : ∀ o : Obj, Below w.heap.size w (w.alloc o) := fun o => (Below.refl _ _).alloc (Nat.le_refl _) o
  have Hb := hide' b0
  have HAr : Hid (∀ wx, Calls Tryd.prog 45 #[.int .i64 3] wx fun e w' => e = .returned (.int .i64 (0)) ∧ wx = w') := fun wx => l6arity_any 3 wx
  have HS : Hid (∀ wx, Below w.heap.size w wx → Calls Tryd.prog 46 #[.slice a2 vs.length p2] wx fun e w' => e = .returned (.bool (textB vs)) ∧ wx = w') := fun wx hb => spec_l2text_any a2 p2 vs wx (s2.grow hb) hl2
  generalize textB vs = sb at *
  have Hbad := hide' hbad
  have d1 : ¬ left - 1 < 0 := by omega
  have d2 : ¬ (10 : Int) < (deep : Int) := by omega
  unfold maxLen at hl2 hl3 hl4
  clear b0 hbad s2
  cases sb
  all_goals
    go_enter Tryd.func38, Tryd.ntmps38
    go_wp2_with (first | (go_at_call 45; refine (HAr.out _).mono ?_; rintro e w1 ⟨rfl, e1⟩; obtain rfl := e1) | (go_at_call 46; refine (HS.out _ (Hb.out _)).mono ?_; rintro e w1 ⟨rfl, e1⟩; obtain rfl := e1))
    all_goals first
      | (go_ret; exact ⟨rfl, Hb.out _⟩)
      | (exfalso; have hbad := Hbad.out; clear Hbad HAr Hb; go_light; simp [hdR] at hbad; simp_all <;> omega)

set_option maxHeartbeats 4000000 in
set_option maxRecDepth 100000 in
theorem l6bad_c4 (n : Int) (a2 a3 a4 : Option Addr) (p2 p3 p4 l3 l4 : Nat) (vs : List Int) (deep : Nat) (left : Int) (w : World)
    (h1 : 1 ≤ left) (h2 : left ≤ 150) (h3 : deep ≤ 10) (s2 : Seg w a2 vs) (hl2 : vs.length ≤ maxLen) (hl3 : l3 ≤ maxLen) (hl4 : l4 ≤ maxLen) (hbad : hdR false (-1) 0 n l3 l4 (decide (vs.length = 0)) = false) :
    Calls Tryd.prog 38 #[.agg #[.int .i64 4, .int .i64 n, .slice a2 vs.length p2, .slice a3 l3 p3, .slice a4 l4 p4], .int .i64 deep, .int .i64 left] w fun e w' => e = .returned (.int .i64 (-1)) ∧ Below w.heap.size w w' := by
  have b0 : ∀ o : Obj, Below w.heap.size w (w.alloc o) := fun o => (Below.refl _ _).alloc (Nat.le_refl _) o
  have Hb := hide' b0
  have HAr : Hid (∀ wx, Calls Tryd.prog 45 #[.int .i64 4] wx fun e w' => e = .returned (.int .i64 (-1)) ∧ wx = w') := fun wx => l6arity_any 4 wx
  have Hbad := hide' hbad
  have d1 : ¬ left - 1 < 0 := by omega
  have d2 : ¬ (10 : Int) < (deep : Int) := by omega
  unfold maxLen at hl2 hl3 hl4
  clear b0 hbad s2
  go_enter Tryd.func38, Tryd.ntmps38
  go_wp2_with (first | (go_at_call 45; refine (HAr.out _).mono ?_; rintro e w1 ⟨rfl, e1⟩; obtain rfl := e1))
  all_goals first
    | (go_ret; exact ⟨rfl, Hb.out _⟩)
    | (exfalso; have hbad := Hbad.out; clear Hbad HAr Hb; go_light; simp [hdR] at hbad; simp_all <;> omega)

set_option maxHeartbeats 4000000 in
set_option maxRecDepth 100000 in
theorem l6bad_c5 (n : Int) (a2 a3 a4 : Option Addr) (p2 p3 p4 l3 l4 : Nat) (vs : List Int) (deep : Nat) (left : Int) (w : World)
    (h1 : 1 ≤ left) (h2 : left ≤ 150) (h3 : deep ≤ 10) (s2 : Seg w a2 vs) (hl2 : vs.length ≤ maxLen) (hl3 : l3 ≤ maxLen) (hl4 : l4 ≤ maxLen) (hbad : hdR true (-1) 0 n l3 l4 (decide (vs.length = 0)) = false) :
    Calls Tryd.prog 38 #[.agg #[.int .i64 5, .int .i64 n, .slice a2 vs.length p2, .slice a3 l3 p3, .slice a4 l4 p4], .int .i64 deep, .int .i64 left] w fun e w' => e = .returned (.int .i64 (-1)) ∧ Below w.heap.size w w' := by
  have b0 : ∀ o : Obj, Below w.heap.size w (w.alloc o) := fun o => (Below.refl _ _).alloc (Nat.le_refl _) o
  have Hb := hide' b0
  have HAr : Hid (∀ wx, Calls Tryd.prog 45 #[.int .i64 5] wx fun e w' => e = .returned (.int .i64 (-1)) ∧ wx = w') := fun wx => l6arity_any 5 wx
  have Hbad := hide' hbad
  have d1 : ¬ left - 1 < 0 := by omega
  have d2 : ¬ (10 : Int) < (deep : Int) := by omega
  unfold maxLen at hl2 hl3 hl4
  clear b0 hbad s2
  go_enter Tryd.func38, Tryd.ntmps38
  go_wp2_with (first | (go_at_call 45; refine (HAr.out _).mono ?_; rintro e w1 ⟨rfl, e1⟩; obtain rfl := e1))
  all_goals first
    | (go_ret; exact ⟨rfl, Hb.out _⟩)
    | (exfalso; have hbad := Hbad.out; clear Hbad HAr Hb; go_light; simp [hdR] at hbad; simp_all <;> omega)

set_option maxHeartbeats 4000000 in
set_option maxRecDepth 100000 in
theorem l6bad_c6 (n : Int) (a2 a3 a4 : Option Addr) (p2 p3 p4 l3 l4 : Nat) (vs : List Int) (deep : Nat) (left : Int) (w : World)
    (h1 : 1 ≤ left) (h2 : left ≤ 150) (h3 : deep ≤ 10) (s2 : Seg w a2 vs) (hl2 : vs.length ≤ maxLen) (hl3 : l3 ≤ maxLen) (hl4 : l4 ≤ maxLen) (hbad : hdR false (0) 0 n l3 l4 (nameB vs) = false) :
    Calls Tryd.prog 38 #[.agg #[.int .i64 6, .int .i64 n, .slice a2 vs.length p2, .slice a3 l3 p3, .slice a4 l4 p4], .int .i64 deep, .int .i64 left] w fun e w' => e = .returned (.int .i64 (-1)) ∧ Below w.heap.size w w' := by
  have b0 : ∀ o : Obj, Below w.heap.size w (w.alloc o) := fun o => (Below.refl _ _).alloc (Nat.le_refl _) o
  have Hb := hide' b0
  have HAr : Hid (∀ wx, Calls Tryd.prog 45 #[.int .i64 6] wx fun e w' => e = .returned (.int .i64 (0)) ∧ wx = w') := fun wx => l6arity_any 6 wx
  have HS : Hid (∀ wx, Below w.heap.size w wx → Calls Tryd.prog 27 #[.slice a2 vs.length p2] wx fun e w' => e = .returned (.bool (nameB vs)) ∧ wx = w') := fun wx hb => spec_NameOk_any a2 p2 vs wx (s2.grow hb) hl2
  generalize nameB vs = sb at *
  have Hbad := hide' hbad
  have d1 : ¬ left - 1 < 0 := by omega
  have d2 : ¬ (10 : Int) < (deep : Int) := by omega
  unfold maxLen at hl2 hl3 hl4
  clear b0 hbad s2
  cases sb
  all_goals
    go_enter Tryd.func38, Tryd.ntmps38
    go_wp2_with (first | (go_at_call 45; refine (HAr.out _).mono ?_; rintro e w1 ⟨rfl, e1⟩; obtain rfl := e1) | (go_at_call 27; refine (HS.out _ (Hb.out _)).mono ?_; rintro e w1 ⟨rfl, e1⟩; obtain rfl := e1))
    all_goals first
      | (go_ret; exact ⟨rfl, Hb.out _⟩)
      | (exfalso; have hbad := Hbad.out; clear Hbad HAr Hb; go_light; simp [hdR] at hbad; simp_all <;> omega)

set_option maxHeartbeats 4000000 in
set_option maxRecDepth 100000 in
theorem l6bad_c7 (n : Int) (a2 a3 a4 : Option Addr) (p2 p3 p4 l3 l4 : Nat) (vs : List Int) (deep : Nat) (left : Int) (w : World)
    (h1 : 1 ≤ left) (h2 : left ≤ 150) (h3 : deep ≤ 10) (s2 : Seg w a2 vs) (hl2 : vs.length ≤ maxLen) (hl3 : l3 ≤ maxLen) (hl4 : l4 ≤ maxLen) (hbad : hdR false (0) 0 n l3 l4 (wordB vs) = false) :
    Calls Tryd.prog 38 #[.agg #[.int .i64 7, .int .i64 n, .slice a2 vs.length p2, .slice a3 l3 p3, .slice a4 l4 p4], .int .i64 deep, .int .i64 left] w fun e w' => e = .returned (.int .i64 (-1)) ∧ Below w.heap.size w w' := by
  have b0 : ∀ o : Obj, Below w.heap.size w (w.alloc o) := fun o => (Below.refl _ _).alloc (Nat.le_refl _) o
  have Hb := hide' b0
  have HAr : Hid (∀ wx, Calls Tryd.prog 45 #[.int .i64 7] wx fun e w' => e = .returned (.int .i64 (0)) ∧ wx = w') := fun wx => l6arity_any 7 wx
  have HS : Hid (∀ wx, Below w.heap.size w wx → Calls Tryd.prog 48 #[.slice a2 vs.length p2] wx fun e w' => e = .returned (.bool (wordB vs)) ∧ Below wx.heap.size wx w') := fun wx hb => spec_l6free_any a2 p2 vs wx (s2.grow hb) hl2
  generalize wordB vs = sb at *
  have Hbad := hide' hbad
  have d1 : ¬ left - 1 < 0 := by omega
  have d2 : ¬ (10 : Int) < (deep : Int) := by omega
  unfold maxLen at hl2 hl3 hl4
  clear b0 hbad s2
  cases sb
  all_goals
    go_enter Tryd.func38, Tryd.ntmps38
    go_wp2_with (first | (go_at_call 45; refine (HAr.out _).mono ?_; rintro e w1 ⟨rfl, e1⟩; obtain rfl := e1) | (go_at_call 48; refine (HS.out _ (Hb.out _)).mono ?_; rintro e w1 ⟨rfl, bw⟩))
    all_goals first
      | (go_ret; exact ⟨rfl, Hb.out _⟩)
      | (go_ret; exact ⟨rfl, Below.on (Hb.out _) bw⟩)
      | (exfalso; have hbad := Hbad.out; clear Hbad HAr Hb; go_light; simp [hdR] at hbad; simp_all <;> omega)

set_option maxHeartbeats 4000000 in
set_option maxRecDepth 100000 in
theorem l6bad_c8 (n : Int) (a2 a3 a4 : Option Addr) (p2 p3 p4 l3 l4 : Nat) (vs : List Int) (deep : Nat) (left : Int) (w : World)
    (h1 : 1 ≤ left) (h2 : left ≤ 150) (h3 : deep ≤ 10) (s2 : Seg w a2 vs) (hl2 : vs.length ≤ maxLen) (hl3 : l3 ≤ maxLen) (hl4 : l4 ≤ maxLen) (hbad : hdR false (1) 0 n l3 l4 (nameB vs) = false) :
    Calls Tryd.prog 38 #[.agg #[.int .i64 8, .int .i64 n, .slice a2 vs.length p2, .slice a3 l3 p3, .slice a4 l4 p4], .int .i64 deep, .int .i64 left] w fun e w' => e = .returned (.int .i64 (-1)) ∧ Below w.heap.size w w' := by
  have b0 : ∀ o : Obj, Below w.heap.size w (w.alloc o) := fun o => (Below.refl _ _).alloc (Nat.le_refl _) o
  have Hb := hide' b0
  have HAr : Hid (∀ wx, Calls Tryd.prog 45 #[.int .i64 8] wx fun e w' => e = .returned (.int .i64 (1)) ∧ wx = w') := fun wx => l6arity_any 8 wx
  have HS : Hid (∀ wx, Below w.heap.size w wx → Calls Tryd.prog 27 #[.slice a2 vs.length p2] wx fun e w' => e = .returned (.bool (nameB vs)) ∧ wx = w') := fun wx hb => spec_NameOk_any a2 p2 vs wx (s2.grow hb) hl2
  generalize nameB vs = sb at *
  have Hbad := hide' hbad
  have d1 : ¬ left - 1 < 0 := by omega
  have d2 : ¬ (10 : Int) < (deep : Int) := by omega
  unfold maxLen at hl2 hl3 hl4
  clear b0 hbad s2
  cases sb
  all_goals
    go_enter Tryd.func38, Tryd.ntmps38
    go_wp2_with (first | (go_at_call 45; refine (HAr.out _).mono ?_; rintro e w1 ⟨rfl, e1⟩; obtain rfl := e1) | (go_at_call 27; refine (HS.out _ (Hb.out _)).mono ?_; rintro e w1 ⟨rfl, e1⟩; obtain rfl := e1))
    all_goals first
      | (go_ret; exact ⟨rfl, Hb.out _⟩)
      | (exfalso; have hbad := Hbad.out; clear Hbad HAr Hb; go_light; simp [hdR] at hbad; simp_all <;> omega)

set_option maxHeartbeats 4000000 in
set_option maxRecDepth 100000 in
theorem l6bad_c23 (n : Int) (a2 a3 a4 : Option Addr) (p2 p3 p4 l3 l4 : Nat) (vs : List Int) (deep : Nat) (left : Int) (w : World)
    (h1 : 1 ≤ left) (h2 : left ≤ 150) (h3 : deep ≤ 10) (s2 : Seg w a2 vs) (hl2 : vs.length ≤ maxLen) (hl3 : l3 ≤ maxLen) (hl4 : l4 ≤ maxLen) (hbad : hdR false (-1) 0 n l3 l4 (wordB vs) = false) :
    Calls Tryd.prog 38 #[.agg #[.int .i64 23, .int .i64 n, .slice a2 vs.length p2, .slice a3 l3 p3, .slice a4 l4 p4], .int .i64 deep, .int .i64 left] w fun e w' => e = .returned (.int .i64 (-1)) ∧ Below w.heap.size w w' := by
  have b0 : ∀ o : Obj, Below w.heap.size w (w.alloc o) := fun o => (Below.refl _ _).alloc (Nat.le_refl _) o
  have Hb := hide' b0
  have HAr : Hid (∀ wx, Calls Tryd.prog 45 #[.int .i64 23] wx fun e w' => e = .returned (.int .i64 (-1)) ∧ wx = w') := fun wx => l6arity_any 23 wx
  have HS : Hid (∀ wx, Below w.heap.size w wx → Calls Tryd.prog 27 #[.slice a2 vs.length p2] wx fun e w' => e = .returned (.bool (nameB vs)) ∧ wx = w') := fun wx hb => spec_NameOk_any a2 p2 vs wx (s2.grow hb) hl2
  have HS2 : Hid (∀ wx, Below w.heap.size w wx → Calls Tryd.prog 47 #[.slice a2 vs.length p2] wx fun e w' => e = .returned (.bool (keptB vs)) ∧ Below wx.heap.size wx w') := fun wx hb => spec_l6kept_any a2 p2 vs wx (s2.grow hb)
  have hw : wordB vs = (nameB vs && !keptB vs) := rfl
  rw [hw] at hbad
  clear hw
  generalize nameB vs = sb at *
  generalize keptB vs = kp at *
  have Hbad := hide' hbad
  have d1 : ¬ left - 1 < 0 := by omega
  have d2 : ¬ (10 : Int) < (deep : Int) := by omega
  unfold maxLen at hl2 hl3 hl4
  clear b0 hbad s2
  cases sb <;> cases kp
  all_goals
    go_enter Tryd.func38, Tryd.ntmps38
    go_wp2_with (first | (go_at_call 45; refine (HAr.out _).mono ?_; rintro e w1 ⟨rfl, e1⟩; obtain rfl := e1) | (go_at_call 27; refine (HS.out _ (Hb.out _)).mono ?_; rintro e w1 ⟨rfl, e1⟩; obtain rfl := e1) | (go_at_call 47; refine (HS2.out _ (Hb.out _)).mono ?_; rintro e w1 ⟨rfl, bw⟩))
    all_goals first
      | (go_ret; exact ⟨rfl, Hb.out _⟩)
      | (go_ret; exact ⟨rfl, Below.on (Hb.out _) bw⟩)
      | (exfalso; have hbad := Hbad.out; clear Hbad HAr Hb; go_light; simp [hdR] at hbad; simp_all <;> omega)
end Go.Proofs.YtjofejjfjnkbhaaDoor
/-
  l6expr of the specification at kinds without kids, where all is right.
-/
namespace Go.Proofs.YtjofejjfjnkbhaaDoor
open Go.RowKit
set_option linter.unusedVariables false
set_option linter.unusedSimpArgs false

set_option maxHeartbeats 4000000 in
set_option maxRecDepth 100000 in
theorem l6leaf_c1 (n : Int) (n0 : 0 ≤ n) (n1 : n ≤ 1) (a2 a3 a4 : Option Addr) (p2 p3 p4 : Nat) (deep : Nat) (left : Int) (w : World)
    (h1 : 1 ≤ left) (h2 : left ≤ 150) (h3 : deep ≤ 10) :
    Calls Tryd.prog 38 #[.agg #[.int .i64 1, .int .i64 n, .slice a2 0 p2, .slice a3 0 p3, .slice a4 0 p4], .int .i64 deep, .int .i64 left] w fun e w' => e = .returned (.int .i64 (left - 1)) ∧ Below w.heap.size w w' := by
  have b0 : ∀ o : Obj, Below w.heap.size w (w.alloc o) := fun o => (Below.refl _ _).alloc (Nat.le_refl _) o
  have Hb := hide' b0
  have HAr : Hid (∀ wx, Calls Tryd.prog 45 #[.int .i64 1] wx fun e w' => e = .returned (.int .i64 (0)) ∧ wx = w') := fun wx => l6arity_any 1 wx
  have d1 : ¬ left - 1 < 0 := by omega
  have d2 : ¬ (10 : Int) < (deep : Int) := by omega
  clear b0
  go_enter Tryd.func38, Tryd.ntmps38
  go_wp2_with (first | (go_at_call 45; refine (HAr.out _).mono ?_; rintro e w1 ⟨rfl, e1⟩; obtain rfl := e1))
  have B1 := Hb.out (.cells #[.int .i64 1, .int .i64 n, .slice a2 0 p2, .slice a3 0 p3, .slice a4 0 p4] 31)
  go_loopw [2, 8] (fun l i wr => l = .int .i64 (left - 1) ∧ i = .int .i64 0 ∧ wr = w.alloc (.cells #[.int .i64 1, .int .i64 n, .slice a2 0 p2, .slice a3 0 p3, .slice a4 0 p4] 31)) (fun _ _ _ => 0)
  case atStart => exact ⟨rfl, rfl, rfl⟩
  case round =>
    obtain ⟨rfl, rfl, rfl⟩ := hrel
    go_wp2
    go_ret
    exact ⟨rfl, B1⟩

set_option maxHeartbeats 4000000 in
set_option maxRecDepth 100000 in
theorem l6leaf_c2 (n : Int) (n0 : 0 ≤ n) (n1 : n ≤ 1000000000000) (a2 a3 a4 : Option Addr) (p2 p3 p4 : Nat) (deep : Nat) (left : Int) (w : World)
    (h1 : 1 ≤ left) (h2 : left ≤ 150) (h3 : deep ≤ 10) :
    Calls Tryd.prog 38 #[.agg #[.int .i64 2, .int .i64 n, .slice a2 0 p2, .slice a3 0 p3, .slice a4 0 p4], .int .i64 deep, .int .i64 left] w fun e w' => e = .returned (.int .i64 (left - 1)) ∧ Below w.heap.size w w' := by
  have b0 : ∀ o : Obj, Below w.heap.size w (w.alloc o) := fun o => (Below.refl _ _).alloc (Nat.le_refl _) o
  have Hb := hide' b0
  have HAr : Hid (∀ wx, Calls Tryd.prog 45 #[.int .i64 2] wx fun e w' => e = .returned (.int .i64 (0)) ∧ wx = w') := fun wx => l6arity_any 2 wx
  have d1 : ¬ left - 1 < 0 := by omega
  have d2 : ¬ (10 : Int) < (deep : Int) := by omega
  clear b0
  go_enter Tryd.func38, Tryd.ntmps38
  go_wp2_with (first | (go_at_call 45; refine (HAr.out _).mono ?_; rintro e w1 ⟨rfl, e1⟩; obtain rfl := e1))
  have B1 := Hb.out (.cells #[.int .i64 2, .int .i64 n, .slice a2 0 p2, .slice a3 0 p3, .slice a4 0 p4] 31)
  go_loopw [2, 8] (fun l i wr => l = .int .i64 (left - 1) ∧ i = .int .i64 0 ∧ wr = w.alloc (.cells #[.int .i64 2, .int .i64 n, .slice a2 0 p2, .slice a3 0 p3, .slice a4 0 p4] 31)) (fun _ _ _ => 0)
  case atStart => exact ⟨rfl, rfl, rfl⟩
  case round =>
    obtain ⟨rfl, rfl, rfl⟩ := hrel
    go_wp2
    go_ret
    exact ⟨rfl, B1⟩

set_option maxHeartbeats 4000000 in
set_option maxRecDepth 100000 in
theorem l6leaf_c3 (a2 a3 a4 : Option Addr) (p2 p3 p4 : Nat) (vs : List Int) (deep : Nat) (left : Int) (w : World)
    (h1 : 1 ≤ left) (h2 : left ≤ 150) (h3 : deep ≤ 10) (s2 : Seg w a2 vs) (hl2 : vs.length ≤ maxLen) (hs : textB vs = true) :
    Calls Tryd.prog 38 #[.agg #[.int .i64 3, .int .i64 0, .slice a2 vs.length p2, .slice a3 0 p3, .slice a4 0 p4], .int .i64 deep, .int .i64 left] w fun e w' => e = .returned (.int .i64 (left - 1)) ∧ Below w.heap.size w w' := by
  have b0 : ∀ o : Obj, Below w.heap.size w (w.alloc o) := fun o => (Below.refl _ _).alloc (Nat.le_refl _) o
  have Hb := hide' b0
  have HAr : Hid (∀ wx, Calls Tryd.prog 45 #[.int .i64 3] wx fun e w' => e = .returned (.int .i64 (0)) ∧ wx = w') := fun wx => l6arity_any 3 wx
  have HS : Hid (∀ wx, Below w.heap.size w wx → Calls Tryd.prog 46 #[.slice a2 vs.length p2] wx fun e w' => e = .returned (.bool (textB vs)) ∧ wx = w') := fun wx hb => spec_l2text_any a2 p2 vs wx (s2.grow hb) hl2
  rw [hs] at HS
  have d1 : ¬ left - 1 < 0 := by omega
  have d2 : ¬ (10 : Int) < (deep : Int) := by omega
  unfold maxLen at hl2
  clear s2 hs
  clear b0
  go_enter Tryd.func38, Tryd.ntmps38
  go_wp2_with (first | (go_at_call 45; refine (HAr.out _).mono ?_; rintro e w1 ⟨rfl, e1⟩; obtain rfl := e1) | (go_at_call 46; refine (HS.out _ (Hb.out _)).mono ?_; rintro e w1 ⟨rfl, e1⟩; obtain rfl := e1))
  have B1 := Hb.out (.cells #[.int .i64 3, .int .i64 0, .slice a2 vs.length p2, .slice a3 0 p3, .slice a4 0 p4] 31)
  go_loopw [2, 8] (fun l i wr => l = .int .i64 (left - 1) ∧ i = .int .i64 0 ∧ wr = w.alloc (.cells #[.int .i64 3, .int .i64 0, .slice a2 vs.length p2, .slice a3 0 p3, .slice a4 0 p4] 31)) (fun _ _ _ => 0)
  case atStart => exact ⟨rfl, rfl, rfl⟩
  case round =>
    obtain ⟨rfl, rfl, rfl⟩ := hrel
    go_wp2
    go_ret
    exact ⟨rfl, B1⟩

set_option maxHeartbeats 4000000 in
set_option maxRecDepth 100000 in
theorem l6leaf_c6 (a2 a3 a4 : Option Addr) (p2 p3 p4 : Nat) (vs : List Int) (deep : Nat) (left : Int) (w : World)
    (h1 : 1 ≤ left) (h2 : left ≤ 150) (h3 : deep ≤ 10) (s2 : Seg w a2 vs) (hl2 : vs.length ≤ maxLen) (hs : nameB vs = true) :
    Calls Tryd.prog 38 #[.agg #[.int .i64 6, .int .i64 0, .slice a2 vs.length p2, .slice a3 0 p3, .slice a4 0 p4], .int .i64 deep, .int .i64 left] w fun e w' => e = .returned (.int .i64 (left - 1)) ∧ Below w.heap.size w w' := by
  have b0 : ∀ o : Obj, Below w.heap.size w (w.alloc o) := fun o => (Below.refl _ _).alloc (Nat.le_refl _) o
  have Hb := hide' b0
  have HAr : Hid (∀ wx, Calls Tryd.prog 45 #[.int .i64 6] wx fun e w' => e = .returned (.int .i64 (0)) ∧ wx = w') := fun wx => l6arity_any 6 wx
  have HS : Hid (∀ wx, Below w.heap.size w wx → Calls Tryd.prog 27 #[.slice a2 vs.length p2] wx fun e w' => e = .returned (.bool (nameB vs)) ∧ wx = w') := fun wx hb => spec_NameOk_any a2 p2 vs wx (s2.grow hb) hl2
  rw [hs] at HS
  have d1 : ¬ left - 1 < 0 := by omega
  have d2 : ¬ (10 : Int) < (deep : Int) := by omega
  unfold maxLen at hl2
  clear s2 hs
  clear b0
  go_enter Tryd.func38, Tryd.ntmps38
  go_wp2_with (first | (go_at_call 45; refine (HAr.out _).mono ?_; rintro e w1 ⟨rfl, e1⟩; obtain rfl := e1) | (go_at_call 27; refine (HS.out _ (Hb.out _)).mono ?_; rintro e w1 ⟨rfl, e1⟩; obtain rfl := e1))
  have B1 := Hb.out (.cells #[.int .i64 6, .int .i64 0, .slice a2 vs.length p2, .slice a3 0 p3, .slice a4 0 p4] 31)
  go_loopw [2, 8] (fun l i wr => l = .int .i64 (left - 1) ∧ i = .int .i64 0 ∧ wr = w.alloc (.cells #[.int .i64 6, .int .i64 0, .slice a2 vs.length p2, .slice a3 0 p3, .slice a4 0 p4] 31)) (fun _ _ _ => 0)
  case atStart => exact ⟨rfl, rfl, rfl⟩
  case round =>
    obtain ⟨rfl, rfl, rfl⟩ := hrel
    go_wp2
    go_ret
    exact ⟨rfl, B1⟩

set_option maxHeartbeats 4000000 in
set_option maxRecDepth 100000 in
theorem l6leaf_c7 (a2 a3 a4 : Option Addr) (p2 p3 p4 : Nat) (vs : List Int) (deep : Nat) (left : Int) (w : World)
    (h1 : 1 ≤ left) (h2 : left ≤ 150) (h3 : deep ≤ 10) (s2 : Seg w a2 vs) (hl2 : vs.length ≤ maxLen) (hs : wordB vs = true) :
    Calls Tryd.prog 38 #[.agg #[.int .i64 7, .int .i64 0, .slice a2 vs.length p2, .slice a3 0 p3, .slice a4 0 p4], .int .i64 deep, .int .i64 left] w fun e w' => e = .returned (.int .i64 (left - 1)) ∧ Below w.heap.size w w' := by
  have b0 : ∀ o : Obj, Below w.heap.size w (w.alloc o) := fun o => (Below.refl _ _).alloc (Nat.le_refl _) o
  have Hb := hide' b0
  have HAr : Hid (∀ wx, Calls Tryd.prog 45 #[.int .i64 7] wx fun e w' => e = .returned (.int .i64 (0)) ∧ wx = w') := fun wx => l6arity_any 7 wx
  have HS : Hid (∀ wx, Below w.heap.size w wx → Calls Tryd.prog 48 #[.slice a2 vs.length p2] wx fun e w' => e = .returned (.bool (wordB vs)) ∧ Below wx.heap.size wx w') := fun wx hb => spec_l6free_any a2 p2 vs wx (s2.grow hb) hl2
  rw [hs] at HS
  have d1 : ¬ left - 1 < 0 := by omega
  have d2 : ¬ (10 : Int) < (deep : Int) := by omega
  unfold maxLen at hl2
  clear s2 hs
  clear b0
  go_enter Tryd.func38, Tryd.ntmps38
  go_wp2_with (first | (go_at_call 45; refine (HAr.out _).mono ?_; rintro e w1 ⟨rfl, e1⟩; obtain rfl := e1) | (go_at_call 48; refine (HS.out _ (Hb.out _)).mono ?_; rintro e w1 ⟨rfl, bw⟩))
  have B1 := Below.on (Hb.out _) bw
  obtain ⟨y0, y1, y2, y3, y4, _⟩ := row5 (box_row bw)
  clear bw
  go_wp2
  go_loopw [2, 8] (fun l i wr => l = .int .i64 (left - 1) ∧ i = .int .i64 0 ∧ wr = w1) (fun _ _ _ => 0)
  case atStart => exact ⟨rfl, rfl, rfl⟩
  case round =>
    obtain ⟨rfl, rfl, rfl⟩ := hrel
    go_wp2
    go_ret
    exact ⟨rfl, B1⟩
end Go.Proofs.YtjofejjfjnkbhaaDoor
