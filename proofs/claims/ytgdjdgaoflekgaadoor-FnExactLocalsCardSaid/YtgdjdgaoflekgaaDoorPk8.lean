/-
  Texts that a law leans on, one behind the other; no statement is proved here.
-/
import Derived.Test.YtgdjdgaoflekgaaDoorPk7
import Derived.Test.YtgdjdgaoflekgaaDoorPk0
import Derived.Lib.AppendStr
import Derived.Test.YtgdjdgaoflekgaaDoorPk4
import Derived.Laws.IdiomStrings
/-
  takes of the program: it counts the parts of an expression, and answers whether all may be: 'goodE'.
-/
namespace Go.Proofs.YtgdjdgaoflekgaaDoor
open Go.RowKit
set_option linter.unusedVariables false
set_option linter.unusedSimpArgs false

theorem grownE_fresh {w w1 w2 : World} {r r' : Option Nat} (h : w.grownBy w1 r) (k : w1.grownBy w2 r') (hr : ∀ j, r' = some j → w.heap.size ≤ j) : w.grownBy w2 r :=
  ⟨k.os.trans h.os, k.tape.trans h.tape, k.output.trans h.output, Nat.le_trans h.size k.size, fun i hi hne => (k.block i (Nat.lt_of_lt_of_le hi h.size) (fun e => by have := hr i e.symm; omega)).trans (h.block i hi hne)⟩
theorem grownE_trans {w w1 w2 : World} {r : Option Nat} (h : w.grownBy w1 r) (k : w1.grownBy w2 r) : w.grownBy w2 r :=
  ⟨k.os.trans h.os, k.tape.trans h.tape, k.output.trans h.output, Nat.le_trans h.size k.size, fun i hi hne => (k.block i (Nat.lt_of_lt_of_le hi h.size) hne).trans (h.block i hi hne)⟩
theorem belowE_grown {w w' : World} (h : Below w.heap.size w w') (r : Option Nat) : w.grownBy w' r := ⟨h.os, h.tape, h.output, h.size, fun k hk _ => h.block k hk⟩
theorem agreeE_grown {N q : Nat} {w w' : World} (h : w.grownBy w' (some q)) (hN : N ≤ q) (hq : q < w.heap.size) : Agree (fun b => b < N) w w' := fun b hb => h.block b (by omega) (by simp; omega)

/-- The counter of a tally. -/
def ECnt (w : World) (q : Nat) (n : Nat) : Prop := w.heap[q]? = some (.cells #[.int .i64 n] 58 (0, 0))

theorem ECnt.cell {w : World} {q n : Nat} (h : ECnt w q n) : w.cell? ⟨q, 0, none⟩ = some (.int .i64 n) ∧ w.frozen? ⟨q, 0, none⟩ = false := by
  refine ⟨?_, frozen_of_row w q 0 _ _ h⟩
  rw [cell_of_row w q 0 _ _ (0, 0) h]
  rfl
theorem ECnt.set {w : World} {q n : Nat} (h : ECnt w q n) (m : Nat) : ECnt (w.setCell ⟨q, 0, none⟩ (.int .i64 m)) q m := heap_setCell_same w q 0 _ _ _ h
theorem ECnt.keep {w w' : World} {q n : Nat} {r : Option Nat} (h : ECnt w q n) (hg : w.grownBy w' r) (hr : some q ≠ r) : ECnt w' q n :=
  (hg.block q (Array.getElem?_eq_some_iff.1 h).1 hr).trans h

/-- The contract of takes at depth d. -/
def ETkAt (d : Nat) : Prop := ∀ (N q n : Nat) (c : Value × Value × Value × Value × Value) (v : Vl d) (deep : Nat) (w : World), VSeg (fun b => b < N) w d c v → N ≤ q → q < w.heap.size → ECnt w q n → ShpT w → 3 < N → n ≤ 150 → deep ≤ 11 →
  Calls Tryd.prog 42 #[.pointer (some ⟨q, 0, none⟩), .agg #[c.1, c.2.1, c.2.2.1, c.2.2.2.1, c.2.2.2.2], .int .i64 deep] w fun e w' =>
    w.grownBy w' (some q) ∧ ((e = .returned (.bool true) ∧ goodE d v deep = true ∧ n + partsE d v ≤ 150 ∧ ECnt w' q (n + partsE d v)) ∨ (e = .returned (.bool false) ∧ ¬ (goodE d v deep = true ∧ n + partsE d v ≤ 150)))

/-- What takes has done ahead of the kids: its counter has one more, its argument lies in a box. -/
def EAhead (w : World) (q n : Nat) (o : Obj) (w2 : World) : Prop :=
  w.grownBy w2 (some q) ∧ ECnt w2 q (n + 1) ∧ w2.heap[w.heap.size]? = some o

theorem eahead_of {w : World} {q n : Nat} {o : Obj} {w2 : World} {x : Int} (hx : x = (n : Int) + 1) (hq : q < w.heap.size) (hc : ECnt w q n)
    (hb : Below ((w.setCell ⟨q, 0, none⟩ (.int .i64 x)).alloc o).heap.size ((w.setCell ⟨q, 0, none⟩ (.int .i64 x)).alloc o) w2) :
    EAhead w q n o w2 := by
  subst hx
  have hg := grown1 w q 0 (.int .i64 ((n : Int) + 1))
  have hcs : ECnt (w.setCell ⟨q, 0, none⟩ (.int .i64 ((n : Int) + 1))) q (n + 1) := hc.set (n + 1)
  have hsz : (w.setCell ⟨q, 0, none⟩ (.int .i64 ((n : Int) + 1))).heap.size = w.heap.size := by simp [World.setCell]
  have hal := World.grownBy_alloc (w.setCell ⟨q, 0, none⟩ (.int .i64 ((n : Int) + 1))) o none
  have hb2 := belowE_grown hb none
  have hnew := (MapKept.heap_alloc (w.setCell ⟨q, 0, none⟩ (.int .i64 ((n : Int) + 1))) o).1
  rw [hsz] at hnew
  refine ⟨grownE_fresh (grownE_fresh hg hal (by simp)) hb2 (by simp), (hcs.keep hal (by simp)).keep hb2 (by simp), (hb2.block w.heap.size (by simp [hsz]) (by simp)).trans hnew⟩

set_option maxHeartbeats 4000000 in
set_option maxRecDepth 100000 in
theorem takes_over (q n : Nat) (vk vn : Int) (a2 a3 a4 : Option Addr) (l2 l3 l4 p2 p3 p4 : Nat) (deep : Nat) (w : World) (hq : q < w.heap.size) (hc : ECnt w q n) (hn : n ≤ 150) (hd : deep ≤ 11) (h : n = 150 ∨ 10 < deep) :
    Calls Tryd.prog 42 #[.pointer (some ⟨q, 0, none⟩), .agg #[.int .i64 vk, .int .i64 vn, .slice a2 l2 p2, .slice a3 l3 p3, .slice a4 l4 p4], .int .i64 deep] w fun e w' => w.grownBy w' (some q) ∧ e = .returned (.bool false) := by
  have HA : Hid (ECnt w q n) := hc
  obtain ⟨hc0, hf0⟩ := hc.cell
  have hne : q ≠ w.heap.size := by omega
  clear hc
  by_cases hn1 : n = 150
  · subst hn1
    go_enter Tryd.func42, Tryd.ntmps42
    go_wp2
    go_ret
    exact ⟨(eahead_of (n := 150) rfl hq HA.out (Below.refl _ _)).1, rfl⟩
  · have hnn : ¬ (150 : Int) < (n : Int) + 1 := by omega
    have hdd : (10 : Int) < (deep : Int) := by omega
    go_enter Tryd.func42, Tryd.ntmps42
    go_wp2
    go_ret
    exact ⟨(eahead_of rfl hq HA.out (Below.refl _ _)).1, rfl⟩

/-- What holds ahead of the round k of takes. -/
def TK (d : Nat) (vL : List (Vl d)) (deep n q : Nat) (w wr : World) (o : Obj) (k : Nat) : Prop :=
  k ≤ vL.length ∧ n + 1 + pre (partsE d) vL k ≤ 150 ∧ ECnt wr q (n + 1 + pre (partsE d) vL k) ∧ w.grownBy wr (some q) ∧ wr.heap[w.heap.size]? = some o ∧ ∀ j (h : j < vL.length), j < k → goodE d vL[j] (deep + 1) = true

set_option maxHeartbeats 8000000 in
set_option maxRecDepth 100000 in
theorem takes_succ (d : Nat) (ih : ETkAt d) : ETkAt (d + 1) := by
  intro N q n c v deep w hv hNq hq hc hT hgN hn hd
  obtain ⟨c0, c1, c2, c3, c4⟩ := c
  obtain ⟨vk, vn, vs, vK, vL⟩ := v
  obtain ⟨e0, e1, ht, hk, hl⟩ := (VSeg_succ _ _ _ _ _).1 hv
  simp only at e0 e1 ht hk hl
  subst e0
  subst e1
  clear hv
  simp only
  have HK := hide' hk
  have HL := hide' hl
  obtain ⟨a2, p2, rfl, s2, l2, m2, _, r2⟩ := ht
  obtain ⟨a3, p3, rfl, _, _, _, _⟩ := hk
  obtain ⟨a4, p4, rfl, hlc4, hcm4, _, _⟩ := hl
  by_cases h0 : n = 150 ∨ 10 < deep
  · refine (takes_over q n vk vn a2 a3 a4 _ _ _ p2 p3 p4 deep w hq hc hn hd h0).mono ?_
    rintro e w1 ⟨hg, rfl⟩
    refine ⟨hg, .inr ⟨rfl, ?_⟩⟩
    rintro ⟨h1, h2⟩
    have := ((goodE_succ _ _ _ _ _ _ _).1 h1).1
    have := partsE_pos d (vk, vn, vs, vK, vL)
    omega
  have hn1 : n < 150 := by omega
  have hd1 : deep ≤ 10 := by omega
  -- what shaped answers, in a world in which the counter has turned
  have HSh : Hid (∀ wx, Agree (fun b => b < N) w wx → w.heap.size ≤ wx.heap.size → Calls Tryd.prog 64 #[.agg #[.int .i64 vk, .int .i64 vn, .slice a2 vs.length p2, .slice a3 vK.length p3, .slice a4 vL.length p4]] wx fun e w' => e = .returned (.bool (shpB vk vn vs vK vL.length)) ∧ Below wx.heap.size wx w') := by
    intro wx ha hsz
    by_cases hr : vk < 0 ∨ 23 < vk
    · refine (shaped_out vk vn _ _ _ wx hr).mono ?_
      rintro e w' ⟨rfl, hb⟩
      refine ⟨ret_bool ?_, hb⟩
      rcases hr with hr | hr
      · have h1 : ¬ (0 : Int) ≤ vk := by omega
        simp [shpB, h1]
      · have h1 : ¬ vk ≤ 23 := by omega
        simp [shpB, h1]
    · obtain ⟨k, rfl⟩ : ∃ k : Nat, vk = k := ⟨vk.toNat, by omega⟩
      have hs : Seg wx a2 vs := by
        refine ⟨s2.1, ?_⟩
        rcases s2.2 with h0 | ⟨b, off, rfl, hcc⟩
        · exact .inl h0
        · by_cases he : vs = []
          · exact .inl he
          · exact .inr ⟨b, off, rfl, fun i hi => (cell_agree ha (r2 _ rfl he)).trans (hcc i hi)⟩
      exact shaped_in (fun _ => True) k (by omega) vn a2 a3 a4 p2 p3 p4 vL.length vs vK wx (hT.agree ha hgN) hs (by omega) ((HK.out.agree ha).mono (fun b hb => by omega)) (by omega)
  have HA : Hid (ECnt w q n) := hc
  obtain ⟨hc0, hf0⟩ := hc.cell
  have hne : q ≠ w.heap.size := by omega
  have hnn : ¬ (150 : Int) < (n : Int) + 1 := by omega
  have hdd : ¬ (10 : Int) < (deep : Int) := by omega
  have HAg : Hid (∀ (x : Int) (o : Obj), Agree (fun b => b < N) w ((w.setCell ⟨q, 0, none⟩ (.int .i64 x)).alloc o) ∧ w.heap.size ≤ ((w.setCell ⟨q, 0, none⟩ (.int .i64 x)).alloc o).heap.size) := by
    intro x o
    have hg := grownE_fresh (grown1 w q 0 (.int .i64 x)) (World.grownBy_alloc (w.setCell ⟨q, 0, none⟩ (.int .i64 x)) o none) (by simp)
    exact ⟨agreeE_grown hg hNq hq, hg.size⟩
  have HT := hide' hT
  have HI := hide' ih
  have Hd1 := hide' hd1
  clear hc hT ih s2
  cases hb : shpB vk vn vs vK vL.length with
  | false =>
    have HF : Hid (¬ (goodE (d + 1) (vk, vn, vs, vK, vL) deep = true ∧ n + partsE (d + 1) (vk, vn, vs, vK, vL) ≤ 150)) := fun ⟨h1, _⟩ => by
      have := ((goodE_succ _ _ _ _ _ _ _).1 h1).2.1
      rw [hb] at this
      simp at this
    rw [hb] at HSh
    clear hb
    go_enter Tryd.func42, Tryd.ntmps42
    go_wp2_with fail
    refine (HSh.out _ (HAg.out _ _).1 (HAg.out _ _).2).mono ?_
    rintro e w2 ⟨rfl, b2⟩
    have hA := hide' (eahead_of rfl hq HA.out b2)
    clear b2
    go_wp2
    go_ret
    exact ⟨hA.out.1, .inr ⟨rfl, HF.out⟩⟩
  | true =>
    rw [hb] at HSh
    have Hshp := hide' hb
    clear hb
    obtain ⟨ob, HOb⟩ : ∃ ob, Hid (ob = Obj.cells #[.int .i64 vk, .int .i64 vn, .slice a2 vs.length p2, .slice a3 vK.length p3, .slice a4 vL.length p4] 31) := ⟨_, rfl⟩
    unfold maxLen at hcm4
    go_enter Tryd.func42, Tryd.ntmps42
    go_wp2_with fail
    refine (HSh.out _ (HAg.out _ _).1 (HAg.out _ _).2).mono ?_
    rintro e w2 ⟨rfl, b2⟩
    have hA := eahead_of rfl hq HA.out b2
    have hrow := hA.2.2
    obtain ⟨y0, y1, y2, y3, y4, _⟩ := row5 hrow
    rw [← HOb.out] at hA
    have H0 : Hid (TK d vL deep n q w w2 ob 0) := ⟨Nat.zero_le _, by rw [pre_zero]; omega, by rw [pre_zero]; exact hA.2.1, hA.1, hA.2.2, fun j _ h => by omega⟩
    clear b2 hA hrow HSh HAg
    go_wp2
    go_loopw [33] (fun i wr => ∃ k : Nat, i = .int .i64 k ∧ TK d vL deep n q w wr ob k) (fun i _ => vL.length - (intOf i).toNat)
    case atStart => exact ⟨0, rfl, H0.out⟩
    case round =>
      clear y0 y1 y2 y3 y4 H0
      obtain ⟨k, rfl, hT⟩ := hrel
      have HTk := hide' hT
      obtain ⟨hk, hple, hcnt, hgr, hbox, hgood⟩ := hT
      clear hgood
      by_cases hlt : k < vL.length
      · have hlt' : (k : Int) < (vL.length : Int) := by omega
        have hag := agreeE_grown hgr hNq hq
        have hcell : ∃ b off c, a4 = some ⟨b, off, none⟩ ∧ Five wr b (off + k * 5) c ∧ VSeg (fun b => b < N) wr d c (vL[k]) := by
          obtain ⟨a', cap', e1, _, _, _, h5⟩ := HL.out
          simp only [Value.slice.injEq] at e1
          obtain ⟨rfl, _, _⟩ := e1
          rcases h5 with h0 | ⟨b, off, rfl, hR, hcc⟩
          · rw [h0] at hlt; simp at hlt
          · obtain ⟨c, h5, hv⟩ := hcc k hlt
            exact ⟨b, off, c, rfl, h5.agree hag hR, VSeg.agree hag d hv⟩
        obtain ⟨b, off, c, rfl, h5', hv⟩ := hcell
        obtain ⟨c0, c1, c2, c3, c4⟩ := c
        obtain ⟨q0, q1, q2, q3, q4⟩ := h5'
        simp only at q0 q1 q2 q3 q4
        have hs := hgr.size
        obtain ⟨ck, cn, s2, l2', e2, s3, l3, e3, s4, l4, e4, rfl, rfl, rfl, rfl, rfl⟩ := VSeg.form d hv
        have hgW := World.grownBy_alloc wr (.cells #[.int .i64 ck, .int .i64 cn, .slice s2 l2' e2, .slice s3 l3 e3, .slice s4 l4 e4] 31) none
        have hC := HI.out N q (n + 1 + pre (partsE d) vL k) _ vL[k] (deep + 1) _ (VSeg.agree (fun b hb => hgW.block b (by omega) (by simp)) d hv) hNq (by simp; omega) (hcnt.keep hgW (by simp)) ((HT.out.agree hag hgN).below ((Below.refl _ _).alloc (Nat.le_refl _) _)) hgN hple (by have := Hd1.out; omega)
        rw [Int.natCast_add] at hC
        have HC := hide' hC
        have HgW := hide' (grownE_fresh hgr hgW (by simp))
        have hszW : wr.heap.size < (wr.alloc (.cells #[.int .i64 ck, .int .i64 cn, .slice s2 l2' e2, .slice s3 l3 e3, .slice s4 l4 e4] 31)).heap.size := by simp
        have HboxW : Hid ((wr.alloc (.cells #[.int .i64 ck, .int .i64 cn, .slice s2 l2' e2, .slice s3 l3 e3, .slice s4 l4 e4] 31)).heap[w.heap.size]? = some ob) := (hgW.block _ (Array.getElem?_eq_some_iff.1 hbox).1 (by simp)).trans hbox
        have hltb := (Array.getElem?_eq_some_iff.1 hbox).1
        have HszW := hide' hszW
        clear hv hag hgr hC hgW hbox hcnt hszW
        go_wp2_with fail
        refine HC.out.mono ?_
        rintro e w1 ⟨hg1, hcase⟩
        clear q0 q1 q2 q3 q4
        have HG1 := hide' (grownE_trans HgW.out hg1)
        have HB1 : Hid (w1.heap[w.heap.size]? = some ob) := (hg1.block _ (by have := HszW.out; omega) (by simp; omega)).trans HboxW.out
        have hps := hide' (pre_succ (partsE d) vL k hlt)
        rcases hcase with ⟨rfl, hgd, hpl, hcn⟩ | ⟨rfl, hbad⟩
        · have HN : Hid (TK d vL deep n q w w1 ob (k + 1)) := by
            refine ⟨hlt, by rw [hps.out]; omega, by rw [hps.out, ← Nat.add_assoc]; exact hcn, HG1.out, HB1.out, fun j hj hjk => ?_⟩
            by_cases e : j = k
            · subst e; exact hgd
            · exact HTk.out.2.2.2.2.2 j hj (by omega)
          clear hg1 hgd hpl hcn
          go_wp2
          go_roundw
          case rel => exact ⟨k + 1, by go_num, HN.out⟩
          case measure => simp [intOf]; omega
        · have HF : Hid (¬ (goodE (d + 1) (vk, vn, vs, vK, vL) deep = true ∧ n + partsE (d + 1) (vk, vn, vs, vK, vL) ≤ 150)) := fun ⟨h1, h2⟩ => by
            refine hbad ⟨((goodE_succ _ _ _ _ _ _ _).1 h1).2.2 k hlt, ?_⟩
            rw [partsE_succ] at h2
            have h4 := pre_le (partsE d) vL (k + 1)
            have h5 := pre_all (partsE d) vL
            have h6 := hps.out
            omega
          clear hg1 hbad
          go_wp2
          go_ret
          exact ⟨HG1.out, .inr ⟨rfl, HF.out⟩⟩
      · have hkn : k = vL.length := by omega
        have hlt' : ¬ (k : Int) < (vL.length : Int) := by omega
        have HF : Hid (goodE (d + 1) (vk, vn, vs, vK, vL) deep = true ∧ n + partsE (d + 1) (vk, vn, vs, vK, vL) ≤ 150 ∧ ECnt wr q (n + partsE (d + 1) (vk, vn, vs, vK, vL))) := by
          have hp := partsE_succ d vk vn vs vK vL
          obtain ⟨_, g2, g3, _, _, g6⟩ := HTk.out
          rw [hkn] at g2 g3
          refine ⟨(goodE_succ _ _ _ _ _ _ _).2 ⟨Hd1.out, Hshp.out, fun j h => g6 j h (by omega)⟩, by rw [hp]; omega, ?_⟩
          rw [hp, ← Nat.add_assoc]
          exact g3
        have HG := hide' hgr
        clear hkn hgr hcnt hbox
        go_wp2
        go_ret
        exact ⟨HG.out, .inl ⟨rfl, HF.out⟩⟩

theorem takes_any (d : Nat) : ETkAt d := by
  induction d with
  | zero => intro N q n c v deep w hv; exact hv.elim
  | succ d ih => exact takes_succ d ih

set_option maxHeartbeats 1600000 in
theorem impl_ExprOk_any (d N : Nat) (c0 c1 c2 c3 c4 : Value) (v : Vl d) (w : World) (hv : VSeg (fun b => b < N) w d (c0, c1, c2, c3, c4) v) (hN : N ≤ w.heap.size) (hT : ShpT w) (hgN : 3 < N) :
    Calls Tryd.prog 12 #[.agg #[c0, c1, c2, c3, c4]] w fun e w' => e = .returned (.bool (exprB d v)) ∧ Below w.heap.size w w' := by
  have b0 : ∀ o o' : Obj, Below w.heap.size w ((w.alloc o).alloc o') := fun o o' => ((Below.refl _ _).alloc (Nat.le_refl _) o).alloc (by simp) o'
  have HC : Hid (∀ o : Obj, Calls Tryd.prog 42 #[.pointer (some ⟨w.heap.size + 1, 0, none⟩), .agg #[c0, c1, c2, c3, c4], .int .i64 1] ((w.alloc o).alloc (.cells #[.int .i64 0] 58)) fun e w' =>
      ((w.alloc o).alloc (.cells #[.int .i64 0] 58)).grownBy w' (some (w.heap.size + 1)) ∧ ((e = .returned (.bool true) ∧ goodE d v 1 = true ∧ 0 + partsE d v ≤ 150 ∧ ECnt w' (w.heap.size + 1) (0 + partsE d v)) ∨ (e = .returned (.bool false) ∧ ¬ (goodE d v 1 = true ∧ 0 + partsE d v ≤ 150)))) := fun o =>
    takes_any d N (w.heap.size + 1) 0 (c0, c1, c2, c3, c4) v 1 ((w.alloc o).alloc (.cells #[.int .i64 0] 58)) (VSeg.agree (agree_below ((b0 o _).mono hN)) d hv) (by omega) (by rw [size2]; omega) (two_boxes w o _).2 (hT.below (b0 o _)) hgN (by omega) (by omega)
  have Hb := hide' b0
  have hsz := fun o o' => size2 w o o'
  have Hsz := hide' hsz
  clear b0 hsz hT
  go_enter Tryd.func12, Tryd.ntmps12
  go_wp2_with fail
  refine (HC.out _).mono ?_
  rintro e w1 ⟨hg1, hcase⟩
  have hB1 := (Hb.out _ _).grown hg1 (by rw [Hsz.out]; omega) (by intro j hj; simp at hj; omega)
  rcases hcase with ⟨rfl, h1, h2, h3⟩ | ⟨rfl, hno⟩
  · have hE : Hid (exprB d v = true) := by
      show exprB d v = true
      simp [exprB, h1]
      omega
    clear h1 h2 h3 hg1
    go_wp2
    go_ret
    exact ⟨ret_bool hE.out.symm, hB1⟩
  · have hE : Hid (exprB d v = false) := by
      show exprB d v = false
      cases h : exprB d v with
      | false => rfl
      | true => simp [exprB] at h; exact absurd ⟨h.1, by omega⟩ hno
    clear hno hg1
    go_wp2
    go_ret
    exact ⟨ret_bool hE.out.symm, hB1⟩
end Go.Proofs.YtgdjdgaoflekgaaDoor
/-
  collectNames of the program: the names of all parts of a kind, behind those that are there.
-/
namespace Go.Proofs.YtgdjdgaoflekgaaDoor
open Go.RowKit
set_option linter.unusedVariables false
set_option linter.unusedSimpArgs false

/-- Texts as cells of strings. -/
def strC (os : List (List Int)) : List Value := os.map fun xs => .string (strOf xs)
theorem strC_len (os : List (List Int)) : (strC os).length = os.length := by simp [strC]

theorem info9 : (Tryd.prog.info? 9).map (fun i => (i.zero, i.size, i.bytes)) = some (some (.string ⟨#[]⟩), 1, 16) := by kernel_rfl

/-- A row of the call's own that holds texts. -/
def SR (w : World) (base : Nat) (v : Value) (os : List (List Int)) : Prop := w.ownsRow base 9 1 v os.length (strC os)

theorem SR.shape {w : World} {base : Nat} {v : Value} {os : List (List Int)} (h : SR w base v os) : ∃ a cap, v = .slice a os.length cap := by
  obtain ⟨h2, h3⟩ := h
  rcases h3 with ⟨rfl, h0⟩ | ⟨g, cap, cur, rfl, _⟩
  · exact ⟨none, 0, by rw [h0]⟩
  · exact ⟨_, _, rfl⟩

theorem grown_on {w w1 w2 : World} {r r' : Option Nat} (h : w.grownBy w1 r) (k : w1.grownBy w2 r') (hr : ∀ j, r' = some j → r = some j ∨ w.heap.size ≤ j) : w.grownBy w2 r :=
  ⟨k.os.trans h.os, k.tape.trans h.tape, k.output.trans h.output, Nat.le_trans h.size k.size, fun i hi hne => (k.block i (Nat.lt_of_lt_of_le hi h.size) (fun e => by
    rcases hr i e.symm with h1 | h1
    · exact hne h1.symm
    · omega)).trans (h.block i hi hne)⟩

theorem loc_alloc {w : World} {o : Obj} {r r' : Option Nat} (h : ∀ g, r' = some g → r = some g ∨ (w.alloc o).heap.size ≤ g) : ∀ g, r' = some g → r = some g ∨ w.heap.size ≤ g := fun g hg => by
  rcases h g hg with k | k
  · exact .inl k
  · exact .inr (by simp at k; omega)

/-- 'append(names, s)'. -/
theorem wpList_SR_add {w : World} {ops : Array Oper} {rest : List Oper} {o : Oper} {a : Act} {Q : Exit → Act → World → Prop} (hgd : o.guard = none) (s x : Operand)
    (ho : o.op = .call { callee := .builtin .append, args := #[s, x], argTypes := #[78, 78] }) (base : Nat) (v : Value) (os : List (List Int)) (xs : List Int) (hs : a.eval s = v) (hR : SR w base v os)
    (q : Nat) (hq : w.heap.size = q) (hx : a.eval x = .slice (some ⟨q, 0, none⟩) 1 1) (n : Nat) (hn : os.length = n) (hlen : n ≤ 100000) (hbase : base ≤ w.heap.size)
    (h : ∀ a' c' w', SR w' base (.slice a' (n + 1) c') (os ++ [xs]) → w.grownBy w' v.ownBlock → (∀ g, (Value.slice a' (n + 1) c').ownBlock = some g → v.ownBlock = some g ∨ w.heap.size ≤ g) → wpList Tryd.prog ops Q rest (a.put o.dst (.slice a' (n + 1) c')) w') : wpList Tryd.prog ops Q (o :: rest) a (w.alloc (.cells #[.string (strOf xs)] 9)) := by
  subst hq
  obtain ⟨i9, hi9, hy0, hy1, hy2⟩ := info_parts info9
  have hown := World.ownsRow.alloc hR (.cells #[.string (strOf xs)] 9)
  refine wpList_append_own_at (w := w.alloc (.cells #[.string (strOf xs)] 9)) hgd s x 78 ho base 9 i9 (.string ⟨#[]⟩) 1 16 Tryd.underlying78 hi9 hy0 hy1 hy2 rfl (by decide) v os.length (strC os) hs hown ⟨w.heap.size, 0, none⟩ 1 1 [.string (strOf xs)] hx rfl (cell_one_new _ _ _) (by intro z hz; simp at hz; rw [hz]; rfl) (by unfold maxLen; omega) (by omega) (by simp; omega) ?_
  intro v' w' ho' hg' _ hloc
  have k1 : SR w' base v' (os ++ [xs]) := by
    show w'.ownsRow base 9 1 v' (os ++ [xs]).length (strC (os ++ [xs]))
    have e1 : strC (os ++ [xs]) = strC os ++ [.string (strOf xs)] := by simp [strC]
    rw [e1, List.length_append, List.length_singleton]
    exact ho'
  obtain ⟨a', c', e⟩ := k1.shape
  rw [List.length_append, List.length_singleton, hn] at e
  subst e
  refine h a' c' w' k1 (grownE_trans (World.grownBy_alloc w _ _) hg') fun g hg => ?_
  rcases hloc with e2 | e2
  · exact .inl (e2.symm.trans hg)
  · rw [e2] at hg
    simp at hg
    exact .inr (by omega)

/-- The contract of collectNames at depth d. -/
def CNAt (k : Int) (d : Nat) : Prop := ∀ (N base : Nat) (x : Value) (os : List (List Int)) (c : Value × Value × Value × Value × Value) (v : Vl d) (w : World), VSeg (fun b => b < N) w d c v → N ≤ base → base ≤ w.heap.size → SR w base x os → os.length + partsE d v ≤ 500 →
  Calls Tryd.prog 83 #[x, .agg #[c.1, c.2.1, c.2.2.1, c.2.2.2.1, c.2.2.2.2], .int .i64 k] w fun e w' => ∃ y, e = .returned y ∧ SR w' base y (os ++ rawN k d v) ∧ w.grownBy w' x.ownBlock ∧ ∀ g, y.ownBlock = some g → x.ownBlock = some g ∨ w.heap.size ≤ g

/-- What holds ahead of round j. -/
def CN (k : Int) (d : Nat) (vL : List (Vl d)) (os1 : List (List Int)) (base : Nat) (x : Value) (w wr : World) (j : Nat) (y : Value) : Prop :=
  j ≤ vL.length ∧ SR wr base y (os1 ++ preN k d vL j) ∧ w.grownBy wr x.ownBlock ∧ ∀ g, y.ownBlock = some g → x.ownBlock = some g ∨ w.heap.size ≤ g

set_option maxHeartbeats 2000000 in
set_option maxRecDepth 100000 in
theorem collectNames_succ (k : Int) (d : Nat) (ih : CNAt k d) : CNAt k (d + 1) := by
  intro N base x os c v w hv hNb hbw hx hlen
  obtain ⟨c0, c1, c2, c3, c4⟩ := c
  obtain ⟨vk, vn, vs, vK, vL⟩ := v
  obtain ⟨e0, e1, ht, hk, hl⟩ := (VSeg_succ _ _ _ _ _).1 hv
  simp only at e0 e1 ht hk hl
  subst e0
  subst e1
  clear hv
  simp only
  have HL := hide' hl
  obtain ⟨a2, p2, rfl, s2, l2, m2, _, r2⟩ := ht
  obtain ⟨a3, p3, rfl, _, _, _, _⟩ := hk
  obtain ⟨a4, p4, rfl, hlc4, hcm4, _, _⟩ := hl
  unfold maxLen at hcm4
  have hp := partsE_succ d vk vn vs vK vL
  have hraw : rawN k (d + 1) (vk, vn, vs, vK, vL) = (if vk = k then [vs] else []) ++ (vL.map (rawN k d)).flatten := rfl
  rw [hp] at hlen
  have b0 : ∀ o : Obj, Below w.heap.size w (w.alloc o) := fun o => (Below.refl _ _).alloc (Nat.le_refl _) o
  have Hb := hide' b0
  have HI := hide' ih
  obtain ⟨os1, hos1⟩ : ∃ os1, os1 = os ++ (if vk = k then [vs] else []) := ⟨_, rfl⟩
  have hl1 : os1.length ≤ os.length + 1 := by
    rw [hos1, List.length_append]
    have h2 : (if vk = k then [vs] else []).length ≤ 1 := by split <;> simp
    omega
  have HEnd : Hid (os ++ rawN k (d + 1) (vk, vn, vs, vK, vL) = os1 ++ preN k d vL vL.length) := by
    show _ = _
    rw [hraw, ← List.append_assoc, ← hos1, preN_all]
  have HLen : Hid (∀ j (h : j < vL.length), (os1 ++ preN k d vL j).length + partsE d vL[j] ≤ 500) := fun j h => by
    rw [List.length_append]
    have h2 := preN_len k d vL j
    have h3 := pre_succ (partsE d) vL j h
    have h4 := pre_le (partsE d) vL (j + 1)
    have h5 := pre_all (partsE d) vL
    omega
  have hxb : ∀ g, x.ownBlock = some g → base ≤ g ∧ g < w.heap.size := fun g hg => World.ownsRow.lt hx g hg
  have HXB := hide' hxb
  have Hag : Hid (∀ wx, w.grownBy wx x.ownBlock → Agree (fun b => b < N) w wx) := fun wx hg b hb => hg.block b (by omega) (fun e => by have := hxb b e.symm; omega)
  have HX := hide' hx
  have HCv : Hid (∀ o : Obj, (convert 22 9 (.slice a2 vs.length p2)).run Tryd.prog (w.alloc o) = .ok (.string (strOf vs)) (w.alloc o)) := fun o => conv_seg p2 (s2.grow (b0 o))
  obtain ⟨xa, xc, rfl⟩ := hx.shape
  have hbox : ∀ o wx, (w.alloc o).grownBy wx (Value.slice xa os.length xc).ownBlock → wx.heap[w.heap.size]? = some o := fun o wx h => (h.block w.heap.size (by simp) (fun e => by have := hxb _ e.symm; omega)).trans (MapKept.heap_alloc w o).1
  have Hbox := hide' hbox
  clear s2 b0 hp hraw ih hx hxb hbox
  by_cases hk0 : vk = k
  · subst hk0
    have he1 : Hid (os1 = os ++ [vs]) := by show _ = _; rw [hos1]; simp
    have hcv := HCv.out
    have HXa : Hid (∀ o : Obj, SR (w.alloc o) base (.slice xa os.length xc) os) := fun o => World.ownsRow.alloc HX.out o
    have Hgal : Hid (∀ (o : Obj) (wx : World), (w.alloc o).grownBy wx (Value.slice xa os.length xc).ownBlock → w.grownBy wx (Value.slice xa os.length xc).ownBlock) := fun o wx h => grownE_trans (World.grownBy_alloc w _ _) h
    clear hos1 HCv
    go_enter Tryd.func83, Tryd.ntmps83
    go_wp2_with (at_builtin; refine wpList_SR_add rfl (.tmp 13) (.tmp 17) (by rfl) base (.slice xa os.length xc) os vs (by rfl) (HXa.out _) (w.heap.size + 1) (by simp) (by rfl) os.length rfl (by omega) (by simp; omega) ?_; intro ya yc w2 hR2 hg2 hloc2; obtain ⟨y0, y1, y2, y3, y4, _⟩ := row5 (Hbox.out _ _ hg2); have H0 : Hid (CN vk d vL os1 base (.slice xa os.length xc) w w2 0 (.slice ya (os.length + 1) yc)) := ⟨Nat.zero_le _, by rw [preN_zero, List.append_nil, he1.out]; exact hR2, Hgal.out _ _ hg2, loc_alloc hloc2⟩; clear hR2 hg2 hloc2)
    go_wp2
    go_loopw [0, 22] (fun y i wr => ∃ j : Nat, i = .int .i64 j ∧ CN vk d vL os1 base (.slice xa os.length xc) w wr j y) (fun _ i _ => vL.length - (intOf i).toNat)
    case atStart => exact ⟨0, rfl, H0.out⟩
    case round =>
      clear H0
      obtain ⟨j, rfl, hC⟩ := hrel
      have HC0 := hide' hC
      obtain ⟨hj, hR, hg, hloc⟩ := hC
      obtain ⟨ya, yc, rfl⟩ := hR.shape
      by_cases hlt : j < vL.length
      · have hlt' : (j : Int) < (vL.length : Int) := by omega
        have hag := Hag.out _ hg
        have hs := hg.size
        have hcell : ∃ b off c, a4 = some ⟨b, off, none⟩ ∧ Five wr b (off + j * 5) c ∧ VSeg (fun b => b < N) wr d c (vL[j]) := by
          obtain ⟨a', cap', e1, _, _, _, h5⟩ := HL.out
          simp only [Value.slice.injEq] at e1
          obtain ⟨rfl, _, _⟩ := e1
          rcases h5 with h0 | ⟨b, off, rfl, hRb, hcc⟩
          · rw [h0] at hlt; simp at hlt
          · obtain ⟨c, h5, hv⟩ := hcc j hlt
            exact ⟨b, off, c, rfl, h5.agree hag hRb, VSeg.agree hag d hv⟩
        obtain ⟨b, off, c, rfl, h5', hv⟩ := hcell
        obtain ⟨c0, c1, c2, c3, c4⟩ := c
        obtain ⟨q0, q1, q2, q3, q4⟩ := h5'
        simp only at q0 q1 q2 q3 q4
        obtain ⟨ck, cn, s2, l2', e2, s3, l3, e3, s4, l4, e4, rfl, rfl, rfl, rfl, rfl⟩ := VSeg.form d hv
        have hgW := World.grownBy_alloc wr (.cells #[.int .i64 ck, .int .i64 cn, .slice s2 l2' e2, .slice s3 l3 e3, .slice s4 l4 e4] 31) none
        have HC := hide' (HI.out N base _ _ _ vL[j] _ (VSeg.agree (fun b hb => hgW.block b (by omega) (by simp)) d hv) hNb (by simp; omega) (World.ownsRow.alloc hR _) (HLen.out j hlt))
        have HNx : Hid (∀ w2 y2, SR w2 base y2 ((os1 ++ preN vk d vL j) ++ rawN vk d vL[j]) → (wr.alloc (.cells #[.int .i64 ck, .int .i64 cn, .slice s2 l2' e2, .slice s3 l3 e3, .slice s4 l4 e4] 31)).grownBy w2 (Value.slice ya (os1 ++ preN vk d vL j).length yc).ownBlock → (∀ g, y2.ownBlock = some g → (Value.slice ya (os1 ++ preN vk d vL j).length yc).ownBlock = some g ∨ (wr.alloc (.cells #[.int .i64 ck, .int .i64 cn, .slice s2 l2' e2, .slice s3 l3 e3, .slice s4 l4 e4] 31)).heap.size ≤ g) → CN vk d vL os1 base (.slice xa os.length xc) w w2 (j + 1) y2) := by
          intro w2 y2 hR2 hg2 hl2
          refine ⟨hlt, by rw [preN_succ vk d vL j hlt, ← List.append_assoc]; exact hR2, grown_on (grown_on hg hgW (by simp)) hg2 hloc, fun g hg' => ?_⟩
          rcases hl2 g hg' with h | h
          · exact hloc g h
          · exact .inr (by simp at h; omega)
        generalize (os1 ++ preN vk d vL j).length = n1 at *
        clear hv hag hg hgW hR hloc
        go_wp2_with fail
        refine HC.out.mono ?_
        rintro e w2 ⟨y2, rfl, hR2, hg2, hl2⟩
        have HN := hide' (HNx.out w2 y2 hR2 hg2 hl2)
        obtain ⟨ya2, yc2, hy2⟩ := hR2.shape
        generalize ((os1 ++ preN vk d vL j) ++ rawN vk d vL[j]).length = n2 at *
        subst hy2
        clear q0 q1 q2 q3 q4 HC hR2 hg2 hl2 HNx
        go_wp2
        go_roundw
        case rel => exact ⟨j + 1, by go_num, HN.out⟩
        case measure => simp [intOf]; omega
      · have hkn : j = vL.length := by omega
        have hlt' : ¬ (j : Int) < (vL.length : Int) := by omega
        have HF : Hid (SR wr base (.slice ya (os1 ++ preN vk d vL j).length yc) (os ++ rawN vk (d + 1) (vk, vn, vs, vK, vL))) := by rw [HEnd.out, ← hkn]; exact hR
        clear hkn hR
        generalize (os1 ++ preN vk d vL j).length = n1 at *
        go_wp2
        go_ret
        exact ⟨_, rfl, HF.out, hg, hloc⟩
  · have he1 : os1 = os := by rw [hos1]; simp [hk0]
    have hk0' : (vk == k) = false := by simpa using hk0
    have H0 : Hid (CN k d vL os1 base (.slice xa os.length xc) w (w.alloc (.cells #[.int .i64 vk, .int .i64 vn, .slice a2 vs.length p2, .slice a3 vK.length p3, .slice a4 vL.length p4] 31)) 0 (.slice xa os.length xc)) := ⟨Nat.zero_le _, by rw [preN_zero, List.append_nil, he1]; exact World.ownsRow.alloc HX.out _, World.grownBy_alloc w _ _, fun g hg => .inl hg⟩
    clear hos1 HCv hk0 he1
    go_enter Tryd.func83, Tryd.ntmps83
    go_wp2
    go_loopw [0, 22] (fun y i wr => ∃ j : Nat, i = .int .i64 j ∧ CN k d vL os1 base (.slice xa os.length xc) w wr j y) (fun _ i _ => vL.length - (intOf i).toNat)
    case atStart => exact ⟨0, rfl, H0.out⟩
    case round =>
      clear H0
      obtain ⟨j, rfl, hC⟩ := hrel
      have HC0 := hide' hC
      obtain ⟨hj, hR, hg, hloc⟩ := hC
      obtain ⟨ya, yc, rfl⟩ := hR.shape
      by_cases hlt : j < vL.length
      · have hlt' : (j : Int) < (vL.length : Int) := by omega
        have hag := Hag.out _ hg
        have hs := hg.size
        have hcell : ∃ b off c, a4 = some ⟨b, off, none⟩ ∧ Five wr b (off + j * 5) c ∧ VSeg (fun b => b < N) wr d c (vL[j]) := by
          obtain ⟨a', cap', e1, _, _, _, h5⟩ := HL.out
          simp only [Value.slice.injEq] at e1
          obtain ⟨rfl, _, _⟩ := e1
          rcases h5 with h0 | ⟨b, off, rfl, hRb, hcc⟩
          · rw [h0] at hlt; simp at hlt
          · obtain ⟨c, h5, hv⟩ := hcc j hlt
            exact ⟨b, off, c, rfl, h5.agree hag hRb, VSeg.agree hag d hv⟩
        obtain ⟨b, off, c, rfl, h5', hv⟩ := hcell
        obtain ⟨c0, c1, c2, c3, c4⟩ := c
        obtain ⟨q0, q1, q2, q3, q4⟩ := h5'
        simp only at q0 q1 q2 q3 q4
        obtain ⟨ck, cn, s2, l2', e2, s3, l3, e3, s4, l4, e4, rfl, rfl, rfl, rfl, rfl⟩ := VSeg.form d hv
        have hgW := World.grownBy_alloc wr (.cells #[.int .i64 ck, .int .i64 cn, .slice s2 l2' e2, .slice s3 l3 e3, .slice s4 l4 e4] 31) none
        have HC := hide' (HI.out N base _ _ _ vL[j] _ (VSeg.agree (fun b hb => hgW.block b (by omega) (by simp)) d hv) hNb (by simp; omega) (World.ownsRow.alloc hR _) (HLen.out j hlt))
        have HNx : Hid (∀ w2 y2, SR w2 base y2 ((os1 ++ preN k d vL j) ++ rawN k d vL[j]) → (wr.alloc (.cells #[.int .i64 ck, .int .i64 cn, .slice s2 l2' e2, .slice s3 l3 e3, .slice s4 l4 e4] 31)).grownBy w2 (Value.slice ya (os1 ++ preN k d vL j).length yc).ownBlock → (∀ g, y2.ownBlock = some g → (Value.slice ya (os1 ++ preN k d vL j).length yc).ownBlock = some g ∨ (wr.alloc (.cells #[.int .i64 ck, .int .i64 cn, .slice s2 l2' e2, .slice s3 l3 e3, .slice s4 l4 e4] 31)).heap.size ≤ g) → CN k d vL os1 base (.slice xa os.length xc) w w2 (j + 1) y2) := by
          intro w2 y2 hR2 hg2 hl2
          refine ⟨hlt, by rw [preN_succ k d vL j hlt, ← List.append_assoc]; exact hR2, grown_on (grown_on hg hgW (by simp)) hg2 hloc, fun g hg' => ?_⟩
          rcases hl2 g hg' with h | h
          · exact hloc g h
          · exact .inr (by simp at h; omega)
        generalize (os1 ++ preN k d vL j).length = n1 at *
        clear hv hag hg hgW hR hloc
        go_wp2_with fail
        refine HC.out.mono ?_
        rintro e w2 ⟨y2, rfl, hR2, hg2, hl2⟩
        have HN := hide' (HNx.out w2 y2 hR2 hg2 hl2)
        obtain ⟨ya2, yc2, hy2⟩ := hR2.shape
        generalize ((os1 ++ preN k d vL j) ++ rawN k d vL[j]).length = n2 at *
        subst hy2
        clear q0 q1 q2 q3 q4 HC hR2 hg2 hl2 HNx
        go_wp2
        go_roundw
        case rel => exact ⟨j + 1, by go_num, HN.out⟩
        case measure => simp [intOf]; omega
      · have hkn : j = vL.length := by omega
        have hlt' : ¬ (j : Int) < (vL.length : Int) := by omega
        have HF : Hid (SR wr base (.slice ya (os1 ++ preN k d vL j).length yc) (os ++ rawN k (d + 1) (vk, vn, vs, vK, vL))) := by rw [HEnd.out, ← hkn]; exact hR
        clear hkn hR
        generalize (os1 ++ preN k d vL j).length = n1 at *
        go_wp2
        go_ret
        exact ⟨_, rfl, HF.out, hg, hloc⟩

theorem collectNames_any (k : Int) (d : Nat) : CNAt k d := by
  induction d with
  | zero => intro N base x os c v w hv; exact hv.elim
  | succ d ih => exact collectNames_succ k d ih
end Go.Proofs.YtgdjdgaoflekgaaDoor
/-
  A string of bytes as cells; 'append(out, s...)' of a string.
-/
namespace Go.Proofs.YtgdjdgaoflekgaaDoor
open Go.RowKit
set_option linter.unusedVariables false

theorem strCells_of {xs : List Int} (h : ∀ x ∈ xs, Byt x) : Lib.strCells (strOf xs) = cellsOf xs := by
  show (u8s xs).map (fun b => Value.int .u8 (b.toNat : Int)) = _
  unfold u8s cellsOf
  rw [List.map_map]
  refine List.map_congr_left fun x hx => ?_
  have hb := h x hx
  unfold Byt at hb
  simp
  omega

theorem size_strOf (xs : List Int) : (strOf xs).size = xs.length := by simp [strOf, ByteArray.size]

/-- 'append(out, s...)', out nil or the call's own, s a string: what is owned grows by the bytes of s. -/
theorem wpList_append_text {w : World} {ops : Array Oper} {rest : List Oper} {o : Oper} {a : Act} {Q : Exit → Act → World → Prop} (hgd : o.guard = none) (s x : Operand) (t : TypeId)
    (ho : o.op = .call { callee := .builtin .append, args := #[s, x], argTypes := #[22, t] }) (ht : Tryd.prog.underlying t = some .string)
    (base : Nat) (v : Value) (xs ys : List Int) (hs : a.eval s = v) (hB : Bts w base v xs) (sx : ByteArray) (hsx : sx = strOf ys) (hy : ∀ y ∈ ys, Byt y) (hx : a.eval x = .string sx)
    (hlen : xs.length + ys.length ≤ 1099511627776) (hbase : base ≤ w.heap.size)
    (h : ∀ v' w', Bts w' base v' (xs ++ ys) → w.grownBy w' v.ownBlock → wpList Tryd.prog ops Q rest (a.put o.dst v') w') : wpList Tryd.prog ops Q (o :: rest) a w := by
  obtain ⟨i0, hi, hz0, hz1, hz2⟩ := info_parts info5
  subst hsx
  have hsz := size_strOf ys
  refine Lib.wpList_append_own_string w hgd s x 22 t ho base 5 i0 Tryd.underlying22 ht hi hz0 hz1 hz2 v xs.length (cellsOf xs) hs hB.2 (strOf ys) hx (by unfold maxLen; omega) (by omega) hbase ?_
  intro v' w' hown hg _
  refine h v' w' ⟨?_, ?_⟩ hg
  · intro z hz
    rcases List.mem_append.1 hz with h1 | h1
    · exact hB.1 z h1
    · exact hy z h1
  · rw [strCells_of hy, hsz, ← cellsOf_append] at hown
    rw [List.length_append]
    exact hown

end Go.Proofs.YtgdjdgaoflekgaaDoor
/-
  '[]byte(s)': a text of the call's own.
-/
namespace Go.Proofs.YtgdjdgaoflekgaaDoor
open Go.RowKit
set_option linter.unusedVariables false
set_option linter.unusedSimpArgs false

/-- '[]byte(s)': a text of the call's own. -/
theorem conv_back (xs : List Int) (hx : ∀ x ∈ xs, Byt x) (hl : xs.length ≤ 1048576) (w : World) : ∃ cap wB, (convert 9 22 (.string (strOf xs))).run Tryd.prog w = .ok (.slice (some ⟨w.heap.size, 0, none⟩) xs.length cap) wB ∧
    TOwn wB (.slice (some ⟨w.heap.size, 0, none⟩) xs.length cap) xs [w.heap.size] ∧ Below w.heap.size w wB ∧ wB.heap.size = w.heap.size + 1 := by
  have hsz := size_strOf xs
  have hsc := strCells_of hx
  have hrun := run_bytes_of_string (P := Tryd.prog) w 9 22 5 (strOf xs) Tryd.underlying9 Tryd.underlying22 Tryd.underlying5
  rw [hsz] at hrun
  have hge := grownCap_ge w xs.length 0 5
  have hle := grownCap_le_maxLen w xs.length 0 5 (by unfold maxLen; omega)
  generalize grownCap w xs.length 0 5 = cap at hrun hge hle
  have hrs : (bytesRow (strOf xs) cap).size = cap := by
    have h1 : (strOf xs).data.size = xs.length := hsz
    simp [bytesRow, h1, hsz]
    omega
  have hrt : (bytesRow (strOf xs) cap).toList.take xs.length = cellsOf xs := by
    rw [← hsc]
    unfold bytesRow Lib.strCells
    rw [Array.toList_append, Array.toList_map, List.take_append_of_le_length (by simp; exact Nat.le_of_eq hsz.symm)]
    rw [List.take_of_length_le (by simp; exact Nat.le_of_eq hsz)]
  rw [hrs] at hrun
  refine ⟨cap, _, hrun, ⟨⟨hx, by simp [cellsOf], .inr ⟨w.heap.size, cap, _, _, rfl, heap_alloc_new w.drew _, .inr (Nat.le_refl _), hge, hle, hrs, hrt⟩⟩, .inr ⟨_, _, rfl, rfl⟩⟩, ((Below.refl _ w).drew).alloc (Nat.le_refl _) _, by simp⟩
end Go.Proofs.YtgdjdgaoflekgaaDoor
