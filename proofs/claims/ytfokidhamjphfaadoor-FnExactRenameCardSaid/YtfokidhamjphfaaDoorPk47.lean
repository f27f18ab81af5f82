/-
  Texts that a law leans on, one behind the other; no statement is proved here.
-/
import Derived.Test.YtfokidhamjphfaaDoorPk46
/-
  takes of the program: it counts the parts of an expression, and answers whether all may be: 'goodE'.
-/
namespace Go.Proofs.YtfokidhamjphfaaDoor
open Go.RowKit
set_option linter.unusedVariables false
set_option linter.unusedSimpArgs false

theorem grownE_fresh {w w1 w2 : World} {r r' : Option Nat} (h : w.grownBy w1 r) (k : w1.grownBy w2 r') (hr : ∀ j, r' = some j → w.heap.size ≤ j) : w.grownBy w2 r :=
  ⟨k.os.trans h.os, k.tape.trans h.tape, k.output.trans h.output, Nat.le_trans h.size k.size, fun i hi hne => (k.block i (Nat.lt_of_lt_of_le hi h.size) (fun e => by have := hr i e.symm; omega)).trans (h.block i hi hne)⟩
theorem grownE_trans {w w1 w2 : World} {r : Option Nat} (h : w.grownBy w1 r) (k : w1.grownBy w2 r) : w.grownBy w2 r :=
  ⟨k.os.trans h.os, k.tape.trans h.tape, k.output.trans h.output, Nat.le_trans h.size k.size, fun i hi hne => (k.block i (Nat.lt_of_lt_of_le hi h.size) hne).trans (h.block i hi hne)⟩
theorem belowE_grown {w w' : World} (h : Below w.heap.size w w') (r : Option Nat) : w.grownBy w' r := ⟨h.os, h.tape, h.output, h.size, fun k hk _ => h.block k hk⟩
theorem agreeE_grown {N q : Nat} {w w' : World} (h : w.grownBy w' (some q)) (hN : N ≤ q) (hq : q < w.heap.size) : Agree (fun b => b < N) w w' := fun b hb => h.block b (by omega) (by simp; omega)

/-- The counter of a tally. -/
def ECnt (w : World) (q : Nat) (n : Nat) : Prop := w.heap[q]? = some (.cells #[.int .i64 n] 55 (0, 0))

theorem ECnt.cell {w : World} {q n : Nat} (h : ECnt w q n) : w.cell? ⟨q, 0, none⟩ = some (.int .i64 n) ∧ w.frozen? ⟨q, 0, none⟩ = false := by
  refine ⟨?_, frozen_of_row w q 0 _ _ h⟩
  rw [cell_of_row w q 0 _ _ (0, 0) h]
  rfl
theorem ECnt.set {w : World} {q n : Nat} (h : ECnt w q n) (m : Nat) : ECnt (w.setCell ⟨q, 0, none⟩ (.int .i64 m)) q m := heap_setCell_same w q 0 _ _ _ h
theorem ECnt.keep {w w' : World} {q n : Nat} {r : Option Nat} (h : ECnt w q n) (hg : w.grownBy w' r) (hr : some q ≠ r) : ECnt w' q n :=
  (hg.block q (Array.getElem?_eq_some_iff.1 h).1 hr).trans h

/-- The contract of takes at depth d. -/
def ETkAt (d : Nat) : Prop := ∀ (N q n : Nat) (c : Value × Value × Value × Value × Value) (v : Vl d) (deep : Nat) (w : World), VSeg (fun b => b < N) w d c v → N ≤ q → q < w.heap.size → ECnt w q n → ShpT w → 0 < N → n ≤ 150 → deep ≤ 11 →
  Calls Tryd.prog 29 #[.pointer (some ⟨q, 0, none⟩), .agg #[c.1, c.2.1, c.2.2.1, c.2.2.2.1, c.2.2.2.2], .int .i64 deep] w fun e w' =>
    w.grownBy w' (some q) ∧ ((e = .returned (.bool true) ∧ goodE d v deep = true ∧ n + partsE d v ≤ 150 ∧ ECnt w' q (n + partsE d v)) ∨ (e = .returned (.bool false) ∧ ¬ (goodE d v deep = true ∧ n + partsE d v ≤ 150)))

/-- What takes has done ahead of the kids: its counter has one more, its argument lies in a box. -/
def EAhead (w : World) (q n : Nat) (o : Obj) (w2 : World) : Prop :=
  w.grownBy w2 (some q) ∧ ECnt w2 q (n + 1) ∧ w2.heap[w.heap.size]? = some o

theorem eahead_of {w : World} {q n : Nat} {o : Obj} {w2 : World} {x : Int} (hx : x = (n : Int) + 1) (hq : q < w.heap.size) (hc : ECnt w q n)
    (hb : Below ((w.setCell ⟨q, 0, none⟩ (.int .i64 x)).alloc o).heap.size ((w.setCell ⟨q, 0, none⟩ (.int .i64 x)).alloc o) w2) :
    EAhead w q n o w2 := by
  subst hx
  have hg := grown1 w q 0 (.int .i64 ((n : Int) + 1))
  have hcs : ECnt (w.setCell ⟨q, 0, none⟩ (.int .i64 ((n : Int) + 1))) q (n + 1) := hc.set (n + 1)
  have hsz : (w.setCell ⟨q, 0, none⟩ (.int .i64 ((n : Int) + 1))).heap.size = w.heap.size := by simp [World.setCell]
  have hal := World.grownBy_alloc (w.setCell ⟨q, 0, none⟩ (.int .i64 ((n : Int) + 1))) o none
  have hb2 := belowE_grown hb none
  have hnew := (MapKept.heap_alloc (w.setCell ⟨q, 0, none⟩ (.int .i64 ((n : Int) + 1))) o).1
  rw [hsz] at hnew
  refine ⟨grownE_fresh (grownE_fresh hg hal (by simp)) hb2 (by simp), (hcs.keep hal (by simp)).keep hb2 (by simp), (hb2.block w.heap.size (by simp [hsz]) (by simp)).trans hnew⟩

set_option maxHeartbeats 4000000 in
set_option maxRecDepth 100000 in
theorem takes_over (q n : Nat) (vk vn : Int) (a2 a3 a4 : Option Addr) (l2 l3 l4 p2 p3 p4 : Nat) (deep : Nat) (w : World) (hq : q < w.heap.size) (hc : ECnt w q n) (hn : n ≤ 150) (hd : deep ≤ 11) (h : n = 150 ∨ 10 < deep) :
    Calls Tryd.prog 29 #[.pointer (some ⟨q, 0, none⟩), .agg #[.int .i64 vk, .int .i64 vn, .slice a2 l2 p2, .slice a3 l3 p3, .slice a4 l4 p4], .int .i64 deep] w fun e w' => w.grownBy w' (some q) ∧ e = .returned (.bool false) := by
  have HA : Hid (ECnt w q n) := hc
  obtain ⟨hc0, hf0⟩ := hc.cell
  have hne : q ≠ w.heap.size := by omega
  clear hc
  by_cases hn1 : n = 150
  · subst hn1
    go_enter Tryd.func29, Tryd.ntmps29
    go_wp2
    go_ret
    exact ⟨(eahead_of (n := 150) rfl hq HA.out (Below.refl _ _)).1, rfl⟩
  · have hnn : ¬ (150 : Int) < (n : Int) + 1 := by omega
    have hdd : (10 : Int) < (deep : Int) := by omega
    go_enter Tryd.func29, Tryd.ntmps29
    go_wp2
    go_ret
    exact ⟨(eahead_of rfl hq HA.out (Below.refl _ _)).1, rfl⟩

/-- What holds ahead of the round k of takes. -/
def TK (d : Nat) (vL : List (Vl d)) (deep n q : Nat) (w wr : World) (o : Obj) (k : Nat) : Prop :=
  k ≤ vL.length ∧ n + 1 + pre (partsE d) vL k ≤ 150 ∧ ECnt wr q (n + 1 + pre (partsE d) vL k) ∧ w.grownBy wr (some q) ∧ wr.heap[w.heap.size]? = some o ∧ ∀ j (h : j < vL.length), j < k → goodE d vL[j] (deep + 1) = true

set_option maxHeartbeats 8000000 in
set_option maxRecDepth 100000 in
theorem takes_succ (d : Nat) (ih : ETkAt d) : ETkAt (d + 1) := by
  intro N q n c v deep w hv hNq hq hc hT hgN hn hd
  obtain ⟨c0, c1, c2, c3, c4⟩ := c
  obtain ⟨vk, vn, vs, vK, vL⟩ := v
  obtain ⟨e0, e1, ht, hk, hl⟩ := (VSeg_succ _ _ _ _ _).1 hv
  simp only at e0 e1 ht hk hl
  subst e0
  subst e1
  clear hv
  simp only
  have HK := hide' hk
  have HL := hide' hl
  obtain ⟨a2, p2, rfl, s2, l2, m2, _, r2⟩ := ht
  obtain ⟨a3, p3, rfl, _, _, _, _⟩ := hk
  obtain ⟨a4, p4, rfl, hlc4, hcm4, _, _⟩ := hl
  by_cases h0 : n = 150 ∨ 10 < deep
  · refine (takes_over q n vk vn a2 a3 a4 _ _ _ p2 p3 p4 deep w hq hc hn hd h0).mono ?_
    rintro e w1 ⟨hg, rfl⟩
    refine ⟨hg, .inr ⟨rfl, ?_⟩⟩
    rintro ⟨h1, h2⟩
    have := ((goodE_succ _ _ _ _ _ _ _).1 h1).1
    have := partsE_pos d (vk, vn, vs, vK, vL)
    omega
  have hn1 : n < 150 := by omega
  have hd1 : deep ≤ 10 := by omega
  -- what shaped answers, in a world in which the counter has turned
  have HSh : Hid (∀ wx, Agree (fun b => b < N) w wx → w.heap.size ≤ wx.heap.size → Calls Tryd.prog 58 #[.agg #[.int .i64 vk, .int .i64 vn, .slice a2 vs.length p2, .slice a3 vK.length p3, .slice a4 vL.length p4]] wx fun e w' => e = .returned (.bool (shpB vk vn vs vK vL.length)) ∧ Below wx.heap.size wx w') := by
    intro wx ha hsz
    by_cases hr : vk < 0 ∨ 23 < vk
    · refine (shaped_out vk vn _ _ _ wx hr).mono ?_
      rintro e w' ⟨rfl, hb⟩
      refine ⟨ret_bool ?_, hb⟩
      rcases hr with hr | hr
      · have h1 : ¬ (0 : Int) ≤ vk := by omega
        simp [shpB, h1]
      · have h1 : ¬ vk ≤ 23 := by omega
        simp [shpB, h1]
    · obtain ⟨k, rfl⟩ : ∃ k : Nat, vk = k := ⟨vk.toNat, by omega⟩
      have hs : Seg wx a2 vs := by
        refine ⟨s2.1, ?_⟩
        rcases s2.2 with h0 | ⟨b, off, rfl, hcc⟩
        · exact .inl h0
        · by_cases he : vs = []
          · exact .inl he
          · exact .inr ⟨b, off, rfl, fun i hi => (cell_agree ha (r2 _ rfl he)).trans (hcc i hi)⟩
      exact shaped_in (fun _ => True) k (by omega) vn a2 a3 a4 p2 p3 p4 vL.length vs vK wx (hT.agree ha hgN) hs (by omega) ((HK.out.agree ha).mono (fun b hb => by omega)) (by omega)
  have HA : Hid (ECnt w q n) := hc
  obtain ⟨hc0, hf0⟩ := hc.cell
  have hne : q ≠ w.heap.size := by omega
  have hnn : ¬ (150 : Int) < (n : Int) + 1 := by omega
  have hdd : ¬ (10 : Int) < (deep : Int) := by omega
  have HAg : Hid (∀ (x : Int) (o : Obj), Agree (fun b => b < N) w ((w.setCell ⟨q, 0, none⟩ (.int .i64 x)).alloc o) ∧ w.heap.size ≤ ((w.setCell ⟨q, 0, none⟩ (.int .i64 x)).alloc o).heap.size) := by
    intro x o
    have hg := grownE_fresh (grown1 w q 0 (.int .i64 x)) (World.grownBy_alloc (w.setCell ⟨q, 0, none⟩ (.int .i64 x)) o none) (by simp)
    exact ⟨agreeE_grown hg hNq hq, hg.size⟩
  have HT := hide' hT
  have HI := hide' ih
  have Hd1 := hide' hd1
  clear hc hT ih s2
  cases hb : shpB vk vn vs vK vL.length with
  | false =>
    have HF : Hid (¬ (goodE (d + 1) (vk, vn, vs, vK, vL) deep = true ∧ n + partsE (d + 1) (vk, vn, vs, vK, vL) ≤ 150)) := fun ⟨h1, _⟩ => by
      have := ((goodE_succ _ _ _ _ _ _ _).1 h1).2.1
      rw [hb] at this
      simp at this
    rw [hb] at HSh
    clear hb
    go_enter Tryd.func29, Tryd.ntmps29
    go_wp2_with fail
    refine (HSh.out _ (HAg.out _ _).1 (HAg.out _ _).2).mono ?_
    rintro e w2 ⟨rfl, b2⟩
    have hA := hide' (eahead_of rfl hq HA.out b2)
    clear b2
    go_wp2
    go_ret
    exact ⟨hA.out.1, .inr ⟨rfl, HF.out⟩⟩
  | true =>
    rw [hb] at HSh
    have Hshp := hide' hb
    clear hb
    obtain ⟨ob, HOb⟩ : ∃ ob, Hid (ob = Obj.cells #[.int .i64 vk, .int .i64 vn, .slice a2 vs.length p2, .slice a3 vK.length p3, .slice a4 vL.length p4] 26) := ⟨_, rfl⟩
    unfold maxLen at hcm4
    go_enter Tryd.func29, Tryd.ntmps29
    go_wp2_with fail
    refine (HSh.out _ (HAg.out _ _).1 (HAg.out _ _).2).mono ?_
    rintro e w2 ⟨rfl, b2⟩
    have hA := eahead_of rfl hq HA.out b2
    have hrow := hA.2.2
    obtain ⟨y0, y1, y2, y3, y4, _⟩ := row5 hrow
    rw [← HOb.out] at hA
    have H0 : Hid (TK d vL deep n q w w2 ob 0) := ⟨Nat.zero_le _, by rw [pre_zero]; omega, by rw [pre_zero]; exact hA.2.1, hA.1, hA.2.2, fun j _ h => by omega⟩
    clear b2 hA hrow HSh HAg
    go_wp2
    go_loopw [33] (fun i wr => ∃ k : Nat, i = .int .i64 k ∧ TK d vL deep n q w wr ob k) (fun i _ => vL.length - (intOf i).toNat)
    case atStart => exact ⟨0, rfl, H0.out⟩
    case round =>
      clear y0 y1 y2 y3 y4 H0
      obtain ⟨k, rfl, hT⟩ := hrel
      have HTk := hide' hT
      obtain ⟨hk, hple, hcnt, hgr, hbox, hgood⟩ := hT
      clear hgood
      by_cases hlt : k < vL.length
      · have hlt' : (k : Int) < (vL.length : Int) := by omega
        have hag := agreeE_grown hgr hNq hq
        have hcell : ∃ b off c, a4 = some ⟨b, off, none⟩ ∧ Five wr b (off + k * 5) c ∧ VSeg (fun b => b < N) wr d c (vL[k]) := by
          obtain ⟨a', cap', e1, _, _, _, h5⟩ := HL.out
          simp only [Value.slice.injEq] at e1
          obtain ⟨rfl, _, _⟩ := e1
          rcases h5 with h0 | ⟨b, off, rfl, hR, hcc⟩
          · rw [h0] at hlt; simp at hlt
          · obtain ⟨c, h5, hv⟩ := hcc k hlt
            exact ⟨b, off, c, rfl, h5.agree hag hR, VSeg.agree hag d hv⟩
        obtain ⟨b, off, c, rfl, h5', hv⟩ := hcell
        obtain ⟨c0, c1, c2, c3, c4⟩ := c
        obtain ⟨q0, q1, q2, q3, q4⟩ := h5'
        simp only at q0 q1 q2 q3 q4
        have hs := hgr.size
        obtain ⟨ck, cn, s2, l2', e2, s3, l3, e3, s4, l4, e4, rfl, rfl, rfl, rfl, rfl⟩ := VSeg.form d hv
        have hgW := World.grownBy_alloc wr (.cells #[.int .i64 ck, .int .i64 cn, .slice s2 l2' e2, .slice s3 l3 e3, .slice s4 l4 e4] 26) none
        have hC := HI.out N q (n + 1 + pre (partsE d) vL k) _ vL[k] (deep + 1) _ (VSeg.agree (fun b hb => hgW.block b (by omega) (by simp)) d hv) hNq (by simp; omega) (hcnt.keep hgW (by simp)) ((HT.out.agree hag hgN).below ((Below.refl _ _).alloc (Nat.le_refl _) _)) hgN hple (by have := Hd1.out; omega)
        rw [Int.natCast_add] at hC
        have HC := hide' hC
        have HgW := hide' (grownE_fresh hgr hgW (by simp))
        have hszW : wr.heap.size < (wr.alloc (.cells #[.int .i64 ck, .int .i64 cn, .slice s2 l2' e2, .slice s3 l3 e3, .slice s4 l4 e4] 26)).heap.size := by simp
        have HboxW : Hid ((wr.alloc (.cells #[.int .i64 ck, .int .i64 cn, .slice s2 l2' e2, .slice s3 l3 e3, .slice s4 l4 e4] 26)).heap[w.heap.size]? = some ob) := (hgW.block _ (Array.getElem?_eq_some_iff.1 hbox).1 (by simp)).trans hbox
        have hltb := (Array.getElem?_eq_some_iff.1 hbox).1
        have HszW := hide' hszW
        clear hv hag hgr hC hgW hbox hcnt hszW
        go_wp2_with fail
        refine HC.out.mono ?_
        rintro e w1 ⟨hg1, hcase⟩
        clear q0 q1 q2 q3 q4
        have HG1 := hide' (grownE_trans HgW.out hg1)
        have HB1 : Hid (w1.heap[w.heap.size]? = some ob) := (hg1.block _ (by have := HszW.out; omega) (by simp; omega)).trans HboxW.out
        have hps := hide' (pre_succ (partsE d) vL k hlt)
        rcases hcase with ⟨rfl, hgd, hpl, hcn⟩ | ⟨rfl, hbad⟩
        · have HN : Hid (TK d vL deep n q w w1 ob (k + 1)) := by
            refine ⟨hlt, by rw [hps.out]; omega, by rw [hps.out, ← Nat.add_assoc]; exact hcn, HG1.out, HB1.out, fun j hj hjk => ?_⟩
            by_cases e : j = k
            · subst e; exact hgd
            · exact HTk.out.2.2.2.2.2 j hj (by omega)
          clear hg1 hgd hpl hcn
          go_wp2
          go_roundw
          case rel => exact ⟨k + 1, by go_num, HN.out⟩
          case measure => simp [intOf]; omega
        · have HF : Hid (¬ (goodE (d + 1) (vk, vn, vs, vK, vL) deep = true ∧ n + partsE (d + 1) (vk, vn, vs, vK, vL) ≤ 150)) := fun ⟨h1, h2⟩ => by
            refine hbad ⟨((goodE_succ _ _ _ _ _ _ _).1 h1).2.2 k hlt, ?_⟩
            rw [partsE_succ] at h2
            have h4 := pre_le (partsE d) vL (k + 1)
            have h5 := pre_all (partsE d) vL
            have h6 := hps.out
            omega
          clear hg1 hbad
          go_wp2
          go_ret
          exact ⟨HG1.out, .inr ⟨rfl, HF.out⟩⟩
      · have hkn : k = vL.length := by omega
        have hlt' : ¬ (k : Int) < (vL.length : Int) := by omega
        have HF : Hid (goodE (d + 1) (vk, vn, vs, vK, vL) deep = true ∧ n + partsE (d + 1) (vk, vn, vs, vK, vL) ≤ 150 ∧ ECnt wr q (n + partsE (d + 1) (vk, vn, vs, vK, vL))) := by
          have hp := partsE_succ d vk vn vs vK vL
          obtain ⟨_, g2, g3, _, _, g6⟩ := HTk.out
          rw [hkn] at g2 g3
          refine ⟨(goodE_succ _ _ _ _ _ _ _).2 ⟨Hd1.out, Hshp.out, fun j h => g6 j h (by omega)⟩, by rw [hp]; omega, ?_⟩
          rw [hp, ← Nat.add_assoc]
          exact g3
        have HG := hide' hgr
        clear hkn hgr hcnt hbox
        go_wp2
        go_ret
        exact ⟨HG.out, .inl ⟨rfl, HF.out⟩⟩

theorem takes_any (d : Nat) : ETkAt d := by
  induction d with
  | zero => intro N q n c v deep w hv; exact hv.elim
  | succ d ih => exact takes_succ d ih

end Go.Proofs.YtfokidhamjphfaaDoor
