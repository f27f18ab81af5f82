/-
  Texts that a law leans on, one behind the other; no statement is proved here.
-/
import Derived.Test.YtfokidhamjphfaaDoorPk14
import Derived.Deep.RegionWith
/-
  eqByteSS, eqValueS, eqValue of the laws: of two readings of the same they answer true, and turn nothing old.
-/
namespace Go.Proofs.YtfokidhamjphfaaDoor
open Go.RowKit
set_option linter.unusedVariables false

set_option maxHeartbeats 1600000 in
theorem eqByteSS_same (N : Nat) (x y : Value) (ks : List (List Int)) (w : World) (hx : KSeg (fun b => b < N) w x ks) (hy : KSeg (fun b => b < N) w y ks) (hN : N ≤ w.heap.size) (hz : szK ks ≤ 1048576) :
    Calls Tryd.prog 40 #[x, y] w fun e w' => e = .returned (.bool true) ∧ Below w.heap.size w w' := by
  obtain ⟨a, cap, rfl, hlc, hcm, ka, hc⟩ := hx
  obtain ⟨a', cap', rfl, hlc', hcm', ka', hc'⟩ := hy
  have hn : ks.length ≤ 1048576 := by unfold szK at hz; omega
  have hel : ∀ k, k < ks.length → (ks.getD k []).length ≤ 1048576 := by
    intro k hk
    have h1 := pre_succ List.length ks k hk
    have h2 := pre_le List.length ks (k + 1)
    have h3 : ks.getD k [] = ks[k] := by simp [List.getD_eq_getElem?_getD, hk]
    rw [h3]
    unfold szK at hz
    omega
  have HE := hide' hel
  have HC : Hid (ks = [] ∨ ∃ b off, a = some ⟨b, off, none⟩ ∧ b < N ∧ ∀ i, i < ks.length → ∃ u, w.cell? ⟨b, off + i, none⟩ = some u ∧ TSeg (fun b => b < N) w u (ks.getD i [])) := hc
  have HC' : Hid (ks = [] ∨ ∃ b off, a' = some ⟨b, off, none⟩ ∧ b < N ∧ ∀ i, i < ks.length → ∃ u, w.cell? ⟨b, off + i, none⟩ = some u ∧ TSeg (fun b => b < N) w u (ks.getD i [])) := hc'
  clear hc hc' hel hz
  unfold maxLen at hcm hcm'
  go_enter Tryd.func40, Tryd.ntmps40
  go_wp2
  go_loopw [5] (fun i wr => ∃ k : Nat, k ≤ ks.length ∧ i = .int .i64 k ∧ Below w.heap.size w wr) (fun i _ => ks.length - (intOf i).toNat)
  case atStart => exact ⟨0, Nat.zero_le _, rfl, Below.refl _ _⟩
  case round =>
    obtain ⟨k, hk, rfl, hbel⟩ := hrel
    have hsz2 := hbel.size
    by_cases hlt : k < ks.length
    · have ag : Agree (fun b => b < N) w wr := agree_below (hbel.mono hN)
      have hcell : ∃ b off u, a = some ⟨b, off, none⟩ ∧ wr.cell? ⟨b, off + k, none⟩ = some u ∧ TSeg (fun b => b < N) wr u (ks.getD k []) := by
        rcases HC.out with e | ⟨b, off, e, hb, hc⟩
        · rw [e] at hlt; simp at hlt
        · obtain ⟨u, hu, ht⟩ := hc k hlt
          exact ⟨b, off, u, e, (cell_agree ag hb).trans hu, ht.agree ag⟩
      have hcell' : ∃ b off u, a' = some ⟨b, off, none⟩ ∧ wr.cell? ⟨b, off + k, none⟩ = some u ∧ TSeg (fun b => b < N) wr u (ks.getD k []) := by
        rcases HC'.out with e | ⟨b, off, e, hb, hc⟩
        · rw [e] at hlt; simp at hlt
        · obtain ⟨u, hu, ht⟩ := hc k hlt
          exact ⟨b, off, u, e, (cell_agree ag hb).trans hu, ht.agree ag⟩
      obtain ⟨b, off, u, rfl, hu, a2, p2, rfl, s2, _, _, _, _⟩ := hcell
      obtain ⟨b', off', u', rfl, hu', a3, p3, rfl, s3, _, _, _, _⟩ := hcell'
      have hlt' : (k : Int) < (ks.length : Int) := by omega
      have hlk := HE.out k hlt
      generalize ks.getD k [] = ys at *
      have hE := hide' (eqByteS_same a2 a3 p2 p3 ys wr.drew s2 s3 (by omega))
      clear s2 s3 ag
      go_wp2_with fail
      go_region_with (go_at_call 18; refine hE.out.mono ?_; rintro e w1 ⟨rfl, b1⟩)
      all_goals
        have B1 : Below w.heap.size w w1 := Below.on hbel.drew b1
        go_wp2
        go_roundw
        case rel => exact ⟨k + 1, by omega, by go_num, B1⟩
        case measure => simp [intOf]; omega
    · have hlt' : ¬ (k : Int) < (ks.length : Int) := by omega
      go_wp2
      go_ret
      exact ⟨rfl, hbel⟩
/-- The contract of eqValue at depth d, of two readings of one value. -/
def EqAt (d : Nat) : Prop := ∀ (N : Nat) (c c' : Value × Value × Value × Value × Value) (v : Vl d) (w : World), VSeg (fun b => b < N) w d c v → VSeg (fun b => b < N) w d c' v → N ≤ w.heap.size → szV d v ≤ 1048576 →
  Calls Tryd.prog 17 #[.agg #[c.1, c.2.1, c.2.2.1, c.2.2.2.1, c.2.2.2.2], .agg #[c'.1, c'.2.1, c'.2.2.1, c'.2.2.2.1, c'.2.2.2.2]] w fun e w' => e = .returned (.bool true) ∧ Below w.heap.size w w'

set_option maxHeartbeats 1600000 in
theorem eqValueS_of (d : Nat) (ih : EqAt d) (N : Nat) (x y : Value) (l : List (Vl d)) (w : World) (hx : LSeg (fun b => b < N) w d x l) (hy : LSeg (fun b => b < N) w d y l) (hN : N ≤ w.heap.size) (hz : szL d l ≤ 1048576) :
    Calls Tryd.prog 41 #[x, y] w fun e w' => e = .returned (.bool true) ∧ Below w.heap.size w w' := by
  obtain ⟨a, cap, rfl, hlc, hcm, ka, hc⟩ := hx
  obtain ⟨a', cap', rfl, hlc', hcm', ka', hc'⟩ := hy
  have hn : l.length ≤ 1048576 := by unfold szL at hz; omega
  have HI := hide' ih
  have HZ := hide' hz
  have HC : Hid (l = [] ∨ ∃ b off, a = some ⟨b, off, none⟩ ∧ b < N ∧ ∀ i (h : i < l.length), ∃ e, Five w b (off + i * 5) e ∧ VSeg (fun b => b < N) w d e (l[i])) := hc
  have HC' : Hid (l = [] ∨ ∃ b off, a' = some ⟨b, off, none⟩ ∧ b < N ∧ ∀ i (h : i < l.length), ∃ e, Five w b (off + i * 5) e ∧ VSeg (fun b => b < N) w d e (l[i])) := hc'
  clear hc hc' ih hz
  unfold maxLen at hcm hcm'
  go_enter Tryd.func41, Tryd.ntmps41
  go_wp2
  go_loopw [5] (fun i wr => ∃ k : Nat, k ≤ l.length ∧ i = .int .i64 k ∧ Below w.heap.size w wr) (fun i _ => l.length - (intOf i).toNat)
  case atStart => exact ⟨0, Nat.zero_le _, rfl, Below.refl _ _⟩
  case round =>
    obtain ⟨k, hk, rfl, hbel⟩ := hrel
    have hsz2 := hbel.size
    by_cases hlt : k < l.length
    · have ag : Agree (fun b => b < N) w wr := agree_below (hbel.mono hN)
      have hcell : ∃ b off e, a = some ⟨b, off, none⟩ ∧ Five wr b (off + k * 5) e ∧ VSeg (fun b => b < N) wr d e (l[k]) := by
        rcases HC.out with e | ⟨b, off, e, hb, hc⟩
        · rw [e] at hlt; simp at hlt
        · obtain ⟨c, h5, hv⟩ := hc k hlt
          exact ⟨b, off, c, e, h5.agree ag hb, VSeg.agree ag d hv⟩
      have hcell' : ∃ b off e, a' = some ⟨b, off, none⟩ ∧ Five wr b (off + k * 5) e ∧ VSeg (fun b => b < N) wr d e (l[k]) := by
        rcases HC'.out with e | ⟨b, off, e, hb, hc⟩
        · rw [e] at hlt; simp at hlt
        · obtain ⟨c, h5, hv⟩ := hc k hlt
          exact ⟨b, off, c, e, h5.agree ag hb, VSeg.agree ag d hv⟩
      obtain ⟨b, off, c, rfl, h5, hv⟩ := hcell
      obtain ⟨b', off', c', rfl, h5', hv'⟩ := hcell'
      obtain ⟨c0, c1, c2, c3, c4⟩ := c
      obtain ⟨e0, e1, e2, e3, e4⟩ := c'
      obtain ⟨q0, q1, q2, q3, q4⟩ := h5
      obtain ⟨r0, r1, r2, r3, r4⟩ := h5'
      simp only at q0 q1 q2 q3 q4 r0 r1 r2 r3 r4
      have hlt' : (k : Int) < (l.length : Int) := by omega
      have hzk : szV d l[k] ≤ 1048576 := Nat.le_trans (sz_elem hlt) HZ.out
      have hE := hide' (HI.out N (c0, c1, c2, c3, c4) (e0, e1, e2, e3, e4) l[k] wr.drew (VSeg.agree (w := wr) (w' := wr.drew) (fun b _ => rfl) d hv) (VSeg.agree (w := wr) (w' := wr.drew) (fun b _ => rfl) d hv') (by show N ≤ wr.heap.size; omega) hzk)
      clear hv hv' ag hzk
      go_wp2_with fail
      go_region_with (go_at_call 17; refine hE.out.mono ?_; rintro e w1 ⟨rfl, b1⟩)
      all_goals
        have B1 : Below w.heap.size w w1 := Below.on hbel.drew b1
        clear q0 q1 q2 q3 q4 r0 r1 r2 r3 r4
        go_wp2
        go_roundw
        case rel => exact ⟨k + 1, by omega, by go_num, B1⟩
        case measure => simp [intOf]; omega
    · have hlt' : ¬ (k : Int) < (l.length : Int) := by omega
      go_wp2
      go_ret
      exact ⟨rfl, hbel⟩

set_option maxHeartbeats 1600000 in
theorem eqValue_succ (d : Nat) (ih : EqAt d) : EqAt (d + 1) := by
  intro N c c' v w hv hv' hN hz
  obtain ⟨c0, c1, c2, c3, c4⟩ := c
  obtain ⟨g0, g1, g2, g3, g4⟩ := c'
  obtain ⟨vk, vn, vs, vK, vL⟩ := v
  obtain ⟨e0, e1, ht, hk, hl⟩ := (VSeg_succ _ _ _ _ _).1 hv
  obtain ⟨f0, f1, ht', hk', hl'⟩ := (VSeg_succ _ _ _ _ _).1 hv'
  simp only at e0 e1 ht hk hl f0 f1 ht' hk' hl'
  subst e0
  subst e1
  subst f0
  subst f1
  have hsz : szV (d + 1) (vk, vn, vs, vK, vL) = vs.length + szK vK + szL d vL := rfl
  rw [hsz] at hz
  clear hsz hv hv'
  simp only
  have hz1 : vs.length ≤ 1048576 := by omega
  have hz2 : szK vK ≤ 1048576 := by omega
  have hz3 : szL d vL ≤ 1048576 := by omega
  have Hk : Hid (∀ wx, Below w.heap.size w wx → KSeg (fun b => b < N) wx c3 vK ∧ KSeg (fun b => b < N) wx g3 vK) := fun wx hb => ⟨hk.agree (agree_below (hb.mono hN)), hk'.agree (agree_below (hb.mono hN))⟩
  have Hl : Hid (∀ wx, Below w.heap.size w wx → LSeg (fun b => b < N) wx d c4 vL ∧ LSeg (fun b => b < N) wx d g4 vL) := fun wx hb => ⟨hl.agree (agree_below (hb.mono hN)), hl'.agree (agree_below (hb.mono hN))⟩
  have HI := hide' ih
  have Hb : Hid (∀ o o' : Obj, Below w.heap.size w ((w.alloc o).alloc o')) := fun o o' => ((Below.refl _ _).alloc (Nat.le_refl _) o).alloc (by simp) o'
  obtain ⟨a3, cp3, rfl, _, _, _, _⟩ := hk
  obtain ⟨a4, cp4, rfl, _, _, _, _⟩ := hl
  obtain ⟨a3', cp3', rfl, _, _, _, _⟩ := hk'
  obtain ⟨a4', cp4', rfl, _, _, _, _⟩ := hl'
  have Ht : Hid (∀ wx, Below w.heap.size w wx → TSeg (fun b => b < N) wx c2 vs ∧ TSeg (fun b => b < N) wx g2 vs) := fun wx hb => ⟨ht.agree (agree_below (hb.mono hN)), ht'.agree (agree_below (hb.mono hN))⟩
  obtain ⟨a2, cp2, rfl, s2, hl2, hm2, _, _⟩ := ht
  obtain ⟨a2', cp2', rfl, s2', hl2', hm2', _, _⟩ := ht'
  have Hs : Hid (∀ wx, Below w.heap.size w wx → Seg wx a2 vs ∧ Seg wx a2' vs) := by
    intro wx hb
    obtain ⟨x1, x2⟩ := Ht.out wx hb
    obtain ⟨_, _, y1, y2, _⟩ := x1
    obtain ⟨_, _, z1, z2, _⟩ := x2
    simp at y1 z1
    exact ⟨y1.1 ▸ y2, z1.1 ▸ z2⟩
  clear ih Ht s2 s2'
  go_enter Tryd.func17, Tryd.ntmps17
  go_wp2_with fail
  have q1 := Hb.out (.cells #[.int .i64 vk, .int .i64 vn, .slice a2 vs.length cp2, .slice a3 vK.length cp3, .slice a4 vL.length cp4] 26) (.cells #[.int .i64 vk, .int .i64 vn, .slice a2' vs.length cp2', .slice a3' vK.length cp3', .slice a4' vL.length cp4'] 26)
  have r1 : ∀ o o' : Obj, ((w.alloc o).alloc o').heap[w.heap.size]? = some o ∧ ((w.alloc o).alloc o').heap[w.heap.size + 1]? = some o' := two_boxes w
  have R1 := r1 (.cells #[.int .i64 vk, .int .i64 vn, .slice a2 vs.length cp2, .slice a3 vK.length cp3, .slice a4 vL.length cp4] 26) (.cells #[.int .i64 vk, .int .i64 vn, .slice a2' vs.length cp2', .slice a3' vK.length cp3', .slice a4' vL.length cp4'] 26)
  refine (eqByteS_same _ _ _ _ vs _ (Hs.out _ q1).1 (Hs.out _ q1).2 (by omega)).mono ?_
  rintro e w1 ⟨rfl, b1⟩
  have B1 := Below.on q1 b1
  have R1a := (b1.block _ (by rw [size2]; omega)).trans R1.1
  have R1b := (b1.block _ (by rw [size2]; omega)).trans R1.2
  obtain ⟨_, _, _, x3, x4, _⟩ := row5 R1a
  obtain ⟨_, _, _, y3, y4, _⟩ := row5 R1b
  have hz1 : w.heap.size + 2 ≤ w1.heap.size := by have := b1.size; rw [size2] at this; omega
  have HK := hide' (eqByteSS_same N _ _ vK w1 (Hk.out _ B1).1 (Hk.out _ B1).2 (by omega) hz2)
  have HRa := hide' R1a
  have HRb := hide' R1b
  clear q1 r1 R1 b1 R1a R1b Hs
  go_wp2_with fail
  refine HK.out.mono ?_
  rintro e w2 ⟨rfl, b2⟩
  have B2 := Below.on B1 b2
  have hz2 := b2.size
  obtain ⟨_, _, _, _, x4, _⟩ := row5 ((b2.block _ (by omega)).trans HRa.out)
  obtain ⟨_, _, _, _, y4, _⟩ := row5 ((b2.block _ (by omega)).trans HRb.out)
  have HL := hide' (eqValueS_of d HI.out N _ _ vL w2 (Hl.out _ B2).1 (Hl.out _ B2).2 (by omega) hz3)
  clear b2 HRa HRb HK B1 Hk Hl
  go_wp2_with fail
  refine HL.out.mono ?_
  rintro e w3 ⟨rfl, b3⟩
  have B3 := Below.on B2 b3
  go_wp2
  go_ret
  exact ⟨rfl, B3⟩
theorem eqValue_any (d : Nat) : EqAt d := by
  induction d with
  | zero => intro N c c' v w hv; exact hv.elim
  | succ d ih => exact eqValue_succ d ih
end Go.Proofs.YtfokidhamjphfaaDoor
