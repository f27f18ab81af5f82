/-
  Texts that a law leans on, one behind the other; no statement is proved here.
-/
import Derived.Test.YtngjhimieacjhaaGreatDoorPk4
import Derived.Deep.RegionWith
import Derived.Test.YtngjhimieacjhaaGreatDoorPk3
import Derived.Deep.MidRow
import Derived.Deep.Cut
/-
  eqByteSS, eqValueS, eqValue of the laws: of two readings of the same they answer true, and turn nothing old.
-/
namespace Go.Proofs.YtngjhimieacjhaaGreatDoor
open Go.RowKit
set_option linter.unusedVariables false

set_option maxHeartbeats 1600000 in
theorem eqByteSS_same (N : Nat) (x y : Value) (ks : List (List Int)) (w : World) (hx : KSeg (fun b => b < N) w x ks) (hy : KSeg (fun b => b < N) w y ks) (hN : N ≤ w.heap.size) (hz : szK ks ≤ 1048576) :
    Calls Tryz.prog 11 #[x, y] w fun e w' => e = .returned (.bool true) ∧ Below w.heap.size w w' := by
  obtain ⟨a, cap, rfl, hlc, hcm, ka, hc⟩ := hx
  obtain ⟨a', cap', rfl, hlc', hcm', ka', hc'⟩ := hy
  have hn : ks.length ≤ 1048576 := by unfold szK at hz; omega
  have hel : ∀ k, k < ks.length → (ks.getD k []).length ≤ 1048576 := by
    intro k hk
    have h1 := pre_succ List.length ks k hk
    have h2 := pre_le List.length ks (k + 1)
    have h3 : ks.getD k [] = ks[k] := by simp [List.getD_eq_getElem?_getD, hk]
    rw [h3]
    unfold szK at hz
    omega
  have HE := hide' hel
  have HC : Hid (ks = [] ∨ ∃ b off, a = some ⟨b, off, none⟩ ∧ b < N ∧ ∀ i, i < ks.length → ∃ u, w.cell? ⟨b, off + i, none⟩ = some u ∧ TSeg (fun b => b < N) w u (ks.getD i [])) := hc
  have HC' : Hid (ks = [] ∨ ∃ b off, a' = some ⟨b, off, none⟩ ∧ b < N ∧ ∀ i, i < ks.length → ∃ u, w.cell? ⟨b, off + i, none⟩ = some u ∧ TSeg (fun b => b < N) w u (ks.getD i [])) := hc'
  clear hc hc' hel hz
  unfold maxLen at hcm hcm'
  go_enter Tryz.func11, Tryz.ntmps11
  go_wp2
  go_loopw [5] (fun i wr => ∃ k : Nat, k ≤ ks.length ∧ i = .int .i64 k ∧ Below w.heap.size w wr) (fun i _ => ks.length - (intOf i).toNat)
  case atStart => exact ⟨0, Nat.zero_le _, rfl, Below.refl _ _⟩
  case round =>
    obtain ⟨k, hk, rfl, hbel⟩ := hrel
    have hsz2 := hbel.size
    by_cases hlt : k < ks.length
    · have ag : Agree (fun b => b < N) w wr := agree_below (hbel.mono hN)
      have hcell : ∃ b off u, a = some ⟨b, off, none⟩ ∧ wr.cell? ⟨b, off + k, none⟩ = some u ∧ TSeg (fun b => b < N) wr u (ks.getD k []) := by
        rcases HC.out with e | ⟨b, off, e, hb, hc⟩
        · rw [e] at hlt; simp at hlt
        · obtain ⟨u, hu, ht⟩ := hc k hlt
          exact ⟨b, off, u, e, (cell_agree ag hb).trans hu, ht.agree ag⟩
      have hcell' : ∃ b off u, a' = some ⟨b, off, none⟩ ∧ wr.cell? ⟨b, off + k, none⟩ = some u ∧ TSeg (fun b => b < N) wr u (ks.getD k []) := by
        rcases HC'.out with e | ⟨b, off, e, hb, hc⟩
        · rw [e] at hlt; simp at hlt
        · obtain ⟨u, hu, ht⟩ := hc k hlt
          exact ⟨b, off, u, e, (cell_agree ag hb).trans hu, ht.agree ag⟩
      obtain ⟨b, off, u, rfl, hu, a2, p2, rfl, s2, _, _, _, _⟩ := hcell
      obtain ⟨b', off', u', rfl, hu', a3, p3, rfl, s3, _, _, _, _⟩ := hcell'
      have hlt' : (k : Int) < (ks.length : Int) := by omega
      have hlk := HE.out k hlt
      generalize ks.getD k [] = ys at *
      have hE := hide' (eqByteS_same a2 a3 p2 p3 ys wr.drew s2 s3 (by omega))
      clear s2 s3 ag
      go_wp2_with fail
      go_region_with (go_at_call 13; refine hE.out.mono ?_; rintro e w1 ⟨rfl, b1⟩)
      all_goals
        have B1 : Below w.heap.size w w1 := Below.on hbel.drew b1
        go_wp2
        go_roundw
        case rel => exact ⟨k + 1, by omega, by go_num, B1⟩
        case measure => simp [intOf]; omega
    · have hlt' : ¬ (k : Int) < (ks.length : Int) := by omega
      go_wp2
      go_ret
      exact ⟨rfl, hbel⟩
/-- The contract of eqValue at depth d, of two readings of one value. -/
def EqAt (d : Nat) : Prop := ∀ (N : Nat) (c c' : Value × Value × Value × Value × Value) (v : Vl d) (w : World), VSeg (fun b => b < N) w d c v → VSeg (fun b => b < N) w d c' v → N ≤ w.heap.size → szV d v ≤ 1048576 →
  Calls Tryz.prog 70 #[.agg #[c.1, c.2.1, c.2.2.1, c.2.2.2.1, c.2.2.2.2], .agg #[c'.1, c'.2.1, c'.2.2.1, c'.2.2.2.1, c'.2.2.2.2]] w fun e w' => e = .returned (.bool true) ∧ Below w.heap.size w w'

set_option maxHeartbeats 1600000 in
theorem eqValueS_of (d : Nat) (ih : EqAt d) (N : Nat) (x y : Value) (l : List (Vl d)) (w : World) (hx : LSeg (fun b => b < N) w d x l) (hy : LSeg (fun b => b < N) w d y l) (hN : N ≤ w.heap.size) (hz : szL d l ≤ 1048576) :
    Calls Tryz.prog 88 #[x, y] w fun e w' => e = .returned (.bool true) ∧ Below w.heap.size w w' := by
  obtain ⟨a, cap, rfl, hlc, hcm, ka, hc⟩ := hx
  obtain ⟨a', cap', rfl, hlc', hcm', ka', hc'⟩ := hy
  have hn : l.length ≤ 1048576 := by unfold szL at hz; omega
  have HI := hide' ih
  have HZ := hide' hz
  have HC : Hid (l = [] ∨ ∃ b off, a = some ⟨b, off, none⟩ ∧ b < N ∧ ∀ i (h : i < l.length), ∃ e, Five w b (off + i * 5) e ∧ VSeg (fun b => b < N) w d e (l[i])) := hc
  have HC' : Hid (l = [] ∨ ∃ b off, a' = some ⟨b, off, none⟩ ∧ b < N ∧ ∀ i (h : i < l.length), ∃ e, Five w b (off + i * 5) e ∧ VSeg (fun b => b < N) w d e (l[i])) := hc'
  clear hc hc' ih hz
  unfold maxLen at hcm hcm'
  go_enter Tryz.func88, Tryz.ntmps88
  go_wp2
  go_loopw [5] (fun i wr => ∃ k : Nat, k ≤ l.length ∧ i = .int .i64 k ∧ Below w.heap.size w wr) (fun i _ => l.length - (intOf i).toNat)
  case atStart => exact ⟨0, Nat.zero_le _, rfl, Below.refl _ _⟩
  case round =>
    obtain ⟨k, hk, rfl, hbel⟩ := hrel
    have hsz2 := hbel.size
    by_cases hlt : k < l.length
    · have ag : Agree (fun b => b < N) w wr := agree_below (hbel.mono hN)
      have hcell : ∃ b off e, a = some ⟨b, off, none⟩ ∧ Five wr b (off + k * 5) e ∧ VSeg (fun b => b < N) wr d e (l[k]) := by
        rcases HC.out with e | ⟨b, off, e, hb, hc⟩
        · rw [e] at hlt; simp at hlt
        · obtain ⟨c, h5, hv⟩ := hc k hlt
          exact ⟨b, off, c, e, h5.agree ag hb, VSeg.agree ag d hv⟩
      have hcell' : ∃ b off e, a' = some ⟨b, off, none⟩ ∧ Five wr b (off + k * 5) e ∧ VSeg (fun b => b < N) wr d e (l[k]) := by
        rcases HC'.out with e | ⟨b, off, e, hb, hc⟩
        · rw [e] at hlt; simp at hlt
        · obtain ⟨c, h5, hv⟩ := hc k hlt
          exact ⟨b, off, c, e, h5.agree ag hb, VSeg.agree ag d hv⟩
      obtain ⟨b, off, c, rfl, h5, hv⟩ := hcell
      obtain ⟨b', off', c', rfl, h5', hv'⟩ := hcell'
      obtain ⟨c0, c1, c2, c3, c4⟩ := c
      obtain ⟨e0, e1, e2, e3, e4⟩ := c'
      obtain ⟨q0, q1, q2, q3, q4⟩ := h5
      obtain ⟨r0, r1, r2, r3, r4⟩ := h5'
      simp only at q0 q1 q2 q3 q4 r0 r1 r2 r3 r4
      have hlt' : (k : Int) < (l.length : Int) := by omega
      have hzk : szV d l[k] ≤ 1048576 := Nat.le_trans (sz_elem hlt) HZ.out
      have hE := hide' (HI.out N (c0, c1, c2, c3, c4) (e0, e1, e2, e3, e4) l[k] wr.drew (VSeg.agree (w := wr) (w' := wr.drew) (fun b _ => rfl) d hv) (VSeg.agree (w := wr) (w' := wr.drew) (fun b _ => rfl) d hv') (by show N ≤ wr.heap.size; omega) hzk)
      clear hv hv' ag hzk
      go_wp2_with fail
      go_region_with (go_at_call 70; refine hE.out.mono ?_; rintro e w1 ⟨rfl, b1⟩)
      all_goals
        have B1 : Below w.heap.size w w1 := Below.on hbel.drew b1
        clear q0 q1 q2 q3 q4 r0 r1 r2 r3 r4
        go_wp2
        go_roundw
        case rel => exact ⟨k + 1, by omega, by go_num, B1⟩
        case measure => simp [intOf]; omega
    · have hlt' : ¬ (k : Int) < (l.length : Int) := by omega
      go_wp2
      go_ret
      exact ⟨rfl, hbel⟩

set_option maxHeartbeats 1600000 in
theorem eqValue_succ (d : Nat) (ih : EqAt d) : EqAt (d + 1) := by
  intro N c c' v w hv hv' hN hz
  obtain ⟨c0, c1, c2, c3, c4⟩ := c
  obtain ⟨g0, g1, g2, g3, g4⟩ := c'
  obtain ⟨vk, vn, vs, vK, vL⟩ := v
  obtain ⟨e0, e1, ht, hk, hl⟩ := (VSeg_succ _ _ _ _ _).1 hv
  obtain ⟨f0, f1, ht', hk', hl'⟩ := (VSeg_succ _ _ _ _ _).1 hv'
  simp only at e0 e1 ht hk hl f0 f1 ht' hk' hl'
  subst e0
  subst e1
  subst f0
  subst f1
  have hsz : szV (d + 1) (vk, vn, vs, vK, vL) = vs.length + szK vK + szL d vL := rfl
  rw [hsz] at hz
  clear hsz hv hv'
  simp only
  have hz1 : vs.length ≤ 1048576 := by omega
  have hz2 : szK vK ≤ 1048576 := by omega
  have hz3 : szL d vL ≤ 1048576 := by omega
  have Hk : Hid (∀ wx, Below w.heap.size w wx → KSeg (fun b => b < N) wx c3 vK ∧ KSeg (fun b => b < N) wx g3 vK) := fun wx hb => ⟨hk.agree (agree_below (hb.mono hN)), hk'.agree (agree_below (hb.mono hN))⟩
  have Hl : Hid (∀ wx, Below w.heap.size w wx → LSeg (fun b => b < N) wx d c4 vL ∧ LSeg (fun b => b < N) wx d g4 vL) := fun wx hb => ⟨hl.agree (agree_below (hb.mono hN)), hl'.agree (agree_below (hb.mono hN))⟩
  have HI := hide' ih
  have Hb : Hid (∀ o o' : Obj, Below w.heap.size w ((w.alloc o).alloc o')) := fun o o' => ((Below.refl _ _).alloc (Nat.le_refl _) o).alloc (by simp) o'
  obtain ⟨a3, cp3, rfl, _, _, _, _⟩ := hk
  obtain ⟨a4, cp4, rfl, _, _, _, _⟩ := hl
  obtain ⟨a3', cp3', rfl, _, _, _, _⟩ := hk'
  obtain ⟨a4', cp4', rfl, _, _, _, _⟩ := hl'
  have Ht : Hid (∀ wx, Below w.heap.size w wx → TSeg (fun b => b < N) wx c2 vs ∧ TSeg (fun b => b < N) wx g2 vs) := fun wx hb => ⟨ht.agree (agree_below (hb.mono hN)), ht'.agree (agree_below (hb.mono hN))⟩
  obtain ⟨a2, cp2, rfl, s2, hl2, hm2, _, _⟩ := ht
  obtain ⟨a2', cp2', rfl, s2', hl2', hm2', _, _⟩ := ht'
  have Hs : Hid (∀ wx, Below w.heap.size w wx → Seg wx a2 vs ∧ Seg wx a2' vs) := by
    intro wx hb
    obtain ⟨x1, x2⟩ := Ht.out wx hb
    obtain ⟨_, _, y1, y2, _⟩ := x1
    obtain ⟨_, _, z1, z2, _⟩ := x2
    simp at y1 z1
    exact ⟨y1.1 ▸ y2, z1.1 ▸ z2⟩
  clear ih Ht s2 s2'
  go_enter Tryz.func70, Tryz.ntmps70
  go_wp2_with fail
  have q1 := Hb.out (.cells #[.int .i64 vk, .int .i64 vn, .slice a2 vs.length cp2, .slice a3 vK.length cp3, .slice a4 vL.length cp4] 49) (.cells #[.int .i64 vk, .int .i64 vn, .slice a2' vs.length cp2', .slice a3' vK.length cp3', .slice a4' vL.length cp4'] 49)
  have r1 : ∀ o o' : Obj, ((w.alloc o).alloc o').heap[w.heap.size]? = some o ∧ ((w.alloc o).alloc o').heap[w.heap.size + 1]? = some o' := two_boxes w
  have R1 := r1 (.cells #[.int .i64 vk, .int .i64 vn, .slice a2 vs.length cp2, .slice a3 vK.length cp3, .slice a4 vL.length cp4] 49) (.cells #[.int .i64 vk, .int .i64 vn, .slice a2' vs.length cp2', .slice a3' vK.length cp3', .slice a4' vL.length cp4'] 49)
  refine (eqByteS_same _ _ _ _ vs _ (Hs.out _ q1).1 (Hs.out _ q1).2 (by omega)).mono ?_
  rintro e w1 ⟨rfl, b1⟩
  have B1 := Below.on q1 b1
  have R1a := (b1.block _ (by rw [size2]; omega)).trans R1.1
  have R1b := (b1.block _ (by rw [size2]; omega)).trans R1.2
  obtain ⟨_, _, _, x3, x4, _⟩ := row5 R1a
  obtain ⟨_, _, _, y3, y4, _⟩ := row5 R1b
  have hz1 : w.heap.size + 2 ≤ w1.heap.size := by have := b1.size; rw [size2] at this; omega
  have HK := hide' (eqByteSS_same N _ _ vK w1 (Hk.out _ B1).1 (Hk.out _ B1).2 (by omega) hz2)
  have HRa := hide' R1a
  have HRb := hide' R1b
  clear q1 r1 R1 b1 R1a R1b Hs
  go_wp2_with fail
  refine HK.out.mono ?_
  rintro e w2 ⟨rfl, b2⟩
  have B2 := Below.on B1 b2
  have hz2 := b2.size
  obtain ⟨_, _, _, _, x4, _⟩ := row5 ((b2.block _ (by omega)).trans HRa.out)
  obtain ⟨_, _, _, _, y4, _⟩ := row5 ((b2.block _ (by omega)).trans HRb.out)
  have HL := hide' (eqValueS_of d HI.out N _ _ vL w2 (Hl.out _ B2).1 (Hl.out _ B2).2 (by omega) hz3)
  clear b2 HRa HRb HK B1 Hk Hl
  go_wp2_with fail
  refine HL.out.mono ?_
  rintro e w3 ⟨rfl, b3⟩
  have B3 := Below.on B2 b3
  go_wp2
  go_ret
  exact ⟨rfl, B3⟩
theorem eqValue_any (d : Nat) : EqAt d := by
  induction d with
  | zero => intro N c c' v w hv; exact hv.elim
  | succ d ih => exact eqValue_succ d ih
end Go.Proofs.YtngjhimieacjhaaGreatDoor
/-
  Small laws on calls that turn nothing, on the box of a value, on lists of values; no statement is proved here.
-/
namespace Go.Proofs.YtngjhimieacjhaaGreatDoor
open Go.RowKit
set_option linter.unusedVariables false
set_option linter.unusedSimpArgs false

theorem quiet_same {P : Program} {f : FuncId} {args : Array Value} {w : World} {n : Nat} {v : Value}
    (h : Calls P f args (w.drewN n) fun e w' => e = .returned v ∧ w.drewN n = w') : Calls P f args (w.drewN n) fun e w'' => e = .returned v ∧ ∃ m, w'' = w.drewN m :=
  Calls.quiet_of_same (h.mono fun _ _ ⟨he, hm⟩ => ⟨he, hm.symm⟩)

/-- The box of a value that was handed in. -/
theorem box_row {w wr : World} {o : Obj} (h : Below (w.alloc o).heap.size (w.alloc o) wr) : wr.heap[w.heap.size]? = some o :=
  (h.block w.heap.size (by simp)).trans (MapKept.heap_alloc w o).1

theorem LSeg.at {N : Nat} {w wr : World} {d : Nat} {a : Option Addr} {n cap : Nat} {l : List (Vl d)} (h : LSeg (fun b => b < N) w d (.slice a n cap) l) (hb : Below w.heap.size w wr) (hN : N ≤ w.heap.size) {k : Nat} (hk : k < l.length) :
    ∃ b off c, a = some ⟨b, off, none⟩ ∧ Five wr b (off + k * 5) c ∧ ∀ wx, Below w.heap.size w wx → VSeg (fun b => b < N) wx d c (l[k]) := by
  obtain ⟨a', cap', h1, h2, h3, h4, h5⟩ := h
  simp only [Value.slice.injEq] at h1
  obtain ⟨rfl, _, _⟩ := h1
  rcases h5 with h0 | ⟨b, off, rfl, hR, hc⟩
  · subst h0; simp at hk
  · obtain ⟨c, h5, hv⟩ := hc k hk
    exact ⟨b, off, c, rfl, h5.agree (agree_below (hb.mono hN)) hR, fun wx hx => VSeg.agree (agree_below (hx.mono hN)) d hv⟩

theorem VSeg.form {R : Nat → Prop} {w : World} (d : Nat) {c0 c1 c2 c3 c4 : Value} {v : Vl d} (h : VSeg R w d (c0, c1, c2, c3, c4) v) :
    ∃ (k n : Int) (a2 : Option Addr) (l2 p2 : Nat) (a3 : Option Addr) (l3 p3 : Nat) (a4 : Option Addr) (l4 p4 : Nat), c0 = .int .i64 k ∧ c1 = .int .i64 n ∧ c2 = .slice a2 l2 p2 ∧ c3 = .slice a3 l3 p3 ∧ c4 = .slice a4 l4 p4 := by
  cases d with
  | zero => exact h.elim
  | succ d =>
    obtain ⟨e0, e1, ⟨a2, p2, e2, _⟩, ⟨a3, p3, e3, _⟩, a4, p4, e4, _⟩ := h
    exact ⟨_, _, _, _, _, _, _, _, _, _, _, e0, e1, e2, e3, e4⟩
end Go.Proofs.YtngjhimieacjhaaGreatDoor
/-
  What a call has made for itself can be read by whoever comes behind it.
-/
namespace Go.Proofs.YtngjhimieacjhaaGreatDoor
open Go.RowKit
set_option linter.unusedVariables false

/-- What a call has made for itself can be read by whoever comes behind it. -/
theorem VOwn.below {w w' : World} {d : Nat} {c : Value × Value × Value × Value × Value} {v : Vl d} {B : List Nat} (h : VOwn w d c v B) (hb : Below w.heap.size w w') : VSeg (fun b => b < w.heap.size) w' d c v :=
  VSeg.agree (agree_below hb) d (VSeg.mono (fun b hb => VOwn.lt d h b hb) d (VOwn.seg d h))
end Go.Proofs.YtngjhimieacjhaaGreatDoor
/-
  Records: what nine cells of memory read as; lists of them.
-/
namespace Go.Proofs.YtngjhimieacjhaaGreatDoor
open Go.RowKit
set_option linter.unusedVariables false
set_option linter.unusedSimpArgs false

/-- A record: kind, name, many, by, names, expressions. -/
def Rcd (d : Nat) : Type := Int × List Int × Int × Vl d × List (List Int)

/-- Nine cells that read as a record. -/
def RSg (R : Nat → Prop) (w : World) (d : Nat) (cs : List Value) (it : Rcd d) : Prop :=
  ∃ c1 c3 c4 c5 c6 c7 c8, cs = [.int .i64 it.1, c1, .int .i64 it.2.2.1, c3, c4, c5, c6, c7, c8] ∧ TSeg R w c1 it.2.1 ∧ VSeg R w d (c3, c4, c5, c6, c7) it.2.2.2.1 ∧ KSeg R w c8 it.2.2.2.2

/-- A list of records, read. -/
def RLSg (R : Nat → Prop) (w : World) (d : Nat) (x : Value) (l : List (Rcd d)) : Prop :=
  ∃ a cap, x = .slice a l.length cap ∧ l.length ≤ cap ∧ cap ≤ maxLen ∧ (a = none → cap = 0) ∧ (l = [] ∨ ∃ b off, a = some ⟨b, off, none⟩ ∧ R b ∧ ∀ i (h : i < l.length), ∃ cs, w.rangeAt b (off + i * 9) cs ∧ RSg R w d cs l[i])

theorem range_agree {R : Nat → Prop} {w w' : World} {b o : Nat} {cs : List Value} (h : w.rangeAt b o cs) (ha : Agree R w w') (hb : R b) : w'.rangeAt b o cs := fun j v hv => (World.cell?_of_block (ha b hb)).trans (h j v hv)

theorem RSg.agree {R : Nat → Prop} {w w' : World} {d : Nat} {cs : List Value} {it : Rcd d} (h : RSg R w d cs it) (ha : Agree R w w') : RSg R w' d cs it := by
  obtain ⟨c1, c3, c4, c5, c6, c7, c8, e, h1, h2, h3⟩ := h
  exact ⟨c1, c3, c4, c5, c6, c7, c8, e, h1.agree ha, VSeg.agree ha d h2, h3.agree ha⟩
theorem RSg.mono {R R' : Nat → Prop} {w : World} {d : Nat} {cs : List Value} {it : Rcd d} (h : RSg R w d cs it) (hr : ∀ b, R b → R' b) : RSg R' w d cs it := by
  obtain ⟨c1, c3, c4, c5, c6, c7, c8, e, h1, h2, h3⟩ := h
  exact ⟨c1, c3, c4, c5, c6, c7, c8, e, h1.mono hr, VSeg.mono hr d h2, h3.mono hr⟩
theorem RLSg.agree {R : Nat → Prop} {w w' : World} {d : Nat} {x : Value} {l : List (Rcd d)} (h : RLSg R w d x l) (ha : Agree R w w') : RLSg R w' d x l := by
  obtain ⟨a, cap, e, h1, h2, h3, h4⟩ := h
  refine ⟨a, cap, e, h1, h2, h3, ?_⟩
  rcases h4 with h0 | ⟨b, off, ea, hb, hc⟩
  · exact .inl h0
  · refine .inr ⟨b, off, ea, hb, fun i hi => ?_⟩
    obtain ⟨cs, hr, hv⟩ := hc i hi
    exact ⟨cs, range_agree hr ha hb, hv.agree ha⟩
theorem RLSg.at {R : Nat → Prop} {w : World} {d : Nat} {a : Option Addr} {n cap : Nat} {l : List (Rcd d)} (h : RLSg R w d (.slice a n cap) l) {k : Nat} (hk : k < l.length) :
    ∃ b off cs, a = some ⟨b, off, none⟩ ∧ R b ∧ w.rangeAt b (off + k * 9) cs ∧ RSg R w d cs l[k] := by
  obtain ⟨a', cap', g1, _, _, _, g5⟩ := h
  simp only [Value.slice.injEq] at g1
  obtain ⟨rfl, _, _⟩ := g1
  rcases g5 with e | ⟨b, off, hb, hR, hc⟩
  · rw [e] at hk; simp at hk
  · obtain ⟨cs, hr, hv⟩ := hc k hk
    exact ⟨b, off, cs, hb, hR, hr, hv⟩
theorem RLSg.form {R : Nat → Prop} {w : World} {d : Nat} {x : Value} {l : List (Rcd d)} (h : RLSg R w d x l) : ∃ a p, x = .slice a l.length p := by
  obtain ⟨a, cap, h1, _⟩ := h
  exact ⟨_, _, h1⟩

/-- The nine cells, in full. -/
theorem RSg.form {R : Nat → Prop} {w : World} {d : Nat} {cs : List Value} {it : Rcd d} (h : RSg R w d cs it) :
    ∃ (na : Option Addr) (np : Nat) (bk bn : Int) (a2 : Option Addr) (l2 p2 : Nat) (a3 : Option Addr) (l3 p3 : Nat) (a4 : Option Addr) (l4 p4 : Nat) (xa : Option Addr) (xp : Nat),
      cs = [.int .i64 it.1, .slice na it.2.1.length np, .int .i64 it.2.2.1, .int .i64 bk, .int .i64 bn, .slice a2 l2 p2, .slice a3 l3 p3, .slice a4 l4 p4, .slice xa it.2.2.2.2.length xp] ∧
      TSeg R w (.slice na it.2.1.length np) it.2.1 ∧ VSeg R w d (.int .i64 bk, .int .i64 bn, .slice a2 l2 p2, .slice a3 l3 p3, .slice a4 l4 p4) it.2.2.2.1 ∧ KSeg R w (.slice xa it.2.2.2.2.length xp) it.2.2.2.2 := by
  obtain ⟨c1, c3, c4, c5, c6, c7, c8, rfl, h1, h2, h3⟩ := h
  obtain ⟨bk, bn, a2, l2, p2, a3, l3, p3, a4, l4, p4, rfl, rfl, rfl, rfl, rfl⟩ := VSeg.form d h2
  have h1' := h1
  have h3' := h3
  obtain ⟨na, np, rfl, _⟩ := h1
  obtain ⟨xa, xp, rfl, _⟩ := h3
  exact ⟨na, np, bk, bn, a2, l2, p2, a3, l3, p3, a4, l4, p4, xa, xp, rfl, h1', h2, h3'⟩

theorem RSg.len {R : Nat → Prop} {w : World} {d : Nat} {cs : List Value} {it : Rcd d} (h : RSg R w d cs it) : cs.length = 9 := by
  obtain ⟨_, _, _, _, _, _, _, _, _, _, _, _, _, _, _, rfl, _⟩ := h.form
  rfl
theorem RSg.one {R : Nat → Prop} {w : World} {d : Nat} {cs : List Value} {it : Rcd d} (h : RSg R w d cs it) : ∀ v ∈ cs, v.oneCell' = true := by
  obtain ⟨_, _, _, _, _, _, _, _, _, _, _, _, _, _, _, rfl, _⟩ := h.form
  intro v hv
  simp only [List.mem_cons, List.not_mem_nil, or_false] at hv
  rcases hv with rfl | rfl | rfl | rfl | rfl | rfl | rfl | rfl | rfl <;> rfl

/-- A record's parts are none too great. -/
def RSz (d : Nat) (it : Rcd d) : Prop := it.2.1.length ≤ 1048576 ∧ szV d it.2.2.2.1 ≤ 1048576 ∧ szK it.2.2.2.2 ≤ 1048576

end Go.Proofs.YtngjhimieacjhaaGreatDoor
/-
  Entrys: what nine cells of memory read as; lists of them.
-/
namespace Go.Proofs.YtngjhimieacjhaaGreatDoor
open Go.RowKit
set_option linter.unusedVariables false
set_option linter.unusedSimpArgs false

/-- An entry: address, value, what it hangs on, taint, turned. -/
def Ntr (d : Nat) : Type := List Int × Vl d × List (List Int) × Bool × Int

/-- Nine cells that read as an entry. -/
def NtSg (R : Nat → Prop) (w : World) (d : Nat) (cs : List Value) (it : Ntr d) : Prop :=
  ∃ c1 c3 c4 c5 c6 c7 c8, cs = [c1, c3, c4, c5, c6, c7, c8, .bool it.2.2.2.1, .int .i64 it.2.2.2.2] ∧ TSeg R w c1 it.1 ∧ VSeg R w d (c3, c4, c5, c6, c7) it.2.1 ∧ KSeg R w c8 it.2.2.1

/-- A list of entries, read. -/
def NtLS (R : Nat → Prop) (w : World) (d : Nat) (x : Value) (l : List (Ntr d)) : Prop :=
  ∃ a cap, x = .slice a l.length cap ∧ l.length ≤ cap ∧ cap ≤ maxLen ∧ (a = none → cap = 0) ∧ (l = [] ∨ ∃ b off, a = some ⟨b, off, none⟩ ∧ R b ∧ ∀ i (h : i < l.length), ∃ cs, w.rangeAt b (off + i * 9) cs ∧ NtSg R w d cs l[i])

theorem NtSg.agree {R : Nat → Prop} {w w' : World} {d : Nat} {cs : List Value} {it : Ntr d} (h : NtSg R w d cs it) (ha : Agree R w w') : NtSg R w' d cs it := by
  obtain ⟨c1, c3, c4, c5, c6, c7, c8, e, h1, h2, h3⟩ := h
  exact ⟨c1, c3, c4, c5, c6, c7, c8, e, h1.agree ha, VSeg.agree ha d h2, h3.agree ha⟩
theorem NtSg.mono {R R' : Nat → Prop} {w : World} {d : Nat} {cs : List Value} {it : Ntr d} (h : NtSg R w d cs it) (hr : ∀ b, R b → R' b) : NtSg R' w d cs it := by
  obtain ⟨c1, c3, c4, c5, c6, c7, c8, e, h1, h2, h3⟩ := h
  exact ⟨c1, c3, c4, c5, c6, c7, c8, e, h1.mono hr, VSeg.mono hr d h2, h3.mono hr⟩
theorem NtLS.agree {R : Nat → Prop} {w w' : World} {d : Nat} {x : Value} {l : List (Ntr d)} (h : NtLS R w d x l) (ha : Agree R w w') : NtLS R w' d x l := by
  obtain ⟨a, cap, e, h1, h2, h3, h4⟩ := h
  refine ⟨a, cap, e, h1, h2, h3, ?_⟩
  rcases h4 with h0 | ⟨b, off, ea, hb, hc⟩
  · exact .inl h0
  · refine .inr ⟨b, off, ea, hb, fun i hi => ?_⟩
    obtain ⟨cs, hr, hv⟩ := hc i hi
    exact ⟨cs, range_agree hr ha hb, hv.agree ha⟩
theorem NtLS.at {R : Nat → Prop} {w : World} {d : Nat} {a : Option Addr} {n cap : Nat} {l : List (Ntr d)} (h : NtLS R w d (.slice a n cap) l) {k : Nat} (hk : k < l.length) :
    ∃ b off cs, a = some ⟨b, off, none⟩ ∧ R b ∧ w.rangeAt b (off + k * 9) cs ∧ NtSg R w d cs l[k] := by
  obtain ⟨a', cap', g1, _, _, _, g5⟩ := h
  simp only [Value.slice.injEq] at g1
  obtain ⟨rfl, _, _⟩ := g1
  rcases g5 with e | ⟨b, off, hb, hR, hc⟩
  · rw [e] at hk; simp at hk
  · obtain ⟨cs, hr, hv⟩ := hc k hk
    exact ⟨b, off, cs, hb, hR, hr, hv⟩
theorem NtLS.form {R : Nat → Prop} {w : World} {d : Nat} {x : Value} {l : List (Ntr d)} (h : NtLS R w d x l) : ∃ a p, x = .slice a l.length p := by
  obtain ⟨a, cap, h1, _⟩ := h
  exact ⟨_, _, h1⟩

/-- The nine cells, in full. -/
theorem NtSg.form {R : Nat → Prop} {w : World} {d : Nat} {cs : List Value} {it : Ntr d} (h : NtSg R w d cs it) :
    ∃ (na : Option Addr) (np : Nat) (bk bn : Int) (a2 : Option Addr) (l2 p2 : Nat) (a3 : Option Addr) (l3 p3 : Nat) (a4 : Option Addr) (l4 p4 : Nat) (xa : Option Addr) (xp : Nat),
      cs = [.slice na it.1.length np, .int .i64 bk, .int .i64 bn, .slice a2 l2 p2, .slice a3 l3 p3, .slice a4 l4 p4, .slice xa it.2.2.1.length xp, .bool it.2.2.2.1, .int .i64 it.2.2.2.2] ∧
      TSeg R w (.slice na it.1.length np) it.1 ∧ VSeg R w d (.int .i64 bk, .int .i64 bn, .slice a2 l2 p2, .slice a3 l3 p3, .slice a4 l4 p4) it.2.1 ∧ KSeg R w (.slice xa it.2.2.1.length xp) it.2.2.1 := by
  obtain ⟨c1, c3, c4, c5, c6, c7, c8, rfl, h1, h2, h3⟩ := h
  obtain ⟨bk, bn, a2, l2, p2, a3, l3, p3, a4, l4, p4, rfl, rfl, rfl, rfl, rfl⟩ := VSeg.form d h2
  have h1' := h1
  have h3' := h3
  obtain ⟨na, np, rfl, _⟩ := h1
  obtain ⟨xa, xp, rfl, _⟩ := h3
  exact ⟨na, np, bk, bn, a2, l2, p2, a3, l3, p3, a4, l4, p4, xa, xp, rfl, h1', h2, h3'⟩

theorem NtSg.len {R : Nat → Prop} {w : World} {d : Nat} {cs : List Value} {it : Ntr d} (h : NtSg R w d cs it) : cs.length = 9 := by
  obtain ⟨_, _, _, _, _, _, _, _, _, _, _, _, _, _, _, rfl, _⟩ := h.form
  rfl
theorem NtSg.one {R : Nat → Prop} {w : World} {d : Nat} {cs : List Value} {it : Ntr d} (h : NtSg R w d cs it) : ∀ v ∈ cs, v.oneCell' = true := by
  obtain ⟨_, _, _, _, _, _, _, _, _, _, _, _, _, _, _, rfl, _⟩ := h.form
  intro v hv
  simp only [List.mem_cons, List.not_mem_nil, or_false] at hv
  rcases hv with rfl | rfl | rfl | rfl | rfl | rfl | rfl | rfl | rfl <;> rfl

/-- An entry's parts are none too great. -/
def NtSz (d : Nat) (it : Ntr d) : Prop := it.1.length ≤ 1048576 ∧ szV d it.2.1 ≤ 1048576 ∧ szK it.2.2.1 ≤ 1048576

set_option maxHeartbeats 3200000 in
set_option maxRecDepth 100000 in
theorem szEntry_any (d N : Nat) (cs : List Value) (it : Ntr d) (n : Int) (w : World) (h : NtSg (fun b => b < N) w d cs it) (hN : N ≤ w.heap.size) (h0 : 0 ≤ n) (h1 : n ≤ 1048576) :
    Calls Tryz.prog 41 #[.agg cs.toArray, .int .i64 n] w fun e w' => (e = .returned (.int .i64 (-1)) ∨ ∃ m : Int, 0 ≤ m ∧ m ≤ n ∧ e = .returned (.int .i64 m) ∧ NtSz d it) ∧ Below w.heap.size w w' := by
  obtain ⟨na, np, bk, bn, a2, l2, p2, a3, l3, p3, a4, l4, p4, xa, xp, rfl, ht, hv, hk⟩ := h.form
  obtain ⟨nm, by', ks, tn, tu⟩ := it
  simp only at ht hv hk ⊢
  have HB : Hid (∀ o : Obj, Below w.heap.size w (w.alloc o)) := fun o => (Below.refl _ _).alloc (Nat.le_refl _) o
  have hnm : nm.length ≤ maxLen := by obtain ⟨a, c, e, _, h2, h3, _⟩ := ht; omega
  have HT : Hid (∀ wx, Calls Tryz.prog 22 #[.slice na nm.length np, .int .i64 n] wx fun e w' => e = .returned (.int .i64 (less n nm.length)) ∧ wx = w') := fun wx => szByteS_any na nm.length np n wx h0 h1 hnm
  have HV : Hid (∀ (m : Int) wx, 0 ≤ m → m ≤ 1048576 → Below w.heap.size w wx → Calls Tryz.prog 56 #[.agg #[.int .i64 bk, .int .i64 bn, .slice a2 l2 p2, .slice a3 l3 p3, .slice a4 l4 p4], .int .i64 m] wx fun e w' => e = .returned (.int .i64 (less m (szV d by'))) ∧ Below wx.heap.size wx w') := fun m wx g0 g1 hb =>
    szValue_any d N (.int .i64 bk, .int .i64 bn, .slice a2 l2 p2, .slice a3 l3 p3, .slice a4 l4 p4) by' m wx (VSeg.agree (agree_below (hb.mono hN)) d hv) (by have := hb.size; omega) g0 g1
  have HK : Hid (∀ (m : Int) wx, 0 ≤ m → m ≤ 1048576 → Below w.heap.size w wx → Calls Tryz.prog 57 #[.slice xa ks.length xp, .int .i64 m] wx fun e w' => e = .returned (.int .i64 (less m (szK ks))) ∧ wx = w') := fun m wx g0 g1 hb => szByteSS_any _ _ ks m wx (hk.agree (agree_below (hb.mono hN))) g0 g1

  have Hbox : Hid (∀ o wx, Below (w.alloc o).heap.size (w.alloc o) wx → wx.heap[w.heap.size]? = some o) := fun o wx h => box_row h
  clear ht hv hk h
  unfold NtSz
  simp only
  generalize szV d by' = s1 at *
  generalize szK ks = s2 at *
  generalize nm.length = s0 at *
  generalize ks.length = kl at *
  go_enter Tryz.func41, Tryz.ntmps41
  go_wp2_with fail
  refine (HT.out _).mono ?_
  rintro e w1 ⟨rfl, rfl⟩
  by_cases q0 : n < (s0 : Int)
  · rw [less_no _ _ q0]
    go_wp2
    go_ret
    exact ⟨.inl rfl, HB.out _⟩
  rw [less_yes _ _ q0]
  obtain ⟨n1, e1⟩ : ∃ m : Int, m = n - s0 := ⟨_, rfl⟩
  rw [← e1]
  have g10 : 0 ≤ n1 := by omega
  have g11 : n1 ≤ 1048576 := by omega
  have z0 : s0 ≤ 1048576 := by omega
  have y1 : n1 ≤ n := by omega
  clear e1 q0
  go_wp2_with fail
  refine (HV.out n1 _ g10 g11 (HB.out _)).mono ?_
  rintro e w2 ⟨rfl, b2⟩
  by_cases q1 : n1 < (s1 : Int)
  · rw [less_no _ _ q1]
    have B2 := hide' (Below.on (HB.out _) b2)
    clear b2
    go_wp2
    go_ret
    exact ⟨.inl rfl, B2.out⟩
  rw [less_yes _ _ q1]
  obtain ⟨n2, e2⟩ : ∃ m : Int, m = n1 - s1 := ⟨_, rfl⟩
  rw [← e2]
  have g20 : 0 ≤ n2 := by omega
  have g21 : n2 ≤ 1048576 := by omega
  have z1 : s1 ≤ 1048576 := by omega
  have y2 : n2 ≤ n := by omega
  have hr2 := Hbox.out _ _ b2
  have x8 : w2.cell? ⟨w.heap.size, 6, none⟩ = some (.slice xa kl xp) := by rw [cell_of_row _ _ 6 _ _ _ hr2]; rfl
  have B2 := hide' (Below.on (HB.out _) b2)
  clear e2 q1 hr2 b2
  go_wp2_with fail
  refine (HK.out n2 _ g20 g21 B2.out).mono ?_
  rintro e w3 ⟨rfl, rfl⟩
  by_cases q2 : n2 < (s2 : Int)
  · rw [less_no _ _ q2]
    go_wp2
    go_ret
    exact ⟨.inl rfl, B2.out⟩
  rw [less_yes _ _ q2]
  obtain ⟨n3, e3⟩ : ∃ m : Int, m = n2 - s2 := ⟨_, rfl⟩
  rw [← e3]
  have g30 : 0 ≤ n3 := by omega
  have g31 : n3 ≤ 1048576 := by omega
  have z2 : s2 ≤ 1048576 := by omega
  have y3 : n3 ≤ n := by omega
  clear e3 q2
  go_wp2
  go_ret
  exact ⟨.inr ⟨n3, g30, y3, rfl, z0, z1, z2⟩, B2.out⟩

end Go.Proofs.YtngjhimieacjhaaGreatDoor
/-
  szItemS: a list of entries is not too great.
-/
namespace Go.Proofs.YtngjhimieacjhaaGreatDoor
open Go.RowKit
set_option linter.unusedVariables false
set_option linter.unusedSimpArgs false

theorem info_laws_Entry {n : Nat} (h : n = 9) : (Tryz.prog.info? 81).map (·.size) = some n := by rw [h]; kernel_rfl
theorem info_Entry {n : Nat} (h : n = 9) : (Tryz.prog.info? 51).map (·.size) = some n := by rw [h]; kernel_rfl


/-- What szEntryS leaves. -/
def SzNtE (d : Nat) (l : List (Ntr d)) (w : World) (e : Ending) (w' : World) : Prop := (e = .returned (.int .i64 (-1)) ∨ ∃ n : Int, 0 ≤ n ∧ n ≤ 1048576 ∧ e = .returned (.int .i64 n) ∧ l.length ≤ 1048576 ∧ ∀ i (h : i < l.length), NtSz d l[i]) ∧ Below w.heap.size w w'

set_option maxHeartbeats 3200000 in
set_option maxRecDepth 100000 in
theorem szEntryS_any (d N : Nat) (x : Value) (l : List (Ntr d)) (lf : Int) (h0 : 0 ≤ lf) (h1 : lf ≤ 1048576) (w : World) (hx : NtLS (fun b => b < N) w d x l) (hN : N ≤ w.heap.size) :
    Calls Tryz.prog 23 #[x, .int .i64 lf] w (SzNtE d l w) := by
  have HX := hide' hx
  obtain ⟨a, cap, rfl, hlc, hcm, _, _⟩ := hx
  unfold maxLen at hcm
  by_cases hl : lf - (l.length : Int) < 0
  · go_enter Tryz.func23, Tryz.ntmps23
    go_wp2
    go_ret
    exact ⟨.inl rfl, Below.refl _ _⟩
  have hll : l.length ≤ 1048576 := by omega
  go_enter Tryz.func23, Tryz.ntmps23
  go_wp2
  go_loopw [1, 5] (fun n i wr => ∃ (k : Nat) (m : Int), k ≤ l.length ∧ n = .int .i64 m ∧ 0 ≤ m ∧ m ≤ 1048576 ∧ i = .int .i64 k ∧ Below w.heap.size w wr ∧ Hid (∀ j (h : j < l.length), j < k → NtSz d l[j])) (fun _ i _ => l.length - (intOf i).toNat)
  case atStart => exact ⟨0, _, Nat.zero_le _, rfl, by omega, by omega, rfl, Below.refl _ _, fun j h h' => by omega⟩
  case round =>
    obtain ⟨k, m, hk, rfl, hm0, hm1, rfl, hbel, hall⟩ := hrel
    have hz := hbel.size
    by_cases hlt : k < l.length
    · have hlt' : (k : Int) < (l.length : Int) := by omega
      have hXr := HX.out.agree (agree_below (hbel.mono hN))
      obtain ⟨b, off, cs, rfl, hbN, hr, hs⟩ := hXr.at hlt
      have HC := hide' (szEntry_any d N cs l[k] m wr hs (by omega) hm0 hm1)
      have hlen := hs.len
      clear hs hXr
      go_wp2_with (refine wpList_load_mid rfl 81 (.tmp 20) (by rfl) b (off + k * 9) (by rfl) cs _ hr Tryz.underlying81 rfl (info_laws_Entry hlen) ?_)
      refine HC.out.mono ?_
      rintro e w1 ⟨hcase, b1⟩
      have B1 := Below.on hbel b1
      clear hr b1
      rcases hcase with rfl | ⟨q, hq0, hq1, rfl, hI⟩
      · go_wp2
        go_ret
        exact ⟨.inl rfl, B1⟩
      · have HA : Hid (∀ j (h : j < l.length), j < k + 1 → NtSz d l[j]) := fun j h h' => by
          by_cases e : j = k
          · subst e; exact hI
          · exact hall.out j h (by omega)
        clear hI hall
        go_wp2
        go_roundw
        case rel => exact ⟨k + 1, q, by omega, rfl, hq0, by omega, by go_num, B1, HA⟩
        case measure => simp [intOf]; omega
    · have hlt' : ¬ (k : Int) < (l.length : Int) := by omega
      have HA : Hid (∀ j (h : j < l.length), NtSz d l[j]) := fun j h => hall.out j h (by omega)
      clear hall
      go_wp2
      go_ret
      exact ⟨.inr ⟨m, hm0, hm1, rfl, hll, HA.out⟩, hbel⟩

end Go.Proofs.YtngjhimieacjhaaGreatDoor
/-
  szItemS: a list of records is not too great.
-/
namespace Go.Proofs.YtngjhimieacjhaaGreatDoor
open Go.RowKit
set_option linter.unusedVariables false
set_option linter.unusedSimpArgs false

/-- What szActS leaves. -/
def SzREnd (d : Nat) (l : List (Rcd d)) (w : World) (e : Ending) (w' : World) : Prop := (e = .returned (.int .i64 (-1)) ∨ ∃ n : Int, 0 ≤ n ∧ n ≤ 1048576 ∧ e = .returned (.int .i64 n) ∧ l.length ≤ 1048576 ∧ ∀ i (h : i < l.length), RSz d l[i]) ∧ Below w.heap.size w w'

end Go.Proofs.YtngjhimieacjhaaGreatDoor
/-
  A function that copies a struct: the argument's box, the answer's, the variable's; and rows of cells by ranges.
-/
namespace Go.Proofs.YtngjhimieacjhaaGreatDoor
open Go.RowKit
set_option linter.unusedVariables false
set_option linter.unusedSimpArgs false

theorem range_of_row {w : World} {g : Nat} {cs : List Value} {T : TypeId} {fr : Nat × Nat} (h : w.heap[g]? = some (.cells cs.toArray T fr)) : w.rangeAt g 0 cs := fun j v hv => by
  rw [Nat.zero_add, cell_of_row w g j _ _ _ h]
  simpa using hv
theorem there_of_row {w : World} {g : Nat} {cs : Array Value} {T : TypeId} (h : w.heap[g]? = some (.cells cs T (0, 0))) : w.there g 0 cs.size := fun j hj => by
  rw [Nat.zero_add, cell_of_row w g j _ _ _ h]
  exact ⟨by simp [hj], frozen_of_row _ _ _ _ _ h⟩
theorem results_cell {P : Program} {fn : Func} {tmps : Array Value} {w : World} {v : Value} {ad : Addr} (s : Nat) (t : TypeId) (hr : fn.results = #[.cell s t]) (hp : tmps.getD s undef = .pointer (some ad)) (hl : (loadVar t ad).run P w = .ok v w) : (results fn tmps).run P w = .ok v w := by
  unfold results
  rw [hr]
  simp only [Array.mapM_eq_mapM_toList, List.mapM_cons, List.mapM_nil, Sem.run_bind, Sem.run_pure, Result.andThen_ok, hp]
  simp [asAddr, hl]
theorem grown_setCells (g : Nat) : ∀ (vs : List Value) (o : Nat) (w : World), w.grownBy (w.setCells g o vs) (some g)
  | [], _, w => World.grownBy.refl w _
  | v :: r, o, w => grownBy_trans (grown1 w g o v) (grown_setCells g r (o + 1) (w.setCell ⟨g, o, none⟩ v))

/-- The three boxes. -/
def BxSt (w : World) (T1 T2 : TypeId) (arg zer cur : Array Value) (wx : World) : Prop :=
  Below w.heap.size w wx ∧ wx.heap[w.heap.size]? = some (.cells arg T1 (0, 0)) ∧ wx.heap[w.heap.size + 1]? = some (.cells zer T2 (0, 0)) ∧ wx.heap[w.heap.size + 1 + 1]? = some (.cells cur T2 (0, 0)) ∧ w.heap.size + 3 ≤ wx.heap.size

theorem bx_start (w : World) (T1 T2 : TypeId) (arg zer cur : Array Value) : BxSt w T1 T2 arg zer cur (((w.alloc (.cells arg T1)).alloc (.cells zer T2)).alloc (.cells cur T2)) := by
  refine ⟨(((Below.refl _ _).alloc (Nat.le_refl _) _).alloc (by simp) _).alloc (by simp; omega) _, ?_, ?_, ?_, by simp⟩
  · rw [Below.heap_alloc _ _ _ (by simp; omega), Below.heap_alloc _ _ _ (by simp)]
    exact (MapKept.heap_alloc w _).1
  · rw [Below.heap_alloc _ _ _ (by simp)]
    have := (MapKept.heap_alloc (w.alloc (.cells arg T1)) (.cells zer T2)).1
    simpa using this
  · have := (MapKept.heap_alloc ((w.alloc (.cells arg T1)).alloc (.cells zer T2)) (.cells cur T2)).1
    simpa using this
theorem bx_below {w wx w1 : World} {T1 T2 : TypeId} {arg zer cur : Array Value} (h : BxSt w T1 T2 arg zer cur wx) (b : Below wx.heap.size wx w1) : BxSt w T1 T2 arg zer cur w1 := by
  obtain ⟨h1, h2, h3, h4, h5⟩ := h
  have hz := b.size
  exact ⟨Below.on h1 b, (b.block _ (by omega)).trans h2, (b.block _ (by omega)).trans h3, (b.block _ (by omega)).trans h4, by omega⟩
theorem bx_turn {w w1 w2 : World} {T1 T2 : TypeId} {arg zer cur cur' : Array Value} (h : BxSt w T1 T2 arg zer cur w1) (hg : w1.grownBy w2 (some (w.heap.size + 1 + 1))) (hr : w2.heap[w.heap.size + 1 + 1]? = some (.cells cur' T2 (0, 0))) : BxSt w T1 T2 arg zer cur' w2 := by
  obtain ⟨h1, h2, h3, h4, h5⟩ := h
  refine ⟨h1.grown hg (by omega) (by intro k hk; simp at hk; omega), (hg.block _ (by omega) (by simp; omega)).trans h2, (hg.block _ (by omega) (by simp)).trans h3, hr, by have := hg.size; omega⟩
theorem bx_set {w w1 : World} {T1 T2 : TypeId} {arg zer cur cur' : Array Value} (h : BxSt w T1 T2 arg zer cur w1) (j : Nat) (v : Value) (hc : cur.setIfInBounds j v = cur') : BxSt w T1 T2 arg zer cur' (w1.setCell ⟨w.heap.size + 1 + 1, j, none⟩ v) := by
  subst hc
  exact bx_turn h (grown1 _ _ _ _) (heap_setCell_same _ _ _ _ _ _ h.2.2.2.1)
theorem bx_set5 {w w1 : World} {T1 T2 : TypeId} {arg zer cur cur' : Array Value} (h : BxSt w T1 T2 arg zer cur w1) (j : Nat) (c0 c1 c2 c3 c4 : Value) (hc : ((((cur.setIfInBounds j c0).setIfInBounds (j + 1) c1).setIfInBounds (j + 2) c2).setIfInBounds (j + 3) c3).setIfInBounds (j + 4) c4 = cur') : BxSt w T1 T2 arg zer cur' (set5 w1 (w.heap.size + 1 + 1) j c0 c1 c2 c3 c4) := by
  subst hc
  exact bx_turn h (set5_grown _ _ _ _ _ _ _ _) (set5_heap _ _ _ _ _ h.2.2.2.1)

/-- Behind the boxes. -/
def Beh (w wx : World) (b : Nat) : Prop := w.heap.size + 3 ≤ b ∧ b < wx.heap.size
theorem beh_below {w wx w1 : World} (b : Below wx.heap.size wx w1) : Agree (Beh w wx) wx w1 := fun k hk => b.block k hk.2
theorem beh_turn {w wx w1 : World} (hg : wx.grownBy w1 (some (w.heap.size + 1 + 1))) : Agree (Beh w wx) wx w1 := fun k hk => hg.block k hk.2 (by have := hk.1; simp; omega)
theorem beh_mono {w wx w1 : World} (h : wx.heap.size ≤ w1.heap.size) : ∀ b, Beh w wx b → Beh w w1 b := fun b hb => ⟨hb.1, Nat.lt_of_lt_of_le hb.2 h⟩
end Go.Proofs.YtngjhimieacjhaaGreatDoor
/-
  toItem: a record copied.
-/
namespace Go.Proofs.YtngjhimieacjhaaGreatDoor
open Go.RowKit
set_option linter.unusedVariables false
set_option linter.unusedSimpArgs false

theorem keys_small {ks : List (List Int)} (h : szK ks ≤ 1048576) : ks.length ≤ 1048576 ∧ ∀ t ∈ ks, t.length ≤ 1048576 := by
  refine ⟨by unfold szK at h; omega, fun t ht => ?_⟩
  obtain ⟨i, hi, rfl⟩ := List.getElem_of_mem ht
  have h1 := pre_succ List.length ks i hi
  have h2 := pre_le List.length ks (i + 1)
  unfold szK at h
  omega

/-- What toItem leaves. -/
def RcEnd (d : Nat) (it : Rcd d) (w : World) (e : Ending) (w' : World) : Prop := ∃ cs, e = .returned (.agg cs.toArray) ∧ RSg (fun b => w.heap.size ≤ b ∧ b < w'.heap.size) w' d cs it ∧ Below w.heap.size w w'

end Go.Proofs.YtngjhimieacjhaaGreatDoor
/-
  toEvent, toAct: a record copied, in blocks of its own.
-/
namespace Go.Proofs.YtngjhimieacjhaaGreatDoor
open Go.RowKit
set_option linter.unusedVariables false
set_option linter.unusedSimpArgs false

/-- Nine cells that read as a record of the call's own, in the blocks B. -/
def ROwn (w : World) (d : Nat) (cs : List Value) (it : Rcd d) (B : List Nat) : Prop :=
  ∃ c1 c3 c4 c5 c6 c7 c8 B1 B2 B3, cs = [.int .i64 it.1, c1, .int .i64 it.2.2.1, c3, c4, c5, c6, c7, c8] ∧ TOwn w c1 it.2.1 B1 ∧ VOwn w d (c3, c4, c5, c6, c7) it.2.2.2.1 B2 ∧ KOwn w c8 it.2.2.2.2 B3 ∧ B = B1 ++ (B2 ++ B3) ∧
    ∃ s1 s2, (∀ b ∈ B1, b < s1) ∧ (∀ b ∈ B2, s1 ≤ b ∧ b < s2) ∧ (∀ b ∈ B3, s2 ≤ b) ∧ s1 ≤ s2

/-- Owned, in a window. -/
def TW (lo hi : Nat) (w : World) (u : Value) (xs : List Int) : Prop := ∃ B, TOwn w u xs B ∧ ∀ b ∈ B, lo ≤ b ∧ b < hi
def VW (lo hi : Nat) (w : World) (d : Nat) (c : Value × Value × Value × Value × Value) (v : Vl d) : Prop := ∃ B, VOwn w d c v B ∧ ∀ b ∈ B, lo ≤ b ∧ b < hi
def KW (lo hi : Nat) (w : World) (u : Value) (ks : List (List Int)) : Prop := ∃ B, KOwn w u ks B ∧ ∀ b ∈ B, lo ≤ b ∧ b < hi
variable {lo hi d : Nat} {w wx w1 w' : World}
theorem TW.agree {u : Value} {xs : List Int} (h : TW lo hi w u xs) (ha : Agree (fun b => lo ≤ b ∧ b < hi) w w') : TW lo hi w' u xs := by
  obtain ⟨B, h1, h2⟩ := h
  exact ⟨B, h1.agree fun b hb => ha b (h2 b hb), h2⟩
theorem VW.agree {c : Value × Value × Value × Value × Value} {v : Vl d} (h : VW lo hi w d c v) (ha : Agree (fun b => lo ≤ b ∧ b < hi) w w') : VW lo hi w' d c v := by
  obtain ⟨B, h1, h2⟩ := h
  exact ⟨B, VOwn.agree d h1 fun b hb => ha b (h2 b hb), h2⟩
theorem KW.agree {u : Value} {ks : List (List Int)} (h : KW lo hi w u ks) (ha : Agree (fun b => lo ≤ b ∧ b < hi) w w') : KW lo hi w' u ks := by
  obtain ⟨B, h1, h2⟩ := h
  exact ⟨B, h1.agree fun b hb => ha b (h2 b hb), h2⟩
theorem TW.mono {lo' : Nat} {u : Value} {xs : List Int} (h : TW lo hi w u xs) (hl : lo' ≤ lo) : TW lo' hi w u xs := by
  obtain ⟨B, h1, h2⟩ := h
  exact ⟨B, h1, fun b hb => by have := h2 b hb; omega⟩
theorem VW.mono {lo' : Nat} {c : Value × Value × Value × Value × Value} {v : Vl d} (h : VW lo hi w d c v) (hl : lo' ≤ lo) : VW lo' hi w d c v := by
  obtain ⟨B, h1, h2⟩ := h
  exact ⟨B, h1, fun b hb => by have := h2 b hb; omega⟩
theorem KW.mono {lo' : Nat} {u : Value} {ks : List (List Int)} (h : KW lo hi w u ks) (hl : lo' ≤ lo) : KW lo' hi w u ks := by
  obtain ⟨B, h1, h2⟩ := h
  exact ⟨B, h1, fun b hb => by have := h2 b hb; omega⟩
theorem win_turn (hg : wx.grownBy w1 (some (w.heap.size + 1 + 1))) (h1 : w.heap.size + 3 ≤ lo) (h2 : hi ≤ wx.heap.size) : Agree (fun b => lo ≤ b ∧ b < hi) wx w1 := fun k hk => hg.block k (by omega) (by simp; omega)
theorem win_below (b : Below wx.heap.size wx w1) (h2 : hi ≤ wx.heap.size) : Agree (fun b => lo ≤ b ∧ b < hi) wx w1 := fun k hk => b.block k (by omega)

theorem ROwn.agree {cs : List Value} {it : Rcd d} {B : List Nat} (h : ROwn w d cs it B) (ha : Agree (fun b => b ∈ B) w w') : ROwn w' d cs it B := by
  obtain ⟨c1, c3, c4, c5, c6, c7, c8, B1, B2, B3, e, h1, h2, h3, rfl, hs⟩ := h
  exact ⟨c1, c3, c4, c5, c6, c7, c8, B1, B2, B3, e, h1.agree fun b hb => ha b (by simp [hb]), VOwn.agree d h2 fun b hb => ha b (by simp [hb]), h3.agree fun b hb => ha b (by simp [hb]), rfl, hs⟩
theorem ROwn.lt {cs : List Value} {it : Rcd d} {B : List Nat} (h : ROwn w d cs it B) : ∀ b ∈ B, b < w.heap.size := by
  obtain ⟨c1, c3, c4, c5, c6, c7, c8, B1, B2, B3, e, h1, h2, h3, rfl, hs⟩ := h
  intro b hb
  simp only [List.mem_append] at hb
  rcases hb with hb | hb | hb
  · exact h1.lt b hb
  · exact VOwn.lt d h2 b hb
  · exact h3.lt b hb
theorem ROwn.on {cs : List Value} {it : Rcd d} {B : List Nat} (h : ROwn w d cs it B) (hb : Below w.heap.size w w') : ROwn w' d cs it B := h.agree fun b hb' => hb.block b (h.lt b hb')
theorem ROwn.read {cs : List Value} {it : Rcd d} {B : List Nat} (h : ROwn w d cs it B) : RSg (fun b => b < w.heap.size) w d cs it := by
  have hlt := h.lt
  obtain ⟨c1, c3, c4, c5, c6, c7, c8, B1, B2, B3, e, h1, h2, h3, rfl, hs⟩ := h
  exact ⟨c1, c3, c4, c5, c6, c7, c8, e, h1.seg.mono fun b hb => hlt b (by simp [hb]), VSeg.mono (fun b hb => hlt b (by simp [hb])) d (VOwn.seg d h2), h3.seg.mono fun b hb => hlt b (by simp [hb])⟩

/-- What toEvent, toAct leave. -/
def RcEndO (d : Nat) (it : Rcd d) (w : World) (e : Ending) (w' : World) : Prop := ∃ cs, e = .returned (.agg cs.toArray) ∧ ∃ B, ROwn w' d cs it B ∧ (∀ b ∈ B, w.heap.size ≤ b ∧ b < w'.heap.size) ∧ Below w.heap.size w w'

end Go.Proofs.YtngjhimieacjhaaGreatDoor
