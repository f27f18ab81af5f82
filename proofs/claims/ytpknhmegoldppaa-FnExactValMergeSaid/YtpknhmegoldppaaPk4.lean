/-
  Texts that a law leans on, one behind the other; no statement is proved here.
-/
import Derived.Test.YtpknhmegoldppaaPk2
import Derived.Deep.RegionWith
import Derived.Test.YtpknhmegoldppaaPk3
import Derived.Test.YtpknhmegoldppaaPk1
/-
  eqByteSS, eqValueS, eqValue of the laws: of two readings of the same they answer true, and turn nothing old.
-/
namespace Go.Proofs.Ytpknhmegoldppaa
open Go.RowKit
set_option linter.unusedVariables false

set_option maxHeartbeats 1600000 in
theorem eqByteSS_same (N : Nat) (x y : Value) (ks : List (List Int)) (w : World) (hx : KSeg (fun b => b < N) w x ks) (hy : KSeg (fun b => b < N) w y ks) (hN : N ≤ w.heap.size) (hz : szK ks ≤ 1048576) :
    Calls Try.prog 36 #[x, y] w fun e w' => e = .returned (.bool true) ∧ Below w.heap.size w w' := by
  obtain ⟨a, cap, rfl, hlc, hcm, ka, hc⟩ := hx
  obtain ⟨a', cap', rfl, hlc', hcm', ka', hc'⟩ := hy
  have hn : ks.length ≤ 1048576 := by unfold szK at hz; omega
  have hel : ∀ k, k < ks.length → (ks.getD k []).length ≤ 1048576 := by
    intro k hk
    have h1 := pre_succ List.length ks k hk
    have h2 := pre_le List.length ks (k + 1)
    have h3 : ks.getD k [] = ks[k] := by simp [List.getD_eq_getElem?_getD, hk]
    rw [h3]
    unfold szK at hz
    omega
  have HE := hide' hel
  have HC : Hid (ks = [] ∨ ∃ b off, a = some ⟨b, off, none⟩ ∧ b < N ∧ ∀ i, i < ks.length → ∃ u, w.cell? ⟨b, off + i, none⟩ = some u ∧ TSeg (fun b => b < N) w u (ks.getD i [])) := hc
  have HC' : Hid (ks = [] ∨ ∃ b off, a' = some ⟨b, off, none⟩ ∧ b < N ∧ ∀ i, i < ks.length → ∃ u, w.cell? ⟨b, off + i, none⟩ = some u ∧ TSeg (fun b => b < N) w u (ks.getD i [])) := hc'
  clear hc hc' hel hz
  unfold maxLen at hcm hcm'
  go_enter Try.func36, Try.ntmps36
  go_wp2
  go_loopw [5] (fun i wr => ∃ k : Nat, k ≤ ks.length ∧ i = .int .i64 k ∧ Below w.heap.size w wr) (fun i _ => ks.length - (intOf i).toNat)
  case atStart => exact ⟨0, Nat.zero_le _, rfl, Below.refl _ _⟩
  case round =>
    obtain ⟨k, hk, rfl, hbel⟩ := hrel
    have hsz2 := hbel.size
    by_cases hlt : k < ks.length
    · have ag : Agree (fun b => b < N) w wr := agree_below (hbel.mono hN)
      have hcell : ∃ b off u, a = some ⟨b, off, none⟩ ∧ wr.cell? ⟨b, off + k, none⟩ = some u ∧ TSeg (fun b => b < N) wr u (ks.getD k []) := by
        rcases HC.out with e | ⟨b, off, e, hb, hc⟩
        · rw [e] at hlt; simp at hlt
        · obtain ⟨u, hu, ht⟩ := hc k hlt
          exact ⟨b, off, u, e, (cell_agree ag hb).trans hu, ht.agree ag⟩
      have hcell' : ∃ b off u, a' = some ⟨b, off, none⟩ ∧ wr.cell? ⟨b, off + k, none⟩ = some u ∧ TSeg (fun b => b < N) wr u (ks.getD k []) := by
        rcases HC'.out with e | ⟨b, off, e, hb, hc⟩
        · rw [e] at hlt; simp at hlt
        · obtain ⟨u, hu, ht⟩ := hc k hlt
          exact ⟨b, off, u, e, (cell_agree ag hb).trans hu, ht.agree ag⟩
      obtain ⟨b, off, u, rfl, hu, a2, p2, rfl, s2, _, _, _, _⟩ := hcell
      obtain ⟨b', off', u', rfl, hu', a3, p3, rfl, s3, _, _, _, _⟩ := hcell'
      have hlt' : (k : Int) < (ks.length : Int) := by omega
      have hlk := HE.out k hlt
      generalize ks.getD k [] = ys at *
      have hE := hide' (eqByteS_same a2 a3 p2 p3 ys wr.drew s2 s3 (by omega))
      clear s2 s3 ag
      go_wp2_with fail
      go_region_with (go_at_call 12; refine hE.out.mono ?_; rintro e w1 ⟨rfl, b1⟩)
      all_goals
        have B1 : Below w.heap.size w w1 := Below.on hbel.drew b1
        go_wp2
        go_roundw
        case rel => exact ⟨k + 1, by omega, by go_num, B1⟩
        case measure => simp [intOf]; omega
    · have hlt' : ¬ (k : Int) < (ks.length : Int) := by omega
      go_wp2
      go_ret
      exact ⟨rfl, hbel⟩
/-- The contract of eqValue at depth d, of two readings of one value. -/
def EqAt (d : Nat) : Prop := ∀ (N : Nat) (c c' : Value × Value × Value × Value × Value) (v : Vl d) (w : World), VSeg (fun b => b < N) w d c v → VSeg (fun b => b < N) w d c' v → N ≤ w.heap.size → szV d v ≤ 1048576 →
  Calls Try.prog 11 #[.agg #[c.1, c.2.1, c.2.2.1, c.2.2.2.1, c.2.2.2.2], .agg #[c'.1, c'.2.1, c'.2.2.1, c'.2.2.2.1, c'.2.2.2.2]] w fun e w' => e = .returned (.bool true) ∧ Below w.heap.size w w'

set_option maxHeartbeats 1600000 in
theorem eqValueS_of (d : Nat) (ih : EqAt d) (N : Nat) (x y : Value) (l : List (Vl d)) (w : World) (hx : LSeg (fun b => b < N) w d x l) (hy : LSeg (fun b => b < N) w d y l) (hN : N ≤ w.heap.size) (hz : szL d l ≤ 1048576) :
    Calls Try.prog 37 #[x, y] w fun e w' => e = .returned (.bool true) ∧ Below w.heap.size w w' := by
  obtain ⟨a, cap, rfl, hlc, hcm, ka, hc⟩ := hx
  obtain ⟨a', cap', rfl, hlc', hcm', ka', hc'⟩ := hy
  have hn : l.length ≤ 1048576 := by unfold szL at hz; omega
  have HI := hide' ih
  have HZ := hide' hz
  have HC : Hid (l = [] ∨ ∃ b off, a = some ⟨b, off, none⟩ ∧ b < N ∧ ∀ i (h : i < l.length), ∃ e, Five w b (off + i * 5) e ∧ VSeg (fun b => b < N) w d e (l[i])) := hc
  have HC' : Hid (l = [] ∨ ∃ b off, a' = some ⟨b, off, none⟩ ∧ b < N ∧ ∀ i (h : i < l.length), ∃ e, Five w b (off + i * 5) e ∧ VSeg (fun b => b < N) w d e (l[i])) := hc'
  clear hc hc' ih hz
  unfold maxLen at hcm hcm'
  go_enter Try.func37, Try.ntmps37
  go_wp2
  go_loopw [5] (fun i wr => ∃ k : Nat, k ≤ l.length ∧ i = .int .i64 k ∧ Below w.heap.size w wr) (fun i _ => l.length - (intOf i).toNat)
  case atStart => exact ⟨0, Nat.zero_le _, rfl, Below.refl _ _⟩
  case round =>
    obtain ⟨k, hk, rfl, hbel⟩ := hrel
    have hsz2 := hbel.size
    by_cases hlt : k < l.length
    · have ag : Agree (fun b => b < N) w wr := agree_below (hbel.mono hN)
      have hcell : ∃ b off e, a = some ⟨b, off, none⟩ ∧ Five wr b (off + k * 5) e ∧ VSeg (fun b => b < N) wr d e (l[k]) := by
        rcases HC.out with e | ⟨b, off, e, hb, hc⟩
        · rw [e] at hlt; simp at hlt
        · obtain ⟨c, h5, hv⟩ := hc k hlt
          exact ⟨b, off, c, e, h5.agree ag hb, VSeg.agree ag d hv⟩
      have hcell' : ∃ b off e, a' = some ⟨b, off, none⟩ ∧ Five wr b (off + k * 5) e ∧ VSeg (fun b => b < N) wr d e (l[k]) := by
        rcases HC'.out with e | ⟨b, off, e, hb, hc⟩
        · rw [e] at hlt; simp at hlt
        · obtain ⟨c, h5, hv⟩ := hc k hlt
          exact ⟨b, off, c, e, h5.agree ag hb, VSeg.agree ag d hv⟩
      obtain ⟨b, off, c, rfl, h5, hv⟩ := hcell
      obtain ⟨b', off', c', rfl, h5', hv'⟩ := hcell'
      obtain ⟨c0, c1, c2, c3, c4⟩ := c
      obtain ⟨e0, e1, e2, e3, e4⟩ := c'
      obtain ⟨q0, q1, q2, q3, q4⟩ := h5
      obtain ⟨r0, r1, r2, r3, r4⟩ := h5'
      simp only at q0 q1 q2 q3 q4 r0 r1 r2 r3 r4
      have hlt' : (k : Int) < (l.length : Int) := by omega
      have hzk : szV d l[k] ≤ 1048576 := Nat.le_trans (sz_elem hlt) HZ.out
      have hE := hide' (HI.out N (c0, c1, c2, c3, c4) (e0, e1, e2, e3, e4) l[k] wr.drew (VSeg.agree (w := wr) (w' := wr.drew) (fun b _ => rfl) d hv) (VSeg.agree (w := wr) (w' := wr.drew) (fun b _ => rfl) d hv') (by show N ≤ wr.heap.size; omega) hzk)
      clear hv hv' ag hzk
      go_wp2_with fail
      go_region_with (go_at_call 11; refine hE.out.mono ?_; rintro e w1 ⟨rfl, b1⟩)
      all_goals
        have B1 : Below w.heap.size w w1 := Below.on hbel.drew b1
        clear q0 q1 q2 q3 q4 r0 r1 r2 r3 r4
        go_wp2
        go_roundw
        case rel => exact ⟨k + 1, by omega, by go_num, B1⟩
        case measure => simp [intOf]; omega
    · have hlt' : ¬ (k : Int) < (l.length : Int) := by omega
      go_wp2
      go_ret
      exact ⟨rfl, hbel⟩

set_option maxHeartbeats 1600000 in
theorem eqValue_succ (d : Nat) (ih : EqAt d) : EqAt (d + 1) := by
  intro N c c' v w hv hv' hN hz
  obtain ⟨c0, c1, c2, c3, c4⟩ := c
  obtain ⟨g0, g1, g2, g3, g4⟩ := c'
  obtain ⟨vk, vn, vs, vK, vL⟩ := v
  obtain ⟨e0, e1, ht, hk, hl⟩ := (VSeg_succ _ _ _ _ _).1 hv
  obtain ⟨f0, f1, ht', hk', hl'⟩ := (VSeg_succ _ _ _ _ _).1 hv'
  simp only at e0 e1 ht hk hl f0 f1 ht' hk' hl'
  subst e0
  subst e1
  subst f0
  subst f1
  have hsz : szV (d + 1) (vk, vn, vs, vK, vL) = vs.length + szK vK + szL d vL := rfl
  rw [hsz] at hz
  clear hsz hv hv'
  simp only
  have hz1 : vs.length ≤ 1048576 := by omega
  have hz2 : szK vK ≤ 1048576 := by omega
  have hz3 : szL d vL ≤ 1048576 := by omega
  have Hk : Hid (∀ wx, Below w.heap.size w wx → KSeg (fun b => b < N) wx c3 vK ∧ KSeg (fun b => b < N) wx g3 vK) := fun wx hb => ⟨hk.agree (agree_below (hb.mono hN)), hk'.agree (agree_below (hb.mono hN))⟩
  have Hl : Hid (∀ wx, Below w.heap.size w wx → LSeg (fun b => b < N) wx d c4 vL ∧ LSeg (fun b => b < N) wx d g4 vL) := fun wx hb => ⟨hl.agree (agree_below (hb.mono hN)), hl'.agree (agree_below (hb.mono hN))⟩
  have HI := hide' ih
  have Hb : Hid (∀ o o' : Obj, Below w.heap.size w ((w.alloc o).alloc o')) := fun o o' => ((Below.refl _ _).alloc (Nat.le_refl _) o).alloc (by simp) o'
  obtain ⟨a3, cp3, rfl, _, _, _, _⟩ := hk
  obtain ⟨a4, cp4, rfl, _, _, _, _⟩ := hl
  obtain ⟨a3', cp3', rfl, _, _, _, _⟩ := hk'
  obtain ⟨a4', cp4', rfl, _, _, _, _⟩ := hl'
  have Ht : Hid (∀ wx, Below w.heap.size w wx → TSeg (fun b => b < N) wx c2 vs ∧ TSeg (fun b => b < N) wx g2 vs) := fun wx hb => ⟨ht.agree (agree_below (hb.mono hN)), ht'.agree (agree_below (hb.mono hN))⟩
  obtain ⟨a2, cp2, rfl, s2, hl2, hm2, _, _⟩ := ht
  obtain ⟨a2', cp2', rfl, s2', hl2', hm2', _, _⟩ := ht'
  have Hs : Hid (∀ wx, Below w.heap.size w wx → Seg wx a2 vs ∧ Seg wx a2' vs) := by
    intro wx hb
    obtain ⟨x1, x2⟩ := Ht.out wx hb
    obtain ⟨_, _, y1, y2, _⟩ := x1
    obtain ⟨_, _, z1, z2, _⟩ := x2
    simp at y1 z1
    exact ⟨y1.1 ▸ y2, z1.1 ▸ z2⟩
  clear ih Ht s2 s2'
  go_enter Try.func11, Try.ntmps11
  go_wp2_with fail
  have q1 := Hb.out (.cells #[.int .i64 vk, .int .i64 vn, .slice a2 vs.length cp2, .slice a3 vK.length cp3, .slice a4 vL.length cp4] 30) (.cells #[.int .i64 vk, .int .i64 vn, .slice a2' vs.length cp2', .slice a3' vK.length cp3', .slice a4' vL.length cp4'] 30)
  have r1 : ∀ o o' : Obj, ((w.alloc o).alloc o').heap[w.heap.size]? = some o ∧ ((w.alloc o).alloc o').heap[w.heap.size + 1]? = some o' := two_boxes w
  have R1 := r1 (.cells #[.int .i64 vk, .int .i64 vn, .slice a2 vs.length cp2, .slice a3 vK.length cp3, .slice a4 vL.length cp4] 30) (.cells #[.int .i64 vk, .int .i64 vn, .slice a2' vs.length cp2', .slice a3' vK.length cp3', .slice a4' vL.length cp4'] 30)
  refine (eqByteS_same _ _ _ _ vs _ (Hs.out _ q1).1 (Hs.out _ q1).2 (by omega)).mono ?_
  rintro e w1 ⟨rfl, b1⟩
  have B1 := Below.on q1 b1
  have R1a := (b1.block _ (by rw [size2]; omega)).trans R1.1
  have R1b := (b1.block _ (by rw [size2]; omega)).trans R1.2
  obtain ⟨_, _, _, x3, x4, _⟩ := row5 R1a
  obtain ⟨_, _, _, y3, y4, _⟩ := row5 R1b
  have hz1 : w.heap.size + 2 ≤ w1.heap.size := by have := b1.size; rw [size2] at this; omega
  have HK := hide' (eqByteSS_same N _ _ vK w1 (Hk.out _ B1).1 (Hk.out _ B1).2 (by omega) hz2)
  have HRa := hide' R1a
  have HRb := hide' R1b
  clear q1 r1 R1 b1 R1a R1b Hs
  go_wp2_with fail
  refine HK.out.mono ?_
  rintro e w2 ⟨rfl, b2⟩
  have B2 := Below.on B1 b2
  have hz2 := b2.size
  obtain ⟨_, _, _, _, x4, _⟩ := row5 ((b2.block _ (by omega)).trans HRa.out)
  obtain ⟨_, _, _, _, y4, _⟩ := row5 ((b2.block _ (by omega)).trans HRb.out)
  have HL := hide' (eqValueS_of d HI.out N _ _ vL w2 (Hl.out _ B2).1 (Hl.out _ B2).2 (by omega) hz3)
  clear b2 HRa HRb HK B1 Hk Hl
  go_wp2_with fail
  refine HL.out.mono ?_
  rintro e w3 ⟨rfl, b3⟩
  have B3 := Below.on B2 b3
  go_wp2
  go_ret
  exact ⟨rfl, B3⟩
theorem eqValue_any (d : Nat) : EqAt d := by
  induction d with
  | zero => intro N c c' v w hv; exact hv.elim
  | succ d ih => exact eqValue_succ d ih
end Go.Proofs.Ytpknhmegoldppaa
/-
  A text, a number of a value, names that ascend: textOk, ascendingNames of the program, l2text, l2int of the specification; they only read.
-/
namespace Go.Proofs.Ytpknhmegoldppaa
open Go.RowKit
set_option linter.unusedVariables false

/-- A byte of a text. -/
def chrB (c : Int) : Bool := decide (32 ≤ c) && decide (c ≤ 126)
/-- A text. -/
def textB (xs : List Int) : Bool := decide (xs.length ≤ 20) && xs.all chrB
theorem textB_long (xs : List Int) (h : 20 < xs.length) : textB xs = false := by simp [textB]; omega
theorem textB_all (xs : List Int) (h2 : xs.length ≤ 20) : textB xs = xs.all chrB := by simp [textB, h2]

set_option maxHeartbeats 800000 in
theorem impl_textOk_any (a : Option Addr) (c1 : Nat) (xs : List Int) (w : World) (ha : Seg w a xs) (hl : xs.length ≤ maxLen) :
    Calls Try.prog 62 #[.slice a xs.length c1] w fun e w' => e = .returned (.bool (textB xs)) ∧ w = w' := by
  unfold maxLen at hl
  by_cases h2 : 20 < xs.length
  · have HO : Hid (textB xs = false) := textB_long xs h2
    have h2' : (20 : Int) < (xs.length : Int) := by omega
    go_enter Try.func62, Try.ntmps62
    go_wp2
    go_ret
    exact ⟨ret_bool HO.out.symm, rfl⟩
  have HO : Hid (textB xs = xs.all chrB) := textB_all xs (by omega)
  have hb := getD_byt ha.1
  generalize hn : xs.length = n at *
  have Hn : Hid (xs.length = n) := hn
  have h2' : ¬ (20 : Int) < (n : Int) := by omega
  clear hn
  go_enter Try.func62, Try.ntmps62
  go_wp2
  go_loopw [10] (fun i wr => ∃ k : Nat, k ≤ n ∧ i = .int .i64 k ∧ fstAll chrB xs k ∧ wr = w) (fun i _ => n - (intOf i).toNat)
  case atStart => exact ⟨0, Nat.zero_le _, rfl, fstAll_zero _ _, rfl⟩
  case round =>
    obtain ⟨k, hk, rfl, hall, rfl⟩ := hrel
    by_cases hlt : k < n
    · obtain ⟨b1, o1, rfl, hc1⟩ := ha.at (k := k) (by have := Hn.out; omega)
      have hbk := hb k
      have HS : Hid (chrB (xs.getD k 0) = true → fstAll chrB xs (k + 1)) := fun h => fstAll_succ hall h
      have HN : Hid (chrB (xs.getD k 0) = false → xs.all chrB = false) := fun h => not_all_of (by have := Hn.out; omega) h
      generalize xs.getD k 0 = c at hc1 hbk HS HN
      have hlt' : (k : Int) < (n : Int) := by omega
      obtain ⟨hb1, hb2⟩ := hbk
      by_cases hc : c < 32
      · have HF : Hid (xs.all chrB = false) := HN.out (by simp [chrB]; omega)
        go_wp2
        go_ret
        exact ⟨ret_bool (by rw [HO.out, HF.out]), rfl⟩
      · by_cases hd : 126 < c
        · have HF : Hid (xs.all chrB = false) := HN.out (by simp [chrB]; omega)
          go_wp2
          go_ret
          exact ⟨ret_bool (by rw [HO.out, HF.out]), rfl⟩
        · have HF : Hid (fstAll chrB xs (k + 1)) := HS.out (by simp [chrB]; omega)
          go_wp2
          go_roundw
          case rel => exact ⟨k + 1, by omega, by go_num, HF.out, by first | rfl | trivial⟩
          case measure => simp [intOf]; omega
    · have HF : Hid (xs.all chrB = true) := all_of_fstAll (by rw [Hn.out]; have e : k = n := by omega
                                                              rw [← e]; exact hall)
      have hlt' : ¬ (k : Int) < (n : Int) := by omega
      go_wp2
      go_ret
      exact ⟨ret_bool (by rw [HO.out, HF.out]), rfl⟩

set_option maxHeartbeats 800000 in
theorem spec_l2text_any (a : Option Addr) (c1 : Nat) (xs : List Int) (w : World) (ha : Seg w a xs) (hl : xs.length ≤ maxLen) :
    Calls Try.prog 60 #[.slice a xs.length c1] w fun e w' => e = .returned (.bool (textB xs)) ∧ w = w' := by
  unfold maxLen at hl
  by_cases h2 : 20 < xs.length
  · have HO : Hid (textB xs = false) := textB_long xs h2
    have h2' : (20 : Int) < (xs.length : Int) := by omega
    go_enter Try.func60, Try.ntmps60
    go_wp2
    go_ret
    exact ⟨ret_bool HO.out.symm, rfl⟩
  have HO : Hid (textB xs = xs.all chrB) := textB_all xs (by omega)
  have hb := getD_byt ha.1
  generalize hn : xs.length = n at *
  have Hn : Hid (xs.length = n) := hn
  have h2' : ¬ (20 : Int) < (n : Int) := by omega
  clear hn
  go_enter Try.func60, Try.ntmps60
  go_wp2
  go_loopw [3] (fun i wr => ∃ k : Nat, k ≤ n ∧ i = .int .i64 k ∧ fstAll chrB xs k ∧ wr = w) (fun i _ => n - (intOf i).toNat)
  case atStart => exact ⟨0, Nat.zero_le _, rfl, fstAll_zero _ _, rfl⟩
  case round =>
    obtain ⟨k, hk, rfl, hall, rfl⟩ := hrel
    by_cases hlt : k < n
    · obtain ⟨b1, o1, rfl, hc1⟩ := ha.at (k := k) (by have := Hn.out; omega)
      have hbk := hb k
      have HS : Hid (chrB (xs.getD k 0) = true → fstAll chrB xs (k + 1)) := fun h => fstAll_succ hall h
      have HN : Hid (chrB (xs.getD k 0) = false → xs.all chrB = false) := fun h => not_all_of (by have := Hn.out; omega) h
      generalize xs.getD k 0 = c at hc1 hbk HS HN
      have hlt' : (k : Int) < (n : Int) := by omega
      obtain ⟨hb1, hb2⟩ := hbk
      by_cases hc : c < 32
      · have HF : Hid (xs.all chrB = false) := HN.out (by simp [chrB]; omega)
        go_wp2
        go_ret
        exact ⟨ret_bool (by rw [HO.out, HF.out]), rfl⟩
      · by_cases hd : 126 < c
        · have HF : Hid (xs.all chrB = false) := HN.out (by simp [chrB]; omega)
          go_wp2
          go_ret
          exact ⟨ret_bool (by rw [HO.out, HF.out]), rfl⟩
        · have HF : Hid (fstAll chrB xs (k + 1)) := HS.out (by simp [chrB]; omega)
          go_wp2
          go_roundw
          case rel => exact ⟨k + 1, by omega, by go_num, HF.out, by first | rfl | trivial⟩
          case measure => simp [intOf]; omega
    · have HF : Hid (xs.all chrB = true) := all_of_fstAll (by rw [Hn.out]; have e : k = n := by omega
                                                              rw [← e]; exact hall)
      have hlt' : ¬ (k : Int) < (n : Int) := by omega
      go_wp2
      go_ret
      exact ⟨ret_bool (by rw [HO.out, HF.out]), rfl⟩

/-- The name at place i is one, and behind the one ahead of it. -/
def stepB (ks : List (List Int)) (i : Nat) : Bool := nameB (ks.getD i []) && (i == 0 || ltS (ks.getD (i - 1) []) (ks.getD i []))
/-- Names that ascend. -/
def ascB (ks : List (List Int)) : Bool := (List.range ks.length).all (stepB ks)
theorem ascB_yes {ks : List (List Int)} (h : ∀ i, i < ks.length → stepB ks i = true) : ascB ks = true := by
  rw [ascB, List.all_eq_true]
  intro i hi
  exact h i (List.mem_range.1 hi)
theorem ascB_no {ks : List (List Int)} {i : Nat} (hi : i < ks.length) (h : stepB ks i = false) : ascB ks = false := by
  rw [ascB, List.all_eq_false]
  exact ⟨i, List.mem_range.2 hi, by simp [h]⟩
theorem ascB_at {ks : List (List Int)} (h : ascB ks = true) {i : Nat} (hi : i < ks.length) : stepB ks i = true := by
  rw [ascB, List.all_eq_true] at h
  exact h i (List.mem_range.2 hi)

theorem KSeg.at {R : Nat → Prop} {w : World} {a : Option Addr} {n cap : Nat} {ks : List (List Int)} (h : KSeg R w (.slice a n cap) ks) {k : Nat} (hk : k < ks.length) :
    ∃ b off, a = some ⟨b, off, none⟩ ∧ ∀ i, i < ks.length → ∃ a2 c2, w.cell? ⟨b, off + i, none⟩ = some (.slice a2 (ks.getD i []).length c2) ∧ Seg w a2 (ks.getD i []) ∧ (ks.getD i []).length ≤ maxLen := by
  obtain ⟨a', cap', h1, h2, h3, h4, h5⟩ := h
  simp only [Value.slice.injEq] at h1
  obtain ⟨rfl, _, _⟩ := h1
  rcases h5 with h0 | ⟨b, off, rfl, _, hc⟩
  · subst h0; simp at hk
  · refine ⟨b, off, rfl, fun i hi => ?_⟩
    obtain ⟨u, hu, a2, c2, rfl, s2, l2, m2, _⟩ := hc i hi
    exact ⟨a2, c2, hu, s2, by omega⟩

set_option maxHeartbeats 1600000 in
theorem ascendingNames_any (R : Nat → Prop) (x : Value) (ks : List (List Int)) (w : World) (hx : KSeg R w x ks) :
    Calls Try.prog 68 #[x] w fun e w' => e = .returned (.bool (ascB ks)) ∧ w = w' := by
  have HX : Hid (KSeg R w x ks) := hx
  obtain ⟨a, cap, rfl, hlc, hcm, ka, hc⟩ := hx
  unfold maxLen at hcm
  clear hc
  have HY : Hid ((∀ i, i < ks.length → stepB ks i = true) → ascB ks = true) := ascB_yes
  have HNo : Hid (∀ i, i < ks.length → stepB ks i = false → ascB ks = false) := fun i hi h => ascB_no hi h
  go_enter Try.func68, Try.ntmps68
  go_wp2
  go_loopw [7] (fun i wr => ∃ k : Nat, k ≤ ks.length ∧ i = .int .i64 k ∧ (∀ j, j < k → stepB ks j = true) ∧ wr = w) (fun i _ => ks.length - (intOf i).toNat)
  case atStart => exact ⟨0, Nat.zero_le _, rfl, fun j h => by omega, rfl⟩
  case round =>
    obtain ⟨k, hk, rfl, hall, rfl⟩ := hrel
    by_cases hlt : k < ks.length
    · obtain ⟨b, off, rfl, hat⟩ := HX.out.at hlt
      have hlt' : (k : Int) < (ks.length : Int) := by omega
      obtain ⟨a2, c2, hu, s2, m2⟩ := hat k hlt
      by_cases hn : nameB (ks.getD k []) = true
      · cases k with
        | zero =>
          have HS : Hid (stepB ks 0 = true) := by simp [Hid, stepB]; simpa using hn
          have HN := hide' (impl_NameOk_any a2 c2 (ks.getD 0 []) wr s2 m2)
          rw [hn] at HN
          generalize (ks.getD 0 []) = ys at *
          simp only [Nat.add_zero] at hu
          clear hat
          go_wp2_with fail
          refine HN.out.mono ?_
          rintro e w1 ⟨rfl, e1⟩
          obtain rfl := e1
          go_wp2
          go_roundw
          case rel => exact ⟨1, by omega, by go_num, fun j hj => by obtain rfl : j = 0 := by omega
                                                                    exact HS.out, by first | rfl | trivial⟩
          case measure => simp [intOf]; omega
        | succ j =>
          obtain ⟨a3, c3, hu3, s3, m3⟩ := hat j (by omega)
          have hst : stepB ks (j + 1) = ltS (ks.getD j []) (ks.getD (j + 1) []) := by simp only [stepB, hn]; simp
          have HN := hide' (impl_NameOk_any a2 c2 (ks.getD (j + 1) []) wr s2 m2)
          rw [hn] at HN
          have HC := hide' (bytes_Compare_any a3 a2 c3 c2 (ks.getD j []) (ks.getD (j + 1) []) wr s3 s2)
          have hlc : ltS (ks.getD j []) (ks.getD (j + 1) []) = decide (Lib.compareBytes (u8s (ks.getD j [])) (u8s (ks.getD (j + 1) [])) < 0) := less_cmp _ _
          rw [hlc] at hst
          have hcr := cmp_range (u8s (ks.getD j [])) (u8s (ks.getD (j + 1) []))
          have HS := hide' hst
          generalize Lib.compareBytes (u8s (ks.getD j [])) (u8s (ks.getD (j + 1) [])) = q at *
          generalize (ks.getD (j + 1) []) = ys at *
          generalize (ks.getD j []) = zs at *
          clear hat hst hlc hn s2 s3
          go_wp2_with fail
          refine HN.out.mono ?_
          rintro e w1 ⟨rfl, e1⟩
          obtain rfl := e1
          go_wp2_with fail
          refine HC.out.mono ?_
          rintro e w1 ⟨rfl, e1⟩
          obtain rfl := e1
          by_cases hq : 0 ≤ q
          · have HF : Hid (ascB ks = false) := HNo.out (j + 1) (by omega) (by rw [HS.out]; simpa using hq)
            go_wp2
            go_ret
            exact ⟨ret_bool HF.out.symm, rfl⟩
          · have HF : Hid (stepB ks (j + 1) = true) := by show stepB ks (j + 1) = true; rw [HS.out]; simpa using hq
            go_wp2
            go_roundw
            case rel => exact ⟨j + 2, by omega, by go_num, fun i hi => by
                                by_cases e : i = j + 1
                                · rw [e]; exact HF.out
                                · exact hall i (by omega), by first | rfl | trivial⟩
            case measure => simp [intOf]; omega
      · have hn' : nameB (ks.getD k []) = false := by simpa using hn
        have HF : Hid (ascB ks = false) := HNo.out k hlt (by unfold stepB; rw [hn']; rfl)
        have HN := hide' (impl_NameOk_any a2 c2 (ks.getD k []) wr s2 m2)
        rw [hn'] at HN
        generalize (ks.getD k []) = ys at *
        clear hat hn hn'
        go_wp2_with fail
        refine HN.out.mono ?_
        rintro e w1 ⟨rfl, e1⟩
        obtain rfl := e1
        go_wp2
        go_ret
        exact ⟨ret_bool HF.out.symm, rfl⟩
    · have HF : Hid (ascB ks = true) := HY.out (fun i hi => hall i (by omega))
      have hlt' : ¬ (k : Int) < (ks.length : Int) := by omega
      go_wp2
      go_ret
      exact ⟨ret_bool HF.out.symm, rfl⟩
end Go.Proofs.Ytpknhmegoldppaa
/-
  markValue of the laws over a value of the call's own; heldValueS and heldValue find the running numbers there.
-/
namespace Go.Proofs.Ytpknhmegoldppaa
open Go.RowKit
set_option linter.unusedVariables false
set_option linter.unusedSimpArgs false

set_option maxHeartbeats 3200000 in
theorem markValue_any (d : Nat) (c0 c1 c2 c3 c4 : Value) (v : Vl (d + 1)) (B : List Nat) (m : Nat) (w : World) (h : VOwn w (d + 1) (c0, c1, c2, c3, c4) v B) (hs : szV (d + 1) v ≤ 1048576) (hm : m + cV d v ≤ 1125899906842624) :
    Calls Try.prog 13 #[.agg #[c0, c1, c2, c3, c4], .int .i64 m] w fun e w' => e = .returned (.int .i64 ((m + cV d v : Nat) : Int)) ∧ VOwn w' (d + 1) (c0, c1, c2, c3, c4) (mkV d v m) B ∧ Turned B w w' := by
  obtain ⟨vk, vn, vS, vK, vL⟩ := v
  obtain ⟨e0, e1, Bs, Bk, Bl, ht, hkk, hll, hB, hnd0⟩ := (VOwn_succ _ _ _ _ _).1 h
  simp only at e0 e1 ht hkk hll
  subst hB
  have hz' : szV (d + 1) (vk, vn, vS, vK, vL) = vS.length + szK vK + szL d vL := rfl
  have hc' : cV d (vk, vn, vS, vK, vL) = vS.length + (vK.map List.length).sum + (vL.map (cE d)).sum := rfl
  have hkz : szK vK = vK.length + (vK.map List.length).sum := rfl
  have hlt : ∀ b ∈ Bs ++ (Bk ++ Bl), b < w.heap.size := VOwn.lt (d + 1) h
  have hnd : (w.heap.size :: (Bs ++ (Bk ++ Bl))).Nodup := by
    rw [List.nodup_cons]
    exact ⟨fun hm => by have := hlt _ hm; omega, hnd0⟩
  have hal : Below w.heap.size w (w.alloc (.cells #[c0, c1, c2, c3, c4] 30)) := (Below.refl _ _).alloc (Nat.le_refl _) _
  have hst : MkSt (w.alloc (.cells #[c0, c1, c2, c3, c4] 30)) w.heap.size #[c0, c1, c2, c3, c4] d c2 c3 c4 vS vK vL Bs Bk Bl (w.alloc (.cells #[c0, c1, c2, c3, c4] 30)) :=
    ⟨ht.agree fun b hb => hal.block b (ht.lt b hb), hkk.agree fun b hb => hal.block b (hkk.lt b hb), LOwn.agree hll fun b hb => hal.block b (hll.lt b hb), (MapKept.heap_alloc w _).1, Turned.refl _ _⟩
  obtain ⟨sa, sc, rfl, _⟩ := ht.1.shape
  have hkf : ∃ ka kc, c3 = .slice ka vK.length kc := by
    rcases hkk with ⟨e, e', _⟩ | ⟨_, _, _, _, e, _⟩
    · exact ⟨none, 0, by rw [e, e']; rfl⟩
    · exact ⟨_, _, e⟩
  obtain ⟨ka, kc, rfl⟩ := hkf
  have hlf : ∃ la lc, c4 = .slice la vL.length lc := by
    rcases hll with ⟨e, e', _⟩ | ⟨_, _, _, _, e, _⟩
    · exact ⟨none, 0, by rw [e, e']; rfl⟩
    · exact ⟨_, _, e⟩
  obtain ⟨la, lc, rfl⟩ := hlf
  have HM1 : Hid (Calls Try.prog 14 #[.slice sa vS.length sc, .int .i64 m] (w.alloc (.cells #[c0, c1, .slice sa vS.length sc, .slice ka vK.length kc, .slice la vL.length lc] 30)) fun e w' => e = .returned (.int .i64 ((m : Int) + vS.length)) ∧ w'.cell? ⟨w.heap.size, 3, none⟩ = some (.slice ka vK.length kc) ∧ Hid (MkSt (w.alloc (.cells #[c0, c1, .slice sa vS.length sc, .slice ka vK.length kc, .slice la vL.length lc] 30)) w.heap.size #[c0, c1, .slice sa vS.length sc, .slice ka vK.length kc, .slice la vL.length lc] d (.slice sa vS.length sc) (.slice ka vK.length kc) (.slice la vL.length lc) (marks m vS.length) vK vL Bs Bk Bl w')) := by
    refine (markByteS_F sa sc vS m _ hst.1.1 (by omega) (by omega)).mono ?_
    rintro e w' ⟨rfl, hb, hg⟩
    have h' := hst.text hnd (hst.1.marked hb) (hst.1.turned hg)
    exact ⟨ret_i64 (by push_cast; rfl), by rw [cell_of_row w' _ _ _ _ (0, 0) h'.2.2.2.1]; rfl, h'⟩
  have HM2 : Hid (∀ w1, Hid (MkSt (w.alloc (.cells #[c0, c1, .slice sa vS.length sc, .slice ka vK.length kc, .slice la vL.length lc] 30)) w.heap.size #[c0, c1, .slice sa vS.length sc, .slice ka vK.length kc, .slice la vL.length lc] d (.slice sa vS.length sc) (.slice ka vK.length kc) (.slice la vL.length lc) (marks m vS.length) vK vL Bs Bk Bl w1) → Calls Try.prog 38 #[.slice ka vK.length kc, .int .i64 ((m : Int) + vS.length)] w1 fun e w' => e = .returned (.int .i64 ((m : Int) + vS.length + ((vK.map List.length).sum : Nat))) ∧ w'.cell? ⟨w.heap.size, 4, none⟩ = some (.slice la vL.length lc) ∧ Hid (MkSt (w.alloc (.cells #[c0, c1, .slice sa vS.length sc, .slice ka vK.length kc, .slice la vL.length lc] 30)) w.heap.size #[c0, c1, .slice sa vS.length sc, .slice ka vK.length kc, .slice la vL.length lc] d (.slice sa vS.length sc) (.slice ka vK.length kc) (.slice la vL.length lc) (marks m vS.length) (mkKs vK (m + vS.length)) vL Bs Bk Bl w')) := by
    intro w1 h1
    refine arg_eq (x := ((m + vS.length : Nat) : Int)) (by push_cast; rfl) ((markByteSS_any _ vK Bk (m + vS.length) w1 h1.out.2.1 (by omega) (by omega)).mono ?_)
    rintro e w' ⟨rfl, hb, hg⟩
    have h' := h1.out.keys hnd hb hg
    exact ⟨ret_i64 (by push_cast; rfl), by rw [cell_of_row w' _ _ _ _ (0, 0) h'.2.2.2.1]; rfl, h'⟩
  have HM3 : Hid (∀ w1, Hid (MkSt (w.alloc (.cells #[c0, c1, .slice sa vS.length sc, .slice ka vK.length kc, .slice la vL.length lc] 30)) w.heap.size #[c0, c1, .slice sa vS.length sc, .slice ka vK.length kc, .slice la vL.length lc] d (.slice sa vS.length sc) (.slice ka vK.length kc) (.slice la vL.length lc) (marks m vS.length) (mkKs vK (m + vS.length)) vL Bs Bk Bl w1) → Calls Try.prog 39 #[.slice la vL.length lc, .int .i64 ((m : Int) + vS.length + ((vK.map List.length).sum : Nat))] w1 fun e w' => e = .returned (.int .i64 ((m : Int) + vS.length + ((vK.map List.length).sum : Nat) + ((vL.map (cE d)).sum : Nat))) ∧ Hid (VOwn w' (d + 1) (c0, c1, .slice sa vS.length sc, .slice ka vK.length kc, .slice la vL.length lc) (mkV d (vk, vn, vS, vK, vL) m) (Bs ++ (Bk ++ Bl))) ∧ Hid (Turned (Bs ++ (Bk ++ Bl)) w w')) := by
    intro w1 h1
    refine arg_eq (x := ((m + vS.length + (vK.map List.length).sum : Nat) : Int)) (by push_cast; rfl) ((markValueS_any d _ vL Bl (m + vS.length + (vK.map List.length).sum) w1 h1.out.2.2.1 (by omega) (by omega)).mono ?_)
    rintro e w' ⟨rfl, hb, hg⟩
    obtain ⟨g1, g2, g3, g4, g5⟩ := h1.out.list hnd hb hg
    refine ⟨ret_i64 (by push_cast; rfl), ?_, ?_⟩
    · exact (VOwn_succ _ _ _ _ _).2 ⟨e0, e1, Bs, Bk, Bl, g1, g2, g3, rfl, hnd0⟩
    · refine ⟨g5.os.trans hal.os, g5.tape.trans hal.tape, g5.output.trans hal.output, Nat.le_trans hal.size g5.size, fun b hb hn => ?_⟩
      refine (g5.block b (Nat.lt_of_lt_of_le hb hal.size) fun hm => ?_).trans (hal.block b hb)
      rcases List.mem_cons.1 hm with rfl | hm
      · omega
      · exact hn hm
  have HO : Hid (m + cV d (vk, vn, vS, vK, vL) = m + vS.length + (vK.map List.length).sum + (vL.map (cE d)).sum) := by show m + cV d (vk, vn, vS, vK, vL) = _; omega
  generalize cV d (vk, vn, vS, vK, vL) = tot at *
  clear hst ht hkk hll h hnd hnd0 hal hlt hz' hc' hkz hs e0 e1
  generalize (vK.map List.length).sum = nK at *
  generalize (vL.map (cE d)).sum = nL at *
  generalize vS.length = nS at *
  generalize vK.length = kK at *
  generalize vL.length = kL at *
  have hbig : m + nS + nK + nL ≤ 1125899906842624 := by have := HO.out; omega
  go_enter Try.func13, Try.ntmps13
  go_wp2_with fail
  refine HM1.out.mono ?_
  rintro e w1 ⟨rfl, z3, hS1⟩
  have HM2' := hide' (HM2.out w1 hS1)
  clear HM1 HM2
  go_wp2_with fail
  refine HM2'.out.mono ?_
  rintro e w2 ⟨rfl, z4, hS2⟩
  have HM3' := hide' (HM3.out w2 hS2)
  clear z3 hS1 HM2' HM3
  go_wp2_with fail
  refine HM3'.out.mono ?_
  rintro e w3 ⟨rfl, hK', hT'⟩
  clear z4 hS2 HM3'
  go_wp2
  go_ret
  exact ⟨ret_i64 (by rw [HO.out]; push_cast; rfl), hK'.out, hT'.out⟩
end Go.Proofs.Ytpknhmegoldppaa
/-
  Small laws on calls that turn nothing, on the box of a value, on lists of values; no statement is proved here.
-/
namespace Go.Proofs.Ytpknhmegoldppaa
open Go.RowKit
set_option linter.unusedVariables false
set_option linter.unusedSimpArgs false

theorem quiet_same {P : Program} {f : FuncId} {args : Array Value} {w : World} {n : Nat} {v : Value}
    (h : Calls P f args (w.drewN n) fun e w' => e = .returned v ∧ w.drewN n = w') : Calls P f args (w.drewN n) fun e w'' => e = .returned v ∧ ∃ m, w'' = w.drewN m :=
  Calls.quiet_of_same (h.mono fun _ _ ⟨he, hm⟩ => ⟨he, hm.symm⟩)

/-- The box of a value that was handed in. -/
theorem box_row {w wr : World} {o : Obj} (h : Below (w.alloc o).heap.size (w.alloc o) wr) : wr.heap[w.heap.size]? = some o :=
  (h.block w.heap.size (by simp)).trans (MapKept.heap_alloc w o).1

theorem LSeg.at {N : Nat} {w wr : World} {d : Nat} {a : Option Addr} {n cap : Nat} {l : List (Vl d)} (h : LSeg (fun b => b < N) w d (.slice a n cap) l) (hb : Below w.heap.size w wr) (hN : N ≤ w.heap.size) {k : Nat} (hk : k < l.length) :
    ∃ b off c, a = some ⟨b, off, none⟩ ∧ Five wr b (off + k * 5) c ∧ ∀ wx, Below w.heap.size w wx → VSeg (fun b => b < N) wx d c (l[k]) := by
  obtain ⟨a', cap', h1, h2, h3, h4, h5⟩ := h
  simp only [Value.slice.injEq] at h1
  obtain ⟨rfl, _, _⟩ := h1
  rcases h5 with h0 | ⟨b, off, rfl, hR, hc⟩
  · subst h0; simp at hk
  · obtain ⟨c, h5, hv⟩ := hc k hk
    exact ⟨b, off, c, rfl, h5.agree (agree_below (hb.mono hN)) hR, fun wx hx => VSeg.agree (agree_below (hx.mono hN)) d hv⟩

theorem VSeg.form {R : Nat → Prop} {w : World} (d : Nat) {c0 c1 c2 c3 c4 : Value} {v : Vl d} (h : VSeg R w d (c0, c1, c2, c3, c4) v) :
    ∃ (k n : Int) (a2 : Option Addr) (l2 p2 : Nat) (a3 : Option Addr) (l3 p3 : Nat) (a4 : Option Addr) (l4 p4 : Nat), c0 = .int .i64 k ∧ c1 = .int .i64 n ∧ c2 = .slice a2 l2 p2 ∧ c3 = .slice a3 l3 p3 ∧ c4 = .slice a4 l4 p4 := by
  cases d with
  | zero => exact h.elim
  | succ d =>
    obtain ⟨e0, e1, ⟨a2, p2, e2, _⟩, ⟨a3, p3, e3, _⟩, a4, p4, e4, _⟩ := h
    exact ⟨_, _, _, _, _, _, _, _, _, _, _, e0, e1, e2, e3, e4⟩
end Go.Proofs.Ytpknhmegoldppaa
/-
  What a call has made for itself can be read by whoever comes behind it.
-/
namespace Go.Proofs.Ytpknhmegoldppaa
open Go.RowKit
set_option linter.unusedVariables false

/-- What a call has made for itself can be read by whoever comes behind it. -/
theorem VOwn.below {w w' : World} {d : Nat} {c : Value × Value × Value × Value × Value} {v : Vl d} {B : List Nat} (h : VOwn w d c v B) (hb : Below w.heap.size w w') : VSeg (fun b => b < w.heap.size) w' d c v :=
  VSeg.agree (agree_below hb) d (VSeg.mono (fun b hb => VOwn.lt d h b hb) d (VOwn.seg d h))
end Go.Proofs.Ytpknhmegoldppaa
/-
  What is owned, behind later calls; how many marks a value takes.
-/
namespace Go.Proofs.Ytpknhmegoldppaa
open Go.RowKit
set_option linter.unusedVariables false
set_option linter.unusedSimpArgs false

theorem KOwn.on {w w' : World} {v : Value} {ks : List (List Int)} {B : List Nat} (h : KOwn w v ks B) (hb : Below w.heap.size w w') : KOwn w' v ks B := h.agree fun b hb' => hb.block b (h.lt b hb')
theorem VOwn.on {w w' : World} {d : Nat} {c : Value × Value × Value × Value × Value} {v : Vl d} {B : List Nat} (h : VOwn w d c v B) (hb : Below w.heap.size w w') : VOwn w' d c v B := VOwn.agree d h fun b hb' => hb.block b (VOwn.lt d h b hb')
theorem KOwn.far {w w' : World} {v : Value} {ks : List (List Int)} {B B' : List Nat} (h : KOwn w v ks B) (hT : Turned B' w w') (hd : ∀ b ∈ B, b ∉ B') : KOwn w' v ks B := h.agree fun b hb' => hT.block b (h.lt b hb') (hd b hb')
theorem KOwn.read {w : World} {v : Value} {ks : List (List Int)} {B : List Nat} (h : KOwn w v ks B) : KSeg (fun b => b < w.heap.size) w v ks := h.seg.mono fun b hb => h.lt b hb

theorem sum_cE {d : Nat} (h : ∀ v : Vl d, cE d v ≤ 2 + 2 * szV d v) : ∀ l : List (Vl d), (l.map (cE d)).sum ≤ 2 * l.length + 2 * (l.map (szV d)).sum
  | [] => by simp
  | x :: r => by
    have h1 := h x
    have h2 := sum_cE h r
    simp only [List.map_cons, List.sum_cons, List.length_cons]
    omega

theorem cE_sz : ∀ (d : Nat) (v : Vl d), cE d v ≤ 2 + 2 * szV d v
  | 0, _ => by simp [cE]
  | d + 1, (vk, vn, vs, vK, vL) => by
    have h2 := sum_cE (cE_sz d) vL
    have h3 : szV (d + 1) (vk, vn, vs, vK, vL) = szT vs + szK vK + (vL.length + (vL.map (szV d)).sum) := rfl
    have h4 : cE (d + 1) (vk, vn, vs, vK, vL) = 2 + (vs.length + ((vK.map List.length).sum + (vL.map (cE d)).sum)) := rfl
    have h5 : szK vK = vK.length + (vK.map List.length).sum := rfl
    have h6 : vs.length ≤ szT vs := by unfold szT; omega
    omega

theorem cV_le (d : Nat) (v : Vl (d + 1)) : cV d v ≤ 2 * szV (d + 1) v := by
  obtain ⟨vk, vn, vs, vK, vL⟩ := v
  have h2 := sum_cE (cE_sz d) vL
  have h3 : szV (d + 1) (vk, vn, vs, vK, vL) = szT vs + szK vK + (vL.length + (vL.map (szV d)).sum) := rfl
  have h4 : cV d (vk, vn, vs, vK, vL) = vs.length + (vK.map List.length).sum + (vL.map (cE d)).sum := rfl
  have h5 : szK vK = vK.length + (vK.map List.length).sum := rfl
  have h6 : vs.length ≤ szT vs := by unfold szT; omega
  omega

theorem VOwn.far {w w' : World} {d : Nat} {c : Value × Value × Value × Value × Value} {v : Vl d} {B B' : List Nat} (h : VOwn w d c v B) (hT : Turned B' w w') (hd : ∀ b ∈ B, b ∉ B') : VOwn w' d c v B := VOwn.agree d h fun b hb' => hT.block b (VOwn.lt d h b hb') (hd b hb')
theorem VOwn.read {w : World} {d : Nat} {c : Value × Value × Value × Value × Value} {v : Vl d} {B : List Nat} (h : VOwn w d c v B) : VSeg (fun b => b < w.heap.size) w d c v := h.below (Below.refl _ _)
theorem row_on {w w' : World} {b : Nat} {o : Obj} (h : w.heap[b]? = some o) (hb : Below w.heap.size w w') : w'.heap[b]? = some o := (hb.block b (Array.getElem?_eq_some_iff.1 h).1).trans h
theorem row_far {w w' : World} {b : Nat} {o : Obj} {B : List Nat} (h : w.heap[b]? = some o) (hT : Turned B w w') (hn : b ∉ B) : w'.heap[b]? = some o := (hT.block b (Array.getElem?_eq_some_iff.1 h).1 hn).trans h
theorem row_mark {w w' : World} {b : Nat} {o : Obj} {r : Option Nat} (h : w.heap[b]? = some o) (hg : w.grownBy w' r) (hn : some b ≠ r) : w'.heap[b]? = some o := (hg.block b (Array.getElem?_eq_some_iff.1 h).1 hn).trans h
theorem VOwn.mark {w w' : World} {d : Nat} {c : Value × Value × Value × Value × Value} {v : Vl d} {B : List Nat} {r : Option Nat} (h : VOwn w d c v B) (hg : w.grownBy w' r) (hn : ∀ b ∈ B, some b ≠ r) : VOwn w' d c v B := VOwn.agree d h fun b hb => hg.block b (VOwn.lt d h b hb) (hn b hb)

/-- What a call that hands out a value and a word leaves: a value of the call's own, and the word. -/
def Ans (D : Nat) (a : Vl (D + 1)) (bb : Bool) (w : World) (e : Ending) (w' : World) : Prop := ∃ u0 u1 u2 u3 u4, e = .returned (.tuple #[.agg #[u0, u1, u2, u3, u4], .bool bb]) ∧ ∃ B, VOwn w' (D + 1) (u0, u1, u2, u3, u4) a B ∧ (∀ b ∈ B, w.heap.size ≤ b ∧ b < w'.heap.size) ∧ Below w.heap.size w w'

/-- The value that holds nothing. -/
def vNil (d : Nat) : Vl (d + 1) := ((0 : Int), (0 : Int), ([] : List Int), ([] : List (List Int)), ([] : List (Vl d)))

theorem sz_vNil (d : Nat) : szV (d + 1) (vNil d) = 0 := rfl

theorem tOwn_nil (w : World) : TOwn w (.slice none 0 0) [] [] := ⟨⟨by simp, rfl, .inl ⟨rfl, rfl⟩⟩, .inl ⟨rfl, rfl⟩⟩

theorem own_vNil (d : Nat) (w : World) : VOwn w (d + 1) (.int .i64 0, .int .i64 0, .slice none 0 0, .slice none 0 0, .slice none 0 0) (vNil d) [] :=
  (VOwn_succ _ _ _ _ _).2 ⟨rfl, rfl, [], [], [], tOwn_nil w, .inl ⟨rfl, rfl, rfl⟩, .inl ⟨rfl, rfl, rfl⟩, rfl, by simp⟩
end Go.Proofs.Ytpknhmegoldppaa
/-
  heldByteSS of the laws: it finds the running numbers in a list of texts that was marked.
-/
namespace Go.Proofs.Ytpknhmegoldppaa
open Go.RowKit
set_option linter.unusedVariables false
set_option linter.unusedSimpArgs false

theorem mkKs_at : ∀ (l : List (List Int)) (k i : Nat) (h : i < l.length), (mkKs l k).getD i [] = marks (k + pre List.length l i) l[i].length
  | [], _, _, h => by simp at h
  | x :: r, k, 0, _ => by simp [mkKs, pre]
  | x :: r, k, i + 1, h => by
    have ih := mkKs_at r (k + x.length) i (by simpa using h)
    have e : pre List.length (x :: r) (i + 1) = x.length + pre List.length r i := by simp [pre]
    rw [e]
    simp only [mkKs, List.getD_cons_succ, List.getElem_cons_succ]
    rw [ih, Nat.add_assoc]

set_option maxHeartbeats 1600000 in
theorem heldByteSS_any (N : Nat) (v : Value) (ks : List (List Int)) (m : Nat) (w : World) (h : KSeg (fun b => b < N) w v (mkKs ks m)) (hN : N ≤ w.heap.size) (hs : szK ks ≤ 2097152) (hm : m + (ks.map List.length).sum ≤ 1125899906842624) :
    Calls Try.prog 41 #[v, .int .i64 m] w fun e w' => e = .returned (.int .i64 ((m + (ks.map List.length).sum : Nat) : Int)) ∧ Below w.heap.size w w' := by
  have hsz : szK ks = ks.length + (ks.map List.length).sum := rfl
  have H0 := hide' h
  obtain ⟨a, c, rfl, _⟩ := h
  rw [length_mkKs] at H0 ⊢
  have HP : Hid (∀ k (hk : k < ks.length), pre List.length ks (k + 1) = pre List.length ks k + ks[k].length) := fun k hk => pre_succ List.length ks k hk
  have HL : Hid (∀ k, pre List.length ks k ≤ (ks.map List.length).sum) := pre_le List.length ks
  have HA : Hid (pre List.length ks ks.length = (ks.map List.length).sum) := pre_all _ _
  have hn : ks.length ≤ 2097152 := by omega
  have hsum : (ks.map List.length).sum ≤ 2097152 := by omega
  have hmm : m + (ks.map List.length).sum ≤ 1125899906842624 := by omega
  clear hs hsz hm
  go_enter Try.func41, Try.ntmps41
  go_wp2
  go_loopw [1, 5] (fun m' i wr => ∃ k : Nat, k ≤ ks.length ∧ i = .int .i64 k ∧ m' = .int .i64 ((m + pre List.length ks k : Nat) : Int) ∧ Below w.heap.size w wr) (fun _ i _ => ks.length - (intOf i).toNat)
  case atStart => exact ⟨0, Nat.zero_le _, rfl, by rw [pre_zero]; simp, Below.refl _ _⟩
  case round =>
    obtain ⟨k, hk, rfl, rfl, hbel⟩ := hrel
    have hpk := HL.out k
    by_cases hlt : k < ks.length
    · have hlt' : (k : Int) < (ks.length : Int) := by omega
      have hps := HP.out k hlt
      have hpk1 := HL.out (k + 1)
      obtain ⟨b, off, rfl, hc⟩ := (H0.out.agree (agree_below (hbel.mono hN))).at (k := k) (by rw [length_mkKs]; exact hlt)
      obtain ⟨a2, c2, hcell, hseg, _⟩ := hc k (by rw [length_mkKs]; exact hlt)
      rw [mkKs_at ks m k hlt, length_marks] at hcell
      rw [mkKs_at ks m k hlt] at hseg
      have HM := hide' (heldByteS_any a2 c2 (m + pre List.length ks k) ks[k].length wr hseg (by omega) (by omega))
      have Hps := hide' hps
      clear hseg hc hps
      generalize ks[k].length = nk at *
      generalize pre List.length ks k = q at *
      go_wp2_with fail
      refine HM.out.mono ?_
      rintro e w' ⟨rfl, b'⟩
      have B' := Below.on hbel b'
      clear hcell HM b'
      go_wp2
      go_roundw
      case rel => exact ⟨k + 1, by omega, by go_num, by rw [Hps.out]; go_num, B'⟩
      case measure => simp [intOf]; omega
    · have hkn : k = ks.length := by omega
      have hkn' : ¬ (k : Int) < (ks.length : Int) := by omega
      have HQ : Hid (pre List.length ks k = (ks.map List.length).sum) := by show pre List.length ks k = _; rw [hkn]; exact HA.out
      clear hkn
      go_wp2
      go_ret
      exact ⟨ret_i64 (by rw [HQ.out]), hbel⟩
end Go.Proofs.Ytpknhmegoldppaa
