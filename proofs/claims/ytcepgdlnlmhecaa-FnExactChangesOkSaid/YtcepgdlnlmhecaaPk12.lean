/-
  Texts that a law leans on, one behind the other; no statement is proved here.
-/
import Derived.Test.YtcepgdlnlmhecaaPk11
import Derived.Test.YtcepgdlnlmhecaaPk3
import Derived.Test.YtcepgdlnlmhecaaPk2
import Derived.Test.YtcepgdlnlmhecaaPk4
/-
  ChangesOk of the program: what editsOf tells.
-/
namespace Go.Proofs.Ytcepgdlnlmhecaa
open Go.RowKit
set_option linter.unusedVariables false
set_option linter.unusedSimpArgs false

set_option maxHeartbeats 1600000 in
theorem impl_ChangesOk_any (d N : Nat) (a : Option Addr) (cap : Nat) (l : List (Chg d)) (w : World) (hx : CLSg (fun b => b < N) w d (.slice a l.length cap) l) (hN : N ≤ w.heap.size) (hln : l.length ≤ 1048576) :
    Calls Try.prog 7 #[.slice a l.length cap] w fun e w' => e = .returned (.bool (chB d l)) ∧ Below w.heap.size w w' := by
  have HE := hide' (editsOf_any d N a cap l w hx hN hln)
  unfold EdsEnd at HE
  clear hx
  generalize chB d l = ans at *
  generalize l.length = n at *
  go_enter Try.func7, Try.ntmps7
  go_wp2_with fail
  refine HE.out.mono ?_
  rintro e w1 ⟨va, vn, vc, rfl, b1⟩
  have B1 := hide' b1
  clear b1
  go_wp2
  go_ret
  exact ⟨rfl, B1.out⟩
end Go.Proofs.Ytcepgdlnlmhecaa
/-
  szChangeS: a list of changes is not too great.
-/
namespace Go.Proofs.Ytcepgdlnlmhecaa
open Go.RowKit
set_option linter.unusedVariables false
set_option linter.unusedSimpArgs false

theorem info_laws_chg {n : Nat} (h : n = 13) : (Try.prog.info? 37).map (·.size) = some n := by rw [h]; kernel_rfl
theorem info_chg {n : Nat} (h : n = 13) : (Try.prog.info? 43).map (·.size) = some n := by rw [h]; kernel_rfl

/-- What szChangeS leaves. -/
def SzCEnd (d : Nat) (l : List (Chg d)) (w : World) (e : Ending) (w' : World) : Prop := (e = .returned (.int .i64 (-1)) ∨ ∃ n : Int, 0 ≤ n ∧ n ≤ 1048576 ∧ e = .returned (.int .i64 n) ∧ l.length ≤ 1048576 ∧ ∀ i (h : i < l.length), CSz d l[i]) ∧ Below w.heap.size w w'

set_option maxHeartbeats 3200000 in
set_option maxRecDepth 100000 in
theorem szChangeS_any (d N : Nat) (x : Value) (l : List (Chg d)) (w : World) (hx : CLSg (fun b => b < N) w d x l) (hN : N ≤ w.heap.size) :
    Calls Try.prog 4 #[x, .int .i64 1048576] w (SzCEnd d l w) := by
  have HX := hide' hx
  obtain ⟨a, cap, rfl, hlc, hcm, _, _⟩ := hx
  unfold maxLen at hcm
  by_cases hl : (1048576 : Int) - (l.length : Int) < 0
  · go_enter Try.func4, Try.ntmps4
    go_wp2
    go_ret
    exact ⟨.inl rfl, Below.refl _ _⟩
  have hll : l.length ≤ 1048576 := by omega
  go_enter Try.func4, Try.ntmps4
  go_wp2
  go_loopw [1, 5] (fun n i wr => ∃ (k : Nat) (m : Int), k ≤ l.length ∧ n = .int .i64 m ∧ 0 ≤ m ∧ m ≤ 1048576 ∧ i = .int .i64 k ∧ Below w.heap.size w wr ∧ Hid (∀ j (h : j < l.length), j < k → CSz d l[j])) (fun _ i _ => l.length - (intOf i).toNat)
  case atStart => exact ⟨0, _, Nat.zero_le _, rfl, by omega, by omega, rfl, Below.refl _ _, fun j h h' => by omega⟩
  case round =>
    obtain ⟨k, m, hk, rfl, hm0, hm1, rfl, hbel, hall⟩ := hrel
    have hz := hbel.size
    by_cases hlt : k < l.length
    · have hlt' : (k : Int) < (l.length : Int) := by omega
      have hXr := HX.out.agree (agree_below (hbel.mono hN))
      obtain ⟨b, off, rfl, hbN, hat⟩ := hXr.at hlt
      obtain ⟨cs, hr, hs⟩ := hat k hlt
      have HC := hide' (szChange_any d N cs l[k] m wr hs (by omega) hm0 hm1)
      have hlen := hs.len
      clear hs hXr hat
      go_wp2_with (refine wpList_load_mid rfl 37 (.tmp 20) (by rfl) b (off + k * 13) (by rfl) cs _ hr Try.underlying37 rfl (info_laws_chg hlen) ?_)
      refine HC.out.mono ?_
      rintro e w1 ⟨hcase, b1⟩
      have B1 := Below.on hbel b1
      clear hr b1
      rcases hcase with rfl | ⟨q, hq0, hq1, rfl, hI⟩
      · go_wp2
        go_ret
        exact ⟨.inl rfl, B1⟩
      · have HA : Hid (∀ j (h : j < l.length), j < k + 1 → CSz d l[j]) := fun j h h' => by
          by_cases e : j = k
          · subst e; exact hI
          · exact hall.out j h (by omega)
        clear hI hall
        go_wp2
        go_roundw
        case rel => exact ⟨k + 1, q, by omega, rfl, hq0, by omega, by go_num, B1, HA⟩
        case measure => simp [intOf]; omega
    · have hlt' : ¬ (k : Int) < (l.length : Int) := by omega
      have HA : Hid (∀ j (h : j < l.length), CSz d l[j]) := fun j h => hall.out j h (by omega)
      clear hall
      go_wp2
      go_ret
      exact ⟨.inr ⟨m, hm0, hm1, rfl, hll, HA.out⟩, hbel⟩
end Go.Proofs.Ytcepgdlnlmhecaa
/-
  eqChange, eqChangeS: two readings of one list of changes.
-/
namespace Go.Proofs.Ytcepgdlnlmhecaa
open Go.RowKit
set_option linter.unusedVariables false
set_option linter.unusedSimpArgs false

set_option maxHeartbeats 3200000 in
set_option maxRecDepth 100000 in
theorem eqChange_any (d N : Nat) (cs cs' : List Value) (x : Chg d) (w : World) (h : CSg (fun b => b < N) w d cs x) (h' : CSg (fun b => b < N) w d cs' x) (hN : N ≤ w.heap.size) (hz : CSz d x) :
    Calls Try.prog 17 #[.agg cs.toArray, .agg cs'.toArray] w fun e w' => e = .returned (.bool true) ∧ Below w.heap.size w w' := by
  obtain ⟨pa, pc, ok, on, o2, ol2, op2, o3, ol3, op3, o4, ol4, op4, nk, nn, n2, nl2, np2, n3, nl3, np3, n4, nl4, np4, rfl, ht, hv, hu⟩ := h.form
  obtain ⟨pa', pc', ok', on', o2', ol2', op2', o3', ol3', op3', o4', ol4', op4', nk', nn', n2', nl2', np2', n3', nl3', np3', n4', nl4', np4', rfl, ht', hv', hu'⟩ := h'.form
  obtain ⟨pth, had, old, has, new⟩ := x
  obtain ⟨z0, z1, z2⟩ := hz
  simp only at ht hv hu ht' hv' hu' z0 z1 z2 ⊢
  have HB : Hid (∀ o o' : Obj, Below w.heap.size w ((w.alloc o).alloc o')) := fun o o' => ((Below.refl _ _).alloc (Nat.le_refl _) o).alloc (by simp) o'
  have Hbox : Hid (∀ o o' wx, Below ((w.alloc o).alloc o').heap.size ((w.alloc o).alloc o') wx → wx.heap[w.heap.size]? = some o ∧ wx.heap[w.heap.size + 1]? = some o') := fun o o' wx h => ⟨(h.block _ (by simp; omega)).trans (two_boxes w o o').1, (h.block _ (by simp)).trans (two_boxes w o o').2⟩
  have hA : ∀ wx, Below w.heap.size w wx → Agree (fun b => b < N) w wx := fun wx hb => agree_below (hb.mono hN)
  have HT : Hid (∀ wx, Below w.heap.size w wx → Calls Try.prog 29 #[.slice pa pth.length pc, .slice pa' pth.length pc'] wx fun e w' => e = .returned (.bool true) ∧ Below wx.heap.size wx w') := fun wx hb => eqStepS_same N _ _ pth wx (ht.agree (hA wx hb)) (ht'.agree (hA wx hb)) (by have := hb.size; omega) z0
  have HV : Hid (∀ wx, Below w.heap.size w wx → Calls Try.prog 30 #[.agg #[.int .i64 ok, .int .i64 on, .slice o2 ol2 op2, .slice o3 ol3 op3, .slice o4 ol4 op4], .agg #[.int .i64 ok', .int .i64 on', .slice o2' ol2' op2', .slice o3' ol3' op3', .slice o4' ol4' op4']] wx fun e w' => e = .returned (.bool true) ∧ Below wx.heap.size wx w') := fun wx hb => eqValue_any d N (.int .i64 ok, .int .i64 on, .slice o2 ol2 op2, .slice o3 ol3 op3, .slice o4 ol4 op4) (.int .i64 ok', .int .i64 on', .slice o2' ol2' op2', .slice o3' ol3' op3', .slice o4' ol4' op4') old wx (VSeg.agree (hA wx hb) d hv) (VSeg.agree (hA wx hb) d hv') (by have := hb.size; omega) z1
  have HU : Hid (∀ wx, Below w.heap.size w wx → Calls Try.prog 30 #[.agg #[.int .i64 nk, .int .i64 nn, .slice n2 nl2 np2, .slice n3 nl3 np3, .slice n4 nl4 np4], .agg #[.int .i64 nk', .int .i64 nn', .slice n2' nl2' np2', .slice n3' nl3' np3', .slice n4' nl4' np4']] wx fun e w' => e = .returned (.bool true) ∧ Below wx.heap.size wx w') := fun wx hb => eqValue_any d N (.int .i64 nk, .int .i64 nn, .slice n2 nl2 np2, .slice n3 nl3 np3, .slice n4 nl4 np4) (.int .i64 nk', .int .i64 nn', .slice n2' nl2' np2', .slice n3' nl3' np3', .slice n4' nl4' np4') new wx (VSeg.agree (hA wx hb) d hu) (VSeg.agree (hA wx hb) d hu') (by have := hb.size; omega) z2
  clear ht hv hu ht' hv' hu' h h' hA
  have hb1 : (had != had) = false := by simp
  have hb2 : (has != has) = false := by simp
  generalize pth.length = pl at *
  go_enter Try.func17, Try.ntmps17
  go_wp2_with fail
  refine (HT.out _ (HB.out _ _)).mono ?_
  rintro e w1 ⟨rfl, b1⟩
  obtain ⟨r1, r2⟩ := Hbox.out _ _ _ b1
  have u1 := cell_of_row _ _ 1 _ _ _ r1
  have t1 := cell_of_row _ _ 1 _ _ _ r2
  have u2 := cell_of_row _ _ 2 _ _ _ r1
  have t2 := cell_of_row _ _ 2 _ _ _ r2
  have u3 := cell_of_row _ _ 3 _ _ _ r1
  have t3 := cell_of_row _ _ 3 _ _ _ r2
  have u4 := cell_of_row _ _ 4 _ _ _ r1
  have t4 := cell_of_row _ _ 4 _ _ _ r2
  have u5 := cell_of_row _ _ 5 _ _ _ r1
  have t5 := cell_of_row _ _ 5 _ _ _ r2
  have u6 := cell_of_row _ _ 6 _ _ _ r1
  have t6 := cell_of_row _ _ 6 _ _ _ r2
  simp at u1 u2 u3 u4 u5 u6 t1 t2 t3 t4 t5 t6
  have B1 := hide' b1
  clear r1 r2 b1
  go_wp2_with fail
  refine (HV.out _ (Below.on (HB.out _ _) B1.out)).mono ?_
  rintro e w2 ⟨rfl, b2⟩
  have B2 := hide' (Below.on B1.out b2)
  obtain ⟨r1, r2⟩ := Hbox.out _ _ _ B2.out
  clear u1 u2 u3 u4 u5 u6 t1 t2 t3 t4 t5 t6
  have u7 := cell_of_row _ _ 7 _ _ _ r1
  have t7 := cell_of_row _ _ 7 _ _ _ r2
  have u8 := cell_of_row _ _ 8 _ _ _ r1
  have t8 := cell_of_row _ _ 8 _ _ _ r2
  have u9 := cell_of_row _ _ 9 _ _ _ r1
  have t9 := cell_of_row _ _ 9 _ _ _ r2
  have u10 := cell_of_row _ _ 10 _ _ _ r1
  have t10 := cell_of_row _ _ 10 _ _ _ r2
  have u11 := cell_of_row _ _ 11 _ _ _ r1
  have t11 := cell_of_row _ _ 11 _ _ _ r2
  have u12 := cell_of_row _ _ 12 _ _ _ r1
  have t12 := cell_of_row _ _ 12 _ _ _ r2
  simp at u7 u8 u9 u10 u11 u12 t7 t8 t9 t10 t11 t12
  clear r1 r2 b2
  go_wp2_with fail
  refine (HU.out _ (Below.on (HB.out _ _) B2.out)).mono ?_
  rintro e w3 ⟨rfl, b3⟩
  have B3 := hide' (Below.on (HB.out _ _) (Below.on B2.out b3))
  clear b3
  go_wp2
  go_ret
  exact ⟨rfl, B3.out⟩

set_option maxHeartbeats 3200000 in
set_option maxRecDepth 100000 in
theorem eqChangeS_any (d N : Nat) (x y : Value) (l : List (Chg d)) (w : World) (hx : CLSg (fun b => b < N) w d x l) (hy : CLSg (fun b => b < N) w d y l) (hN : N ≤ w.heap.size) (hll : l.length ≤ 1048576) (hz : ∀ i (h : i < l.length), CSz d l[i]) :
    Calls Try.prog 8 #[x, y] w fun e w' => e = .returned (.bool true) ∧ Below w.heap.size w w' := by
  have HX := hide' hx
  have HY := hide' hy
  have HZ := hide' hz
  obtain ⟨a, cap, rfl, _, _, _, _⟩ := hx
  obtain ⟨a', cap', rfl, _, _, _, _⟩ := hy
  clear hz
  go_enter Try.func8, Try.ntmps8
  go_wp2
  go_loopw [5] (fun i wr => ∃ k : Nat, k ≤ l.length ∧ i = .int .i64 k ∧ Below w.heap.size w wr) (fun i _ => l.length - (intOf i).toNat)
  case atStart => exact ⟨0, Nat.zero_le _, rfl, Below.refl _ _⟩
  case round =>
    obtain ⟨k, hk, rfl, hbel⟩ := hrel
    have hz := hbel.size
    by_cases hlt : k < l.length
    · have hlt' : (k : Int) < (l.length : Int) := by omega
      have hXr := HX.out.agree (agree_below (hbel.mono hN))
      have hYr := HY.out.agree (agree_below (hbel.mono hN))
      obtain ⟨b, off, rfl, hbN, hat⟩ := hXr.at hlt
      obtain ⟨b', off', rfl, hbN', hat'⟩ := hYr.at hlt
      obtain ⟨cs, hr, hs⟩ := hat k hlt
      obtain ⟨cs', hr', hs'⟩ := hat' k hlt
      have HC := hide' (eqChange_any d N cs cs' l[k] wr.drew (hs.agree (w' := wr.drew) (fun b _ => rfl)) (hs'.agree (w' := wr.drew) (fun b _ => rfl)) (by show N ≤ wr.heap.size; omega) (HZ.out k hlt))
      obtain ⟨pa, pc, ok, on, o2, ol2, op2, o3, ol3, op3, o4, ol4, op4, nk, nn, n2, nl2, np2, n3, nl3, np3, n4, nl4, np4, rfl, _⟩ := hs.form
      obtain ⟨pa', pc', ok', on', o2', ol2', op2', o3', ol3', op3', o4', ol4', op4', nk', nn', n2', nl2', np2', n3', nl3', np3', n4', nl4', np4', rfl, _⟩ := hs'.form
      have u0 := hr 0 _ rfl
      have t0 := hr' 0 _ rfl
      have u1 := hr 1 _ rfl
      have t1 := hr' 1 _ rfl
      have u2 := hr 2 _ rfl
      have t2 := hr' 2 _ rfl
      have u3 := hr 3 _ rfl
      have t3 := hr' 3 _ rfl
      have u4 := hr 4 _ rfl
      have t4 := hr' 4 _ rfl
      have u5 := hr 5 _ rfl
      have t5 := hr' 5 _ rfl
      have u6 := hr 6 _ rfl
      have t6 := hr' 6 _ rfl
      have u7 := hr 7 _ rfl
      have t7 := hr' 7 _ rfl
      have u8 := hr 8 _ rfl
      have t8 := hr' 8 _ rfl
      have u9 := hr 9 _ rfl
      have t9 := hr' 9 _ rfl
      have u10 := hr 10 _ rfl
      have t10 := hr' 10 _ rfl
      have u11 := hr 11 _ rfl
      have t11 := hr' 11 _ rfl
      have u12 := hr 12 _ rfl
      have t12 := hr' 12 _ rfl
      simp only [Nat.add_zero] at u0 t0
      have HB := hide' hbel
      clear hs hXr hs' hYr hr hr' hbel hat hat'
      generalize l[k] = it at *
      obtain ⟨pth, had, old, has, new⟩ := it
      simp only at u0 u1 u7 t0 t1 t7 HC
      generalize pth.length = pl at *
      go_wp2_with fail
      go_region_with (go_at_call 17; refine HC.out.mono ?_; rintro e w1 ⟨rfl, b1⟩)
      all_goals
        have B1 := Below.on HB.out.drew b1
        clear u0 u1 u2 u3 u4 u5 u6 u7 u8 u9 u10 u11 u12 t0 t1 t2 t3 t4 t5 t6 t7 t8 t9 t10 t11 t12
        go_wp2
        go_roundw
        case rel => exact ⟨k + 1, by omega, by go_num, B1⟩
        case measure => simp [intOf]; omega
    · have hlt' : ¬ (k : Int) < (l.length : Int) := by omega
      go_wp2
      go_ret
      exact ⟨rfl, hbel⟩
end Go.Proofs.Ytcepgdlnlmhecaa
