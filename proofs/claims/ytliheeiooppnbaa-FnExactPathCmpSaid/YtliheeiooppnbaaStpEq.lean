/-
  eqStep, eqStepS of the laws: of two readings of the same path they answer true, and turn nothing old.
-/
import Derived.Test.YtliheeiooppnbaaStpTo
import Derived.Deep.RegionWith
namespace Go.Proofs.Ytliheeiooppnbaa
open Go.RowKit
set_option linter.unusedVariables false

set_option maxHeartbeats 1600000 in
theorem eqStep_same (N : Nat) (c0 c1 c2 e0 e1 e2 : Value) (s : Stp) (w : World) (h : StSeg (fun b => b < N) w (c0, c1, c2) s) (h' : StSeg (fun b => b < N) w (e0, e1, e2) s) (hN : N ≤ w.heap.size) (hz : s.2.1.length ≤ 1048576) :
    Calls Try.prog 16 #[.agg #[c0, c1, c2], .agg #[e0, e1, e2]] w fun e w' => e = .returned (.bool true) ∧ Below w.heap.size w w' := by
  obtain ⟨sk, ss, si⟩ := s
  obtain ⟨g0, ht, g2⟩ := h
  obtain ⟨f0, ht', f2⟩ := h'
  simp only at g0 ht g2 f0 ht' f2 hz
  subst g0
  subst g2
  subst f0
  subst f2
  have Ht : Hid (∀ wx, Below w.heap.size w wx → TSeg (fun b => b < N) wx c1 ss ∧ TSeg (fun b => b < N) wx e1 ss) := fun wx hb => ⟨ht.agree (agree_below (hb.mono hN)), ht'.agree (agree_below (hb.mono hN))⟩
  have Hb : Hid (∀ o o' : Obj, Below w.heap.size w ((w.alloc o).alloc o')) := fun o o' => ((Below.refl _ _).alloc (Nat.le_refl _) o).alloc (by simp) o'
  obtain ⟨a2, cp2, rfl, s2, hl2, hm2, _, _⟩ := ht
  obtain ⟨a2', cp2', rfl, s2', hl2', hm2', _, _⟩ := ht'
  have Hs : Hid (∀ wx, Below w.heap.size w wx → Seg wx a2 ss ∧ Seg wx a2' ss) := by
    intro wx hb
    obtain ⟨x1, x2⟩ := Ht.out wx hb
    obtain ⟨_, _, y1, y2, _⟩ := x1
    obtain ⟨_, _, z1, z2, _⟩ := x2
    simp at y1 z1
    exact ⟨y1.1 ▸ y2, z1.1 ▸ z2⟩
  clear Ht s2 s2'
  have R1 := hide' (two_boxes w (.cells #[.int .i64 sk, .slice a2 ss.length cp2, .int .i64 si] 35) (.cells #[.int .i64 sk, .slice a2' ss.length cp2', .int .i64 si] 35))
  go_enter Try.func16, Try.ntmps16
  go_wp2_with fail
  have q1 := Hb.out (.cells #[.int .i64 sk, .slice a2 ss.length cp2, .int .i64 si] 35) (.cells #[.int .i64 sk, .slice a2' ss.length cp2', .int .i64 si] 35)
  refine (eqByteS_same _ _ _ _ ss _ (Hs.out _ q1).1 (Hs.out _ q1).2 (by omega)).mono ?_
  rintro e w1 ⟨rfl, b1⟩
  have B1 := Below.on q1 b1
  obtain ⟨_, _, x2, _⟩ := row3 ((b1.block _ (by rw [size2]; omega)).trans R1.out.1)
  obtain ⟨_, _, y2, _⟩ := row3 ((b1.block _ (by rw [size2]; omega)).trans R1.out.2)
  clear q1 b1 Hs
  go_wp2
  go_ret
  exact ⟨rfl, B1⟩

set_option maxHeartbeats 1600000 in
theorem eqStepS_same (N : Nat) (x y : Value) (l : List Stp) (w : World) (hx : PthSeg (fun b => b < N) w x l) (hy : PthSeg (fun b => b < N) w y l) (hN : N ≤ w.heap.size) (hz : szP l ≤ 1048576) :
    Calls Try.prog 9 #[x, y] w fun e w' => e = .returned (.bool true) ∧ Below w.heap.size w w' := by
  have HC := hide' hx
  have HC' := hide' hy
  obtain ⟨a, cap, rfl, hlc, hcm, ka, hc⟩ := hx
  obtain ⟨a', cap', rfl, hlc', hcm', ka', hc'⟩ := hy
  have hn : l.length ≤ 1048576 := by unfold szP at hz; omega
  have HZ := hide' hz
  clear hc hc' hz
  unfold maxLen at hcm hcm'
  go_enter Try.func9, Try.ntmps9
  go_wp2
  go_loopw [5] (fun i wr => ∃ k : Nat, k ≤ l.length ∧ i = .int .i64 k ∧ Below w.heap.size w wr) (fun i _ => l.length - (intOf i).toNat)
  case atStart => exact ⟨0, Nat.zero_le _, rfl, Below.refl _ _⟩
  case round =>
    obtain ⟨k, hk, rfl, hbel⟩ := hrel
    have hsz2 := hbel.size
    by_cases hlt : k < l.length
    · obtain ⟨b, off, c0, c1, c2, rfl, _, h3, hv⟩ := (HC.out.agree (agree_below (hbel.mono hN))).at hlt
      obtain ⟨b', off', e0, e1, e2, rfl, _, h3', hv'⟩ := (HC'.out.agree (agree_below (hbel.mono hN))).at hlt
      obtain ⟨q0, q1, q2⟩ := h3
      obtain ⟨r0, r1, r2⟩ := h3'
      simp only at q0 q1 q2 r0 r1 r2
      have hlt' : (k : Int) < (l.length : Int) := by omega
      have hzk := Nat.le_trans (szP_elem hlt) HZ.out
      have hE := hide' (eqStep_same N c0 c1 c2 e0 e1 e2 l[k] wr.drew (hv.agree (w' := wr.drew) (fun b _ => rfl)) (hv'.agree (w' := wr.drew) (fun b _ => rfl)) (by show N ≤ wr.heap.size; omega) hzk)
      clear hv hv' hzk
      go_wp2_with fail
      go_region_with (go_at_call 16; refine hE.out.mono ?_; rintro e w1 ⟨rfl, b1⟩)
      all_goals
        have B1 : Below w.heap.size w w1 := Below.on hbel.drew b1
        clear q0 q1 q2 r0 r1 r2
        go_wp2
        go_roundw
        case rel => exact ⟨k + 1, by omega, by go_num, B1⟩
        case measure => simp [intOf]; omega
    · have hlt' : ¬ (k : Int) < (l.length : Int) := by omega
      go_wp2
      go_ret
      exact ⟨rfl, hbel⟩
end Go.Proofs.Ytliheeiooppnbaa
