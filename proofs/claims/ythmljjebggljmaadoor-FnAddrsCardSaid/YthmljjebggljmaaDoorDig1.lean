/-
  l2digits of the specification at a number that is not below nought.
-/
import Derived.Test.YthmljjebggljmaaDoorDig0
namespace Go.Proofs.YthmljjebggljmaaDoor
open Go.RowKit
set_option linter.unusedVariables false

set_option maxHeartbeats 1600000 in
theorem l2digits_nat (u : Nat) : u ≤ 1000000000000000000 → ∀ (w : World),
    Calls Tryd.prog 53 #[.int .i64 u] w fun e w' => ∃ v, e = .returned v ∧ Bts w' w.heap.size v (decI u) ∧ Below w.heap.size w w' := by
  induction u using Nat.strongRecOn with
  | ind u ih =>
    intro hu w
    have h0 : ¬ (u : Int) < 0 := by omega
    by_cases h : u < 10
    · have h' : (u : Int) < 10 := by omega
      have hd := decI_small h
      have hB := bts_one w (48 + (u : Int)) (by unfold Byt; omega)
      have hb : Below w.heap.size w (w.alloc (.cells #[.int .u8 (48 + (u : Int))] 5)) := (Below.refl _ _).alloc (Nat.le_refl _) _
      have Hd := hide' hd
      clear hd ih
      go_enter Tryd.func53, Tryd.ntmps53
      go_wp2
      go_ret
      exact ⟨_, rfl, by rw [Hd.out]; exact hB, hb⟩
    · have h' : ¬ (u : Int) < 10 := by omega
      have Hd := hide' (decI_big h)
      have HI := hide' (ih (u / 10) (by omega) (by omega) w)
      have hln := decI_len (u / 10) (by omega)
      have hq : ((u / 10 : Nat) : Int) = (u : Int) / 10 := by omega
      have hr : ((u % 10 : Nat) : Int) = (u : Int) % 10 := by omega
      rw [hr] at Hd
      rw [hq] at HI
      have hc1 : 0 ≤ (u : Int) % 10 ∧ (u : Int) % 10 < 10 := by omega
      clear ih hq hr
      go_enter Tryd.func53, Tryd.ntmps53
      go_wp2_with fail
      refine HI.out.mono ?_
      rintro e w1 ⟨v1, rfl, hv1, b1⟩
      have z1 := b1.size
      have hS : Seg (w1.alloc (.cells #[.int .u8 (48 + (u : Int) % 10)] 5)) (some ⟨w1.heap.size, 0, none⟩) [48 + (u : Int) % 10] := seg_one w1 _ (by unfold Byt; omega)
      have hA := hv1.alloc (.cells #[.int .u8 (48 + (u : Int) % 10)] 5)
      have hb2 : Below w.heap.size w (w1.alloc (.cells #[.int .u8 (48 + (u : Int) % 10)] 5)) := b1.alloc z1 _
      go_wp2_with (at_builtin; refine wpList_append_seg rfl (.tmp 18) (.tmp 23) (by rfl) w.heap.size v1 (decI (u / 10)) [48 + (u : Int) % 10] (by rfl) hA _ 1 1 rfl (by rfl) hS (by simp) (by simp; omega) (by simp; omega) ?_; intro v2 w2 hv2 hg2)
      go_ret
      exact ⟨_, rfl, by rw [Hd.out]; exact hv2, hb2.grown hg2 (by simp; omega) hv1.own⟩
end Go.Proofs.YthmljjebggljmaaDoor
