/-
  AddrOk and AddrName of the specification.
-/
import Derived.Test.YthmljjebggljmaaDoorAdS
namespace Go.Proofs.YthmljjebggljmaaDoor
open Go.RowKit
set_option linter.unusedVariables false

theorem addrN_short (xs : List Int) : (addrN xs).length ≤ 8 := by
  unfold addrN
  split
  · rename_i h
    simp only [addrB, Bool.and_eq_true] at h
    exact (nameB_le h.1).2
  · simp

set_option maxHeartbeats 800000 in
theorem spec_AddrOk_any (a : Option Addr) (c : Nat) (xs : List Int) (w : World) (ha : Seg w a xs) (hcap : xs.length ≤ c) (hc2 : c ≤ maxLen) (ka : a = none → c = 0) :
    Calls Tryd.prog 16 #[.slice a xs.length c] w fun e w' => e = .returned (.bool (addrB xs)) ∧ w = w' := by
  have HS := hide' (l4split_any a c xs w ha hcap hc2 ka)
  go_enter Tryd.func16, Tryd.ntmps16
  go_wp2_with fail
  refine HS.out.mono ?_
  rintro e w1 ⟨rfl, v1, v2, rfl, _⟩
  go_wp2
  go_ret
  exact ⟨rfl, rfl⟩

set_option maxHeartbeats 800000 in
theorem spec_AddrName_any (a : Option Addr) (c : Nat) (xs : List Int) (w : World) (ha : Seg w a xs) (hcap : xs.length ≤ c) (hc2 : c ≤ maxLen) (ka : a = none → c = 0) :
    Calls Tryd.prog 19 #[.slice a xs.length c] w fun e w' => ∃ v, e = .returned v ∧ Bts w' w.heap.size v (addrN xs) ∧ Below w.heap.size w w' := by
  have HS := hide' (l4split_any a c xs w ha hcap hc2 ka)
  by_cases hb : addrB xs = true
  · have hN : addrN xs = xs.take (cutI xs) := if_pos hb
    have hl8 := addrN_short xs
    have HN := hide' hN
    rw [hN] at hl8
    have hE := bts_empty w
    have hB1 : Below w.heap.size w (w.alloc (.cells #[] 5)) := (Below.refl _ _).alloc (Nat.le_refl _) _
    have hS1 := (ha.front (cutI xs) (cutI_le xs)).grow hB1
    have hk : (xs.take (cutI xs)).length = cutI xs := by have := cutI_le xs; simp; omega
    go_enter Tryd.func19, Tryd.ntmps19
    go_wp2_with fail
    refine HS.out.mono ?_
    rintro e w1 ⟨rfl, v1, v2, rfl, hv⟩
    obtain rfl := hv hb
    rw [hb]
    generalize xs.take (cutI xs) = ys at *
    generalize cutI xs = k at *
    clear hv hb
    go_wp2_with (at_builtin; refine wpList_append_seg rfl (.tmp 14) (.tmp 15) (by rfl) w.heap.size _ [] ys (by rfl) hE a k c hk.symm (by rfl) hS1 ka (by simp; omega) (by simp) ?_; intro v3 w3 hv3 hg3)
    go_ret
    exact ⟨_, rfl, by rw [HN.out]; exact hv3, hB1.grown hg3 (by simp) hE.own⟩
  · have hb' : addrB xs = false := by simpa using hb
    have HN : Hid (addrN xs = []) := if_neg hb
    go_enter Tryd.func19, Tryd.ntmps19
    go_wp2_with fail
    refine HS.out.mono ?_
    rintro e w1 ⟨rfl, v1, v2, rfl, hv⟩
    rw [hb']
    clear hv hb hb'
    go_wp2
    go_ret
    exact ⟨_, rfl, by rw [HN.out]; exact bts_nil _ _, Below.refl _ _⟩
end Go.Proofs.YthmljjebggljmaaDoor
