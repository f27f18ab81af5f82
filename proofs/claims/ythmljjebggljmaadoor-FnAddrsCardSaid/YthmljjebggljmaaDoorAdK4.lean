/-
  l4key of the specification: a name with a key.
-/
import Derived.Test.YthmljjebggljmaaDoorAdKi
namespace Go.Proofs.YthmljjebggljmaaDoor
open Go.RowKit
set_option linter.unusedVariables false

set_option maxHeartbeats 800000 in
theorem l4key_any (a b : Option Addr) (c1 c2 : Nat) (xs ts : List Int) (w : World) (ha : Seg w a xs) (hb : Seg w b ts) (ka : a = none → c1 = 0) (kb : b = none → c2 = 0) (hl : xs.length ≤ 2097152) (hl2 : ts.length ≤ 2097152) :
    Calls Tryd.prog 41 #[.slice a xs.length c1, .slice b ts.length c2] w fun e w' => ∃ v, e = .returned v ∧ Bts w' w.heap.size v (xs ++ [91, 34] ++ ts ++ [34, 93]) ∧ Below w.heap.size w w' := by
  have hE := bts_empty w
  have hB1 : Below w.heap.size w (w.alloc (.cells #[] 5)) := (Below.refl _ _).alloc (Nat.le_refl _) _
  have hS1 := ha.grow hB1
  have hT1 := hb.grow hB1
  have hz1 := hB1.size
  generalize hn : xs.length = n at *
  have Hn : Hid (n = xs.length) := hn.symm
  clear hn
  generalize hm : ts.length = m at *
  have Hm : Hid (m = ts.length) := hm.symm
  clear hm
  go_enter Tryd.func41, Tryd.ntmps41
  go_wp2_with (at_builtin; first
    | (refine wpList_append_seg rfl (.tmp 5) (.tmp 6) (by rfl) w.heap.size _ [] xs (by rfl) hE a n c1 Hn.out (by rfl) hS1 ka (by simp; have := Hn.out; omega) (by simp) ?_; intro v2 w2 hv2 hg2; rw [List.nil_append] at hv2; have hB2 := hB1.grown hg2 (by simp) hE.own; have hT2 := hb.grow hB2; have hz2 := hB2.size; clear hE hB1 hS1 hT1 hg2)
    | (refine wpList_append_text rfl (.tmp 7) _ 9 (by rfl) Tryd.underlying9 w.heap.size v2 xs [91, 34] (by rfl) hv2 _ str_open byt_open (by rfl) (by simp; have := Hn.out; omega) hz2 ?_; intro v3 w3 hv3 hg3; have hB3 := hB2.grown hg3 hz2 hv2.own; have hT3 := hb.grow hB3; have hz3 := hB3.size; clear hv2 hB2 hT2 hg3)
    | (refine wpList_append_seg rfl (.tmp 8) (.tmp 9) (by rfl) w.heap.size v3 (xs ++ [91, 34]) ts (by rfl) hv3 b m c2 Hm.out (by rfl) hT3 kb (by simp; have := Hn.out; have := Hm.out; omega) hz3 ?_; intro v4 w4 hv4 hg4; have hB4 := hB3.grown hg4 hz3 hv3.own; have hz4 := hB4.size; clear hv3 hB3 hT3 hg4)
    | (refine wpList_append_text rfl (.tmp 10) _ 9 (by rfl) Tryd.underlying9 w.heap.size v4 (xs ++ [91, 34] ++ ts) [34, 93] (by rfl) hv4 _ str_shut byt_shut (by rfl) (by simp; have := Hn.out; have := Hm.out; omega) hz4 ?_; intro v5 w5 hv5 hg5; have hB5 := hB4.grown hg5 hz4 hv4.own; clear hv4 hB4 hg5))
  go_ret
  exact ⟨_, rfl, hv5, hB5⟩

end Go.Proofs.YthmljjebggljmaaDoor
