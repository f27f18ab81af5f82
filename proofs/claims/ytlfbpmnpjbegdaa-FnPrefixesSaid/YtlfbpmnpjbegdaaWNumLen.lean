/-
  NumLen of the program and of the specification; FnExactNumLen answers true at every number.
-/
import Derived.Test.YtlfbpmnpjbegdaaImplPut
namespace Go.Proofs.Ytlfbpmnpjbegdaa
open Go.RowKit
set_option linter.unusedVariables false

/-- How many bytes PutNum makes of n. -/
def numLen (n : Int) : Nat := (putNum [] n).length

theorem numLen_no (n : Int) (h : n < 0 ∨ 2147483647 < n) : numLen n = 0 := by rw [numLen, putNum_no _ _ h]; rfl
theorem numLen_yes (m : Nat) (h : m ≤ 2147483647) : numLen m = (digs m).length := by
  rw [numLen, putNum_yes _ _ (by omega) (by omega)]
  simp

set_option maxHeartbeats 800000 in
theorem spec_NumLen_any (n : Int) (w : World) :
    Calls Try.prog 34 #[.int .i64 n] w fun e w' => e = .returned (.int .i64 (numLen n)) ∧ Below w.heap.size w w' := by
  go_enter Try.func34, Try.ntmps34
  go_wp2_with fail
  refine (spec_PutNum_any none 0 [] n _ ⟨by simp, .inl rfl⟩ (fun _ => rfl) (by simp)).mono ?_
  rintro e w1 ⟨v, rfl, hv, b1⟩
  obtain ⟨a, cap, rfl, _, _, _, _, _⟩ := hv.shape
  clear hv
  go_wp2
  go_ret
  exact ⟨rfl, b1⟩

set_option maxHeartbeats 800000 in
theorem impl_NumLen_any (n : Int) (w : World) :
    Calls Try.prog 25 #[.int .i64 n] w fun e w' => e = .returned (.int .i64 (numLen n)) ∧ Below w.heap.size w w' := by
  by_cases h : n < 0 ∨ 2147483647 < n
  · have Hn : Hid (numLen n = 0) := numLen_no n h
    go_enter Try.func25, Try.ntmps25
    go_wp2_with fail
    refine (numDigits_no n _ h).mono ?_
    rintro e w1 ⟨rfl, b1⟩
    go_wp2
    go_ret
    exact ⟨ret_i64 (by rw [Hn.out]; rfl), b1.alloc b1.size _⟩
  · obtain ⟨m, rfl⟩ := Int.eq_ofNat_of_zero_le (show 0 ≤ n by omega)
    have hm : m ≤ 2147483647 := by omega
    have Hn : Hid (numLen m = (digs m).length) := numLen_yes m hm
    clear h
    go_enter Try.func25, Try.ntmps25
    go_wp2_with fail
    refine (numDigits_yes m _ hm).mono ?_
    rintro e w1 ⟨c0, c1, c2, c3, c4, rfl, hcs, b1⟩
    clear hcs
    go_wp2
    go_ret
    exact ⟨ret_i64 (by rw [Hn.out]), b1.alloc b1.size _⟩

set_option maxHeartbeats 800000 in
theorem walk_FnExactNumLen (n : Int) (w : World) :
    Calls Try.prog 9 #[.int .i64 n] w fun e w' => e = .returned (.bool true) ∧ Below w.heap.size w w' := by
  go_enter Try.func9, Try.ntmps9
  go_wp2_with fail
  refine (spec_NumLen_any n _).mono ?_
  rintro e w1 ⟨rfl, b1⟩
  go_wp2_with fail
  refine (impl_NumLen_any n _).mono ?_
  rintro e w2 ⟨rfl, b2⟩
  have B := Below.on b1 b2
  go_wp2
  go_ret
  exact ⟨rfl, B⟩

end Go.Proofs.Ytlfbpmnpjbegdaa
