/-
  strings.Compare: the order of two texts.
-/
import Derived.Test.YtdelgidbacglbaaCmp0
namespace Go.Proofs.Ytdelgidbacglbaa
open Go.RowKit
set_option linter.unusedVariables false
set_option linter.unusedSimpArgs false

theorem run_cmpS (xs ys : List Int) (w : World) : (Extern.BytealgCompare.compare #[.string (strOf xs), .string (strOf ys)]).run Try.prog w = .ok (.int .i64 (bytesC xs ys)) w := Lib.run_compareString (strOf xs) (strOf ys) w

set_option maxHeartbeats 800000 in
set_option maxRecDepth 100000 in
theorem bytealg_CompareString_any (xs ys : List Int) (w : World) : Calls Try.prog 40 #[.string (strOf xs), .string (strOf ys)] w fun e w' => e = .returned (.int .i64 (bytesC xs ys)) ∧ w = w' := by
  go_enter Try.func40, Try.ntmps40
  go_wp2
  rw [run_callFunc_extern Try.func44 (by kernel_rfl) (by kernel_rfl) (by kernel_rfl) (e := Extern.BytealgCompare.compare) (by kernel_rfl), run_cmpS]
  simp only [Result.andThen]
  rw [Oper.upon_value]
  go_wp2
  go_ret
  exact ⟨rfl, rfl⟩

set_option maxHeartbeats 800000 in
theorem strings_Compare_any (xs ys : List Int) (w : World) : Calls Try.prog 27 #[.string (strOf xs), .string (strOf ys)] w fun e w' => e = .returned (.int .i64 (bytesC xs ys)) ∧ w = w' := by
  have H := hide' (bytealg_CompareString_any xs ys w)
  go_enter Try.func27, Try.ntmps27
  go_wp2_with fail
  refine H.out.mono ?_
  rintro e w1 ⟨rfl, e1⟩
  obtain rfl := e1
  go_wp2
  go_ret
  exact ⟨rfl, rfl⟩
end Go.Proofs.Ytdelgidbacglbaa
