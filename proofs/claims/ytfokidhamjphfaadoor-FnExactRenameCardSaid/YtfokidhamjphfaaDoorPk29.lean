/-
  Texts that a law leans on, one behind the other; no statement is proved here.
-/
import Derived.Test.YtfokidhamjphfaaDoorPk18
import Derived.Test.YtfokidhamjphfaaDoorPk5
import Derived.Deep.Cut
import Derived.Deep.CutRange
import Derived.Deep.AppendLies
import Derived.Deep.RegionHeld3
import Derived.Test.YtfokidhamjphfaaDoorPk28
/-
  l2own of the specification: the walk.
-/
namespace Go.Proofs.YtfokidhamjphfaaDoor
open Go.RowKit
set_option linter.unusedVariables false
set_option linter.unusedSimpArgs false

/-- Behind the first statement: out's box, with a text of the call's own. -/
def SOut (w1 : World) (vk vn : Int) (vS : List Int) (s3 : Value) (wx : World) : Prop :=
  ∃ O a n c Bs, s3 = .pointer (some ⟨O, 0, none⟩) ∧ w1.heap.size ≤ O ∧ wx.heap[O]? = some (.cells #[.int .i64 vk, .int .i64 vn, .slice a n c, .slice none 0 0, .slice none 0 0] 26 (0, 0)) ∧ TOwn wx (.slice a n c) vS Bs ∧ (∀ b ∈ Bs, w1.heap.size ≤ b ∧ b < wx.heap.size ∧ b ≠ O) ∧ Bs.Nodup ∧ Below w1.heap.size w1 wx

theorem key_len {ks : List (List Int)} {i : Nat} (hi : i < ks.length) : (ks.getD i []).length ≤ szK ks := by
  have h1 := pre_succ List.length ks i hi
  have h2 := pre_le List.length ks (i + 1)
  have h3 : ks.getD i [] = ks[i] := by simp [List.getD_eq_getElem?_getD, hi]
  rw [h3]
  unfold szK
  omega

theorem bnd_of_sz : ∀ (d : Nat) (v : Vl d), szV d v ≤ 1048576 → bndV d v
  | 0, _, _ => trivial
  | d + 1, v, h => by
    have hz' : szV (d + 1) v = szT v.2.2.1 + szK v.2.2.2.1 + szL d v.2.2.2.2 := rfl
    have hT' : szT v.2.2.1 = v.2.2.1.length := rfl
    have hK2 : v.2.2.2.1.length ≤ szK v.2.2.2.1 := by unfold szK; omega
    have hL2 : v.2.2.2.2.length ≤ szL d v.2.2.2.2 := by unfold szL; omega
    exact ⟨by omega, by omega, fun i hi => by have := key_len hi; omega, by omega, fun i hi => bnd_of_sz d _ (by have := sz_elem hi; omega)⟩

end Go.Proofs.YtfokidhamjphfaaDoor
