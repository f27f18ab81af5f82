/-
  ValGet of the program.
-/
import Derived.Test.YtkklhdeecamifaaMapO
import Derived.Test.YtkklhdeecamifaaLookR
namespace Go.Proofs.Ytkklhdeecamifaa
open Go.RowKit Go.Shelf
set_option linter.unusedVariables false
set_option linter.unusedSimpArgs false

/-- What ValGet leaves. -/
def GetEnd (d : Nat) (v : Vl (d + 1)) (key : List Int) (w : World) (e : Ending) (w' : World) : Prop :=
  Below w.heap.size w w' ∧ ((∃ (k : Nat) (hk : k < v.2.2.2.2.length), okB (d + 1) v = true ∧ v.1 = 5 ∧ findK v.2.2.2.1 key = k ∧ ∃ u0 u1 u2 u3 u4, e = .returned (.tuple #[.agg #[u0, u1, u2, u3, u4], .bool true]) ∧ ∃ B, VOwn w' d (u0, u1, u2, u3, u4) v.2.2.2.2[k] B ∧ ∀ b ∈ B, w.heap.size ≤ b ∧ b < w'.heap.size) ∨
    (¬ (okB (d + 1) v = true ∧ v.1 = 5 ∧ 0 ≤ findK v.2.2.2.1 key) ∧ e = .returned (.tuple #[.agg #[.int .i64 0, .int .i64 0, .slice none 0 0, .slice none 0 0, .slice none 0 0], .bool false])))

/-- What a map's part holds. -/
theorem mapPart_inv {R : Nat → Prop} {w : World} {d b : Nat} {v : Vl (d + 1)} (h : PSeg R w (d + 1) (.iface 53 (.agg #[.map (some b)])) v) (hk : v.1 = 5) :
    R b ∧ ∃ ps, w.ownsMap Try.prog 9 tokR b 64 (mapD v.2.2.2.1 ps v.2.2.2.2.length) ∧ ∀ i (h : i < v.2.2.2.2.length), PSeg R w d (ps.getD i .nilIface) (v.2.2.2.2[i]) := by
  rcases h with ⟨h, _⟩ | ⟨h, _⟩ | ⟨h, _⟩ | ⟨h, _⟩ | ⟨h, _⟩ | ⟨h, _⟩ | ⟨_, b', ps, e, hR, hm, hc⟩
  · omega
  · omega
  · omega
  · omega
  · omega
  · omega
  · simp at e
    subst e
    exact ⟨hR, ps, hm, hc⟩

/-- Found, or not. -/
theorem find_cases (ks : List (List Int)) (key : List Int) : (∃ k, k < ks.length ∧ ks.getD k [] = key ∧ (∀ i, i < k → ks.getD i [] ≠ key) ∧ findK ks key = k) ∨ ((∀ i, i < ks.length → ks.getD i [] ≠ key) ∧ findK ks key = -1) := by
  by_cases h : ∀ i, i < ks.length → ks.getD i [] ≠ key
  · exact .inr ⟨h, findK_no h⟩
  · have hex : ∃ i, i < ks.length ∧ ks.getD i [] = key := by
      simpa using h
    have hmin : ∀ n, (∃ i, i < n ∧ i < ks.length ∧ ks.getD i [] = key) → ∃ k, k < ks.length ∧ ks.getD k [] = key ∧ ∀ i, i < k → ks.getD i [] ≠ key := by
      intro n
      induction n with
      | zero => rintro ⟨i, h0, _⟩; omega
      | succ n ih =>
        rintro ⟨i, hi, hl, he⟩
        by_cases hlow : ∃ j, j < n ∧ j < ks.length ∧ ks.getD j [] = key
        · exact ih hlow
        · refine ⟨i, hl, he, fun j hj hje => hlow ⟨j, by omega, by omega, hje⟩⟩
    obtain ⟨i, hi, he⟩ := hex
    obtain ⟨k, h1, h2, h3⟩ := hmin (i + 1) ⟨i, by omega, hi, he⟩
    exact .inl ⟨k, h1, h2, h3, findK_at h1 h3 h2⟩
end Go.Proofs.Ytkklhdeecamifaa
