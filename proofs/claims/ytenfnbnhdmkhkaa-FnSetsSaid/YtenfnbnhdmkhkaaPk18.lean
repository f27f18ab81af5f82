/-
  Texts that a law leans on, one behind the other; no statement is proved here.
-/
import Derived.Test.YtenfnbnhdmkhkaaPk17
import Derived.Test.YtenfnbnhdmkhkaaPk11
import Derived.Deep.RegionHeld3
/-
  l2cmp of the specification at every depth: the order of two values that may be.
-/
namespace Go.Proofs.Ytenfnbnhdmkhkaa
open Go.RowKit
set_option linter.unusedVariables false
set_option linter.unusedSimpArgs false

theorem seg_of_TS {R : Nat → Prop} {w : World} {a : Option Addr} {n c : Nat} {xs : List Int} (h : TSeg R w (.slice a n c) xs) : Seg w a xs ∧ n = xs.length := by
  obtain ⟨a', c', e, hs, _⟩ := h
  simp at e
  exact ⟨e.1 ▸ hs, e.2.1⟩

theorem LSeg.nth {R : Nat → Prop} {w : World} {d : Nat} {a : Option Addr} {n cap : Nat} {l : List (Vl d)} (h : LSeg R w d (.slice a n cap) l) {k : Nat} (hk : k < l.length) :
    ∃ b off c0 c1 c2 c3 c4, a = some ⟨b, off, none⟩ ∧ R b ∧ Five w b (off + k * 5) (c0, c1, c2, c3, c4) ∧ VSeg R w d (c0, c1, c2, c3, c4) (l[k]) := by
  obtain ⟨a', cap', g1, _, _, _, g5⟩ := h
  simp only [Value.slice.injEq] at g1
  obtain ⟨rfl, _, _⟩ := g1
  rcases g5 with e | ⟨b, off, hb, hR, hc⟩
  · rw [e] at hk; simp at hk
  · obtain ⟨⟨c0, c1, c2, c3, c4⟩, he, hv⟩ := hc k hk
    exact ⟨b, off, c0, c1, c2, c3, c4, hb, hR, he, hv⟩

theorem good_keys {d : Nat} {vk vn : Int} {vs : List Int} {vK : List (List Int)} {vL : List (Vl d)} {deep : Nat} (h : goodB (d + 1) (vk, vn, vs, vK, vL) deep = true) (h5 : vk = 5) : vK.length = vL.length := by
  have hs := ((good_succ _ _ _ _ _ _ _).1 h).2.1
  subst h5
  unfold shapeB at hs
  simp at hs
  exact hs.2.1

end Go.Proofs.Ytenfnbnhdmkhkaa
