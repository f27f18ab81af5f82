/-
  cmpParts of the program at every depth.
-/
import Derived.Test.YtdelgidbacglbaaCmpR
namespace Go.Proofs.Ytdelgidbacglbaa
open Go.RowKit
set_option linter.unusedVariables false
set_option linter.unusedSimpArgs false

theorem cmpK_nil {d : Nat} (m : Bool) (aK bK : List (List Int)) {aL bL : List (Vl d)} (h : aL.length = 0) (h' : bL.length = 0) : cmpK m aK bK aL bL 0 = 0 := cmpK_end3 (by omega) (by omega)

theorem shape_none {vk vn : Int} {vs : List Int} {vK : List (List Int)} {n : Nat} (h : shapeB vk vn vs vK n = true) (h4 : vk ≠ 4) (h5 : vk ≠ 5) : n = 0 := by
  unfold shapeB bareB at h
  simp [h4, h5] at h
  exact h.1.2
theorem shape_num {vk vn : Int} {vs : List Int} {vK : List (List Int)} {n : Nat} (h : shapeB vk vn vs vK n = true) (h1 : vk ≠ 1) (h2 : vk ≠ 2) : vn = 0 := by
  unfold shapeB bareB at h
  simp [h1, h2] at h
  exact h.1.1.1.1
theorem shape_asc {vn : Int} {vs : List Int} {vK : List (List Int)} {n : Nat} (h : shapeB 5 vn vs vK n = true) : vK.length = n ∧ ascB vK = true := by
  unfold shapeB at h
  simp at h
  exact h.2
theorem kid_le {d : Nat} {vk vn : Int} {vs : List Int} {vK : List (List Int)} {vL : List (Vl d)} (h : partsV (d + 1) (vk, vn, vs, vK, vL) ≤ 40) : vL.length ≤ 40 ∧ ∀ k (hk : k < vL.length), partsV d vL[k] ≤ 40 := by
  rw [parts_succ] at h
  refine ⟨by have := pre_ge d vL vL.length (Nat.le_refl _); omega, fun k hk => ?_⟩
  have h1 := pre_succ (partsV d) vL k hk
  have h2 := pre_le (partsV d) vL (k + 1)
  have h3 := pre_all (partsV d) vL
  omega

theorem as_ans {F : Nat} {args : Array Value} {w : World} {x y : Int} (e : y = x) (h : Calls Try.prog F args w fun e w' => e = .returned (.int .i64 x) ∧ Below w.heap.size w w') : Calls Try.prog F args w fun e w' => e = .returned (.int .i64 y) ∧ Below w.heap.size w w' := e ▸ h

theorem numC_self_of {a b : Int} (h : a = b) : numC a b = 0 := by rw [h]; exact numC_eq b

theorem cmpParts_succ (d : Nat) (ih : CmpAt d) : CmpAt (d + 1) := by
  intro N p q a b deep deep' w hp hq hN ga gb na nb
  obtain ⟨pt, px, rfl⟩ := hp.shape
  obtain ⟨qt, qx, rfl⟩ := hq.shape
  have k1 := kind_of hp
  have k2 := kind_of hq
  by_cases hk : a.1 = b.1
  · obtain ⟨ak, an, aS, aK, aL⟩ := a
    obtain ⟨bk, bn, bS, bK, bL⟩ := b
    simp only at hk
    subst hk
    have sa := ((good_succ _ _ _ _ _ _ _).1 ga).2.1
    have sb := ((good_succ _ _ _ _ _ _ _).1 gb).2.1
    have pa := ((good_succ _ _ _ _ _ _ _).1 ga).2.2
    have pb := ((good_succ _ _ _ _ _ _ _).1 gb).2.2
    obtain ⟨la, ka⟩ := kid_le na
    obtain ⟨lb, kb⟩ := kid_le nb
    have leafs : ak ≠ 3 → ak ≠ 4 → ak ≠ 5 → cmpV (d + 1) (ak, an, aS, aK, aL) (ak, bn, bS, bK, bL) = numC an bn := by
      intro h3 h4 h5
      by_cases hn : an = bn
      · exact ((cmpV_parts (d := d) (a := (ak, an, aS, aK, aL)) (b := (ak, bn, bS, bK, bL)) rfl h3 hn).trans (cmpK_nil _ _ _ (shape_none sa h4 h5) (shape_none sb h4 h5))).trans (numC_self_of hn).symm
      · exact cmpV_num (d := d) (a := (ak, an, aS, aK, aL)) (b := (ak, bn, bS, bK, bL)) rfl h3 hn
    rcases hp with ⟨e, ep⟩ | ⟨e, ep⟩ | ⟨e, ep⟩ | ⟨e, ep⟩ | ⟨e, ep⟩ | ⟨e, a1, c1, ep, hc1⟩ | ⟨e, b1, ps, ep, hR1, hm1, hc1⟩ <;> simp only at e <;> subst e <;> simp only [Value.iface.injEq] at ep <;> obtain ⟨rfl, rfl⟩ := ep
    · rcases hq with ⟨e, eq⟩ | ⟨e, eq⟩ | ⟨e, eq⟩ | ⟨e, eq⟩ | ⟨e, eq⟩ | ⟨e, a2, c2, eq, hc2⟩ | ⟨e, b2, qs, eq, hR2, hm2, hc2⟩ <;> simp at e
      simp only [Value.iface.injEq] at eq
      obtain ⟨rfl, rfl⟩ := eq
      exact as_ans ((leafs (by omega) (by omega) (by omega)).trans (numC_self_of (by rw [shape_num sa (by omega) (by omega), shape_num sb (by omega) (by omega)]))) (cmp_nullPart w)
    · rcases hq with ⟨e, eq⟩ | ⟨e, eq⟩ | ⟨e, eq⟩ | ⟨e, eq⟩ | ⟨e, eq⟩ | ⟨e, a2, c2, eq, hc2⟩ | ⟨e, b2, qs, eq, hR2, hm2, hc2⟩ <;> simp at e
      simp only [Value.iface.injEq] at eq
      obtain ⟨rfl, rfl⟩ := eq
      exact as_ans ((leafs (by omega) (by omega) (by omega)).trans (numC_self_of (by rw [shape_num sa (by omega) (by omega), shape_num sb (by omega) (by omega)]))) (cmp_unknownPart w)
    · rcases hq with ⟨e, eq⟩ | ⟨e, eq⟩ | ⟨e, eq⟩ | ⟨e, eq⟩ | ⟨e, eq⟩ | ⟨e, a2, c2, eq, hc2⟩ | ⟨e, b2, qs, eq, hR2, hm2, hc2⟩ <;> simp at e
      simp only [Value.iface.injEq] at eq
      obtain ⟨rfl, rfl⟩ := eq
      exact as_ans (leafs (by omega) (by omega) (by omega)) (cmp_boolPart an bn w)
    · rcases hq with ⟨e, eq⟩ | ⟨e, eq⟩ | ⟨e, eq⟩ | ⟨e, eq⟩ | ⟨e, eq⟩ | ⟨e, a2, c2, eq, hc2⟩ | ⟨e, b2, qs, eq, hR2, hm2, hc2⟩ <;> simp at e
      simp only [Value.iface.injEq] at eq
      obtain ⟨rfl, rfl⟩ := eq
      exact as_ans (leafs (by omega) (by omega) (by omega)) (cmp_intPart an bn w)
    · rcases hq with ⟨e, eq⟩ | ⟨e, eq⟩ | ⟨e, eq⟩ | ⟨e, eq⟩ | ⟨e, eq⟩ | ⟨e, a2, c2, eq, hc2⟩ | ⟨e, b2, qs, eq, hR2, hm2, hc2⟩ <;> simp at e
      simp only [Value.iface.injEq] at eq
      obtain ⟨rfl, rfl⟩ := eq
      exact as_ans (cmpV_text (d := d) (a := (3, an, aS, aK, aL)) (b := (3, bn, bS, bK, bL)) rfl rfl) (cmp_textPart aS bS w)
    · rcases hq with ⟨e, eq⟩ | ⟨e, eq⟩ | ⟨e, eq⟩ | ⟨e, eq⟩ | ⟨e, eq⟩ | ⟨e, a2, c2, eq, hc2⟩ | ⟨e, b2, qs, eq, hR2, hm2, hc2⟩ <;> simp at e
      simp only [Value.iface.injEq] at eq
      obtain ⟨rfl, rfl⟩ := eq
      have hn : an = bn := by rw [shape_num sa (by omega) (by omega), shape_num sb (by omega) (by omega)]
      refine as_ans (cmpV_parts (d := d) (a := (4, an, aS, aK, aL)) (b := (4, bn, bS, bK, bL)) rfl (by simp) hn) ?_
      exact cmp_listPart d ih N a1 a2 c1 c2 aL bL aK bK (deep + 1) (deep' + 1) w ⟨a1, c1, rfl, hc1⟩ ⟨a2, c2, rfl, hc2⟩ hN (fun k h => ⟨pa k h, ka k h⟩) (fun k h => ⟨pb k h, kb k h⟩) la lb
    · rcases hq with ⟨e, eq⟩ | ⟨e, eq⟩ | ⟨e, eq⟩ | ⟨e, eq⟩ | ⟨e, eq⟩ | ⟨e, a2, c2, eq, hc2⟩ | ⟨e, b2, qs, eq, hR2, hm2, hc2⟩ <;> simp at e
      simp only [Value.iface.injEq] at eq
      obtain ⟨rfl, rfl⟩ := eq
      have hn : an = bn := by rw [shape_num sa (by omega) (by omega), shape_num sb (by omega) (by omega)]
      refine as_ans (cmpV_parts (d := d) (a := (5, an, aS, aK, aL)) (b := (5, bn, bS, bK, bL)) rfl (by simp) hn) ?_
      obtain ⟨e1, as1⟩ := shape_asc sa
      obtain ⟨e2, as2⟩ := shape_asc sb
      exact cmp_mapPart d ih N b1 b2 aL bL aK bK ps qs (deep + 1) (deep' + 1) w hR1 hR2 hm1 hm2 (fun i hi => ascB_at as1 (by omega)) (fun i hi => ascB_at as2 (by omega)) hN hc1 hc2 (fun k h => ⟨pa k h, ka k h⟩) (fun k h => ⟨pb k h, kb k h⟩) la lb
  · exact as_ans (cmpV_kind hk) (cmp_kinds k1 k2 hk w)

theorem cmpParts_any (d : Nat) : CmpAt d := by
  induction d with
  | zero => intro N p q a b deep deep' w hv; exact hv.elim
  | succ d ih => exact cmpParts_succ d ih
end Go.Proofs.Ytdelgidbacglbaa
