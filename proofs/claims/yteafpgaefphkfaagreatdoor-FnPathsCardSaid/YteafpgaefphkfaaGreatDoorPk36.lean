/-
  Texts that a law leans on, one behind the other; no statement is proved here.
-/
import Derived.Test.YteafpgaefphkfaaGreatDoorPk32
import Derived.Test.YteafpgaefphkfaaGreatDoorPk35
import Derived.Test.YteafpgaefphkfaaGreatDoorPk31
import Derived.Test.YteafpgaefphkfaaGreatDoorPk28
import Derived.Test.YteafpgaefphkfaaGreatDoorPk3
import Derived.Test.YteafpgaefphkfaaGreatDoorPk14
/-
  valueOf of the program at whatever part: a value of the call's own.
-/
namespace Go.Proofs.YteafpgaefphkfaaGreatDoor
open Go.RowKit Go.Shelf
set_option linter.unusedVariables false
set_option linter.unusedSimpArgs false

theorem tNil (w : World) : TOwn w (.slice none 0 0) [] [] := ⟨⟨by simp, rfl, .inl ⟨rfl, rfl⟩⟩, .inl ⟨rfl, rfl⟩⟩
theorem kNil (w : World) : KOwn w (.slice none 0 0) [] [] := .inl ⟨rfl, rfl, rfl⟩
theorem lNil (w : World) (d : Nat) : LOwn w d (.slice none 0 0) [] [] := .inl ⟨rfl, rfl, rfl⟩

/-- What the rules of one part say of its fields. -/
theorem shape_zero {vk vn : Int} {vs : List Int} {vK : List (List Int)} {n : Nat} (h : shapeB vk vn vs vK n = true) :
    (vk = 1 ∨ vk = 2 ∨ vn = 0) ∧ (vk = 3 ∨ vs = []) ∧ (vk = 5 ∨ vK = []) ∧ (vk = 4 ∨ vk = 5 ∨ n = 0) := by
  simp only [shapeB, bareB, Bool.and_eq_true, Bool.or_eq_true, decide_eq_true_eq, List.length_eq_zero_iff] at h
  obtain ⟨⟨⟨⟨h1, h2⟩, h3⟩, h4⟩, _⟩ := h
  exact ⟨by rcases h1 with (h1 | h1) | h1 <;> simp [h1], h2, h3, by rcases h4 with (h4 | h4) | h4 <;> simp [h4]⟩

theorem shape_text {vn : Int} {vs : List Int} {vK : List (List Int)} {n : Nat} (h : shapeB 3 vn vs vK n = true) : textB vs = true := by
  simp [shapeB] at h
  exact h.2

theorem textB_byt {xs : List Int} (h : textB xs = true) : (∀ x ∈ xs, Byt x) ∧ xs.length ≤ 20 := by
  simp only [textB, Bool.and_eq_true, decide_eq_true_eq, List.all_eq_true] at h
  refine ⟨fun x hx => ?_, h.1⟩
  have := h.2 x hx
  simp only [chrB, Bool.and_eq_true, decide_eq_true_eq] at this
  unfold Byt
  omega

theorem shape_mapB {vn : Int} {vs : List Int} {vK : List (List Int)} {n : Nat} (h : shapeB 5 vn vs vK n = true) : vK.length = n ∧ ascB vK = true := by
  simp [shapeB] at h
  exact h.2

theorem step_name {ks : List (List Int)} {i : Nat} (h : stepB ks i = true) : (∀ x ∈ ks.getD i [], Byt x) ∧ (ks.getD i []).length ≤ 1000 := by
  simp only [stepB, Bool.and_eq_true] at h
  have h1 := h.1
  simp only [nameB, Bool.and_eq_true, decide_eq_true_eq, List.all_eq_true] at h1
  refine ⟨fun x hx => ?_, by omega⟩
  have := h1.2 x hx
  simp only [letB, Bool.and_eq_true, decide_eq_true_eq] at this
  unfold Byt
  omega

theorem parts_kid {d : Nat} {vk vn : Int} {vs : List Int} {vK : List (List Int)} {vL : List (Vl d)} (h : partsV (d + 1) (vk, vn, vs, vK, vL) ≤ 40) : ∀ i (hi : i < vL.length), partsV d vL[i] ≤ 40 := by
  intro i hi
  rw [parts_succ] at h
  have h1 := pre_succ (partsV d) vL i hi
  have h2 := pre_le (partsV d) vL (i + 1)
  have h3 := pre_all (partsV d) vL
  omega

theorem parts_many {d : Nat} {vk vn : Int} {vs : List Int} {vK : List (List Int)} {vL : List (Vl (d + 1))} (h : partsV (d + 1 + 1) (vk, vn, vs, vK, vL) ≤ 40) : vL.length ≤ 40 := by
  have hk : ∀ k, k ≤ vL.length → k ≤ pre (partsV (d + 1)) vL k := by
    intro k
    induction k with
    | zero => intro _; exact Nat.zero_le _
    | succ k ih =>
      intro hk
      have h1 := pre_succ (partsV (d + 1)) vL k (by omega)
      have h2 := parts_pos d vL[k]
      have h3 := ih (by omega)
      omega
  rw [parts_succ] at h
  have := hk vL.length (Nat.le_refl _)
  omega

theorem valueOf_succ (d : Nat) (ih : ValAt d) : ValAt (d + 1) := by
  intro N p v deep w hp hN hg hn
  obtain ⟨vk, vn, vs, vK, vL⟩ := v
  obtain ⟨_, hsh, hgk⟩ := (good_succ _ _ _ _ _ _ _).1 hg
  obtain ⟨z1, z2, z3, z4⟩ := shape_zero hsh
  have hkid := parts_kid hn
  have hlen : vL.length ≤ 40 := by
    cases d with
    | zero =>
      cases vL with
      | nil => simp
      | cons x r => have := hgk 0 (by simp); exact absurd this (by simp [goodB])
    | succ d => exact parts_many hn
  rcases hp with ⟨hk, rfl⟩ | ⟨hk, rfl⟩ | ⟨hk, rfl⟩ | ⟨hk, rfl⟩ | ⟨hk, rfl⟩ | ⟨hk, a, cap, rfl, hc⟩ | ⟨hk, b, ps, rfl, hR, hm, hc⟩ <;> simp only at hk <;> subst hk
  · have e1 : vn = 0 := by omega
    have e2 : vs = [] := by simpa using z2
    have e3 : vK = [] := by simpa using z3
    have e4 : vL = [] := by simpa using z4
    subst e1 e2 e3 e4
    refine (valueOf_nullPart w).mono ?_
    rintro e w' ⟨rfl, hb⟩
    exact ⟨_, _, _, _, _, rfl, [], (VOwn_succ _ _ _ _ _).2 ⟨rfl, rfl, [], [], [], tNil _, kNil _, lNil _ _, rfl, by simp⟩, by simp, hb⟩
  · have e1 : vn = 0 := by omega
    have e2 : vs = [] := by simpa using z2
    have e3 : vK = [] := by simpa using z3
    have e4 : vL = [] := by simpa using z4
    subst e1 e2 e3 e4
    refine (valueOf_unknownPart w).mono ?_
    rintro e w' ⟨rfl, hb⟩
    exact ⟨_, _, _, _, _, rfl, [], (VOwn_succ _ _ _ _ _).2 ⟨rfl, rfl, [], [], [], tNil _, kNil _, lNil _ _, rfl, by simp⟩, by simp, hb⟩
  · have e2 : vs = [] := by simpa using z2
    have e3 : vK = [] := by simpa using z3
    have e4 : vL = [] := by simpa using z4
    subst e2 e3 e4
    refine (valueOf_boolPart vn w).mono ?_
    rintro e w' ⟨rfl, hb⟩
    exact ⟨_, _, _, _, _, rfl, [], (VOwn_succ _ _ _ _ _).2 ⟨rfl, rfl, [], [], [], tNil _, kNil _, lNil _ _, rfl, by simp⟩, by simp, hb⟩
  · have e2 : vs = [] := by simpa using z2
    have e3 : vK = [] := by simpa using z3
    have e4 : vL = [] := by simpa using z4
    subst e2 e3 e4
    refine (valueOf_intPart vn w).mono ?_
    rintro e w' ⟨rfl, hb⟩
    exact ⟨_, _, _, _, _, rfl, [], (VOwn_succ _ _ _ _ _).2 ⟨rfl, rfl, [], [], [], tNil _, kNil _, lNil _ _, rfl, by simp⟩, by simp, hb⟩
  · have e1 : vn = 0 := by omega
    have e3 : vK = [] := by simpa using z3
    have e4 : vL = [] := by simpa using z4
    subst e1 e3 e4
    obtain ⟨hx, hl⟩ := textB_byt (shape_text hsh)
    refine (valueOf_textPart vs hx (by omega) w).mono ?_
    rintro e w' ⟨u, B, rfl, hT, hB, hb⟩
    have hnd : B.Nodup := by
      rcases hT.2 with ⟨_, rfl⟩ | ⟨g, cap, _, rfl⟩ <;> simp
    exact ⟨_, _, _, _, _, rfl, B, (VOwn_succ _ _ _ _ _).2 ⟨rfl, rfl, B, [], [], hT, kNil _, lNil _ _, by simp, hnd⟩, hB, hb⟩
  · have e1 : vn = 0 := by omega
    have e2 : vs = [] := by simpa using z2
    have e3 : vK = [] := by simpa using z3
    subst e1 e2 e3
    refine (valueOf_listPart d ih N a cap vL (deep + 1) w ⟨a, cap, rfl, hc⟩ hN hlen (fun i hi => ⟨hgk i hi, hkid i hi⟩)).mono ?_
    rintro e w' ⟨u, rfl, B, hL, hB, hb⟩
    exact ⟨_, _, _, _, _, rfl, B, (VOwn_succ _ _ _ _ _).2 ⟨rfl, rfl, [], [], B, tNil _, kNil _, hL, by simp, hL.nodup⟩, hB, hb⟩
  · have e1 : vn = 0 := by omega
    have e2 : vs = [] := by simpa using z2
    subst e1 e2
    obtain ⟨hkl, hasc⟩ := shape_mapB hsh
    have hst : ∀ i, i < vL.length → stepB vK i = true := by
      intro i hi
      rw [ascB, List.all_eq_true] at hasc
      exact hasc i (List.mem_range.2 (by omega))
    refine (valueOf_mapPart d ih N b ps vL vK w hR (hm.mono (n' := 128) (by omega)) hkl (step_up hst) (fun i hi => ⟨(step_name (hst i hi)).1, by have := (step_name (hst i hi)).2; omega⟩) hc hN (by omega) (fun i hi => ⟨_, hgk i hi, hkid i hi⟩)).mono ?_
    rintro e w' ⟨uK, uL, rfl, Bk, Bl, hK, hL, hB, hnd, hb⟩
    exact ⟨_, _, _, _, _, rfl, Bk ++ Bl, (VOwn_succ _ _ _ _ _).2 ⟨rfl, rfl, [], Bk, Bl, tNil _, hK, hL, by simp, hnd⟩, hB, hb⟩

theorem valueOf_any (d : Nat) : ValAt d := by
  induction d with
  | zero => intro N p v deep w hp; exact hp.elim
  | succ d ih => exact valueOf_succ d ih
end Go.Proofs.YteafpgaefphkfaaGreatDoor
/-
  ValGet of the program.
-/
namespace Go.Proofs.YteafpgaefphkfaaGreatDoor
open Go.RowKit Go.Shelf
set_option linter.unusedVariables false
set_option linter.unusedSimpArgs false

/-- Found, or not. -/
theorem find_cases (ks : List (List Int)) (key : List Int) : (∃ k, k < ks.length ∧ ks.getD k [] = key ∧ (∀ i, i < k → ks.getD i [] ≠ key) ∧ findK ks key = k) ∨ ((∀ i, i < ks.length → ks.getD i [] ≠ key) ∧ findK ks key = -1) := by
  by_cases h : ∀ i, i < ks.length → ks.getD i [] ≠ key
  · exact .inr ⟨h, findK_no h⟩
  · have hex : ∃ i, i < ks.length ∧ ks.getD i [] = key := by
      simpa using h
    have hmin : ∀ n, (∃ i, i < n ∧ i < ks.length ∧ ks.getD i [] = key) → ∃ k, k < ks.length ∧ ks.getD k [] = key ∧ ∀ i, i < k → ks.getD i [] ≠ key := by
      intro n
      induction n with
      | zero => rintro ⟨i, h0, _⟩; omega
      | succ n ih =>
        rintro ⟨i, hi, hl, he⟩
        by_cases hlow : ∃ j, j < n ∧ j < ks.length ∧ ks.getD j [] = key
        · exact ih hlow
        · refine ⟨i, hl, he, fun j hj hje => hlow ⟨j, by omega, by omega, hje⟩⟩
    obtain ⟨i, hi, he⟩ := hex
    obtain ⟨k, h1, h2, h3⟩ := hmin (i + 1) ⟨i, by omega, hi, he⟩
    exact .inl ⟨k, h1, h2, h3, findK_at h1 h3 h2⟩
end Go.Proofs.YteafpgaefphkfaaGreatDoor
/-
  The datum of a map of parts whose keys ascend, when one key is taken out of it, and the value that is left; no statement is proved here.
-/
namespace Go.Proofs.YteafpgaefphkfaaGreatDoor
open Go.RowKit
set_option linter.unusedVariables false
set_option linter.unusedSimpArgs false

end Go.Proofs.YteafpgaefphkfaaGreatDoor
/-
  A key put into a map whose keys ascend: where it comes, and the datum of a map of parts behind it; no statement is proved here.
-/
namespace Go.Proofs.YteafpgaefphkfaaGreatDoor
open Go.RowKit
set_option linter.unusedVariables false
set_option linter.unusedSimpArgs false

end Go.Proofs.YteafpgaefphkfaaGreatDoor
/-
  What ValSet answers, and how great it can be; no statement is proved here.
-/
namespace Go.Proofs.YteafpgaefphkfaaGreatDoor
open Go.RowKit
set_option linter.unusedVariables false
set_option linter.unusedSimpArgs false

end Go.Proofs.YteafpgaefphkfaaGreatDoor
/-
  Parts of a value that may be may be themselves: plain mathematics.
-/
namespace Go.Proofs.YteafpgaefphkfaaGreatDoor
open Go.RowKit
set_option linter.unusedVariables false
set_option linter.unusedSimpArgs false

theorem parts_kid_le {d : Nat} : ∀ (l : List (Vl d)) (i : Nat) (hi : i < l.length), partsV d l[i] ≤ (l.map (partsV d)).sum
  | [], i, hi => absurd hi (by simp)
  | x :: l, 0, _ => by simp
  | x :: l, i + 1, hi => by
    have := parts_kid_le l i (by simpa using hi)
    simp
    omega

/-- A deeper limit is kept at a higher place. -/
theorem good_up : ∀ (d : Nat) (v : Vl d) (a b : Nat), b ≤ a → goodB d v a = true → goodB d v b = true
  | 0, _, _, _, _, h => by simp [goodB] at h
  | d + 1, (vk, vn, vs, vK, vL), a, b, hab, h => by
    obtain ⟨h1, h2, h3⟩ := (good_succ _ _ _ _ _ _ _).1 h
    exact (good_succ _ _ _ _ _ _ _).2 ⟨by omega, h2, fun j hj => good_up d _ (a + 1) (b + 1) (by omega) (h3 j hj)⟩

theorem ok_kid {d : Nat} {v : Vl (d + 1)} (h : okB (d + 1) v = true) (i : Nat) (hi : i < v.2.2.2.2.length) : okB d v.2.2.2.2[i] = true := by
  obtain ⟨vk, vn, vs, vK, vL⟩ := v
  simp only [okB, Bool.and_eq_true, decide_eq_true_eq] at h ⊢
  obtain ⟨_, _, h3⟩ := (good_succ _ _ _ _ _ _ _).1 h.1
  refine ⟨good_up d _ 2 1 (by omega) (h3 i hi), ?_⟩
  have h4 := h.2
  have h5 : partsV (d + 1) (vk, vn, vs, vK, vL) = 1 + (vL.map (partsV d)).sum := rfl
  have := parts_kid_le vL i hi
  rw [h5] at h4
  show partsV d vL[i] ≤ 40
  omega
end Go.Proofs.YteafpgaefphkfaaGreatDoor
