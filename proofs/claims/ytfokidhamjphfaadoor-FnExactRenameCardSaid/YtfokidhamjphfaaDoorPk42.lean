/-
  Texts that a law leans on, one behind the other; no statement is proved here.
-/
import Derived.Test.YtfokidhamjphfaaDoorPk38
import Derived.Test.YtfokidhamjphfaaDoorPk39
import Derived.Test.YtfokidhamjphfaaDoorPk41
/-
  l6expr and ExprOk of the specification, at every expression.
-/
namespace Go.Proofs.YtfokidhamjphfaaDoor
open Go.RowKit
set_option linter.unusedVariables false
set_option linter.unusedSimpArgs false

theorem okE_leaf {d : Nat} {vk vn : Int} {vs : List Int} {deep : Nat} {left : Int} (h1 : deep ≤ 10) (h2 : shpB vk vn vs [] 0 = true) (h4 : 1 ≤ left) : okE (d + 1) (vk, vn, vs, [], []) deep left = left - 1 := by
  have := okE_all (d := d) (vL := []) (deep := deep) (left := left) h1 (by simpa using h2) (by intro j h; simp at h) (by simp [pre]; omega)
  simpa [pre] using this

theorem arI_bound (k : Int) : -1 ≤ arI k ∧ arI k ≤ 3 := by
  unfold arI
  split
  · omega
  split
  · omega
  split
  · omega
  split <;> omega

set_option maxHeartbeats 1600000 in
set_option maxRecDepth 100000 in
theorem l6expr_out (k n : Int) (c2 c3 c4 : Value) (deep : Nat) (left : Int) (w : World) (h0 : 0 ≤ left) (h2 : left ≤ 150) (h : left < 1 ∨ 10 < deep ∨ k < 0 ∨ 23 < k) (hd : deep ≤ 11) :
    Calls Tryd.prog 28 #[.agg #[.int .i64 k, .int .i64 n, c2, c3, c4], .int .i64 deep, .int .i64 left] w fun e w' => e = .returned (.int .i64 (-1)) ∧ Below w.heap.size w w' := by
  have b0 : ∀ o : Obj, Below w.heap.size w (w.alloc o) := fun o => (Below.refl _ _).alloc (Nat.le_refl _) o
  have Hb := hide' b0
  clear b0
  by_cases q1 : left - 1 < 0
  · go_enter Tryd.func28, Tryd.ntmps28
    go_wp2
    go_ret
    exact ⟨rfl, Hb.out _⟩
  by_cases q2 : (10 : Int) < (deep : Int)
  · go_enter Tryd.func28, Tryd.ntmps28
    go_wp2
    go_ret
    exact ⟨rfl, Hb.out _⟩
  by_cases q3 : k < 0
  · go_enter Tryd.func28, Tryd.ntmps28
    go_wp2
    go_ret
    exact ⟨rfl, Hb.out _⟩
  have q4 : (23 : Int) < k := by omega
  go_enter Tryd.func28, Tryd.ntmps28
  go_wp2
  go_ret
  exact ⟨rfl, Hb.out _⟩

theorem shp_out {vk vn : Int} {vs : List Int} {vK : List (List Int)} {nL : Nat} (h : vk < 0 ∨ 23 < vk) : shpB vk vn vs vK nL = false := by
  rcases h with h | h
  · have h1 : ¬ (0 : Int) ≤ vk := by omega
    simp [shpB, h1]
  · have h1 : ¬ vk ≤ 23 := by omega
    simp [shpB, h1]

/-- A part by itself, of what is asked ahead of its kids and of its keys' order. -/
theorem shp_hd (vk vn : Int) (k0 : 0 ≤ vk) (k23 : vk ≤ 23) (vs : List Int) (vK : List (List Int)) (nL : Nat) : shpB vk vn vs vK nL = (hdR (decide (vk = 5)) (arI vk) (mostI vk) vn vK.length nL (saysB (saysI vk) vs) && (!decide (vk = 5) || ascB vK)) := by
  by_cases h : vk = 5
  · subst h
    simp [shpB, hdR, keysB, kidsB]
    cases decide (vK.length = nL) <;> cases ascB vK <;> cases decide (0 ≤ vn) <;> cases decide (vn ≤ mostI 5) <;> simp
  · simp [shpB, hdR, keysB, kidsB, h, k0, k23]

theorem hdR_true {kb : Bool} {q m n : Int} {l3 l4 : Nat} {sb : Bool} (h : hdR kb q m n l3 l4 sb = true) : (if kb then decide (l3 = l4) else decide (l3 = 0)) = true ∧ (q = -1 ∨ q = l4) ∧ 0 ≤ n ∧ n ≤ m ∧ sb = true := by
  unfold hdR at h
  simp only [Bool.and_eq_true, Bool.or_eq_true, decide_eq_true_eq] at h
  obtain ⟨⟨⟨⟨a, b⟩, c⟩, d⟩, e⟩ := h
  exact ⟨a, b, c, d, e⟩

set_option maxHeartbeats 1600000 in
theorem l6expr_succ (d : Nat) (ih : E6At d) : E6At (d + 1) := by
  intro N c v deep left w hv hN hd h0 h1
  obtain ⟨c0, c1, c2, c3, c4⟩ := c
  obtain ⟨vk, vn, vs, vK, vL⟩ := v
  obtain ⟨e0, e1, ht, hk, hl⟩ := (VSeg_succ _ _ _ _ _).1 hv
  simp only at e0 e1 ht hk hl
  subst e0
  subst e1
  clear hv
  simp only
  have HK := hk
  have HL := hl
  obtain ⟨a2, p2, rfl, s2, l2, m2, _, _⟩ := ht
  obtain ⟨a3, p3, rfl, l3, m3, _, _⟩ := hk
  obtain ⟨a4, p4, rfl, l4, m4, _, _⟩ := hl
  by_cases q0 : left < 1 ∨ 10 < deep ∨ vk < 0 ∨ 23 < vk
  · refine (l6expr_out vk vn _ _ _ deep left w h0 h1 q0 hd).mono fun e w' h => ⟨h.1.trans (ret_i64 ?_), h.2⟩
    rcases q0 with q | q | q | q
    · exact (okE_left _ deep q).symm
    · exact (okE_deep _ left q).symm
    · exact (okE_shape deep left (shp_out (.inl q))).symm
    · exact (okE_shape deep left (shp_out (.inr q))).symm
  have hL1 : 1 ≤ left := by omega
  have hD1 : deep ≤ 10 := by omega
  have k0 : 0 ≤ vk := by omega
  have k23' : vk ≤ 23 := by omega
  clear q0
  have m2' : vs.length ≤ maxLen := by omega
  have m3' : vK.length ≤ maxLen := by omega
  have m4' : vL.length ≤ maxLen := by omega
  have hsh := shp_hd vk vn k0 k23' vs vK vL.length
  cases hb : hdR (decide (vk = 5)) (arI vk) (mostI vk) vn vK.length vL.length (saysB (saysI vk) vs) with
  | false =>
    rw [hb] at hsh
    simp only [Bool.false_and] at hsh
    have hno := okE_shape (d := d) (vL := vL) deep left hsh
    have fin : ∀ (e : Ending) (w' : World), (e = .returned (.int .i64 (-1)) ∧ Below w.heap.size w w') → (e = .returned (.int .i64 (okE (d + 1) (vk, vn, vs, vK, vL) deep left)) ∧ Below w.heap.size w w') := fun e w' h => ⟨h.1.trans (ret_i64 hno.symm), h.2⟩
    by_cases k1 : vk = 1
    · subst k1
      exact (l6bad_c1 vn a2 a3 a4 p2 p3 p4 _ _ vs deep left w hL1 h1 hD1 s2 m2' m3' m4' hb).mono fin
    by_cases k2 : vk = 2
    · subst k2
      exact (l6bad_c2 vn a2 a3 a4 p2 p3 p4 _ _ vs deep left w hL1 h1 hD1 s2 m2' m3' m4' hb).mono fin
    by_cases k3 : vk = 3
    · subst k3
      exact (l6bad_c3 vn a2 a3 a4 p2 p3 p4 _ _ vs deep left w hL1 h1 hD1 s2 m2' m3' m4' hb).mono fin
    by_cases k4 : vk = 4
    · subst k4
      exact (l6bad_c4 vn a2 a3 a4 p2 p3 p4 _ _ vs deep left w hL1 h1 hD1 s2 m2' m3' m4' hb).mono fin
    by_cases k5 : vk = 5
    · subst k5
      exact (l6bad_c5 vn a2 a3 a4 p2 p3 p4 _ _ vs deep left w hL1 h1 hD1 s2 m2' m3' m4' hb).mono fin
    by_cases k6 : vk = 6
    · subst k6
      exact (l6bad_c6 vn a2 a3 a4 p2 p3 p4 _ _ vs deep left w hL1 h1 hD1 s2 m2' m3' m4' hb).mono fin
    by_cases k7 : vk = 7
    · subst k7
      exact (l6bad_c7 vn a2 a3 a4 p2 p3 p4 _ _ vs deep left w hL1 h1 hD1 s2 m2' m3' m4' hb).mono fin
    by_cases k8 : vk = 8
    · subst k8
      exact (l6bad_c8 vn a2 a3 a4 p2 p3 p4 _ _ vs deep left w hL1 h1 hD1 s2 m2' m3' m4' hb).mono fin
    by_cases k23 : vk = 23
    · subst k23
      exact (l6bad_c23 vn a2 a3 a4 p2 p3 p4 _ _ vs deep left w hL1 h1 hD1 s2 m2' m3' m4' hb).mono fin
    · refine (l6bad_other vk k0 k23' k1 k2 k3 k4 k5 k6 k7 k8 k23 vn a2 a3 a4 p2 p3 p4 vs.length _ _ deep left w hL1 h1 hD1 m2' m3' m4' (arI_bound vk) ?_).mono fin
      simpa [mostI, saysI, saysB, k1, k2, k3, k5, k6, k7, k8, k23] using hb
  | true =>
    rw [hb] at hsh
    simp only [Bool.true_and] at hsh
    obtain ⟨fK, fq, fn0, fn1, fs⟩ := hdR_true hb
    have nil3 : ¬ vk = 5 → vK = [] := fun h => by
      rw [decide_eq_false h] at fK
      exact List.eq_nil_of_length_eq_zero (by simpa using fK)
    have hsh5 : ¬ vk = 5 → shpB vk vn vs vK vL.length = true := fun h => by rw [hsh, decide_eq_false h]; rfl
    by_cases k1 : vk = 1
    · subst k1
      obtain rfl : vK = [] := nil3 (by omega)
      have fq' : (0 : Int) = -1 ∨ (0 : Int) = vL.length := fq
      obtain rfl : vL = [] := List.eq_nil_of_length_eq_zero (by omega)
      have fs' : decide (vs.length = 0) = true := fs
      obtain rfl : vs = [] := List.eq_nil_of_length_eq_zero (by simpa using fs')
      exact (l6leaf_c1 vn fn0 fn1 a2 a3 a4 p2 p3 p4 deep left w hL1 h1 hD1).mono fun e w' h => ⟨h.1.trans (ret_i64 (okE_leaf hD1 (hsh5 (by omega)) hL1).symm), h.2⟩
    by_cases k2 : vk = 2
    · subst k2
      obtain rfl : vK = [] := nil3 (by omega)
      have fq' : (0 : Int) = -1 ∨ (0 : Int) = vL.length := fq
      obtain rfl : vL = [] := List.eq_nil_of_length_eq_zero (by omega)
      have fs' : decide (vs.length = 0) = true := fs
      obtain rfl : vs = [] := List.eq_nil_of_length_eq_zero (by simpa using fs')
      exact (l6leaf_c2 vn fn0 fn1 a2 a3 a4 p2 p3 p4 deep left w hL1 h1 hD1).mono fun e w' h => ⟨h.1.trans (ret_i64 (okE_leaf hD1 (hsh5 (by omega)) hL1).symm), h.2⟩
    by_cases k3 : vk = 3
    · subst k3
      obtain rfl : vK = [] := nil3 (by omega)
      have fq' : (0 : Int) = -1 ∨ (0 : Int) = vL.length := fq
      obtain rfl : vL = [] := List.eq_nil_of_length_eq_zero (by omega)
      have fn1' : vn ≤ 0 := fn1
      obtain rfl : vn = 0 := by omega
      exact (l6leaf_c3 a2 a3 a4 p2 p3 p4 vs deep left w hL1 h1 hD1 s2 m2' fs).mono fun e w' h => ⟨h.1.trans (ret_i64 (okE_leaf hD1 (hsh5 (by omega)) hL1).symm), h.2⟩
    by_cases k6 : vk = 6
    · subst k6
      obtain rfl : vK = [] := nil3 (by omega)
      have fq' : (0 : Int) = -1 ∨ (0 : Int) = vL.length := fq
      obtain rfl : vL = [] := List.eq_nil_of_length_eq_zero (by omega)
      have fn1' : vn ≤ 0 := fn1
      obtain rfl : vn = 0 := by omega
      exact (l6leaf_c6 a2 a3 a4 p2 p3 p4 vs deep left w hL1 h1 hD1 s2 m2' fs).mono fun e w' h => ⟨h.1.trans (ret_i64 (okE_leaf hD1 (hsh5 (by omega)) hL1).symm), h.2⟩
    by_cases k7 : vk = 7
    · subst k7
      obtain rfl : vK = [] := nil3 (by omega)
      have fq' : (0 : Int) = -1 ∨ (0 : Int) = vL.length := fq
      obtain rfl : vL = [] := List.eq_nil_of_length_eq_zero (by omega)
      have fn1' : vn ≤ 0 := fn1
      obtain rfl : vn = 0 := by omega
      exact (l6leaf_c7 a2 a3 a4 p2 p3 p4 vs deep left w hL1 h1 hD1 s2 m2' fs).mono fun e w' h => ⟨h.1.trans (ret_i64 (okE_leaf hD1 (hsh5 (by omega)) hL1).symm), h.2⟩
    by_cases k5 : vk = 5
    · subst k5
      have fn1' : vn ≤ 0 := fn1
      obtain rfl : vn = 0 := by omega
      have fs' : decide (vs.length = 0) = true := fs
      obtain rfl : vs = [] := List.eq_nil_of_length_eq_zero (by simpa using fs')
      exact l6loop_c5 d ih N vK vL _ _ _ _ deep left w HK HL hN hL1 h1 hD1
    obtain rfl : vK = [] := nil3 k5
    have hsh6 := hsh5 k5
    have fn1' : vn ≤ 0 := by
      have := fn1
      simp only [mostI, k1, k2, if_false] at this
      exact this
    obtain rfl : vn = 0 := by omega
    by_cases k4 : vk = 4
    · subst k4
      have fs' : decide (vs.length = 0) = true := fs
      obtain rfl : vs = [] := List.eq_nil_of_length_eq_zero (by simpa using fs')
      exact l6loop_c4 d ih N vL _ _ _ _ _ deep left w HL hN hL1 h1 hD1 hsh6
    by_cases k8 : vk = 8
    · subst k8
      have fq' : (1 : Int) = -1 ∨ (1 : Int) = vL.length := fq
      exact l6loop_c8 d ih N vL _ _ _ _ _ vs deep left w HL hN hL1 h1 hD1 s2 m2' fs (by omega) hsh6
    by_cases k23 : vk = 23
    · subst k23
      have fs' : (nameB vs && !keptB vs) = true := fs
      simp at fs'
      exact l6loop_c23 d ih N vL _ _ _ _ _ vs deep left w HL hN hL1 h1 hD1 s2 m2' fs'.1 fs'.2 hsh6
    · have fs' : vs = [] := by
        have := fs
        simp only [saysI, saysB, k3, k6, k7, k8, k23, if_false, or_false] at this
        exact List.eq_nil_of_length_eq_zero (by simpa using this)
      subst fs'
      have hq : arI vk = vL.length := by
        rcases fq with h | h
        · exfalso
          have : ¬ (vk = 4 ∨ vk = 5 ∨ vk = 23) := by omega
          simp only [arI, this, if_false] at h
          split at h
          · omega
          split at h
          · omega
          split at h <;> omega
        · exact h
      exact l6loop_other d ih N vk k0 k23' k1 k2 k3 k4 k5 k6 k7 k8 k23 vL _ _ _ _ _ deep left w HL hN hL1 h1 hD1 hq hsh6

theorem l6expr_any (d : Nat) : E6At d := by
  induction d with
  | zero => intro N c v deep left w hv; exact hv.elim
  | succ d ih => exact l6expr_succ d ih

end Go.Proofs.YtfokidhamjphfaaDoor
