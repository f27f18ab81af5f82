/-
  Texts that a law leans on, one behind the other; no statement is proved here.
-/
import Derived.Test.YtjofejjfjnkbhaaDoorPk4
import Derived.Test.YtjofejjfjnkbhaaDoorPk5
import Derived.Test.YtjofejjfjnkbhaaDoorPk3
import Derived.Test.YtjofejjfjnkbhaaDoorRows
import Derived.Lib.LaidTab
import Derived.MakeChecks
import Derived.Test.YtjofejjfjnkbhaaDoorPk0
import Derived.WalkKit
import Derived.ProofKit
import Derived.ChangeSlices
import Derived.ChangeArms
/-
  l6expr and ExprOk of the specification, at every expression.
-/
namespace Go.Proofs.YtjofejjfjnkbhaaDoor
open Go.RowKit
set_option linter.unusedVariables false
set_option linter.unusedSimpArgs false

theorem okE_leaf {d : Nat} {vk vn : Int} {vs : List Int} {deep : Nat} {left : Int} (h1 : deep ≤ 10) (h2 : shpB vk vn vs [] 0 = true) (h4 : 1 ≤ left) : okE (d + 1) (vk, vn, vs, [], []) deep left = left - 1 := by
  have := okE_all (d := d) (vL := []) (deep := deep) (left := left) h1 (by simpa using h2) (by intro j h; simp at h) (by simp [pre]; omega)
  simpa [pre] using this

theorem arI_bound (k : Int) : -1 ≤ arI k ∧ arI k ≤ 3 := by
  unfold arI
  split
  · omega
  split
  · omega
  split
  · omega
  split <;> omega

set_option maxHeartbeats 1600000 in
set_option maxRecDepth 100000 in
theorem l6expr_out (k n : Int) (c2 c3 c4 : Value) (deep : Nat) (left : Int) (w : World) (h0 : 0 ≤ left) (h2 : left ≤ 150) (h : left < 1 ∨ 10 < deep ∨ k < 0 ∨ 23 < k) (hd : deep ≤ 11) :
    Calls Tryd.prog 38 #[.agg #[.int .i64 k, .int .i64 n, c2, c3, c4], .int .i64 deep, .int .i64 left] w fun e w' => e = .returned (.int .i64 (-1)) ∧ Below w.heap.size w w' := by
  have b0 : ∀ o : Obj, Below w.heap.size w (w.alloc o) := fun o => (Below.refl _ _).alloc (Nat.le_refl _) o
  have Hb := hide' b0
  clear b0
  by_cases q1 : left - 1 < 0
  · go_enter Tryd.func38, Tryd.ntmps38
    go_wp2
    go_ret
    exact ⟨rfl, Hb.out _⟩
  by_cases q2 : (10 : Int) < (deep : Int)
  · go_enter Tryd.func38, Tryd.ntmps38
    go_wp2
    go_ret
    exact ⟨rfl, Hb.out _⟩
  by_cases q3 : k < 0
  · go_enter Tryd.func38, Tryd.ntmps38
    go_wp2
    go_ret
    exact ⟨rfl, Hb.out _⟩
  have q4 : (23 : Int) < k := by omega
  go_enter Tryd.func38, Tryd.ntmps38
  go_wp2
  go_ret
  exact ⟨rfl, Hb.out _⟩

theorem shp_out {vk vn : Int} {vs : List Int} {vK : List (List Int)} {nL : Nat} (h : vk < 0 ∨ 23 < vk) : shpB vk vn vs vK nL = false := by
  rcases h with h | h
  · have h1 : ¬ (0 : Int) ≤ vk := by omega
    simp [shpB, h1]
  · have h1 : ¬ vk ≤ 23 := by omega
    simp [shpB, h1]

/-- A part by itself, of what is asked ahead of its kids and of its keys' order. -/
theorem shp_hd (vk vn : Int) (k0 : 0 ≤ vk) (k23 : vk ≤ 23) (vs : List Int) (vK : List (List Int)) (nL : Nat) : shpB vk vn vs vK nL = (hdR (decide (vk = 5)) (arI vk) (mostI vk) vn vK.length nL (saysB (saysI vk) vs) && (!decide (vk = 5) || ascB vK)) := by
  by_cases h : vk = 5
  · subst h
    simp [shpB, hdR, keysB, kidsB]
    cases decide (vK.length = nL) <;> cases ascB vK <;> cases decide (0 ≤ vn) <;> cases decide (vn ≤ mostI 5) <;> simp
  · simp [shpB, hdR, keysB, kidsB, h, k0, k23]

theorem hdR_true {kb : Bool} {q m n : Int} {l3 l4 : Nat} {sb : Bool} (h : hdR kb q m n l3 l4 sb = true) : (if kb then decide (l3 = l4) else decide (l3 = 0)) = true ∧ (q = -1 ∨ q = l4) ∧ 0 ≤ n ∧ n ≤ m ∧ sb = true := by
  unfold hdR at h
  simp only [Bool.and_eq_true, Bool.or_eq_true, decide_eq_true_eq] at h
  obtain ⟨⟨⟨⟨a, b⟩, c⟩, d⟩, e⟩ := h
  exact ⟨a, b, c, d, e⟩

set_option maxHeartbeats 1600000 in
theorem l6expr_succ (d : Nat) (ih : E6At d) : E6At (d + 1) := by
  intro N c v deep left w hv hN hd h0 h1
  obtain ⟨c0, c1, c2, c3, c4⟩ := c
  obtain ⟨vk, vn, vs, vK, vL⟩ := v
  obtain ⟨e0, e1, ht, hk, hl⟩ := (VSeg_succ _ _ _ _ _).1 hv
  simp only at e0 e1 ht hk hl
  subst e0
  subst e1
  clear hv
  simp only
  have HK := hk
  have HL := hl
  obtain ⟨a2, p2, rfl, s2, l2, m2, _, _⟩ := ht
  obtain ⟨a3, p3, rfl, l3, m3, _, _⟩ := hk
  obtain ⟨a4, p4, rfl, l4, m4, _, _⟩ := hl
  by_cases q0 : left < 1 ∨ 10 < deep ∨ vk < 0 ∨ 23 < vk
  · refine (l6expr_out vk vn _ _ _ deep left w h0 h1 q0 hd).mono fun e w' h => ⟨h.1.trans (ret_i64 ?_), h.2⟩
    rcases q0 with q | q | q | q
    · exact (okE_left _ deep q).symm
    · exact (okE_deep _ left q).symm
    · exact (okE_shape deep left (shp_out (.inl q))).symm
    · exact (okE_shape deep left (shp_out (.inr q))).symm
  have hL1 : 1 ≤ left := by omega
  have hD1 : deep ≤ 10 := by omega
  have k0 : 0 ≤ vk := by omega
  have k23' : vk ≤ 23 := by omega
  clear q0
  have m2' : vs.length ≤ maxLen := by omega
  have m3' : vK.length ≤ maxLen := by omega
  have m4' : vL.length ≤ maxLen := by omega
  have hsh := shp_hd vk vn k0 k23' vs vK vL.length
  cases hb : hdR (decide (vk = 5)) (arI vk) (mostI vk) vn vK.length vL.length (saysB (saysI vk) vs) with
  | false =>
    rw [hb] at hsh
    simp only [Bool.false_and] at hsh
    have hno := okE_shape (d := d) (vL := vL) deep left hsh
    have fin : ∀ (e : Ending) (w' : World), (e = .returned (.int .i64 (-1)) ∧ Below w.heap.size w w') → (e = .returned (.int .i64 (okE (d + 1) (vk, vn, vs, vK, vL) deep left)) ∧ Below w.heap.size w w') := fun e w' h => ⟨h.1.trans (ret_i64 hno.symm), h.2⟩
    by_cases k1 : vk = 1
    · subst k1
      exact (l6bad_c1 vn a2 a3 a4 p2 p3 p4 _ _ vs deep left w hL1 h1 hD1 s2 m2' m3' m4' hb).mono fin
    by_cases k2 : vk = 2
    · subst k2
      exact (l6bad_c2 vn a2 a3 a4 p2 p3 p4 _ _ vs deep left w hL1 h1 hD1 s2 m2' m3' m4' hb).mono fin
    by_cases k3 : vk = 3
    · subst k3
      exact (l6bad_c3 vn a2 a3 a4 p2 p3 p4 _ _ vs deep left w hL1 h1 hD1 s2 m2' m3' m4' hb).mono fin
    by_cases k4 : vk = 4
    · subst k4
      exact (l6bad_c4 vn a2 a3 a4 p2 p3 p4 _ _ vs deep left w hL1 h1 hD1 s2 m2' m3' m4' hb).mono fin
    by_cases k5 : vk = 5
    · subst k5
      exact (l6bad_c5 vn a2 a3 a4 p2 p3 p4 _ _ vs deep left w hL1 h1 hD1 s2 m2' m3' m4' hb).mono fin
    by_cases k6 : vk = 6
    · subst k6
      exact (l6bad_c6 vn a2 a3 a4 p2 p3 p4 _ _ vs deep left w hL1 h1 hD1 s2 m2' m3' m4' hb).mono fin
    by_cases k7 : vk = 7
    · subst k7
      exact (l6bad_c7 vn a2 a3 a4 p2 p3 p4 _ _ vs deep left w hL1 h1 hD1 s2 m2' m3' m4' hb).mono fin
    by_cases k8 : vk = 8
    · subst k8
      exact (l6bad_c8 vn a2 a3 a4 p2 p3 p4 _ _ vs deep left w hL1 h1 hD1 s2 m2' m3' m4' hb).mono fin
    by_cases k23 : vk = 23
    · subst k23
      exact (l6bad_c23 vn a2 a3 a4 p2 p3 p4 _ _ vs deep left w hL1 h1 hD1 s2 m2' m3' m4' hb).mono fin
    · refine (l6bad_other vk k0 k23' k1 k2 k3 k4 k5 k6 k7 k8 k23 vn a2 a3 a4 p2 p3 p4 vs.length _ _ deep left w hL1 h1 hD1 m2' m3' m4' (arI_bound vk) ?_).mono fin
      simpa [mostI, saysI, saysB, k1, k2, k3, k5, k6, k7, k8, k23] using hb
  | true =>
    rw [hb] at hsh
    simp only [Bool.true_and] at hsh
    obtain ⟨fK, fq, fn0, fn1, fs⟩ := hdR_true hb
    have nil3 : ¬ vk = 5 → vK = [] := fun h => by
      rw [decide_eq_false h] at fK
      exact List.eq_nil_of_length_eq_zero (by simpa using fK)
    have hsh5 : ¬ vk = 5 → shpB vk vn vs vK vL.length = true := fun h => by rw [hsh, decide_eq_false h]; rfl
    by_cases k1 : vk = 1
    · subst k1
      obtain rfl : vK = [] := nil3 (by omega)
      have fq' : (0 : Int) = -1 ∨ (0 : Int) = vL.length := fq
      obtain rfl : vL = [] := List.eq_nil_of_length_eq_zero (by omega)
      have fs' : decide (vs.length = 0) = true := fs
      obtain rfl : vs = [] := List.eq_nil_of_length_eq_zero (by simpa using fs')
      exact (l6leaf_c1 vn fn0 fn1 a2 a3 a4 p2 p3 p4 deep left w hL1 h1 hD1).mono fun e w' h => ⟨h.1.trans (ret_i64 (okE_leaf hD1 (hsh5 (by omega)) hL1).symm), h.2⟩
    by_cases k2 : vk = 2
    · subst k2
      obtain rfl : vK = [] := nil3 (by omega)
      have fq' : (0 : Int) = -1 ∨ (0 : Int) = vL.length := fq
      obtain rfl : vL = [] := List.eq_nil_of_length_eq_zero (by omega)
      have fs' : decide (vs.length = 0) = true := fs
      obtain rfl : vs = [] := List.eq_nil_of_length_eq_zero (by simpa using fs')
      exact (l6leaf_c2 vn fn0 fn1 a2 a3 a4 p2 p3 p4 deep left w hL1 h1 hD1).mono fun e w' h => ⟨h.1.trans (ret_i64 (okE_leaf hD1 (hsh5 (by omega)) hL1).symm), h.2⟩
    by_cases k3 : vk = 3
    · subst k3
      obtain rfl : vK = [] := nil3 (by omega)
      have fq' : (0 : Int) = -1 ∨ (0 : Int) = vL.length := fq
      obtain rfl : vL = [] := List.eq_nil_of_length_eq_zero (by omega)
      have fn1' : vn ≤ 0 := fn1
      obtain rfl : vn = 0 := by omega
      exact (l6leaf_c3 a2 a3 a4 p2 p3 p4 vs deep left w hL1 h1 hD1 s2 m2' fs).mono fun e w' h => ⟨h.1.trans (ret_i64 (okE_leaf hD1 (hsh5 (by omega)) hL1).symm), h.2⟩
    by_cases k6 : vk = 6
    · subst k6
      obtain rfl : vK = [] := nil3 (by omega)
      have fq' : (0 : Int) = -1 ∨ (0 : Int) = vL.length := fq
      obtain rfl : vL = [] := List.eq_nil_of_length_eq_zero (by omega)
      have fn1' : vn ≤ 0 := fn1
      obtain rfl : vn = 0 := by omega
      exact (l6leaf_c6 a2 a3 a4 p2 p3 p4 vs deep left w hL1 h1 hD1 s2 m2' fs).mono fun e w' h => ⟨h.1.trans (ret_i64 (okE_leaf hD1 (hsh5 (by omega)) hL1).symm), h.2⟩
    by_cases k7 : vk = 7
    · subst k7
      obtain rfl : vK = [] := nil3 (by omega)
      have fq' : (0 : Int) = -1 ∨ (0 : Int) = vL.length := fq
      obtain rfl : vL = [] := List.eq_nil_of_length_eq_zero (by omega)
      have fn1' : vn ≤ 0 := fn1
      obtain rfl : vn = 0 := by omega
      exact (l6leaf_c7 a2 a3 a4 p2 p3 p4 vs deep left w hL1 h1 hD1 s2 m2' fs).mono fun e w' h => ⟨h.1.trans (ret_i64 (okE_leaf hD1 (hsh5 (by omega)) hL1).symm), h.2⟩
    by_cases k5 : vk = 5
    · subst k5
      have fn1' : vn ≤ 0 := fn1
      obtain rfl : vn = 0 := by omega
      have fs' : decide (vs.length = 0) = true := fs
      obtain rfl : vs = [] := List.eq_nil_of_length_eq_zero (by simpa using fs')
      exact l6loop_c5 d ih N vK vL _ _ _ _ deep left w HK HL hN hL1 h1 hD1
    obtain rfl : vK = [] := nil3 k5
    have hsh6 := hsh5 k5
    have fn1' : vn ≤ 0 := by
      have := fn1
      simp only [mostI, k1, k2, if_false] at this
      exact this
    obtain rfl : vn = 0 := by omega
    by_cases k4 : vk = 4
    · subst k4
      have fs' : decide (vs.length = 0) = true := fs
      obtain rfl : vs = [] := List.eq_nil_of_length_eq_zero (by simpa using fs')
      exact l6loop_c4 d ih N vL _ _ _ _ _ deep left w HL hN hL1 h1 hD1 hsh6
    by_cases k8 : vk = 8
    · subst k8
      have fq' : (1 : Int) = -1 ∨ (1 : Int) = vL.length := fq
      exact l6loop_c8 d ih N vL _ _ _ _ _ vs deep left w HL hN hL1 h1 hD1 s2 m2' fs (by omega) hsh6
    by_cases k23 : vk = 23
    · subst k23
      have fs' : (nameB vs && !keptB vs) = true := fs
      simp at fs'
      exact l6loop_c23 d ih N vL _ _ _ _ _ vs deep left w HL hN hL1 h1 hD1 s2 m2' fs'.1 fs'.2 hsh6
    · have fs' : vs = [] := by
        have := fs
        simp only [saysI, saysB, k3, k6, k7, k8, k23, if_false, or_false] at this
        exact List.eq_nil_of_length_eq_zero (by simpa using this)
      subst fs'
      have hq : arI vk = vL.length := by
        rcases fq with h | h
        · exfalso
          have : ¬ (vk = 4 ∨ vk = 5 ∨ vk = 23) := by omega
          simp only [arI, this, if_false] at h
          split at h
          · omega
          split at h
          · omega
          split at h <;> omega
        · exact h
      exact l6loop_other d ih N vk k0 k23' k1 k2 k3 k4 k5 k6 k7 k8 k23 vL _ _ _ _ _ deep left w HL hN hL1 h1 hD1 hq hsh6

theorem l6expr_any (d : Nat) : E6At d := by
  induction d with
  | zero => intro N c v deep left w hv; exact hv.elim
  | succ d ih => exact l6expr_succ d ih

set_option maxHeartbeats 1600000 in
theorem spec_ExprOk_any (d N : Nat) (c0 c1 c2 c3 c4 : Value) (v : Vl d) (w : World) (hv : VSeg (fun b => b < N) w d (c0, c1, c2, c3, c4) v) (hN : N ≤ w.heap.size) :
    Calls Tryd.prog 20 #[.agg #[c0, c1, c2, c3, c4]] w fun e w' => e = .returned (.bool (exprB d v)) ∧ Below w.heap.size w w' := by
  have b0 : ∀ o : Obj, Below w.heap.size w (w.alloc o) := fun o => (Below.refl _ _).alloc (Nat.le_refl _) o
  have HC : Hid (∀ o : Obj, Calls Tryd.prog 38 #[.agg #[c0, c1, c2, c3, c4], .int .i64 1, .int .i64 150] (w.alloc o) fun e w' => e = .returned (.int .i64 (okE d v 1 150)) ∧ Below (w.alloc o).heap.size (w.alloc o) w') := fun o =>
    l6expr_any d N (c0, c1, c2, c3, c4) v 1 150 (w.alloc o) (VSeg.agree (agree_below ((b0 o).mono hN)) d hv) (by have := (b0 o).size; omega) (by omega) (by omega) (by omega)
  have Hb := hide' b0
  have hq := okE_exprB d v
  clear b0
  cases hb : exprB d v with
  | true =>
    obtain ⟨h1, h2⟩ := hq.1 hb
    generalize okE d v 1 150 = q at *
    clear hq hb
    go_enter Tryd.func20, Tryd.ntmps20
    go_wp2_with fail
    refine (HC.out _).mono ?_
    rintro e w1 ⟨rfl, b1⟩
    have B1 := Below.on (Hb.out _) b1
    clear b1
    go_wp2
    go_ret
    exact ⟨rfl, B1⟩
  | false =>
    have h1 := hq.2 hb
    rw [h1] at HC
    clear hq hb h1
    go_enter Tryd.func20, Tryd.ntmps20
    go_wp2_with fail
    refine (HC.out _).mono ?_
    rintro e w1 ⟨rfl, b1⟩
    have B1 := Below.on (Hb.out _) b1
    clear b1
    go_wp2
    go_ret
    exact ⟨rfl, B1⟩
end Go.Proofs.YtjofejjfjnkbhaaDoor
/-
  ExprParts of both: how many parts an expression has that may be, else 0.
-/
namespace Go.Proofs.YtjofejjfjnkbhaaDoor
open Go.RowKit
set_option linter.unusedVariables false
set_option linter.unusedSimpArgs false

theorem kidE_parts {d : Nat} {vk vn : Int} {vs : List Int} {vK : List (List Int)} {vL : List (Vl d)} {k : Nat} (hk : k < vL.length) (h : partsE (d + 1) (vk, vn, vs, vK, vL) ≤ 150) : partsE d vL[k] ≤ 150 ∧ 1 + pre (partsE d) vL (k + 1) ≤ 150 := by
  rw [partsE_succ] at h
  have h1 := pre_succ (partsE d) vL k hk
  have h2 := pre_le (partsE d) vL (k + 1)
  have h3 := pre_all (partsE d) vL
  omega

/-- What a function of an expression that only reads it answers at depth d. -/
def FnEAt (F : Nat) (ans : (d : Nat) → Vl d → Value) (d : Nat) : Prop := ∀ (N : Nat) (c : Value × Value × Value × Value × Value) (v : Vl d) (w : World), VSeg (fun b => b < N) w d c v → N ≤ w.heap.size → partsE d v ≤ 150 →
  Calls Tryd.prog F #[.agg #[c.1, c.2.1, c.2.2.1, c.2.2.2.1, c.2.2.2.2]] w fun e w' => e = .returned (ans d v) ∧ Below w.heap.size w w'

set_option maxHeartbeats 4000000 in
theorem l7parts_succ (d : Nat) (ih : FnEAt 21 (fun d v => .int .i64 (partsE d v)) d) : FnEAt 21 (fun d v => .int .i64 (partsE d v)) (d + 1) := by
  intro N c v w hv hN hp
  obtain ⟨c0, c1, c2, c3, c4⟩ := c
  obtain ⟨vk, vn, vs, vK, vL⟩ := v
  obtain ⟨e0, e1, ht, hk, hl⟩ := (VSeg_succ _ _ _ _ _).1 hv
  simp only at e0 e1 ht hk hl
  subst e0
  subst e1
  clear hv
  simp only
  have HX := hide' hl
  obtain ⟨a2, p2, rfl, s2, l2, m2, _, _⟩ := ht
  obtain ⟨a3, p3, rfl, _, _, _, _⟩ := hk
  obtain ⟨a4, p4, rfl, hlc, hcm, ka, _⟩ := hl
  unfold maxLen at hcm
  have b0 : ∀ o : Obj, Below w.heap.size w (w.alloc o) := fun o => (Below.refl _ _).alloc (Nat.le_refl _) o
  have Hb := hide' b0
  have HI := hide' ih
  have HP := hide' hp
  generalize hO : Obj.cells #[.int .i64 vk, .int .i64 vn, .slice a2 vs.length p2, .slice a3 vK.length p3, .slice a4 vL.length p4] 31 = ob
  have HOb := hide' hO
  clear ih b0 hO hp s2
  go_enter Tryd.func21, Tryd.ntmps21
  go_wp2
  go_loopw [3, 4] (fun n i wr => ∃ k : Nat, k ≤ vL.length ∧ n = .int .i64 ((1 + pre (partsE d) vL k : Nat) : Int) ∧ i = .int .i64 k ∧ Hid (Below (w.alloc ob).heap.size (w.alloc ob) wr)) (fun _ i _ => vL.length - (intOf i).toNat)
  case atStart => exact ⟨0, Nat.zero_le _, by rw [pre_zero]; rfl, rfl, by rw [← HOb.out]; exact Below.refl _ _⟩
  case round =>
    obtain ⟨k, hk, rfl, rfl, hbel⟩ := hrel
    have hrow := box_row hbel.out
    rw [← HOb.out] at hrow
    obtain ⟨y0, y1, y2, y3, y4, _⟩ := row5 hrow
    have B := Below.on (Hb.out ob) hbel.out
    clear hrow
    by_cases hlt : k < vL.length
    · have hlt' : (k : Int) < (vL.length : Int) := by omega
      obtain ⟨b, off, c, rfl, h5', hv⟩ := HX.out.at B hN hlt
      obtain ⟨c0, c1, c2, c3, c4⟩ := c
      obtain ⟨q0, q1, q2, q3, q4⟩ := h5'
      simp only at q0 q1 q2 q3 q4
      have hz := B.size
      obtain ⟨hp1, hp2⟩ := kidE_parts hlt HP.out
      have HC0 := HI.out N (c0, c1, c2, c3, c4) vL[k] wr (hv wr B) (by omega) hp1
      dsimp only at HC0
      have HC := hide' HC0
      clear HC0
      have hps := pre_succ (partsE d) vL k hlt
      have HF : Hid ((1 + pre (partsE d) vL k : Nat) + partsE d vL[k] = 1 + pre (partsE d) vL (k + 1)) := by show _ + _ = _; omega
      have hb1 : ((1 + pre (partsE d) vL k : Nat) : Int) + (partsE d vL[k] : Nat) ≤ 150 := by omega
      generalize partsE d vL[k] = pk at *
      generalize 1 + pre (partsE d) vL k = pp at *
      clear hv hps hp2
      go_wp2_with fail
      refine HC.out.mono ?_
      rintro e w1 ⟨rfl, b1⟩
      have B1 : Hid (Below (w.alloc ob).heap.size (w.alloc ob) w1) := Below.on hbel.out b1
      clear q0 q1 q2 q3 q4 b1
      go_wp2
      go_roundw
      case rel => exact ⟨k + 1, by omega, by rw [← HF.out]; go_num, by go_num, B1⟩
      case measure => simp [intOf]; omega
    · have hkn : k = vL.length := by omega
      have hlt' : ¬ (k : Int) < (vL.length : Int) := by omega
      have HF : Hid (partsE (d + 1) (vk, vn, vs, vK, vL) = 1 + pre (partsE d) vL k) := by show partsE (d + 1) (vk, vn, vs, vK, vL) = _; rw [partsE_succ, hkn]
      clear hkn
      go_wp2
      go_ret
      exact ⟨ret_i64 (by rw [HF.out]; omega), B⟩

theorem l7parts_any : ∀ d, FnEAt 21 (fun d v => .int .i64 (partsE d v)) d
  | 0 => fun _ _ _ _ hv _ _ => hv.elim
  | d + 1 => l7parts_succ d (l7parts_any d)

/-- What ExprParts answers. -/
def ansEP (d : Nat) (v : Vl d) : Int := if exprB d v = true then partsE d v else 0

set_option maxHeartbeats 1600000 in
theorem spec_ExprParts_any (d N : Nat) (c0 c1 c2 c3 c4 : Value) (v : Vl d) (w : World) (hv : VSeg (fun b => b < N) w d (c0, c1, c2, c3, c4) v) (hN : N ≤ w.heap.size) :
    Calls Tryd.prog 6 #[.agg #[c0, c1, c2, c3, c4]] w fun e w' => e = .returned (.int .i64 (ansEP d v)) ∧ Below w.heap.size w w' := by
  have b0 : ∀ o : Obj, Below w.heap.size w (w.alloc o) := fun o => (Below.refl _ _).alloc (Nat.le_refl _) o
  have HV : Hid (∀ wx, Below w.heap.size w wx → VSeg (fun b => b < N) wx d (c0, c1, c2, c3, c4) v) := fun wx hb => VSeg.agree (agree_below (hb.mono hN)) d hv
  have HC : Hid (∀ wx, Below w.heap.size w wx → Calls Tryd.prog 20 #[.agg #[c0, c1, c2, c3, c4]] wx fun e w' => e = .returned (.bool (exprB d v)) ∧ Below wx.heap.size wx w') := fun wx hb =>
    spec_ExprOk_any d N c0 c1 c2 c3 c4 v wx (HV.out wx hb) (by have := hb.size; omega)
  have hbox : ∀ o wx, Below (w.alloc o).heap.size (w.alloc o) wx → wx.heap[w.heap.size]? = some o := fun o wx h => box_row h
  have Hbox := hide' hbox
  have Hb := hide' b0
  clear b0 hbox
  obtain ⟨ck, cn, a2, l2, p2, a3, l3, p3, a4, l4, p4, rfl, rfl, rfl, rfl, rfl⟩ := VSeg.form d hv
  cases hE : exprB d v with
  | true =>
    rw [hE] at HC
    have hp : partsE d v ≤ 150 := by simp [exprB] at hE; exact hE.2
    have HP : Hid (∀ wx, Below w.heap.size w wx → Calls Tryd.prog 21 #[.agg #[.int .i64 ck, .int .i64 cn, .slice a2 l2 p2, .slice a3 l3 p3, .slice a4 l4 p4]] wx fun e w' => e = .returned (.int .i64 (partsE d v)) ∧ Below wx.heap.size wx w') := fun wx hb =>
      l7parts_any d N (.int .i64 ck, .int .i64 cn, .slice a2 l2 p2, .slice a3 l3 p3, .slice a4 l4 p4) v wx (HV.out wx hb) (by have := hb.size; omega) hp
    have HA : Hid (ansEP d v = partsE d v) := by show ansEP d v = partsE d v; simp [ansEP, hE]
    clear hE hv HV hp
    go_enter Tryd.func6, Tryd.ntmps6
    go_wp2_with fail
    refine (HC.out _ (Hb.out _)).mono ?_
    rintro e w1 ⟨rfl, b1⟩
    have B1 := Below.on (Hb.out _) b1
    obtain ⟨y0, y1, y2, y3, y4, _⟩ := row5 (Hbox.out _ _ b1)
    have HP1 := hide' (HP.out w1 B1)
    clear b1 HP HC
    go_wp2_with fail
    refine HP1.out.mono ?_
    rintro e w2 ⟨rfl, b2⟩
    have B2 := Below.on B1 b2
    clear b2
    go_wp2
    go_ret
    exact ⟨ret_i64 (by rw [HA.out]), B2⟩
  | false =>
    rw [hE] at HC
    have HA : Hid (ansEP d v = 0) := by show ansEP d v = 0; simp [ansEP, hE]
    clear hE hv HV
    go_enter Tryd.func6, Tryd.ntmps6
    go_wp2_with fail
    refine (HC.out _ (Hb.out _)).mono ?_
    rintro e w1 ⟨rfl, b1⟩
    have B1 := Below.on (Hb.out _) b1
    clear b1
    go_wp2
    go_ret
    exact ⟨ret_i64 (by rw [HA.out]), B1⟩

set_option maxHeartbeats 1600000 in
theorem impl_ExprParts_any (d N : Nat) (c0 c1 c2 c3 c4 : Value) (v : Vl d) (w : World) (hv : VSeg (fun b => b < N) w d (c0, c1, c2, c3, c4) v) (hN : N ≤ w.heap.size) (hT : ShpT w) (hgN : 0 < N) :
    Calls Tryd.prog 8 #[.agg #[c0, c1, c2, c3, c4]] w fun e w' => e = .returned (.int .i64 (ansEP d v)) ∧ Below w.heap.size w w' := by
  have b0 : ∀ o o' : Obj, Below w.heap.size w ((w.alloc o).alloc o') := fun o o' => ((Below.refl _ _).alloc (Nat.le_refl _) o).alloc (by simp) o'
  have HC : Hid (∀ o : Obj, Calls Tryd.prog 24 #[.pointer (some ⟨w.heap.size + 1, 0, none⟩), .agg #[c0, c1, c2, c3, c4], .int .i64 1] ((w.alloc o).alloc (.cells #[.int .i64 0] 48)) fun e w' =>
      ((w.alloc o).alloc (.cells #[.int .i64 0] 48)).grownBy w' (some (w.heap.size + 1)) ∧ ((e = .returned (.bool true) ∧ goodE d v 1 = true ∧ 0 + partsE d v ≤ 150 ∧ ECnt w' (w.heap.size + 1) (0 + partsE d v)) ∨ (e = .returned (.bool false) ∧ ¬ (goodE d v 1 = true ∧ 0 + partsE d v ≤ 150)))) := fun o =>
    takes_any d N (w.heap.size + 1) 0 (c0, c1, c2, c3, c4) v 1 ((w.alloc o).alloc (.cells #[.int .i64 0] 48)) (VSeg.agree (agree_below ((b0 o _).mono hN)) d hv) (by omega) (by rw [size2]; omega) (two_boxes w o _).2 (hT.below (b0 o _)) hgN (by omega) (by omega)
  have Hb := hide' b0
  have hsz := fun o o' => size2 w o o'
  have Hsz := hide' hsz
  clear b0 hsz hT
  go_enter Tryd.func8, Tryd.ntmps8
  go_wp2_with fail
  refine (HC.out _).mono ?_
  rintro e w1 ⟨hg1, hcase⟩
  have hB1 := (Hb.out _ _).grown hg1 (by rw [Hsz.out]; omega) (by intro j hj; simp at hj; omega)
  rcases hcase with ⟨rfl, h1, h2, h3⟩ | ⟨rfl, hno⟩
  · have hE : Hid (ansEP d v = (0 + partsE d v : Nat)) := by
      have h : exprB d v = true := by
        simp [exprB, h1]
        omega
      show ansEP d v = _
      simp [ansEP, h]
    obtain ⟨x0, _⟩ := h3.cell
    clear h1 h3 hg1
    generalize 0 + partsE d v = q at *
    go_wp2
    go_ret
    exact ⟨ret_i64 hE.out.symm, hB1⟩
  · have hE : Hid (ansEP d v = 0) := by
      have h0 : exprB d v = false := by
       cases h : exprB d v with
        | false => rfl
        | true => simp [exprB] at h; exact absurd ⟨h.1, by omega⟩ hno
      show ansEP d v = 0
      simp [ansEP, h0]
    clear hno hg1
    go_wp2
    go_ret
    exact ⟨ret_i64 hE.out.symm, hB1⟩
end Go.Proofs.YtjofejjfjnkbhaaDoor
/-
  What a call has made for itself can be read by whoever comes behind it.
-/
namespace Go.Proofs.YtjofejjfjnkbhaaDoor
open Go.RowKit
set_option linter.unusedVariables false

/-- What a call has made for itself can be read by whoever comes behind it. -/
theorem VOwn.below {w w' : World} {d : Nat} {c : Value × Value × Value × Value × Value} {v : Vl d} {B : List Nat} (h : VOwn w d c v B) (hb : Below w.heap.size w w') : VSeg (fun b => b < w.heap.size) w' d c v :=
  VSeg.agree (agree_below hb) d (VSeg.mono (fun b hb => VOwn.lt d h b hb) d (VOwn.seg d h))
end Go.Proofs.YtjofejjfjnkbhaaDoor
/-
  FnExactExprParts answers true, whatever expression it is handed; it makes new memory and turns nothing old.
-/
namespace Go.Proofs.YtjofejjfjnkbhaaDoor
open Go.RowKit
set_option linter.unusedVariables false
set_option linter.unusedSimpArgs false

set_option maxHeartbeats 1600000 in
theorem walk_FnExactExprParts (d : Nat) (c0 c1 c2 c3 c4 : Value) (v : Vl d) (w : World) (hT : ShpT w) (hv : VSeg (fun b => b < w.heap.size) w d (c0, c1, c2, c3, c4) v) :
    Calls Tryd.prog 3 #[.agg #[c0, c1, c2, c3, c4]] w fun e w' => e = .returned (.bool true) ∧ Below w.heap.size w w' := by
  have HTb := hide' hT
  have b0 : ∀ o : Obj, Below w.heap.size w (w.alloc o) := fun o => (Below.refl _ _).alloc (Nat.le_refl _) o
  have HV : Hid (∀ wx, Below w.heap.size w wx → VSeg (fun b => b < w.heap.size) wx d (c0, c1, c2, c3, c4) v) := fun wx hb => VSeg.agree (agree_below hb) d hv
  have HS : Hid (∀ wx, Below w.heap.size w wx → Calls Tryd.prog 5 #[.agg #[c0, c1, c2, c3, c4], .int .i64 1048576] wx fun e w' => e = .returned (.int .i64 (less 1048576 (szV d v))) ∧ Below wx.heap.size wx w') := fun wx hb =>
    szValue_any d w.heap.size (c0, c1, c2, c3, c4) v 1048576 wx (HV.out wx hb) hb.size (by omega) (by omega)
  have hbox : ∀ o wx, Below (w.alloc o).heap.size (w.alloc o) wx → wx.heap[w.heap.size]? = some o := fun o wx h => box_row h
  have Hbox := hide' hbox
  have Hb := hide' b0
  obtain ⟨ck, cn, a2, l2, p2, a3, l3, p3, a4, l4, p4, rfl, rfl, rfl, rfl, rfl⟩ := VSeg.form d hv
  clear b0 hbox hv hT
  by_cases hz : (1048576 : Int) < szV d v
  · have hl : less 1048576 (szV d v) = -1 := less_no _ _ hz
    rw [hl] at HS
    clear hl
    go_enter Tryd.func3, Tryd.ntmps3
    go_wp2_with fail
    refine (HS.out _ (Hb.out _)).mono ?_
    rintro e w1 ⟨rfl, b1⟩
    have B1 := Below.on (Hb.out _) b1
    clear b1
    go_wp2
    go_ret
    exact ⟨rfl, B1⟩
  · have hl : less 1048576 (szV d v) = 1048576 - szV d v := less_yes _ _ hz
    rw [hl] at HS
    have hz0 : 0 ≤ (1048576 : Int) - szV d v := by omega
    have hz1 : (1048576 : Int) - szV d v ≤ 1048576 := by omega
    have HZ : Hid (szV d v ≤ 1048576) := by show szV d v ≤ 1048576; omega
    have HT : Hid (∀ wx, Below w.heap.size w wx → Calls Tryd.prog 7 #[.agg #[.int .i64 ck, .int .i64 cn, .slice a2 l2 p2, .slice a3 l3 p3, .slice a4 l4 p4]] wx fun e w' => ∃ c0 c1 c2 c3 c4, e = .returned (.agg #[c0, c1, c2, c3, c4]) ∧ ∃ B, VOwn w' d (c0, c1, c2, c3, c4) v B ∧ (∀ b ∈ B, wx.heap.size ≤ b ∧ b < w'.heap.size) ∧ Below wx.heap.size wx w') := fun wx hb =>
      toValue_any d w.heap.size (.int .i64 ck, .int .i64 cn, .slice a2 l2 p2, .slice a3 l3 p3, .slice a4 l4 p4) v wx (HV.out wx hb) hb.size HZ.out
    have HEq : Hid (∀ (N : Nat) (c c' : Value × Value × Value × Value × Value) (wx : World), VSeg (fun b => b < N) wx d c v → VSeg (fun b => b < N) wx d c' v → N ≤ wx.heap.size → Calls Tryd.prog 9 #[.agg #[c.1, c.2.1, c.2.2.1, c.2.2.2.1, c.2.2.2.2], .agg #[c'.1, c'.2.1, c'.2.2.1, c'.2.2.2.1, c'.2.2.2.2]] wx fun e w' => e = .returned (.bool true) ∧ Below wx.heap.size wx w') := fun N c c' wx h1 h2 h3 => eqValue_any d N c c' v wx h1 h2 h3 HZ.out
    generalize szV d v = sz at *
    clear hl hz HV
    go_enter Tryd.func3, Tryd.ntmps3
    go_wp2_with fail
    refine (HS.out _ (Hb.out _)).mono ?_
    rintro e w1 ⟨rfl, b1⟩
    have B1 := Below.on (Hb.out _) b1
    have hr1 := Hbox.out _ _ b1
    obtain ⟨y0, y1, y2, y3, y4, _⟩ := row5 hr1
    have HT1 := hide' (HT.out w1 B1)
    have Hb1 := hide' b1
    have HB1 := hide' B1
    clear b1 B1 hr1 HS
    go_wp2_with fail
    refine HT1.out.mono ?_
    rintro e w2 ⟨u0, u1, u2, u3, u4, rfl, B, hO2, hB2, b2⟩
    have hS2 := hide' (spec_ExprParts_any d w2.heap.size u0 u1 u2 u3 u4 v w2 (hO2.below (Below.refl _ _)) (Nat.le_refl _))
    have b12 := Below.on Hb1.out b2
    have B2 := hide' (Below.on HB1.out b2)
    clear HT1 Hb1 HB1 hO2 hB2 b2 y0 y1 y2 y3 y4
    go_wp2_with fail
    refine hS2.out.mono ?_
    rintro e w3 ⟨rfl, b3⟩
    have b13 := Below.on b12 b3
    have B3 := hide' (Below.on B2.out b3)
    obtain ⟨y0, y1, y2, y3, y4, _⟩ := row5 (Hbox.out _ _ b13)
    have HT3 := hide' (HT.out w3 B3.out)
    have Hb3 := hide' b13
    clear b12 b3 b13 B2 hS2
    go_wp2_with fail
    refine HT3.out.mono ?_
    rintro e w4 ⟨x0, x1, x2, x3, x4, rfl, B', hO4, hB4, b4⟩
    obtain ⟨xk, xn, s2, m2, q2, s3, m3, q3, s4, m4, q4, rfl, rfl, rfl, rfl, rfl⟩ := VOwn.form d hO4
    have b14 := Below.on Hb3.out b4
    have B4 := Below.on B3.out b4
    have bal : Below w4.heap.size w4 (w4.alloc (.cells #[.int .i64 xk, .int .i64 xn, .slice s2 m2 q2, .slice s3 m3 q3, .slice s4 m4 q4] 31)) := (Below.refl _ _).alloc (Nat.le_refl _) _
    have hI4 := hide' (impl_ExprParts_any d w4.heap.size _ _ _ _ _ v _ (hO4.below bal) bal.size (HTb.out.below (Below.on B4 bal)) (by have := HTb.out.lt; have := B4.size; omega))
    have HO4 := hide' hO4
    have HB4 := hide' B4
    have Hb4 := hide' b14
    have Hbal := hide' bal
    clear hO4 hB4 b4 b14 B4 bal HT3 B3 Hb3 y0 y1 y2 y3 y4
    go_wp2_with fail
    refine hI4.out.mono ?_
    rintro e w5 ⟨rfl, b5⟩
    have hx5 : w5.heap[w4.heap.size]? = some (.cells #[.int .i64 xk, .int .i64 xn, .slice s2 m2 q2, .slice s3 m3 q3, .slice s4 m4 q4] 31) := box_row b5
    have b15 := Below.on (Below.on Hb4.out Hbal.out) b5
    have b45 := Below.on Hbal.out b5
    have B5 := Below.on HB4.out b45
    have hz5 : w4.heap.size < w5.heap.size := (Array.getElem?_eq_some_iff.1 hx5).1
    obtain ⟨y0, y1, y2, y3, y4, _⟩ := row5 (Hbox.out _ _ b15)
    obtain ⟨v0, v1, v2, v3, v4, _⟩ := row5 hx5
    have HTd : Hid (Calls Tryd.prog 7 #[.agg #[.int .i64 ck, .int .i64 cn, .slice a2 l2 p2, .slice a3 l3 p3, .slice a4 l4 p4]] w5.drew fun e w6 => ∃ z0 z1 z2 z3 z4, e = .returned (.agg #[z0, z1, z2, z3, z4]) ∧
        (w6.cell? ⟨w4.heap.size, 0, none⟩ = some (.int .i64 xk) ∧ w6.cell? ⟨w4.heap.size, 1, none⟩ = some (.int .i64 xn) ∧ w6.cell? ⟨w4.heap.size, 2, none⟩ = some (.slice s2 m2 q2) ∧ w6.cell? ⟨w4.heap.size, 3, none⟩ = some (.slice s3 m3 q3) ∧ w6.cell? ⟨w4.heap.size, 4, none⟩ = some (.slice s4 m4 q4)) ∧
        Hid (Calls Tryd.prog 9 #[.agg #[.int .i64 xk, .int .i64 xn, .slice s2 m2 q2, .slice s3 m3 q3, .slice s4 m4 q4], .agg #[z0, z1, z2, z3, z4]] w6 fun e w7 => e = .returned (.bool true) ∧ Below w.heap.size w w7)) := by
      refine (HT.out w5.drew B5.drew).mono ?_
      rintro e w6 ⟨z0, z1, z2, z3, z4, rfl, B6, hO6, hB6, b6⟩
      have hx6 := (b6.block w4.heap.size hz5).trans hx5
      obtain ⟨f0, f1, f2, f3, f4, _⟩ := row5 hx6
      have b46 : Below w4.heap.size w4 w6 := Below.on b45.drew b6
      have B6' : Below w.heap.size w w6 := Below.on B5.drew b6
      refine ⟨z0, z1, z2, z3, z4, rfl, ⟨f0, f1, f2, f3, f4⟩, ?_⟩
      exact (HEq.out w6.heap.size (.int .i64 xk, .int .i64 xn, .slice s2 m2 q2, .slice s3 m3 q3, .slice s4 m4 q4) (z0, z1, z2, z3, z4) w6 (VSeg.mono (fun b hb => Nat.lt_of_lt_of_le hb b46.size) d (HO4.out.below b46)) (hO6.below (Below.refl _ _)) (Nat.le_refl _)).mono fun e w7 h => ⟨h.1, Below.on B6' h.2⟩
    have Hx5 := hide' hx5
    have Hb45 := hide' b45
    have HB5 := hide' B5
    clear hI4 hx5 b5 b15 b45 B5 Hbal HB4 Hb4
    generalize ansEP d v = ok at *
    go_wp2_with fail
    go_region_with (first
      | (go_at_call 7; refine HTd.out.mono ?_; rintro e w6 ⟨z0, z1, z2, z3, z4, rfl, ⟨f0, f1, f2, f3, f4⟩, hE6⟩)
      | (go_at_call 9; refine hE6.out.mono ?_; rintro e w7 ⟨rfl, B7⟩))
    all_goals
      go_wp2
      go_ret
      exact ⟨rfl, B7⟩
end Go.Proofs.YtjofejjfjnkbhaaDoor
/-
  What the row lists of the table of shapes: its cells.
-/
namespace Go.Proofs.YtjofejjfjnkbhaaDoor
open Go.RowKit
set_option linter.unusedVariables false
set_option linter.unusedSimpArgs false
set_option maxRecDepth 100000

/-- A shape as the row lists it. -/
def shpF {H : Type} (i : Nat) : DataW H := .agg [.lit (.int .i64 (mostI i)), .lit (.int .i64 (saysI i)), .lit (.bool (decide (i = 5))), .lit (.int .i64 (arI i))]

theorem shapes_eq : (Rows.laid_loop_example_g00407_impl_shapes : DataW Unit) = .agg ((List.range 24).map shpF) := by kernel_rfl

theorem cellsShp : Tryd.prog.cellsOf 62 = 4 := by kernel_rfl
theorem cellsShps : Tryd.prog.cellsOf 63 = 96 := by kernel_rfl
theorem cells3 : Tryd.prog.cellsOf 3 = 1 := by kernel_rfl
theorem cells4 : Tryd.prog.cellsOf 4 = 1 := by kernel_rfl

theorem shp_row {H : Type} {enc : TypeId × Value → H} {w : World} {base : Nat} {sp : Nat → Bool} {held : Bool} {fuel : Nat} {cs : List Value} {i : Nat} {p : List MemPlace} (h : DataW.trod enc Tryd.prog w base sp held fuel 62 cs = some (shpF i, p)) :
    cs = [.int .i64 (mostI i), .int .i64 (saysI i), .bool (decide (i = 5)), .int .i64 (arI i)] := by
  cases fuel with
  | zero => simp [DataW.trod] at h
  | succ fuel =>
    unfold DataW.trod at h
    rw [Tryd.underlying62] at h
    simp only [cellsShp] at h
    split at h
    · next hlen =>
      match cs, hlen with
      | [c0, c1, c2, c3], _ =>
        simp [cells3, cells4, List.mapM_cons, Option.bind_eq_some_iff] at h
        obtain ⟨a0, b0, h0, _, ⟨a1, b1, h1, _, ⟨a2, b2, h2, _, ⟨a3, b3, h3, rfl⟩, rfl⟩, rfl⟩, hE, _⟩ := h
        obtain ⟨n0, e0, x0, _⟩ := DataW.trod_int Tryd.underlying3 h0
        obtain ⟨n1, e1, x1, _⟩ := DataW.trod_int Tryd.underlying3 h1
        obtain ⟨n2, e2, x2⟩ := DataW.trod_bool Tryd.underlying4 h2
        obtain ⟨n3, e3, x3, _⟩ := DataW.trod_int Tryd.underlying3 h3
        simp at e0 e1 e2 e3 x0 x1 x2 x3
        obtain ⟨rfl, _⟩ := x0
        obtain ⟨rfl, _⟩ := x1
        obtain ⟨rfl, _⟩ := x2
        obtain ⟨rfl, _⟩ := x3
        simp [shpF] at hE
        obtain ⟨f0, f1, f2, f3⟩ := hE
        rw [e0, e1, e2, e3, f0, f1, f2, f3]
    · simp at h

theorem shpT_of_laid {r : List (String × DataW Unit)} {w : World} (h : laidMet Tryd.prog (("loop.example/g00407/impl.shapes", Rows.laid_loop_example_g00407_impl_shapes) :: r) w) : ShpT w := by
  obtain ⟨ps, ⟨g', t', cs, fuel, p, q, hg', ht', hvar, hd, _, _⟩, _⟩ := h
  have hg : Tryd.prog.globalNamed "loop.example/g00407/impl.shapes" = some 0 := by kernel_rfl
  have hty : (Tryd.prog.globals[0]?).map (·.type) = some 63 := by kernel_rfl
  obtain rfl := Option.some.inj (hg.symm.trans hg')
  obtain rfl := Option.some.inj (hty.symm.trans ht')
  rw [shapes_eq] at hd
  cases fuel with
  | zero => simp [DataW.trod] at hd
  | succ fuel =>
    unfold DataW.trod at hd
    rw [Tryd.underlying63] at hd
    simp only [cellsShp, cellsShps] at hd
    split at hd
    · rename_i hl
      obtain ⟨xs, hm, hx⟩ := Option.map_eq_some_iff.1 hd
      have hxs : xs.map (·.1) = (List.range 24).map shpF := by
        have := congrArg Prod.fst hx
        simpa using this
      intro k hk
      obtain ⟨b, hb, hf⟩ := Lib.mapM_at hm k k (by simp [hk])
      have h2 : (xs.map (·.1))[k]? = some (shpF k : DataW Unit) := by rw [hxs]; simp [hk]
      have h3 : b.1 = shpF k := by simpa [hb] using h2
      obtain ⟨b1, b2⟩ := b
      simp only at h3
      subst h3
      have hrow := shp_row hf
      have hc : ∀ j, j < 4 → w.cell? ⟨0, k * 4 + j, none⟩ = [.int .i64 (mostI k), .int .i64 (saysI k), .bool (decide (k = 5)), .int .i64 (arI k)][j]? := by
        intro j hj
        rw [World.var?_cell hg hvar, ← hrow]
        simp [List.getElem?_take, List.getElem?_drop, hj]
      exact ⟨hc 0 (by omega), hc 1 (by omega), hc 2 (by omega), hc 3 (by omega)⟩
    · simp at hd
end Go.Proofs.YtjofejjfjnkbhaaDoor
/-
  A text that came in, as its reading has it, can be read: 'TSeg'.
-/
namespace Go.Proofs.YtjofejjfjnkbhaaDoor
open Go.ChangeShapes Go.WideShapes Go.ChangeAt Go.RowKit
set_option linter.unusedVariables false
set_option linter.unusedSimpArgs false
set_option maxRecDepth 100000

theorem cellsT : Tryd.prog.cellsOf 22 = 1 := by kernel_rfl
theorem cellsI : Tryd.prog.cellsOf 3 = 1 := by kernel_rfl

theorem list_of {α : Type} {Q : Nat → α → Prop} : ∀ n, (∀ i, i < n → ∃ x, Q i x) → ∃ l : List α, l.length = n ∧ ∀ i (h : i < l.length), Q i l[i]
  | 0, _ => ⟨[], rfl, fun i h => by simp at h⟩
  | n + 1, hq => by
    obtain ⟨l, hl, hi⟩ := list_of n (fun i hi => hq i (by omega))
    obtain ⟨x, hx⟩ := hq n (by omega)
    refine ⟨l ++ [x], by simp [hl], fun i h => ?_⟩
    by_cases e : i < l.length
    · rw [List.getElem_append_left e]; exact hi i e
    · have : i = n := by simp at h; omega
      subst this
      rw [List.getElem_append_right (by omega)]
      simpa using hx

variable {H : Type} {enc : TypeId × Value → H} {w : World}

theorem read_text {fuel : Nat} {cs : List Value} {x : DataW H × List MemPlace} (h : DataW.trod enc Tryd.prog w 0 (fun _ => true) true fuel 22 cs = some x) : ∃ u xs, cs = [u] ∧ TSeg (fun b => b < w.heap.size) w u xs := by
  rcases open_ints Tryd.underlying22 Tryd.underlying5 (by kernel_rfl) h with ⟨rfl, _⟩ | ⟨a, len, cap, zs, rfl, _, hl, hm, hz, _, hcell, hwz⟩
  · exact ⟨_, [], rfl, none, 0, rfl, ⟨by simp, .inl rfl⟩, Nat.le_refl _, Nat.zero_le _, fun _ => rfl, by simp⟩
  · obtain ⟨xs, e, hs, h1, h2, h3⟩ := seg_of_row (w := w) (a := some a) (len := len) (cap := cap) (zs := zs) (.inr ⟨a, rfl, hl, hm, by simpa using hz, hcell, hwz⟩)
    subst e
    exact ⟨_, xs, rfl, some a, cap, rfl, hs, h1, h2, h3, hs.lt⟩

end Go.Proofs.YtjofejjfjnkbhaaDoor
/-
  A value that came in, as its reading has it, can be read: 'VSeg'.
-/
namespace Go.Proofs.YtjofejjfjnkbhaaDoor
open Go.ChangeShapes Go.WideShapes Go.ChangeAt Go.RowKit
set_option linter.unusedVariables false
set_option linter.unusedSimpArgs false
set_option maxRecDepth 100000

theorem cellsK : Tryd.prog.cellsOf 23 = 1 := by kernel_rfl
theorem cellsL : Tryd.prog.cellsOf 24 = 1 := by kernel_rfl
theorem cellsV : Tryd.prog.cellsOf 26 = 5 := by kernel_rfl
variable {H : Type} {enc : TypeId × Value → H} {w : World}

theorem read_keys {fuel : Nat} {cs : List Value} {x : DataW H × List MemPlace} (h : DataW.trod enc Tryd.prog w 0 (fun _ => true) true fuel 23 cs = some x) : ∃ u ks, cs = [u] ∧ KSeg (fun b => b < w.heap.size) w u ks := by
  rcases DataW.trod_slice Tryd.underlying23 h with ⟨rfl, _⟩ | ⟨a, len, cap, elems, rest, n, _, rfl, _, hb, hl, hm, hlen, hel, hsp, hns⟩
  · exact ⟨_, [], rfl, none, 0, rfl, Nat.le_refl _, Nat.zero_le _, fun _ => rfl, .inl rfl⟩
  · have hq : ∀ i, i < len → ∃ xs : List Int, ∃ u, w.cell? (a.add i) = some u ∧ TSeg (fun b => b < w.heap.size) w u xs := by
      intro i hi
      have h1 := hel i hi
      rw [cellsT, Nat.mul_one, List.getElem?_eq_getElem (by omega)] at h1
      obtain ⟨cs', hc, ht⟩ := Option.bind_eq_some_iff.1 h1
      obtain ⟨u, xs, rfl, hT⟩ := read_text ht
      exact ⟨xs, u, cell_of_cells?_one hc, hT⟩
    obtain ⟨ks, hkl, hks⟩ := list_of len hq
    subst hkl
    refine ⟨_, ks, rfl, some a, cap, rfl, hl, hm, by simp, ?_⟩
    by_cases he : ks = []
    · exact .inl he
    · have hp : 0 < ks.length := List.length_pos_iff.2 he
      obtain ⟨b, off, spot⟩ := a
      obtain ⟨u0, hu0, _⟩ := hks 0 hp
      have hspot : spot = none := by simpa [Addr.add] using World.cell?_spot hu0
      subst hspot
      refine .inr ⟨b, off, rfl, ?_, fun i hi => ?_⟩
      · have := World.block_lt_of_cell? w _ hu0
        simpa [Addr.add] using this
      · obtain ⟨u, hu, hT⟩ := hks i hi
        rw [Addr.add_lit] at hu
        exact ⟨u, hu, by simpa [List.getD_eq_getElem?_getD, hi] using hT⟩

theorem read_five {fuel : Nat} {cs : List Value} {x : DataW H × List MemPlace} (h : DataW.trod enc Tryd.prog w 0 (fun _ => true) true (fuel + 1) 26 cs = some x) :
    ∃ c0 c1 c2 c3 c4 y0 y1 y2 y3 y4, cs = [c0, c1, c2, c3, c4] ∧ DataW.trod enc Tryd.prog w 0 (fun _ => true) true fuel 3 [c0] = some y0 ∧ DataW.trod enc Tryd.prog w 0 (fun _ => true) true fuel 3 [c1] = some y1 ∧
      DataW.trod enc Tryd.prog w 0 (fun _ => true) true fuel 22 [c2] = some y2 ∧ DataW.trod enc Tryd.prog w 0 (fun _ => true) true fuel 23 [c3] = some y3 ∧ DataW.trod enc Tryd.prog w 0 (fun _ => true) true fuel 24 [c4] = some y4 := by
  unfold DataW.trod at h
  rw [Tryd.underlying26] at h
  simp only [cellsV] at h
  split at h
  · next hlen =>
    match cs, hlen with
    | [c0, c1, c2, c3, c4], _ =>
      simp [cellsT, cellsK, cellsL, cellsI, List.mapM_cons, Option.bind_eq_some_iff] at h
      obtain ⟨a0, b0, h0, _, ⟨a1, b1, h1, _, ⟨a2, b2, h2, _, ⟨a3, b3, h3, _, ⟨a4, b4, h4, _⟩, _⟩, _⟩, _⟩, _⟩ := h
      exact ⟨c0, c1, c2, c3, c4, _, _, _, _, _, rfl, h0, h1, h2, h3, h4⟩
  · simp at h

/-- How deep what is read with that fuel is at most. -/
def dep : Nat → Nat
  | 0 => 0
  | 1 => 0
  | f + 2 => dep f + 1

def ReadAt (enc : TypeId × Value → H) (w : World) (f : Nat) : Prop := ∀ (cs : List Value) (x : DataW H × List MemPlace), DataW.trod enc Tryd.prog w 0 (fun _ => true) true f 26 cs = some x →
  ∃ (c0 c1 c2 c3 c4 : Value) (v : Vl (dep f)), cs = [c0, c1, c2, c3, c4] ∧ VSeg (fun b => b < w.heap.size) w (dep f) (c0, c1, c2, c3, c4) v

theorem read_step (f : Nat) (ih : ReadAt enc w f) : ReadAt enc w (f + 2) := by
  intro cs x h
  obtain ⟨c0, c1, c2, c3, c4, y0, y1, y2, y3, y4, rfl, h0, h1, h2, h3, h4⟩ := read_five h
  obtain ⟨n0, e0, _, _⟩ := DataW.trod_int Tryd.underlying3 h0
  obtain ⟨n1, e1, _, _⟩ := DataW.trod_int Tryd.underlying3 h1
  obtain ⟨u2, xs, e2, hT⟩ := read_text h2
  obtain ⟨u3, ks, e3, hK⟩ := read_keys h3
  simp at e0 e1 e2 e3
  subst e0 e1 e2 e3
  have hL : ∃ l : List (Vl (dep f)), LSeg (fun b => b < w.heap.size) w (dep f) c4 l := by
    rcases DataW.trod_slice Tryd.underlying24 h4 with ⟨e, _⟩ | ⟨a, len, cap, elems, rest, n, hn, e, _, hb, hl, hm, hlen, hel, hsp, hns⟩
    · simp at e
      subst e
      exact ⟨[], none, 0, rfl, Nat.le_refl _, Nat.zero_le _, fun _ => rfl, .inl rfl⟩
    · simp at e
      subst e
      obtain rfl : n = f := by omega
      have hq : ∀ i, i < len → ∃ v : Vl (dep n), ∃ c0 c1 c2 c3 c4, (∀ j, j < 5 → w.cell? ((a.add (i * 5)).add j) = [c0, c1, c2, c3, c4][j]?) ∧ VSeg (fun b => b < w.heap.size) w (dep n) (c0, c1, c2, c3, c4) v := by
        intro i hi
        have h1 := hel i hi
        rw [cellsV, List.getElem?_eq_getElem (by omega)] at h1
        obtain ⟨cs', hc, ht⟩ := Option.bind_eq_some_iff.1 h1
        obtain ⟨d0, d1, d2, d3, d4, v, rfl, hv⟩ := ih cs' _ ht
        exact ⟨v, d0, d1, d2, d3, d4, (World.cells?_some hc).2.2, hv⟩
      obtain ⟨l, hll, hls⟩ := list_of len hq
      subst hll
      refine ⟨l, some a, cap, rfl, hl, hm, by simp, ?_⟩
      by_cases he : l = []
      · exact .inl he
      · have hp : 0 < l.length := List.length_pos_iff.2 he
        obtain ⟨b, off, spot⟩ := a
        obtain ⟨d0, d1, d2, d3, d4, hu0, _⟩ := hls 0 hp
        have hu := hu0 0 (by omega)
        simp [Addr.add] at hu
        have hspot : spot = none := by simpa using World.cell?_spot hu
        subst hspot
        refine .inr ⟨b, off, rfl, World.block_lt_of_cell? w _ hu, fun i hi => ?_⟩
        obtain ⟨d0, d1, d2, d3, d4, hu, hv⟩ := hls i hi
        have e : ∀ j, j < 5 → w.cell? ⟨b, off + i * 5 + j, none⟩ = [d0, d1, d2, d3, d4][j]? := by
          intro j hj
          have := hu j hj
          rw [Addr.add_lit, Addr.add_lit] at this
          exact this
        exact ⟨(d0, d1, d2, d3, d4), ⟨e 0 (by omega), e 1 (by omega), e 2 (by omega), e 3 (by omega), e 4 (by omega)⟩, hv⟩
  obtain ⟨l, hL⟩ := hL
  exact ⟨_, _, _, _, _, (n0, n1, xs, ks, l), rfl, (VSeg_succ _ _ _ _ _).2 ⟨rfl, rfl, hT, hK, hL⟩⟩

theorem read_both (f : Nat) : ReadAt enc w f ∧ ReadAt enc w (f + 1) := by
  induction f with
  | zero =>
    refine ⟨fun cs x h => by simp [DataW.trod] at h, fun cs x h => ?_⟩
    obtain ⟨_, _, _, _, _, _, _, _, _, _, _, h0, _⟩ := read_five h
    simp [DataW.trod] at h0
  | succ f ih => exact ⟨ih.2, read_step f ih.1⟩

/-- A value that came in. -/
theorem read_value {v : Value} {d : DataW H} {ps : List MemPlace} (h : DataW.Trod enc Tryd.prog w 0 (fun _ => true) true 26 v d ps) :
    ∃ c0 c1 c2 c3 c4 n, v = .agg #[c0, c1, c2, c3, c4] ∧ ∃ x : Vl n, VSeg (fun b => b < w.heap.size) w n (c0, c1, c2, c3, c4) x := by
  obtain ⟨fuel, hf⟩ := h
  obtain ⟨c0, c1, c2, c3, c4, x, e, hx⟩ := (read_both fuel).1 _ _ hf
  refine ⟨c0, c1, c2, c3, c4, dep fuel, ?_, x, hx⟩
  cases v <;> simp [Value.cells] at e
  rename_i cs
  cases cs
  simp at e
  simp [e]
end Go.Proofs.YtjofejjfjnkbhaaDoor
