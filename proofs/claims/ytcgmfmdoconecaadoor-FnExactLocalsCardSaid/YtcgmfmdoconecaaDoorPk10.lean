/-
  Texts that a law leans on, one behind the other; no statement is proved here.
-/
import Derived.Test.YtcgmfmdoconecaaDoorPk8
import Derived.Test.YtcgmfmdoconecaaDoorPk9
import Derived.Test.YtcgmfmdoconecaaDoorPk5
import Derived.Test.YtcgmfmdoconecaaDoorPk6
import Derived.Test.YtcgmfmdoconecaaDoorPk7
import Derived.Test.YtcgmfmdoconecaaDoorPk1
/-
  l6expr and ExprOk of the specification, at every expression.
-/
namespace Go.Proofs.YtcgmfmdoconecaaDoor
open Go.RowKit
set_option linter.unusedVariables false
set_option linter.unusedSimpArgs false

theorem okE_leaf {d : Nat} {vk vn : Int} {vs : List Int} {deep : Nat} {left : Int} (h1 : deep ≤ 10) (h2 : shpB vk vn vs [] 0 = true) (h4 : 1 ≤ left) : okE (d + 1) (vk, vn, vs, [], []) deep left = left - 1 := by
  have := okE_all (d := d) (vL := []) (deep := deep) (left := left) h1 (by simpa using h2) (by intro j h; simp at h) (by simp [pre]; omega)
  simpa [pre] using this

theorem arI_bound (k : Int) : -1 ≤ arI k ∧ arI k ≤ 3 := by
  unfold arI
  split
  · omega
  split
  · omega
  split
  · omega
  split <;> omega

set_option maxHeartbeats 1600000 in
set_option maxRecDepth 100000 in
theorem l6expr_out (k n : Int) (c2 c3 c4 : Value) (deep : Nat) (left : Int) (w : World) (h0 : 0 ≤ left) (h2 : left ≤ 150) (h : left < 1 ∨ 10 < deep ∨ k < 0 ∨ 23 < k) (hd : deep ≤ 11) :
    Calls Tryd.prog 31 #[.agg #[.int .i64 k, .int .i64 n, c2, c3, c4], .int .i64 deep, .int .i64 left] w fun e w' => e = .returned (.int .i64 (-1)) ∧ Below w.heap.size w w' := by
  have b0 : ∀ o : Obj, Below w.heap.size w (w.alloc o) := fun o => (Below.refl _ _).alloc (Nat.le_refl _) o
  have Hb := hide' b0
  clear b0
  by_cases q1 : left - 1 < 0
  · go_enter Tryd.func31, Tryd.ntmps31
    go_wp2
    go_ret
    exact ⟨rfl, Hb.out _⟩
  by_cases q2 : (10 : Int) < (deep : Int)
  · go_enter Tryd.func31, Tryd.ntmps31
    go_wp2
    go_ret
    exact ⟨rfl, Hb.out _⟩
  by_cases q3 : k < 0
  · go_enter Tryd.func31, Tryd.ntmps31
    go_wp2
    go_ret
    exact ⟨rfl, Hb.out _⟩
  have q4 : (23 : Int) < k := by omega
  go_enter Tryd.func31, Tryd.ntmps31
  go_wp2
  go_ret
  exact ⟨rfl, Hb.out _⟩

theorem shp_out {vk vn : Int} {vs : List Int} {vK : List (List Int)} {nL : Nat} (h : vk < 0 ∨ 23 < vk) : shpB vk vn vs vK nL = false := by
  rcases h with h | h
  · have h1 : ¬ (0 : Int) ≤ vk := by omega
    simp [shpB, h1]
  · have h1 : ¬ vk ≤ 23 := by omega
    simp [shpB, h1]

/-- A part by itself, of what is asked ahead of its kids and of its keys' order. -/
theorem shp_hd (vk vn : Int) (k0 : 0 ≤ vk) (k23 : vk ≤ 23) (vs : List Int) (vK : List (List Int)) (nL : Nat) : shpB vk vn vs vK nL = (hdR (decide (vk = 5)) (arI vk) (mostI vk) vn vK.length nL (saysB (saysI vk) vs) && (!decide (vk = 5) || ascB vK)) := by
  by_cases h : vk = 5
  · subst h
    simp [shpB, hdR, keysB, kidsB]
    cases decide (vK.length = nL) <;> cases ascB vK <;> cases decide (0 ≤ vn) <;> cases decide (vn ≤ mostI 5) <;> simp
  · simp [shpB, hdR, keysB, kidsB, h, k0, k23]

theorem hdR_true {kb : Bool} {q m n : Int} {l3 l4 : Nat} {sb : Bool} (h : hdR kb q m n l3 l4 sb = true) : (if kb then decide (l3 = l4) else decide (l3 = 0)) = true ∧ (q = -1 ∨ q = l4) ∧ 0 ≤ n ∧ n ≤ m ∧ sb = true := by
  unfold hdR at h
  simp only [Bool.and_eq_true, Bool.or_eq_true, decide_eq_true_eq] at h
  obtain ⟨⟨⟨⟨a, b⟩, c⟩, d⟩, e⟩ := h
  exact ⟨a, b, c, d, e⟩

set_option maxHeartbeats 1600000 in
theorem l6expr_succ (d : Nat) (ih : E6At d) : E6At (d + 1) := by
  intro N c v deep left w hv hN hd h0 h1
  obtain ⟨c0, c1, c2, c3, c4⟩ := c
  obtain ⟨vk, vn, vs, vK, vL⟩ := v
  obtain ⟨e0, e1, ht, hk, hl⟩ := (VSeg_succ _ _ _ _ _).1 hv
  simp only at e0 e1 ht hk hl
  subst e0
  subst e1
  clear hv
  simp only
  have HK := hk
  have HL := hl
  obtain ⟨a2, p2, rfl, s2, l2, m2, _, _⟩ := ht
  obtain ⟨a3, p3, rfl, l3, m3, _, _⟩ := hk
  obtain ⟨a4, p4, rfl, l4, m4, _, _⟩ := hl
  by_cases q0 : left < 1 ∨ 10 < deep ∨ vk < 0 ∨ 23 < vk
  · refine (l6expr_out vk vn _ _ _ deep left w h0 h1 q0 hd).mono fun e w' h => ⟨h.1.trans (ret_i64 ?_), h.2⟩
    rcases q0 with q | q | q | q
    · exact (okE_left _ deep q).symm
    · exact (okE_deep _ left q).symm
    · exact (okE_shape deep left (shp_out (.inl q))).symm
    · exact (okE_shape deep left (shp_out (.inr q))).symm
  have hL1 : 1 ≤ left := by omega
  have hD1 : deep ≤ 10 := by omega
  have k0 : 0 ≤ vk := by omega
  have k23' : vk ≤ 23 := by omega
  clear q0
  have m2' : vs.length ≤ maxLen := by omega
  have m3' : vK.length ≤ maxLen := by omega
  have m4' : vL.length ≤ maxLen := by omega
  have hsh := shp_hd vk vn k0 k23' vs vK vL.length
  cases hb : hdR (decide (vk = 5)) (arI vk) (mostI vk) vn vK.length vL.length (saysB (saysI vk) vs) with
  | false =>
    rw [hb] at hsh
    simp only [Bool.false_and] at hsh
    have hno := okE_shape (d := d) (vL := vL) deep left hsh
    have fin : ∀ (e : Ending) (w' : World), (e = .returned (.int .i64 (-1)) ∧ Below w.heap.size w w') → (e = .returned (.int .i64 (okE (d + 1) (vk, vn, vs, vK, vL) deep left)) ∧ Below w.heap.size w w') := fun e w' h => ⟨h.1.trans (ret_i64 hno.symm), h.2⟩
    by_cases k1 : vk = 1
    · subst k1
      exact (l6bad_c1 vn a2 a3 a4 p2 p3 p4 _ _ vs deep left w hL1 h1 hD1 s2 m2' m3' m4' hb).mono fin
    by_cases k2 : vk = 2
    · subst k2
      exact (l6bad_c2 vn a2 a3 a4 p2 p3 p4 _ _ vs deep left w hL1 h1 hD1 s2 m2' m3' m4' hb).mono fin
    by_cases k3 : vk = 3
    · subst k3
      exact (l6bad_c3 vn a2 a3 a4 p2 p3 p4 _ _ vs deep left w hL1 h1 hD1 s2 m2' m3' m4' hb).mono fin
    by_cases k4 : vk = 4
    · subst k4
      exact (l6bad_c4 vn a2 a3 a4 p2 p3 p4 _ _ vs deep left w hL1 h1 hD1 s2 m2' m3' m4' hb).mono fin
    by_cases k5 : vk = 5
    · subst k5
      exact (l6bad_c5 vn a2 a3 a4 p2 p3 p4 _ _ vs deep left w hL1 h1 hD1 s2 m2' m3' m4' hb).mono fin
    by_cases k6 : vk = 6
    · subst k6
      exact (l6bad_c6 vn a2 a3 a4 p2 p3 p4 _ _ vs deep left w hL1 h1 hD1 s2 m2' m3' m4' hb).mono fin
    by_cases k7 : vk = 7
    · subst k7
      exact (l6bad_c7 vn a2 a3 a4 p2 p3 p4 _ _ vs deep left w hL1 h1 hD1 s2 m2' m3' m4' hb).mono fin
    by_cases k8 : vk = 8
    · subst k8
      exact (l6bad_c8 vn a2 a3 a4 p2 p3 p4 _ _ vs deep left w hL1 h1 hD1 s2 m2' m3' m4' hb).mono fin
    by_cases k23 : vk = 23
    · subst k23
      exact (l6bad_c23 vn a2 a3 a4 p2 p3 p4 _ _ vs deep left w hL1 h1 hD1 s2 m2' m3' m4' hb).mono fin
    · refine (l6bad_other vk k0 k23' k1 k2 k3 k4 k5 k6 k7 k8 k23 vn a2 a3 a4 p2 p3 p4 vs.length _ _ deep left w hL1 h1 hD1 m2' m3' m4' (arI_bound vk) ?_).mono fin
      simpa [mostI, saysI, saysB, k1, k2, k3, k5, k6, k7, k8, k23] using hb
  | true =>
    rw [hb] at hsh
    simp only [Bool.true_and] at hsh
    obtain ⟨fK, fq, fn0, fn1, fs⟩ := hdR_true hb
    have nil3 : ¬ vk = 5 → vK = [] := fun h => by
      rw [decide_eq_false h] at fK
      exact List.eq_nil_of_length_eq_zero (by simpa using fK)
    have hsh5 : ¬ vk = 5 → shpB vk vn vs vK vL.length = true := fun h => by rw [hsh, decide_eq_false h]; rfl
    by_cases k1 : vk = 1
    · subst k1
      obtain rfl : vK = [] := nil3 (by omega)
      have fq' : (0 : Int) = -1 ∨ (0 : Int) = vL.length := fq
      obtain rfl : vL = [] := List.eq_nil_of_length_eq_zero (by omega)
      have fs' : decide (vs.length = 0) = true := fs
      obtain rfl : vs = [] := List.eq_nil_of_length_eq_zero (by simpa using fs')
      exact (l6leaf_c1 vn fn0 fn1 a2 a3 a4 p2 p3 p4 deep left w hL1 h1 hD1).mono fun e w' h => ⟨h.1.trans (ret_i64 (okE_leaf hD1 (hsh5 (by omega)) hL1).symm), h.2⟩
    by_cases k2 : vk = 2
    · subst k2
      obtain rfl : vK = [] := nil3 (by omega)
      have fq' : (0 : Int) = -1 ∨ (0 : Int) = vL.length := fq
      obtain rfl : vL = [] := List.eq_nil_of_length_eq_zero (by omega)
      have fs' : decide (vs.length = 0) = true := fs
      obtain rfl : vs = [] := List.eq_nil_of_length_eq_zero (by simpa using fs')
      exact (l6leaf_c2 vn fn0 fn1 a2 a3 a4 p2 p3 p4 deep left w hL1 h1 hD1).mono fun e w' h => ⟨h.1.trans (ret_i64 (okE_leaf hD1 (hsh5 (by omega)) hL1).symm), h.2⟩
    by_cases k3 : vk = 3
    · subst k3
      obtain rfl : vK = [] := nil3 (by omega)
      have fq' : (0 : Int) = -1 ∨ (0 : Int) = vL.length := fq
      obtain rfl : vL = [] := List.eq_nil_of_length_eq_zero (by omega)
      have fn1' : vn ≤ 0 := fn1
      obtain rfl : vn = 0 := by omega
      exact (l6leaf_c3 a2 a3 a4 p2 p3 p4 vs deep left w hL1 h1 hD1 s2 m2' fs).mono fun e w' h => ⟨h.1.trans (ret_i64 (okE_leaf hD1 (hsh5 (by omega)) hL1).symm), h.2⟩
    by_cases k6 : vk = 6
    · subst k6
      obtain rfl : vK = [] := nil3 (by omega)
      have fq' : (0 : Int) = -1 ∨ (0 : Int) = vL.length := fq
      obtain rfl : vL = [] := List.eq_nil_of_length_eq_zero (by omega)
      have fn1' : vn ≤ 0 := fn1
      obtain rfl : vn = 0 := by omega
      exact (l6leaf_c6 a2 a3 a4 p2 p3 p4 vs deep left w hL1 h1 hD1 s2 m2' fs).mono fun e w' h => ⟨h.1.trans (ret_i64 (okE_leaf hD1 (hsh5 (by omega)) hL1).symm), h.2⟩
    by_cases k7 : vk = 7
    · subst k7
      obtain rfl : vK = [] := nil3 (by omega)
      have fq' : (0 : Int) = -1 ∨ (0 : Int) = vL.length := fq
      obtain rfl : vL = [] := List.eq_nil_of_length_eq_zero (by omega)
      have fn1' : vn ≤ 0 := fn1
      obtain rfl : vn = 0 := by omega
      exact (l6leaf_c7 a2 a3 a4 p2 p3 p4 vs deep left w hL1 h1 hD1 s2 m2' fs).mono fun e w' h => ⟨h.1.trans (ret_i64 (okE_leaf hD1 (hsh5 (by omega)) hL1).symm), h.2⟩
    by_cases k5 : vk = 5
    · subst k5
      have fn1' : vn ≤ 0 := fn1
      obtain rfl : vn = 0 := by omega
      have fs' : decide (vs.length = 0) = true := fs
      obtain rfl : vs = [] := List.eq_nil_of_length_eq_zero (by simpa using fs')
      exact l6loop_c5 d ih N vK vL _ _ _ _ deep left w HK HL hN hL1 h1 hD1
    obtain rfl : vK = [] := nil3 k5
    have hsh6 := hsh5 k5
    have fn1' : vn ≤ 0 := by
      have := fn1
      simp only [mostI, k1, k2, if_false] at this
      exact this
    obtain rfl : vn = 0 := by omega
    by_cases k4 : vk = 4
    · subst k4
      have fs' : decide (vs.length = 0) = true := fs
      obtain rfl : vs = [] := List.eq_nil_of_length_eq_zero (by simpa using fs')
      exact l6loop_c4 d ih N vL _ _ _ _ _ deep left w HL hN hL1 h1 hD1 hsh6
    by_cases k8 : vk = 8
    · subst k8
      have fq' : (1 : Int) = -1 ∨ (1 : Int) = vL.length := fq
      exact l6loop_c8 d ih N vL _ _ _ _ _ vs deep left w HL hN hL1 h1 hD1 s2 m2' fs (by omega) hsh6
    by_cases k23 : vk = 23
    · subst k23
      have fs' : (nameB vs && !keptB vs) = true := fs
      simp at fs'
      exact l6loop_c23 d ih N vL _ _ _ _ _ vs deep left w HL hN hL1 h1 hD1 s2 m2' fs'.1 fs'.2 hsh6
    · have fs' : vs = [] := by
        have := fs
        simp only [saysI, saysB, k3, k6, k7, k8, k23, if_false, or_false] at this
        exact List.eq_nil_of_length_eq_zero (by simpa using this)
      subst fs'
      have hq : arI vk = vL.length := by
        rcases fq with h | h
        · exfalso
          have : ¬ (vk = 4 ∨ vk = 5 ∨ vk = 23) := by omega
          simp only [arI, this, if_false] at h
          split at h
          · omega
          split at h
          · omega
          split at h <;> omega
        · exact h
      exact l6loop_other d ih N vk k0 k23' k1 k2 k3 k4 k5 k6 k7 k8 k23 vL _ _ _ _ _ deep left w HL hN hL1 h1 hD1 hq hsh6

theorem l6expr_any (d : Nat) : E6At d := by
  induction d with
  | zero => intro N c v deep left w hv; exact hv.elim
  | succ d ih => exact l6expr_succ d ih

end Go.Proofs.YtcgmfmdoconecaaDoor
/-
  ExprOk of the specification, at every expression.
-/
namespace Go.Proofs.YtcgmfmdoconecaaDoor
open Go.RowKit
set_option linter.unusedVariables false
set_option linter.unusedSimpArgs false

set_option maxHeartbeats 1600000 in
theorem spec_ExprOk_any (d N : Nat) (c0 c1 c2 c3 c4 : Value) (v : Vl d) (w : World) (hv : VSeg (fun b => b < N) w d (c0, c1, c2, c3, c4) v) (hN : N ≤ w.heap.size) :
    Calls Tryd.prog 19 #[.agg #[c0, c1, c2, c3, c4]] w fun e w' => e = .returned (.bool (exprB d v)) ∧ Below w.heap.size w w' := by
  have b0 : ∀ o : Obj, Below w.heap.size w (w.alloc o) := fun o => (Below.refl _ _).alloc (Nat.le_refl _) o
  have HC : Hid (∀ o : Obj, Calls Tryd.prog 31 #[.agg #[c0, c1, c2, c3, c4], .int .i64 1, .int .i64 150] (w.alloc o) fun e w' => e = .returned (.int .i64 (okE d v 1 150)) ∧ Below (w.alloc o).heap.size (w.alloc o) w') := fun o =>
    l6expr_any d N (c0, c1, c2, c3, c4) v 1 150 (w.alloc o) (VSeg.agree (agree_below ((b0 o).mono hN)) d hv) (by have := (b0 o).size; omega) (by omega) (by omega) (by omega)
  have Hb := hide' b0
  have hq := okE_exprB d v
  clear b0
  cases hb : exprB d v with
  | true =>
    obtain ⟨h1, h2⟩ := hq.1 hb
    generalize okE d v 1 150 = q at *
    clear hq hb
    go_enter Tryd.func19, Tryd.ntmps19
    go_wp2_with fail
    refine (HC.out _).mono ?_
    rintro e w1 ⟨rfl, b1⟩
    have B1 := Below.on (Hb.out _) b1
    clear b1
    go_wp2
    go_ret
    exact ⟨rfl, B1⟩
  | false =>
    have h1 := hq.2 hb
    rw [h1] at HC
    clear hq hb h1
    go_enter Tryd.func19, Tryd.ntmps19
    go_wp2_with fail
    refine (HC.out _).mono ?_
    rintro e w1 ⟨rfl, b1⟩
    have B1 := Below.on (Hb.out _) b1
    clear b1
    go_wp2
    go_ret
    exact ⟨rfl, B1⟩
end Go.Proofs.YtcgmfmdoconecaaDoor
/-
  l4ownAddrs of the specification: texts copied, each of the call's own; Uses and Locals of the specification.
-/
namespace Go.Proofs.YtcgmfmdoconecaaDoor
open Go.RowKit
set_option linter.unusedVariables false
set_option linter.unusedSimpArgs false

/-- What Uses and Locals leave. -/
def UEnd (k : Int) (d : Nat) (v : Vl d) (w : World) (e : Ending) (w' : World) : Prop := ∃ u, e = .returned u ∧ ∃ B, KOwn w' u (namesE k d v) B ∧ (∀ b ∈ B, w.heap.size ≤ b ∧ b < w'.heap.size) ∧ Below w.heap.size w w'

theorem names_len {k : Int} (hk : k = 6 ∨ k = 7) {d : Nat} {v : Vl d} (h : exprB d v = true) : ((rawN k d v).foldl insN []).length ≤ 150 ∧ ∀ i, i < ((rawN k d v).foldl insN []).length → (((rawN k d v).foldl insN []).getD i []).length ≤ 8 := by
  simp only [exprB, Bool.and_eq_true, decide_eq_true_eq] at h
  constructor
  · have h1 := fold_len (rawN k d v) []
    have h2 := rawN_len k d v
    simp at h1
    omega
  · intro i hi
    have hm : ((rawN k d v).foldl insN []).getD i [] ∈ (rawN k d v).foldl insN [] := by
      rw [List.getD_eq_getElem?_getD, List.getElem?_eq_getElem hi]
      exact List.getElem_mem hi
    rcases mem_fold _ _ _ hm with h1 | h1
    · have := raw_names k hk d v 1 h.1 _ h1
      simp only [nameB, Bool.and_eq_true, decide_eq_true_eq] at this
      exact this.1.2
    · simp at h1

set_option maxHeartbeats 2000000 in
set_option maxRecDepth 100000 in
theorem spec_Uses_any (d N : Nat) (c0 c1 c2 c3 c4 : Value) (v : Vl d) (w : World) (hv : VSeg (fun b => b < N) w d (c0, c1, c2, c3, c4) v) (hN : N ≤ w.heap.size) :
    Calls Tryd.prog 6 #[.agg #[c0, c1, c2, c3, c4]] w (UEnd 7 d v w) := by
  have b0 : ∀ o : Obj, Below w.heap.size w (w.alloc o) := fun o => (Below.refl _ _).alloc (Nat.le_refl _) o
  have HE : Hid (∀ o : Obj, Calls Tryd.prog 19 #[.agg #[c0, c1, c2, c3, c4]] (w.alloc o) fun e w' => e = .returned (.bool (exprB d v)) ∧ Below (w.alloc o).heap.size (w.alloc o) w') := fun o => spec_ExprOk_any d N c0 c1 c2 c3 c4 v _ (VSeg.agree (agree_below ((b0 o).mono hN)) d hv) (by simp; omega)
  have HV : Hid (∀ wx, Below w.heap.size w wx → VSeg (fun b => b < N) wx d (c0, c1, c2, c3, c4) v) := fun wx hb => VSeg.agree (agree_below (hb.mono hN)) d hv
  have Hb := hide' b0
  obtain ⟨ck, cn, a2, l2, p2, a3, l3, p3, a4, l4, p4, rfl, rfl, rfl, rfl, rfl⟩ := VSeg.form d hv
  clear b0 hv
  by_cases hok : exprB d v = true
  · obtain ⟨n1, n2⟩ := names_len (k := 7) (by omega) hok
    have hn : Hid (namesE 7 d v = (rawN 7 d v).foldl insN []) := if_pos hok
    have hp : partsE d v ≤ 150 := by simp only [exprB, Bool.and_eq_true, decide_eq_true_eq] at hok; exact hok.2
    have HN : Hid (∀ wx, Below w.heap.size w wx → Calls Tryd.prog 21 #[.agg #[.int .i64 ck, .int .i64 cn, .slice a2 l2 p2, .slice a3 l3 p3, .slice a4 l4 p4], .int .i64 7, .slice none 0 0] wx fun e w' => ∃ y, e = .returned y ∧ NR N w' w.heap.size y ((rawN 7 d v).foldl insN []) ∧ Below wx.heap.size wx w') := fun wx hb =>
      l6names_any 7 d N w.heap.size _ [] (.int .i64 ck, .int .i64 cn, .slice a2 l2 p2, .slice a3 l3 p3, .slice a4 l4 p4) v wx (HV.out wx hb) hN hb.size (NR.nil _ _ _) (by simp; omega)
    have HO : Hid (∀ y wx, Below w.heap.size w wx → NR N wx w.heap.size y ((rawN 7 d v).foldl insN []) → Calls Tryd.prog 20 #[y] wx fun e w' => ∃ u, e = .returned u ∧ ∃ B, KOwn w' u ((rawN 7 d v).foldl insN []) B ∧ (∀ b ∈ B, wx.heap.size ≤ b ∧ b < w'.heap.size) ∧ Below wx.heap.size wx w') := fun y wx hb hR =>
      l4ownAddrs_any N w.heap.size y _ wx hR (by have := hb.size; omega) (by omega) (fun i hi => by have := n2 i hi; omega)
    rw [hok] at HE
    clear n1 n2 hp hok HV
    go_enter Tryd.func6, Tryd.ntmps6
    go_wp2_with fail
    refine (HE.out _).mono ?_
    rintro e w1 ⟨rfl, b1⟩
    obtain ⟨y0, y1, y2, y3, y4, _⟩ := row5 (box_row b1)
    have B1 := Below.on (Hb.out _) b1
    have HN1 := hide' (HN.out w1 B1)
    clear b1 HE
    go_wp2_with fail
    refine HN1.out.mono ?_
    rintro e w2 ⟨y, rfl, hR2, b2⟩
    have B2 := Below.on B1 b2
    have HO2 := hide' (HO.out y w2 B2 hR2)
    obtain ⟨ya, yc, rfl⟩ := hR2.shape
    generalize hlen : ((rawN 7 d v).foldl insN []).length = ln at *
    clear b2 hR2 HN1 y0 y1 y2 y3 y4
    go_wp2_with fail
    refine HO2.out.mono ?_
    rintro e w3 ⟨u, rfl, B, hK, hB, b3⟩
    have hz := B2.size
    have hus : ∃ a n c, u = .slice a n c := by rcases hK with ⟨rfl, _⟩ | ⟨g, cap, cur, Bs, rfl, _⟩ <;> exact ⟨_, _, _, rfl⟩
    have HF : Hid (UEnd 7 d v w (.returned u) w3) := ⟨u, rfl, B, by rw [hn.out]; exact hK, fun b hb => by have := hB b hb; omega, Below.on B2 b3⟩
    obtain ⟨_, _, _, rfl⟩ := hus
    clear hK hB b3 HO2
    go_wp2
    go_ret
    exact HF.out
  · have hno : exprB d v = false := by simpa using hok
    have hn : Hid (namesE 7 d v = []) := if_neg hok
    rw [hno] at HE
    clear hno hok HV
    go_enter Tryd.func6, Tryd.ntmps6
    go_wp2_with fail
    refine (HE.out _).mono ?_
    rintro e w1 ⟨rfl, b1⟩
    have B1 := Below.on (Hb.out _) b1
    clear b1 HE
    go_wp2
    go_ret
    exact ⟨_, rfl, [], by rw [hn.out]; exact kNilE _, by simp, B1⟩

set_option maxHeartbeats 2000000 in
set_option maxRecDepth 100000 in
theorem spec_Locals_any (d N : Nat) (c0 c1 c2 c3 c4 : Value) (v : Vl d) (w : World) (hv : VSeg (fun b => b < N) w d (c0, c1, c2, c3, c4) v) (hN : N ≤ w.heap.size) :
    Calls Tryd.prog 14 #[.agg #[c0, c1, c2, c3, c4]] w (UEnd 6 d v w) := by
  have b0 : ∀ o : Obj, Below w.heap.size w (w.alloc o) := fun o => (Below.refl _ _).alloc (Nat.le_refl _) o
  have HE : Hid (∀ o : Obj, Calls Tryd.prog 19 #[.agg #[c0, c1, c2, c3, c4]] (w.alloc o) fun e w' => e = .returned (.bool (exprB d v)) ∧ Below (w.alloc o).heap.size (w.alloc o) w') := fun o => spec_ExprOk_any d N c0 c1 c2 c3 c4 v _ (VSeg.agree (agree_below ((b0 o).mono hN)) d hv) (by simp; omega)
  have HV : Hid (∀ wx, Below w.heap.size w wx → VSeg (fun b => b < N) wx d (c0, c1, c2, c3, c4) v) := fun wx hb => VSeg.agree (agree_below (hb.mono hN)) d hv
  have Hb := hide' b0
  obtain ⟨ck, cn, a2, l2, p2, a3, l3, p3, a4, l4, p4, rfl, rfl, rfl, rfl, rfl⟩ := VSeg.form d hv
  clear b0 hv
  by_cases hok : exprB d v = true
  · obtain ⟨n1, n2⟩ := names_len (k := 6) (by omega) hok
    have hn : Hid (namesE 6 d v = (rawN 6 d v).foldl insN []) := if_pos hok
    have hp : partsE d v ≤ 150 := by simp only [exprB, Bool.and_eq_true, decide_eq_true_eq] at hok; exact hok.2
    have HN : Hid (∀ wx, Below w.heap.size w wx → Calls Tryd.prog 21 #[.agg #[.int .i64 ck, .int .i64 cn, .slice a2 l2 p2, .slice a3 l3 p3, .slice a4 l4 p4], .int .i64 6, .slice none 0 0] wx fun e w' => ∃ y, e = .returned y ∧ NR N w' w.heap.size y ((rawN 6 d v).foldl insN []) ∧ Below wx.heap.size wx w') := fun wx hb =>
      l6names_any 6 d N w.heap.size _ [] (.int .i64 ck, .int .i64 cn, .slice a2 l2 p2, .slice a3 l3 p3, .slice a4 l4 p4) v wx (HV.out wx hb) hN hb.size (NR.nil _ _ _) (by simp; omega)
    have HO : Hid (∀ y wx, Below w.heap.size w wx → NR N wx w.heap.size y ((rawN 6 d v).foldl insN []) → Calls Tryd.prog 20 #[y] wx fun e w' => ∃ u, e = .returned u ∧ ∃ B, KOwn w' u ((rawN 6 d v).foldl insN []) B ∧ (∀ b ∈ B, wx.heap.size ≤ b ∧ b < w'.heap.size) ∧ Below wx.heap.size wx w') := fun y wx hb hR =>
      l4ownAddrs_any N w.heap.size y _ wx hR (by have := hb.size; omega) (by omega) (fun i hi => by have := n2 i hi; omega)
    rw [hok] at HE
    clear n1 n2 hp hok HV
    go_enter Tryd.func14, Tryd.ntmps14
    go_wp2_with fail
    refine (HE.out _).mono ?_
    rintro e w1 ⟨rfl, b1⟩
    obtain ⟨y0, y1, y2, y3, y4, _⟩ := row5 (box_row b1)
    have B1 := Below.on (Hb.out _) b1
    have HN1 := hide' (HN.out w1 B1)
    clear b1 HE
    go_wp2_with fail
    refine HN1.out.mono ?_
    rintro e w2 ⟨y, rfl, hR2, b2⟩
    have B2 := Below.on B1 b2
    have HO2 := hide' (HO.out y w2 B2 hR2)
    obtain ⟨ya, yc, rfl⟩ := hR2.shape
    generalize hlen : ((rawN 6 d v).foldl insN []).length = ln at *
    clear b2 hR2 HN1 y0 y1 y2 y3 y4
    go_wp2_with fail
    refine HO2.out.mono ?_
    rintro e w3 ⟨u, rfl, B, hK, hB, b3⟩
    have hz := B2.size
    have hus : ∃ a n c, u = .slice a n c := by rcases hK with ⟨rfl, _⟩ | ⟨g, cap, cur, Bs, rfl, _⟩ <;> exact ⟨_, _, _, rfl⟩
    have HF : Hid (UEnd 6 d v w (.returned u) w3) := ⟨u, rfl, B, by rw [hn.out]; exact hK, fun b hb => by have := hB b hb; omega, Below.on B2 b3⟩
    obtain ⟨_, _, _, rfl⟩ := hus
    clear hK hB b3 HO2
    go_wp2
    go_ret
    exact HF.out
  · have hno : exprB d v = false := by simpa using hok
    have hn : Hid (namesE 6 d v = []) := if_neg hok
    rw [hno] at HE
    clear hno hok HV
    go_enter Tryd.func14, Tryd.ntmps14
    go_wp2_with fail
    refine (HE.out _).mono ?_
    rintro e w1 ⟨rfl, b1⟩
    have B1 := Below.on (Hb.out _) b1
    clear b1 HE
    go_wp2
    go_ret
    exact ⟨_, rfl, [], by rw [hn.out]; exact kNilE _, by simp, B1⟩

end Go.Proofs.YtcgmfmdoconecaaDoor
/-
  ExprOk of the program, at every expression.
-/
namespace Go.Proofs.YtcgmfmdoconecaaDoor
open Go.RowKit
set_option linter.unusedVariables false
set_option linter.unusedSimpArgs false

set_option maxHeartbeats 1600000 in
theorem impl_ExprOk_any (d N : Nat) (c0 c1 c2 c3 c4 : Value) (v : Vl d) (w : World) (hv : VSeg (fun b => b < N) w d (c0, c1, c2, c3, c4) v) (hN : N ≤ w.heap.size) (hT : ShpT w) (hgN : 0 < N) :
    Calls Tryd.prog 33 #[.agg #[c0, c1, c2, c3, c4]] w fun e w' => e = .returned (.bool (exprB d v)) ∧ Below w.heap.size w w' := by
  have b0 : ∀ o o' : Obj, Below w.heap.size w ((w.alloc o).alloc o') := fun o o' => ((Below.refl _ _).alloc (Nat.le_refl _) o).alloc (by simp) o'
  have HC : Hid (∀ o : Obj, Calls Tryd.prog 42 #[.pointer (some ⟨w.heap.size + 1, 0, none⟩), .agg #[c0, c1, c2, c3, c4], .int .i64 1] ((w.alloc o).alloc (.cells #[.int .i64 0] 59)) fun e w' =>
      ((w.alloc o).alloc (.cells #[.int .i64 0] 59)).grownBy w' (some (w.heap.size + 1)) ∧ ((e = .returned (.bool true) ∧ goodE d v 1 = true ∧ 0 + partsE d v ≤ 150 ∧ ECnt w' (w.heap.size + 1) (0 + partsE d v)) ∨ (e = .returned (.bool false) ∧ ¬ (goodE d v 1 = true ∧ 0 + partsE d v ≤ 150)))) := fun o =>
    takes_any d N (w.heap.size + 1) 0 (c0, c1, c2, c3, c4) v 1 ((w.alloc o).alloc (.cells #[.int .i64 0] 59)) (VSeg.agree (agree_below ((b0 o _).mono hN)) d hv) (by omega) (by rw [size2]; omega) (two_boxes w o _).2 (hT.below (b0 o _)) hgN (by omega) (by omega)
  have Hb := hide' b0
  have hsz := fun o o' => size2 w o o'
  have Hsz := hide' hsz
  clear b0 hsz hT
  go_enter Tryd.func33, Tryd.ntmps33
  go_wp2_with fail
  refine (HC.out _).mono ?_
  rintro e w1 ⟨hg1, hcase⟩
  have hB1 := (Hb.out _ _).grown hg1 (by rw [Hsz.out]; omega) (by intro j hj; simp at hj; omega)
  rcases hcase with ⟨rfl, h1, h2, h3⟩ | ⟨rfl, hno⟩
  · have hE : Hid (exprB d v = true) := by
      show exprB d v = true
      simp [exprB, h1]
      omega
    clear h1 h2 h3 hg1
    go_wp2
    go_ret
    exact ⟨ret_bool hE.out.symm, hB1⟩
  · have hE : Hid (exprB d v = false) := by
      show exprB d v = false
      cases h : exprB d v with
      | false => rfl
      | true => simp [exprB] at h; exact absurd ⟨h.1, by omega⟩ hno
    clear hno hg1
    go_wp2
    go_ret
    exact ⟨ret_bool hE.out.symm, hB1⟩
end Go.Proofs.YtcgmfmdoconecaaDoor
/-
  namesIn, Uses and Locals of the program.
-/
namespace Go.Proofs.YtcgmfmdoconecaaDoor
open Go.RowKit
set_option linter.unusedVariables false
set_option linter.unusedSimpArgs false

set_option maxHeartbeats 3000000 in
set_option maxRecDepth 100000 in
theorem namesIn_any (k : Int) (hk : k = 6 ∨ k = 7) (d N : Nat) (c0 c1 c2 c3 c4 : Value) (v : Vl d) (w : World) (hv : VSeg (fun b => b < N) w d (c0, c1, c2, c3, c4) v) (hN : N ≤ w.heap.size) (hT : ShpT w) (hgN : 0 < N) :
    Calls Tryd.prog 25 #[.agg #[c0, c1, c2, c3, c4], .int .i64 k] w (UEnd k d v w) := by
  obtain ⟨iT, hiT, hy0, hy1, hy2⟩ := info_parts infoT
  have b0 : ∀ o : Obj, Below w.heap.size w (w.alloc o) := fun o => (Below.refl _ _).alloc (Nat.le_refl _) o
  have HE : Hid (∀ o : Obj, Calls Tryd.prog 33 #[.agg #[c0, c1, c2, c3, c4]] (w.alloc o) fun e w' => e = .returned (.bool (exprB d v)) ∧ Below (w.alloc o).heap.size (w.alloc o) w') := fun o => impl_ExprOk_any d N c0 c1 c2 c3 c4 v _ (VSeg.agree (agree_below ((b0 o).mono hN)) d hv) (by simp; omega) (hT.below (b0 o)) hgN
  have HV : Hid (∀ wx, Below w.heap.size w wx → VSeg (fun b => b < N) wx d (c0, c1, c2, c3, c4) v) := fun wx hb => VSeg.agree (agree_below (hb.mono hN)) d hv
  have Hb := hide' b0
  obtain ⟨ck, cn, a2, l2, p2, a3, l3, p3, a4, l4, p4, rfl, rfl, rfl, rfl, rfl⟩ := VSeg.form d hv
  clear b0 hv hT
  by_cases hok : exprB d v = true
  · obtain ⟨n1, n2⟩ := names_len (k := k) hk hok
    have hn : Hid (namesE k d v = (rawN k d v).foldl insN []) := if_pos hok
    have hp : partsE d v ≤ 150 := by simp only [exprB, Bool.and_eq_true, decide_eq_true_eq] at hok; exact hok.2
    have hrl := rawN_len k d v
    have HN : Hid (∀ wx, Below w.heap.size w wx → Calls Tryd.prog 35 #[.slice none 0 0, .agg #[.int .i64 ck, .int .i64 cn, .slice a2 l2 p2, .slice a3 l3 p3, .slice a4 l4 p4], .int .i64 k] wx fun e w' => ∃ y, e = .returned y ∧ HS w' w.heap.size y ((rawN k d v).map u8s) ∧ Below wx.heap.size wx w') := fun wx hb =>
      (collectNames_any k d N w.heap.size _ [] (.int .i64 ck, .int .i64 cn, .slice a2 l2 p2, .slice a3 l3 p3, .slice a4 l4 p4) v wx (HV.out wx hb) hN hb.size ⟨rfl, .inl ⟨rfl, rfl⟩⟩ (by simp; omega)).mono fun e w' ⟨y, h1, h2, h3, _⟩ => ⟨y, h1, SR.hs h2, (Below.refl _ _).grown h3 (Nat.le_refl _) (by intro j hj; simp [Value.ownBlock] at hj)⟩
    have hraw : ∀ x ∈ rawN k d v, nameB x = true := by
      have h := hok
      simp only [exprB, Bool.and_eq_true, decide_eq_true_eq] at h
      exact raw_names k hk d v 1 h.1
    have HSo : Hid (∀ y wx, w.heap.size ≤ wx.heap.size → HS wx w.heap.size y ((rawN k d v).map u8s) → Calls Tryd.prog 34 #[y] wx (AsEnd w.heap.size (rawN k d v) wx)) := fun y wx hz h => ascending_any w.heap.size y (rawN k d v) wx h hz (by omega) hraw
    rw [hok] at HE
    generalize hraw' : (rawN k d v).map u8s = raw at *
    have HAe : Hid (∀ wx e w', AsEnd w.heap.size (rawN k d v) wx e w' → ∃ u, e = .returned u ∧ ∃ B, KOwn w' u (namesE k d v) B ∧ (∀ b ∈ B, wx.heap.size ≤ b ∧ b < w'.heap.size) ∧ Below w.heap.size wx w') := fun wx e w' h => by rw [hn.out]; exact h
    have HEnd : Hid (∀ u e B w', e = .returned u → KOwn w' u (namesE k d v) B → (∀ b ∈ B, w.heap.size ≤ b ∧ b < w'.heap.size) → Below w.heap.size w w' → UEnd k d v w e w') := fun u e B w' h1 h2 h3 h4 => ⟨u, h1, B, h2, h3, h4⟩
    clear hp hok HV n1 n2 hrl hraw hn hraw'
    show Calls _ _ _ _ fun e w' => UEnd k d v w e w'
    go_enter Tryd.func25, Tryd.ntmps25
    go_wp2_with fail
    refine (HE.out _).mono ?_
    rintro e w1 ⟨rfl, b1⟩
    obtain ⟨y0, y1, y2, y3, y4, _⟩ := row5 (box_row b1)
    have B1 := Below.on (Hb.out _) b1
    have HN1 := hide' (HN.out w1 B1)
    have HB1 := hide' B1
    clear b1 HE B1
    go_wp2_with fail
    refine HN1.out.mono ?_
    rintro e w2 ⟨y, rfl, hR2, b2⟩
    have HB2 := hide' (Below.on HB1.out b2)
    have HS2 := hide' (HSo.out y w2 HB2.out.size hR2)
    obtain ⟨ya, yc, rfl, _⟩ := hR2
    generalize raw.length = rl at *
    clear b2 HN1 y0 y1 y2 y3 y4 HB1 HSo
    go_wp2_with fail
    refine HS2.out.mono ?_
    intro e w3 hE
    obtain ⟨u, rfl, B, hO, hB, b3⟩ := HAe.out _ _ _ hE
    have HF : Hid (UEnd k d v w (.returned u) w3) := HEnd.out u _ B w3 rfl hO (fun b hb => by have h1 := hB b hb; have h2 := HB2.out.size; omega) (HB2.out.trans b3)
    have hus : ∃ a n c, u = .slice a n c := by rcases hO with ⟨rfl, _⟩ | ⟨g, cap, cur, Bs, rfl, _⟩ <;> exact ⟨_, _, _, rfl⟩
    obtain ⟨ua, un, uc, rfl⟩ := hus
    clear hE hO hB b3 HS2 HAe HEnd
    go_wp2
    go_ret
    exact HF.out
  · have hno : exprB d v = false := by simpa using hok
    have hn : Hid (namesE k d v = []) := if_neg hok
    rw [hno] at HE
    clear hno hok HV
    go_enter Tryd.func25, Tryd.ntmps25
    go_wp2_with fail
    refine (HE.out _).mono ?_
    rintro e w1 ⟨rfl, b1⟩
    have B1 := Below.on (Hb.out _) b1
    clear b1 HE
    go_wp2
    go_ret
    exact ⟨_, rfl, [], by rw [hn.out]; exact kNilE _, by simp, B1⟩

set_option maxHeartbeats 2000000 in
theorem impl_Uses_any (d N : Nat) (c0 c1 c2 c3 c4 : Value) (v : Vl d) (w : World) (hv : VSeg (fun b => b < N) w d (c0, c1, c2, c3, c4) v) (hN : N ≤ w.heap.size) (hT : ShpT w) (hgN : 0 < N) :
    Calls Tryd.prog 8 #[.agg #[c0, c1, c2, c3, c4]] w (UEnd 7 d v w) := by
  have b0 : ∀ o : Obj, Below w.heap.size w (w.alloc o) := fun o => (Below.refl _ _).alloc (Nat.le_refl _) o
  have HE : Hid (∀ o : Obj, Calls Tryd.prog 25 #[.agg #[c0, c1, c2, c3, c4], .int .i64 7] (w.alloc o) (UEnd 7 d v (w.alloc o))) := fun o => namesIn_any 7 (by omega) d N c0 c1 c2 c3 c4 v _ (VSeg.agree (agree_below ((b0 o).mono hN)) d hv) (by simp; omega) (hT.below (b0 o)) hgN
  have Hb := hide' b0
  obtain ⟨ck, cn, a2, l2, p2, a3, l3, p3, a4, l4, p4, rfl, rfl, rfl, rfl, rfl⟩ := VSeg.form d hv
  clear b0 hv hT
  go_enter Tryd.func8, Tryd.ntmps8
  go_wp2_with fail
  refine (HE.out _).mono ?_
  rintro e w1 ⟨u, rfl, B, hK, hB, b1⟩
  have hus : ∃ a n c, u = .slice a n c := by rcases hK with ⟨rfl, _⟩ | ⟨g, cap, cur, Bs, rfl, _⟩ <;> exact ⟨_, _, _, rfl⟩
  have HF : Hid (UEnd 7 d v w (.returned u) w1) := ⟨u, rfl, B, hK, fun b hb => by have := hB b hb; simp at this; omega, Below.on (Hb.out _) b1⟩
  obtain ⟨_, _, _, rfl⟩ := hus
  clear hK hB b1 HE
  go_wp2
  go_ret
  exact HF.out

set_option maxHeartbeats 2000000 in
theorem impl_Locals_any (d N : Nat) (c0 c1 c2 c3 c4 : Value) (v : Vl d) (w : World) (hv : VSeg (fun b => b < N) w d (c0, c1, c2, c3, c4) v) (hN : N ≤ w.heap.size) (hT : ShpT w) (hgN : 0 < N) :
    Calls Tryd.prog 15 #[.agg #[c0, c1, c2, c3, c4]] w (UEnd 6 d v w) := by
  have b0 : ∀ o : Obj, Below w.heap.size w (w.alloc o) := fun o => (Below.refl _ _).alloc (Nat.le_refl _) o
  have HE : Hid (∀ o : Obj, Calls Tryd.prog 25 #[.agg #[c0, c1, c2, c3, c4], .int .i64 6] (w.alloc o) (UEnd 6 d v (w.alloc o))) := fun o => namesIn_any 6 (by omega) d N c0 c1 c2 c3 c4 v _ (VSeg.agree (agree_below ((b0 o).mono hN)) d hv) (by simp; omega) (hT.below (b0 o)) hgN
  have Hb := hide' b0
  obtain ⟨ck, cn, a2, l2, p2, a3, l3, p3, a4, l4, p4, rfl, rfl, rfl, rfl, rfl⟩ := VSeg.form d hv
  clear b0 hv hT
  go_enter Tryd.func15, Tryd.ntmps15
  go_wp2_with fail
  refine (HE.out _).mono ?_
  rintro e w1 ⟨u, rfl, B, hK, hB, b1⟩
  have hus : ∃ a n c, u = .slice a n c := by rcases hK with ⟨rfl, _⟩ | ⟨g, cap, cur, Bs, rfl, _⟩ <;> exact ⟨_, _, _, rfl⟩
  have HF : Hid (UEnd 6 d v w (.returned u) w1) := ⟨u, rfl, B, hK, fun b hb => by have := hB b hb; simp at this; omega, Below.on (Hb.out _) b1⟩
  obtain ⟨_, _, _, rfl⟩ := hus
  clear hK hB b1 HE
  go_wp2
  go_ret
  exact HF.out

end Go.Proofs.YtcgmfmdoconecaaDoor
/-
  A list marked item by item. Plain mathematics, and small laws.
-/
namespace Go.Proofs.YtcgmfmdoconecaaDoor
open Go.RowKit
set_option linter.unusedVariables false
set_option linter.unusedSimpArgs false

/-- A list after it was marked. -/
def mkLs {α : Type} (f : α → Nat → α) (c : α → Nat) : List α → Nat → List α
  | [], _ => []
  | x :: r, k => f x k :: mkLs f c r (k + c x)

theorem length_mkLs {α : Type} (f : α → Nat → α) (c : α → Nat) : ∀ (l : List α) (k : Nat), (mkLs f c l k).length = l.length
  | [], _ => rfl
  | x :: r, k => by simp [mkLs, length_mkLs f c r]
theorem mkLs_append {α : Type} (f : α → Nat → α) (c : α → Nat) : ∀ (l r : List α) (k : Nat), mkLs f c (l ++ r) k = mkLs f c l k ++ mkLs f c r (k + (l.map c).sum)
  | [], r, k => by simp [mkLs]
  | x :: l, r, k => by simp [mkLs, mkLs_append f c l r, Nat.add_assoc]

/-- The first n are marked. -/
def mixL {α : Type} (f : α → Nat → α) (c : α → Nat) (l : List α) (k n : Nat) : List α := mkLs f c (l.take n) k ++ l.drop n
theorem mixL_zero {α : Type} (f : α → Nat → α) (c : α → Nat) (l : List α) (k : Nat) : mixL f c l k 0 = l := by simp [mixL, mkLs]
theorem mixL_all {α : Type} (f : α → Nat → α) (c : α → Nat) (l : List α) (k : Nat) : mixL f c l k l.length = mkLs f c l k := by simp [mixL]
theorem length_mixL {α : Type} (f : α → Nat → α) (c : α → Nat) (l : List α) (k n : Nat) (h : n ≤ l.length) : (mixL f c l k n).length = l.length := by simp [mixL, length_mkLs]; omega
theorem mixL_at {α : Type} (f : α → Nat → α) (c : α → Nat) (l : List α) (k n : Nat) (h : n < l.length) : (mixL f c l k n)[n]'(by rw [length_mixL f c l k n (Nat.le_of_lt h)]; exact h) = l[n] := by
  unfold mixL
  have hl : (mkLs f c (l.take n) k).length = n := by rw [length_mkLs]; simp; omega
  rw [List.getElem_append_right (by omega)]
  simp [hl]
theorem mixL_succ {α : Type} (f : α → Nat → α) (c : α → Nat) (l : List α) (k n : Nat) (h : n < l.length) : mixL f c l k (n + 1) = (mixL f c l k n).set n (f l[n] (k + pre c l n)) := by
  unfold mixL pre
  rw [List.take_succ_eq_append_getElem h, mkLs_append, List.drop_eq_getElem_cons h]
  have hl : (mkLs f c (l.take n) k).length = n := by rw [length_mkLs]; simp; omega
  rw [List.set_append_right _ _ (by omega), hl, Nat.sub_self, List.set_cons_zero]
  simp only [mkLs, List.append_assoc, List.singleton_append]

theorem agree_turned {B C : List Nat} {w w' : World} (h : Turned B w w') (hl : ∀ b ∈ C, b < w.heap.size) (hd : ∀ b ∈ C, b ∉ B) : Agree (fun b => b ∈ C) w w' := fun b hb => h.block b (hl b hb) (hd b hb)

theorem arg_eq {F : Nat} {v : Value} {x y : Int} {w : World} {Q : Ending → World → Prop} (e : x = y) (h : Calls Tryd.prog F #[v, .int .i64 x] w Q) : Calls Tryd.prog F #[v, .int .i64 y] w Q := e ▸ h
end Go.Proofs.YtcgmfmdoconecaaDoor
