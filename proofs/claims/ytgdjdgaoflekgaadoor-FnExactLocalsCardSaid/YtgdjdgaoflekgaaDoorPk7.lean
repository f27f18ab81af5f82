/-
  Texts that a law leans on, one behind the other; no statement is proved here.
-/
import Derived.Test.YtgdjdgaoflekgaaDoorPk5
import Derived.Test.YtgdjdgaoflekgaaDoorPk6
import Derived.Test.YtgdjdgaoflekgaaDoorPk4
/-
  l6expr and ExprOk of the specification, at every expression.
-/
namespace Go.Proofs.YtgdjdgaoflekgaaDoor
open Go.RowKit
set_option linter.unusedVariables false
set_option linter.unusedSimpArgs false

theorem okE_leaf {d : Nat} {vk vn : Int} {vs : List Int} {deep : Nat} {left : Int} (h1 : deep ≤ 10) (h2 : shpB vk vn vs [] 0 = true) (h4 : 1 ≤ left) : okE (d + 1) (vk, vn, vs, [], []) deep left = left - 1 := by
  have := okE_all (d := d) (vL := []) (deep := deep) (left := left) h1 (by simpa using h2) (by intro j h; simp at h) (by simp [pre]; omega)
  simpa [pre] using this

theorem arI_bound (k : Int) : -1 ≤ arI k ∧ arI k ≤ 3 := by
  unfold arI
  split
  · omega
  split
  · omega
  split
  · omega
  split <;> omega

set_option maxHeartbeats 1600000 in
set_option maxRecDepth 100000 in
theorem l6expr_out (k n : Int) (c2 c3 c4 : Value) (deep : Nat) (left : Int) (w : World) (h0 : 0 ≤ left) (h2 : left ≤ 150) (h : left < 1 ∨ 10 < deep ∨ k < 0 ∨ 23 < k) (hd : deep ≤ 11) :
    Calls Tryd.prog 38 #[.agg #[.int .i64 k, .int .i64 n, c2, c3, c4], .int .i64 deep, .int .i64 left] w fun e w' => e = .returned (.int .i64 (-1)) ∧ Below w.heap.size w w' := by
  have b0 : ∀ o : Obj, Below w.heap.size w (w.alloc o) := fun o => (Below.refl _ _).alloc (Nat.le_refl _) o
  have Hb := hide' b0
  clear b0
  by_cases q1 : left - 1 < 0
  · go_enter Tryd.func38, Tryd.ntmps38
    go_wp2
    go_ret
    exact ⟨rfl, Hb.out _⟩
  by_cases q2 : (10 : Int) < (deep : Int)
  · go_enter Tryd.func38, Tryd.ntmps38
    go_wp2
    go_ret
    exact ⟨rfl, Hb.out _⟩
  by_cases q3 : k < 0
  · go_enter Tryd.func38, Tryd.ntmps38
    go_wp2
    go_ret
    exact ⟨rfl, Hb.out _⟩
  have q4 : (23 : Int) < k := by omega
  go_enter Tryd.func38, Tryd.ntmps38
  go_wp2
  go_ret
  exact ⟨rfl, Hb.out _⟩

theorem shp_out {vk vn : Int} {vs : List Int} {vK : List (List Int)} {nL : Nat} (h : vk < 0 ∨ 23 < vk) : shpB vk vn vs vK nL = false := by
  rcases h with h | h
  · have h1 : ¬ (0 : Int) ≤ vk := by omega
    simp [shpB, h1]
  · have h1 : ¬ vk ≤ 23 := by omega
    simp [shpB, h1]

/-- A part by itself, of what is asked ahead of its kids and of its keys' order. -/
theorem shp_hd (vk vn : Int) (k0 : 0 ≤ vk) (k23 : vk ≤ 23) (vs : List Int) (vK : List (List Int)) (nL : Nat) : shpB vk vn vs vK nL = (hdR (decide (vk = 5)) (arI vk) (mostI vk) vn vK.length nL (saysB (saysI vk) vs) && (!decide (vk = 5) || ascB vK)) := by
  by_cases h : vk = 5
  · subst h
    simp [shpB, hdR, keysB, kidsB]
    cases decide (vK.length = nL) <;> cases ascB vK <;> cases decide (0 ≤ vn) <;> cases decide (vn ≤ mostI 5) <;> simp
  · simp [shpB, hdR, keysB, kidsB, h, k0, k23]

theorem hdR_true {kb : Bool} {q m n : Int} {l3 l4 : Nat} {sb : Bool} (h : hdR kb q m n l3 l4 sb = true) : (if kb then decide (l3 = l4) else decide (l3 = 0)) = true ∧ (q = -1 ∨ q = l4) ∧ 0 ≤ n ∧ n ≤ m ∧ sb = true := by
  unfold hdR at h
  simp only [Bool.and_eq_true, Bool.or_eq_true, decide_eq_true_eq] at h
  obtain ⟨⟨⟨⟨a, b⟩, c⟩, d⟩, e⟩ := h
  exact ⟨a, b, c, d, e⟩

set_option maxHeartbeats 1600000 in
theorem l6expr_succ (d : Nat) (ih : E6At d) : E6At (d + 1) := by
  intro N c v deep left w hv hN hd h0 h1
  obtain ⟨c0, c1, c2, c3, c4⟩ := c
  obtain ⟨vk, vn, vs, vK, vL⟩ := v
  obtain ⟨e0, e1, ht, hk, hl⟩ := (VSeg_succ _ _ _ _ _).1 hv
  simp only at e0 e1 ht hk hl
  subst e0
  subst e1
  clear hv
  simp only
  have HK := hk
  have HL := hl
  obtain ⟨a2, p2, rfl, s2, l2, m2, _, _⟩ := ht
  obtain ⟨a3, p3, rfl, l3, m3, _, _⟩ := hk
  obtain ⟨a4, p4, rfl, l4, m4, _, _⟩ := hl
  by_cases q0 : left < 1 ∨ 10 < deep ∨ vk < 0 ∨ 23 < vk
  · refine (l6expr_out vk vn _ _ _ deep left w h0 h1 q0 hd).mono fun e w' h => ⟨h.1.trans (ret_i64 ?_), h.2⟩
    rcases q0 with q | q | q | q
    · exact (okE_left _ deep q).symm
    · exact (okE_deep _ left q).symm
    · exact (okE_shape deep left (shp_out (.inl q))).symm
    · exact (okE_shape deep left (shp_out (.inr q))).symm
  have hL1 : 1 ≤ left := by omega
  have hD1 : deep ≤ 10 := by omega
  have k0 : 0 ≤ vk := by omega
  have k23' : vk ≤ 23 := by omega
  clear q0
  have m2' : vs.length ≤ maxLen := by omega
  have m3' : vK.length ≤ maxLen := by omega
  have m4' : vL.length ≤ maxLen := by omega
  have hsh := shp_hd vk vn k0 k23' vs vK vL.length
  cases hb : hdR (decide (vk = 5)) (arI vk) (mostI vk) vn vK.length vL.length (saysB (saysI vk) vs) with
  | false =>
    rw [hb] at hsh
    simp only [Bool.false_and] at hsh
    have hno := okE_shape (d := d) (vL := vL) deep left hsh
    have fin : ∀ (e : Ending) (w' : World), (e = .returned (.int .i64 (-1)) ∧ Below w.heap.size w w') → (e = .returned (.int .i64 (okE (d + 1) (vk, vn, vs, vK, vL) deep left)) ∧ Below w.heap.size w w') := fun e w' h => ⟨h.1.trans (ret_i64 hno.symm), h.2⟩
    by_cases k1 : vk = 1
    · subst k1
      exact (l6bad_c1 vn a2 a3 a4 p2 p3 p4 _ _ vs deep left w hL1 h1 hD1 s2 m2' m3' m4' hb).mono fin
    by_cases k2 : vk = 2
    · subst k2
      exact (l6bad_c2 vn a2 a3 a4 p2 p3 p4 _ _ vs deep left w hL1 h1 hD1 s2 m2' m3' m4' hb).mono fin
    by_cases k3 : vk = 3
    · subst k3
      exact (l6bad_c3 vn a2 a3 a4 p2 p3 p4 _ _ vs deep left w hL1 h1 hD1 s2 m2' m3' m4' hb).mono fin
    by_cases k4 : vk = 4
    · subst k4
      exact (l6bad_c4 vn a2 a3 a4 p2 p3 p4 _ _ vs deep left w hL1 h1 hD1 s2 m2' m3' m4' hb).mono fin
    by_cases k5 : vk = 5
    · subst k5
      exact (l6bad_c5 vn a2 a3 a4 p2 p3 p4 _ _ vs deep left w hL1 h1 hD1 s2 m2' m3' m4' hb).mono fin
    by_cases k6 : vk = 6
    · subst k6
      exact (l6bad_c6 vn a2 a3 a4 p2 p3 p4 _ _ vs deep left w hL1 h1 hD1 s2 m2' m3' m4' hb).mono fin
    by_cases k7 : vk = 7
    · subst k7
      exact (l6bad_c7 vn a2 a3 a4 p2 p3 p4 _ _ vs deep left w hL1 h1 hD1 s2 m2' m3' m4' hb).mono fin
    by_cases k8 : vk = 8
    · subst k8
      exact (l6bad_c8 vn a2 a3 a4 p2 p3 p4 _ _ vs deep left w hL1 h1 hD1 s2 m2' m3' m4' hb).mono fin
    by_cases k23 : vk = 23
    · subst k23
      exact (l6bad_c23 vn a2 a3 a4 p2 p3 p4 _ _ vs deep left w hL1 h1 hD1 s2 m2' m3' m4' hb).mono fin
    · refine (l6bad_other vk k0 k23' k1 k2 k3 k4 k5 k6 k7 k8 k23 vn a2 a3 a4 p2 p3 p4 vs.length _ _ deep left w hL1 h1 hD1 m2' m3' m4' (arI_bound vk) ?_).mono fin
      simpa [mostI, saysI, saysB, k1, k2, k3, k5, k6, k7, k8, k23] using hb
  | true =>
    rw [hb] at hsh
    simp only [Bool.true_and] at hsh
    obtain ⟨fK, fq, fn0, fn1, fs⟩ := hdR_true hb
    have nil3 : ¬ vk = 5 → vK = [] := fun h => by
      rw [decide_eq_false h] at fK
      exact List.eq_nil_of_length_eq_zero (by simpa using fK)
    have hsh5 : ¬ vk = 5 → shpB vk vn vs vK vL.length = true := fun h => by rw [hsh, decide_eq_false h]; rfl
    by_cases k1 : vk = 1
    · subst k1
      obtain rfl : vK = [] := nil3 (by omega)
      have fq' : (0 : Int) = -1 ∨ (0 : Int) = vL.length := fq
      obtain rfl : vL = [] := List.eq_nil_of_length_eq_zero (by omega)
      have fs' : decide (vs.length = 0) = true := fs
      obtain rfl : vs = [] := List.eq_nil_of_length_eq_zero (by simpa using fs')
      exact (l6leaf_c1 vn fn0 fn1 a2 a3 a4 p2 p3 p4 deep left w hL1 h1 hD1).mono fun e w' h => ⟨h.1.trans (ret_i64 (okE_leaf hD1 (hsh5 (by omega)) hL1).symm), h.2⟩
    by_cases k2 : vk = 2
    · subst k2
      obtain rfl : vK = [] := nil3 (by omega)
      have fq' : (0 : Int) = -1 ∨ (0 : Int) = vL.length := fq
      obtain rfl : vL = [] := List.eq_nil_of_length_eq_zero (by omega)
      have fs' : decide (vs.length = 0) = true := fs
      obtain rfl : vs = [] := List.eq_nil_of_length_eq_zero (by simpa using fs')
      exact (l6leaf_c2 vn fn0 fn1 a2 a3 a4 p2 p3 p4 deep left w hL1 h1 hD1).mono fun e w' h => ⟨h.1.trans (ret_i64 (okE_leaf hD1 (hsh5 (by omega)) hL1).symm), h.2⟩
    by_cases k3 : vk = 3
    · subst k3
      obtain rfl : vK = [] := nil3 (by omega)
      have fq' : (0 : Int) = -1 ∨ (0 : Int) = vL.length := fq
      obtain rfl : vL = [] := List.eq_nil_of_length_eq_zero (by omega)
      have fn1' : vn ≤ 0 := fn1
      obtain rfl : vn = 0 := by omega
      exact (l6leaf_c3 a2 a3 a4 p2 p3 p4 vs deep left w hL1 h1 hD1 s2 m2' fs).mono fun e w' h => ⟨h.1.trans (ret_i64 (okE_leaf hD1 (hsh5 (by omega)) hL1).symm), h.2⟩
    by_cases k6 : vk = 6
    · subst k6
      obtain rfl : vK = [] := nil3 (by omega)
      have fq' : (0 : Int) = -1 ∨ (0 : Int) = vL.length := fq
      obtain rfl : vL = [] := List.eq_nil_of_length_eq_zero (by omega)
      have fn1' : vn ≤ 0 := fn1
      obtain rfl : vn = 0 := by omega
      exact (l6leaf_c6 a2 a3 a4 p2 p3 p4 vs deep left w hL1 h1 hD1 s2 m2' fs).mono fun e w' h => ⟨h.1.trans (ret_i64 (okE_leaf hD1 (hsh5 (by omega)) hL1).symm), h.2⟩
    by_cases k7 : vk = 7
    · subst k7
      obtain rfl : vK = [] := nil3 (by omega)
      have fq' : (0 : Int) = -1 ∨ (0 : Int) = vL.length := fq
      obtain rfl : vL = [] := List.eq_nil_of_length_eq_zero (by omega)
      have fn1' : vn ≤ 0 := fn1
      obtain rfl : vn = 0 := by omega
      exact (l6leaf_c7 a2 a3 a4 p2 p3 p4 vs deep left w hL1 h1 hD1 s2 m2' fs).mono fun e w' h => ⟨h.1.trans (ret_i64 (okE_leaf hD1 (hsh5 (by omega)) hL1).symm), h.2⟩
    by_cases k5 : vk = 5
    · subst k5
      have fn1' : vn ≤ 0 := fn1
      obtain rfl : vn = 0 := by omega
      have fs' : decide (vs.length = 0) = true := fs
      obtain rfl : vs = [] := List.eq_nil_of_length_eq_zero (by simpa using fs')
      exact l6loop_c5 d ih N vK vL _ _ _ _ deep left w HK HL hN hL1 h1 hD1
    obtain rfl : vK = [] := nil3 k5
    have hsh6 := hsh5 k5
    have fn1' : vn ≤ 0 := by
      have := fn1
      simp only [mostI, k1, k2, if_false] at this
      exact this
    obtain rfl : vn = 0 := by omega
    by_cases k4 : vk = 4
    · subst k4
      have fs' : decide (vs.length = 0) = true := fs
      obtain rfl : vs = [] := List.eq_nil_of_length_eq_zero (by simpa using fs')
      exact l6loop_c4 d ih N vL _ _ _ _ _ deep left w HL hN hL1 h1 hD1 hsh6
    by_cases k8 : vk = 8
    · subst k8
      have fq' : (1 : Int) = -1 ∨ (1 : Int) = vL.length := fq
      exact l6loop_c8 d ih N vL _ _ _ _ _ vs deep left w HL hN hL1 h1 hD1 s2 m2' fs (by omega) hsh6
    by_cases k23 : vk = 23
    · subst k23
      have fs' : (nameB vs && !keptB vs) = true := fs
      simp at fs'
      exact l6loop_c23 d ih N vL _ _ _ _ _ vs deep left w HL hN hL1 h1 hD1 s2 m2' fs'.1 fs'.2 hsh6
    · have fs' : vs = [] := by
        have := fs
        simp only [saysI, saysB, k3, k6, k7, k8, k23, if_false, or_false] at this
        exact List.eq_nil_of_length_eq_zero (by simpa using this)
      subst fs'
      have hq : arI vk = vL.length := by
        rcases fq with h | h
        · exfalso
          have : ¬ (vk = 4 ∨ vk = 5 ∨ vk = 23) := by omega
          simp only [arI, this, if_false] at h
          split at h
          · omega
          split at h
          · omega
          split at h <;> omega
        · exact h
      exact l6loop_other d ih N vk k0 k23' k1 k2 k3 k4 k5 k6 k7 k8 k23 vL _ _ _ _ _ deep left w HL hN hL1 h1 hD1 hq hsh6

theorem l6expr_any (d : Nat) : E6At d := by
  induction d with
  | zero => intro N c v deep left w hv; exact hv.elim
  | succ d ih => exact l6expr_succ d ih

set_option maxHeartbeats 1600000 in
theorem spec_ExprOk_any (d N : Nat) (c0 c1 c2 c3 c4 : Value) (v : Vl d) (w : World) (hv : VSeg (fun b => b < N) w d (c0, c1, c2, c3, c4) v) (hN : N ≤ w.heap.size) :
    Calls Tryd.prog 10 #[.agg #[c0, c1, c2, c3, c4]] w fun e w' => e = .returned (.bool (exprB d v)) ∧ Below w.heap.size w w' := by
  have b0 : ∀ o : Obj, Below w.heap.size w (w.alloc o) := fun o => (Below.refl _ _).alloc (Nat.le_refl _) o
  have HC : Hid (∀ o : Obj, Calls Tryd.prog 38 #[.agg #[c0, c1, c2, c3, c4], .int .i64 1, .int .i64 150] (w.alloc o) fun e w' => e = .returned (.int .i64 (okE d v 1 150)) ∧ Below (w.alloc o).heap.size (w.alloc o) w') := fun o =>
    l6expr_any d N (c0, c1, c2, c3, c4) v 1 150 (w.alloc o) (VSeg.agree (agree_below ((b0 o).mono hN)) d hv) (by have := (b0 o).size; omega) (by omega) (by omega) (by omega)
  have Hb := hide' b0
  have hq := okE_exprB d v
  clear b0
  cases hb : exprB d v with
  | true =>
    obtain ⟨h1, h2⟩ := hq.1 hb
    generalize okE d v 1 150 = q at *
    clear hq hb
    go_enter Tryd.func10, Tryd.ntmps10
    go_wp2_with fail
    refine (HC.out _).mono ?_
    rintro e w1 ⟨rfl, b1⟩
    have B1 := Below.on (Hb.out _) b1
    clear b1
    go_wp2
    go_ret
    exact ⟨rfl, B1⟩
  | false =>
    have h1 := hq.2 hb
    rw [h1] at HC
    clear hq hb h1
    go_enter Tryd.func10, Tryd.ntmps10
    go_wp2_with fail
    refine (HC.out _).mono ?_
    rintro e w1 ⟨rfl, b1⟩
    have B1 := Below.on (Hb.out _) b1
    clear b1
    go_wp2
    go_ret
    exact ⟨rfl, B1⟩
end Go.Proofs.YtgdjdgaoflekgaaDoor
/-
  l4ownAddrs of the specification: texts copied, each of the call's own; Uses and Locals of the specification.
-/
namespace Go.Proofs.YtgdjdgaoflekgaaDoor
open Go.RowKit
set_option linter.unusedVariables false
set_option linter.unusedSimpArgs false

theorem kNilE (w : World) : KOwn w (.slice none 0 0) [] [] := .inl ⟨rfl, rfl, rfl⟩

set_option maxHeartbeats 2000000 in
set_option maxRecDepth 100000 in
theorem l4ownAddrs_any (N base : Nat) (x : Value) (ks : List (List Int)) (w : World) (hx : NR N w base x ks) (hN : N ≤ w.heap.size) (hl : ks.length ≤ 1000) (hl1 : ∀ i, i < ks.length → (ks.getD i []).length ≤ 1000) :
    Calls Tryd.prog 56 #[x] w fun e w' => ∃ u, e = .returned u ∧ ∃ B, KOwn w' u ks B ∧ (∀ b ∈ B, w.heap.size ≤ b ∧ b < w'.heap.size) ∧ Below w.heap.size w w' := by
  obtain ⟨iT, hiT, hy0, hy1, hy2⟩ := info_parts infoT
  have HX := hide' hx
  have HL := hide' hl1
  obtain ⟨xa, xc, rfl⟩ := hx.shape
  clear hx hl1
  go_enter Tryd.func56, Tryd.ntmps56
  go_wp2
  go_loopw [3, 4] (fun x i wr => ∃ k : Nat, k ≤ ks.length ∧ i = .int .i64 k ∧ ∃ cs Bi, RW 22 1 (ItK ks) wr w.heap.size x k cs Bi ∧ Below w.heap.size w wr) (fun _ i _ => ks.length - (intOf i).toNat)
  case atStart => exact ⟨0, Nat.zero_le _, rfl, _, _, RW.nil _ _ _ _ _, Below.refl _ _⟩
  case round =>
    obtain ⟨k, hk, rfl, cs, Bi, hR, hbel⟩ := hrel
    have hsz := hbel.size
    have hvK : ∃ p c, u3 = .slice p k c := by
      rcases hR.2.2.1.2 with ⟨rfl, h0⟩ | ⟨g, cap, cur, rfl, _⟩
      · exact ⟨none, 0, by rw [h0]⟩
      · exact ⟨_, _, rfl⟩
    obtain ⟨pK, cK, rfl⟩ := hvK
    by_cases hkn : k < ks.length
    · have hkn' : (k : Int) < (ks.length : Int) := by omega
      have hk0 : (0 : Int) ≤ (k : Int) := Int.natCast_nonneg _
      obtain ⟨g, ua, uc, rfl, hgl, hcu, hT⟩ := HX.out.at hkn
      have hlk := HL.out k hkn
      obtain ⟨_, _, eT, hsu, _, _, hnu, hRu⟩ := hT
      simp only [Value.slice.injEq] at eT
      obtain ⟨rfl, _, rfl⟩ := eT
      have hBa : Below w.heap.size w (wr.alloc (.cells #[] 5)) := hbel.alloc (by omega) _
      have hcu' : (wr.alloc (.cells #[] 5)).cell? ⟨g, k, none⟩ = some (.slice ua (ks.getD k []).length uc) := (World.cell?_of_block (hBa.block g hgl)).trans hcu
      have hsu' : Seg (wr.alloc (.cells #[] 5)) ua (ks.getD k []) := hsu.below hBa fun x hx hne => by have := hRu x hx hne; omega
      have hE : Bts (wr.alloc (.cells #[] 5)) wr.heap.size (.slice (some ⟨wr.heap.size, 0, none⟩) 0 0) [] := ⟨by simp, by simp [cellsOf], .inr ⟨wr.heap.size, 0, #[], rfl, Nat.le_refl _, heap_alloc_new wr _, Nat.le_refl _, Nat.zero_le _, rfl, rfl⟩⟩
      have HR := hide' (And.intro hR hbel)
      have hBe : Hid (Below wr.heap.size wr (wr.alloc (.cells #[] 5))) := (Below.refl _ _).alloc (Nat.le_refl _) _
      have Hv : Hid (∀ w5, Below wr.heap.size wr w5 → w5.ownsRow w.heap.size 22 1 (.slice pK k cK) k cs.flatten) := fun w5 hb5 => hR.2.2.1.kept (row := none) ⟨hb5.os, hb5.tape, hb5.output, hb5.size, fun k hk _ => hb5.block k hk⟩ (by cases hv : (Value.slice pK k cK).ownBlock <;> simp)
      generalize hks : ks.getD k [] = xs at *
      have Hks := hide' hks
      generalize hnk : xs.length = nk at *
      clear hR hbel hBa hcu hsu hks hRu
      go_wp2_with (at_builtin; first
        | (refine wpList_append_seg rfl (.tmp 12) (.tmp 16) (by rfl) wr.heap.size (.slice (some ⟨wr.heap.size, 0, none⟩) 0 0) [] xs (by rfl) hE ua nk uc hnk.symm (by rfl) hsu' hnu (by simp; omega) (by simp) ?_; intro v5 w5 hv5 hg5; rw [List.nil_append] at hv5; have hb5 := hide' (hBe.out.grown hg5 (by simp) (by intro j hj; simp [Value.ownBlock] at hj; omega)); obtain ⟨a5, c5, h5, _⟩ := hv5.shape; rw [hnk] at h5; subst h5; replace hv5 := hide' hv5; clear hg5 hE hsu')
        | (refine wpList_append_lies _ rfl (.tmp 11) (.tmp 18) 23 (by rfl) w.heap.size 22 iT (.slice none 0 0) 1 24 Tryd.underlying23 hiT hy0 hy1 hy2 rfl (by decide) (.slice pK k cK) k cs.flatten (by rfl) ((Hv.out w5 hb5.out).alloc _) ⟨w5.heap.size, 0, none⟩ 1 1 [.slice a5 nk c5] (by rfl) (by rfl) (World.news_of_block (cs := #[.slice a5 nk c5]) (t := 22) (fr := (0, 0)) (heap_alloc_new w5 _)) (by simp [Value.oneCell']) (by omega) (by unfold maxLen; omega) (by omega) (by have := hb5.out.size; simp; omega) (w5.heap.size + 1) (by simp) ?_; intro g6 cp6 w6 hown6 hg6 hat6 hlt6; obtain ⟨cs', Bi', hR6, hB6⟩ := rwk_step HR.out.1 HR.out.2 hb5.out (by rw [Hks.out]; exact hv5.out) hown6 hg6 hat6; replace hR6 := hide' hR6; replace hB6 := hide' hB6; clear hown6 hg6 hat6 hlt6))
      go_wp2
      go_roundw
      case rel => exact ⟨k + 1, by omega, by go_num, _, _, hR6.out, hB6.out⟩
      case measure => simp [intOf]; omega
    · have hkn' : k = ks.length := by omega
      subst hkn'
      have hkl' : ¬ (ks.length : Int) < (ks.length : Int) := by omega
      have HR := hide' (And.intro hR hbel)
      clear hR hbel
      go_wp2_with fail
      go_ret
      have hbd := HR.out.1.2.2.2.2.2
      exact ⟨_, rfl, _, HR.out.1.kown, fun b hb => by have := hbd b hb; omega, HR.out.2⟩

/-- What Uses and Locals leave. -/
def UEnd (k : Int) (d : Nat) (v : Vl d) (w : World) (e : Ending) (w' : World) : Prop := ∃ u, e = .returned u ∧ ∃ B, KOwn w' u (namesE k d v) B ∧ (∀ b ∈ B, w.heap.size ≤ b ∧ b < w'.heap.size) ∧ Below w.heap.size w w'

theorem mem_insA (w : List Int) : ∀ (put : Bool) (l : List (List Int)) (x : List Int), x ∈ insA w put l → x = w ∨ x ∈ l
  | put, [], x, h => by
    unfold insA at h
    split at h <;> simp at h
    exact .inl h
  | put, y :: r, x, h => by
    unfold insA at h
    rcases List.mem_append.1 h with h | h
    · split at h <;> simp at h
      exact .inl h
    rcases List.mem_append.1 h with h | h
    · split at h <;> simp at h
      exact .inr (by simp [h])
    · rcases mem_insA w _ r x h with h | h
      · exact .inl h
      · exact .inr (by simp [h])

theorem mem_fold : ∀ (r l : List (List Int)) (x : List Int), x ∈ r.foldl insN l → x ∈ r ∨ x ∈ l
  | [], l, x, h => .inr h
  | w :: r, l, x, h => by
    rcases mem_fold r (insN l w) x h with h | h
    · exact .inl (by simp [h])
    · rcases mem_insA w false l x h with h | h
      · exact .inl (by simp [h])
      · exact .inr h

/-- Names of resources and of locals are names. -/
theorem raw_names (k : Int) (hk : k = 6 ∨ k = 7) : ∀ (d : Nat) (v : Vl d) (deep : Nat), goodE d v deep = true → ∀ x ∈ rawN k d v, nameB x = true := by
  intro d
  induction d with
  | zero => intro v; exact v.elim
  | succ d ih =>
    intro v deep hg x hx
    obtain ⟨vk, vn, vs, vK, vL⟩ := v
    obtain ⟨_, hsh, hkids⟩ := (goodE_succ _ _ _ _ _ _ _).1 hg
    have hx' : x ∈ (if vk = k then [vs] else []) ++ (vL.map (rawN k d)).flatten := hx
    rcases List.mem_append.1 hx' with h | h
    · split at h
      · next e =>
        have hx2 : x = vs := by simpa using h
        subst hx2
        unfold shpB at hsh
        simp only [Bool.and_eq_true] at hsh
        have hs := hsh.2
        rcases hk with rfl | rfl
        · subst e
          exact hs
        · subst e
          have hs' : (nameB x && !keptB x) = true := hs
          simp only [Bool.and_eq_true] at hs'
          exact hs'.1
      · simp at h
    · obtain ⟨l, hl, hxl⟩ := List.mem_flatten.1 h
      obtain ⟨y, hy, rfl⟩ := List.mem_map.1 hl
      obtain ⟨j, hj, rfl⟩ := List.getElem_of_mem hy
      exact ih _ _ (hkids j hj) x hxl

theorem names_len {k : Int} (hk : k = 6 ∨ k = 7) {d : Nat} {v : Vl d} (h : exprB d v = true) : ((rawN k d v).foldl insN []).length ≤ 150 ∧ ∀ i, i < ((rawN k d v).foldl insN []).length → (((rawN k d v).foldl insN []).getD i []).length ≤ 8 := by
  simp only [exprB, Bool.and_eq_true, decide_eq_true_eq] at h
  constructor
  · have h1 := fold_len (rawN k d v) []
    have h2 := rawN_len k d v
    simp at h1
    omega
  · intro i hi
    have hm : ((rawN k d v).foldl insN []).getD i [] ∈ (rawN k d v).foldl insN [] := by
      rw [List.getD_eq_getElem?_getD, List.getElem?_eq_getElem hi]
      exact List.getElem_mem hi
    rcases mem_fold _ _ _ hm with h1 | h1
    · have := raw_names k hk d v 1 h.1 _ h1
      simp only [nameB, Bool.and_eq_true, decide_eq_true_eq] at this
      exact this.1.2
    · simp at h1

set_option maxHeartbeats 2000000 in
set_option maxRecDepth 100000 in
theorem spec_Uses_any (d N : Nat) (c0 c1 c2 c3 c4 : Value) (v : Vl d) (w : World) (hv : VSeg (fun b => b < N) w d (c0, c1, c2, c3, c4) v) (hN : N ≤ w.heap.size) :
    Calls Tryd.prog 28 #[.agg #[c0, c1, c2, c3, c4]] w (UEnd 7 d v w) := by
  have b0 : ∀ o : Obj, Below w.heap.size w (w.alloc o) := fun o => (Below.refl _ _).alloc (Nat.le_refl _) o
  have HE : Hid (∀ o : Obj, Calls Tryd.prog 10 #[.agg #[c0, c1, c2, c3, c4]] (w.alloc o) fun e w' => e = .returned (.bool (exprB d v)) ∧ Below (w.alloc o).heap.size (w.alloc o) w') := fun o => spec_ExprOk_any d N c0 c1 c2 c3 c4 v _ (VSeg.agree (agree_below ((b0 o).mono hN)) d hv) (by simp; omega)
  have HV : Hid (∀ wx, Below w.heap.size w wx → VSeg (fun b => b < N) wx d (c0, c1, c2, c3, c4) v) := fun wx hb => VSeg.agree (agree_below (hb.mono hN)) d hv
  have Hb := hide' b0
  obtain ⟨ck, cn, a2, l2, p2, a3, l3, p3, a4, l4, p4, rfl, rfl, rfl, rfl, rfl⟩ := VSeg.form d hv
  clear b0 hv
  by_cases hok : exprB d v = true
  · obtain ⟨n1, n2⟩ := names_len (k := 7) (by omega) hok
    have hn : Hid (namesE 7 d v = (rawN 7 d v).foldl insN []) := if_pos hok
    have hp : partsE d v ≤ 150 := by simp only [exprB, Bool.and_eq_true, decide_eq_true_eq] at hok; exact hok.2
    have HN : Hid (∀ wx, Below w.heap.size w wx → Calls Tryd.prog 57 #[.agg #[.int .i64 ck, .int .i64 cn, .slice a2 l2 p2, .slice a3 l3 p3, .slice a4 l4 p4], .int .i64 7, .slice none 0 0] wx fun e w' => ∃ y, e = .returned y ∧ NR N w' w.heap.size y ((rawN 7 d v).foldl insN []) ∧ Below wx.heap.size wx w') := fun wx hb =>
      l6names_any 7 d N w.heap.size _ [] (.int .i64 ck, .int .i64 cn, .slice a2 l2 p2, .slice a3 l3 p3, .slice a4 l4 p4) v wx (HV.out wx hb) hN hb.size (NR.nil _ _ _) (by simp; omega)
    have HO : Hid (∀ y wx, Below w.heap.size w wx → NR N wx w.heap.size y ((rawN 7 d v).foldl insN []) → Calls Tryd.prog 56 #[y] wx fun e w' => ∃ u, e = .returned u ∧ ∃ B, KOwn w' u ((rawN 7 d v).foldl insN []) B ∧ (∀ b ∈ B, wx.heap.size ≤ b ∧ b < w'.heap.size) ∧ Below wx.heap.size wx w') := fun y wx hb hR =>
      l4ownAddrs_any N w.heap.size y _ wx hR (by have := hb.size; omega) (by omega) (fun i hi => by have := n2 i hi; omega)
    rw [hok] at HE
    clear n1 n2 hp hok HV
    go_enter Tryd.func28, Tryd.ntmps28
    go_wp2_with fail
    refine (HE.out _).mono ?_
    rintro e w1 ⟨rfl, b1⟩
    obtain ⟨y0, y1, y2, y3, y4, _⟩ := row5 (box_row b1)
    have B1 := Below.on (Hb.out _) b1
    have HN1 := hide' (HN.out w1 B1)
    clear b1 HE
    go_wp2_with fail
    refine HN1.out.mono ?_
    rintro e w2 ⟨y, rfl, hR2, b2⟩
    have B2 := Below.on B1 b2
    have HO2 := hide' (HO.out y w2 B2 hR2)
    obtain ⟨ya, yc, rfl⟩ := hR2.shape
    generalize hlen : ((rawN 7 d v).foldl insN []).length = ln at *
    clear b2 hR2 HN1 y0 y1 y2 y3 y4
    go_wp2_with fail
    refine HO2.out.mono ?_
    rintro e w3 ⟨u, rfl, B, hK, hB, b3⟩
    have hz := B2.size
    have hus : ∃ a n c, u = .slice a n c := by rcases hK with ⟨rfl, _⟩ | ⟨g, cap, cur, Bs, rfl, _⟩ <;> exact ⟨_, _, _, rfl⟩
    have HF : Hid (UEnd 7 d v w (.returned u) w3) := ⟨u, rfl, B, by rw [hn.out]; exact hK, fun b hb => by have := hB b hb; omega, Below.on B2 b3⟩
    obtain ⟨_, _, _, rfl⟩ := hus
    clear hK hB b3 HO2
    go_wp2
    go_ret
    exact HF.out
  · have hno : exprB d v = false := by simpa using hok
    have hn : Hid (namesE 7 d v = []) := if_neg hok
    rw [hno] at HE
    clear hno hok HV
    go_enter Tryd.func28, Tryd.ntmps28
    go_wp2_with fail
    refine (HE.out _).mono ?_
    rintro e w1 ⟨rfl, b1⟩
    have B1 := Below.on (Hb.out _) b1
    clear b1 HE
    go_wp2
    go_ret
    exact ⟨_, rfl, [], by rw [hn.out]; exact kNilE _, by simp, B1⟩

set_option maxHeartbeats 2000000 in
set_option maxRecDepth 100000 in
theorem spec_Locals_any (d N : Nat) (c0 c1 c2 c3 c4 : Value) (v : Vl d) (w : World) (hv : VSeg (fun b => b < N) w d (c0, c1, c2, c3, c4) v) (hN : N ≤ w.heap.size) :
    Calls Tryd.prog 33 #[.agg #[c0, c1, c2, c3, c4]] w (UEnd 6 d v w) := by
  have b0 : ∀ o : Obj, Below w.heap.size w (w.alloc o) := fun o => (Below.refl _ _).alloc (Nat.le_refl _) o
  have HE : Hid (∀ o : Obj, Calls Tryd.prog 10 #[.agg #[c0, c1, c2, c3, c4]] (w.alloc o) fun e w' => e = .returned (.bool (exprB d v)) ∧ Below (w.alloc o).heap.size (w.alloc o) w') := fun o => spec_ExprOk_any d N c0 c1 c2 c3 c4 v _ (VSeg.agree (agree_below ((b0 o).mono hN)) d hv) (by simp; omega)
  have HV : Hid (∀ wx, Below w.heap.size w wx → VSeg (fun b => b < N) wx d (c0, c1, c2, c3, c4) v) := fun wx hb => VSeg.agree (agree_below (hb.mono hN)) d hv
  have Hb := hide' b0
  obtain ⟨ck, cn, a2, l2, p2, a3, l3, p3, a4, l4, p4, rfl, rfl, rfl, rfl, rfl⟩ := VSeg.form d hv
  clear b0 hv
  by_cases hok : exprB d v = true
  · obtain ⟨n1, n2⟩ := names_len (k := 6) (by omega) hok
    have hn : Hid (namesE 6 d v = (rawN 6 d v).foldl insN []) := if_pos hok
    have hp : partsE d v ≤ 150 := by simp only [exprB, Bool.and_eq_true, decide_eq_true_eq] at hok; exact hok.2
    have HN : Hid (∀ wx, Below w.heap.size w wx → Calls Tryd.prog 57 #[.agg #[.int .i64 ck, .int .i64 cn, .slice a2 l2 p2, .slice a3 l3 p3, .slice a4 l4 p4], .int .i64 6, .slice none 0 0] wx fun e w' => ∃ y, e = .returned y ∧ NR N w' w.heap.size y ((rawN 6 d v).foldl insN []) ∧ Below wx.heap.size wx w') := fun wx hb =>
      l6names_any 6 d N w.heap.size _ [] (.int .i64 ck, .int .i64 cn, .slice a2 l2 p2, .slice a3 l3 p3, .slice a4 l4 p4) v wx (HV.out wx hb) hN hb.size (NR.nil _ _ _) (by simp; omega)
    have HO : Hid (∀ y wx, Below w.heap.size w wx → NR N wx w.heap.size y ((rawN 6 d v).foldl insN []) → Calls Tryd.prog 56 #[y] wx fun e w' => ∃ u, e = .returned u ∧ ∃ B, KOwn w' u ((rawN 6 d v).foldl insN []) B ∧ (∀ b ∈ B, wx.heap.size ≤ b ∧ b < w'.heap.size) ∧ Below wx.heap.size wx w') := fun y wx hb hR =>
      l4ownAddrs_any N w.heap.size y _ wx hR (by have := hb.size; omega) (by omega) (fun i hi => by have := n2 i hi; omega)
    rw [hok] at HE
    clear n1 n2 hp hok HV
    go_enter Tryd.func33, Tryd.ntmps33
    go_wp2_with fail
    refine (HE.out _).mono ?_
    rintro e w1 ⟨rfl, b1⟩
    obtain ⟨y0, y1, y2, y3, y4, _⟩ := row5 (box_row b1)
    have B1 := Below.on (Hb.out _) b1
    have HN1 := hide' (HN.out w1 B1)
    clear b1 HE
    go_wp2_with fail
    refine HN1.out.mono ?_
    rintro e w2 ⟨y, rfl, hR2, b2⟩
    have B2 := Below.on B1 b2
    have HO2 := hide' (HO.out y w2 B2 hR2)
    obtain ⟨ya, yc, rfl⟩ := hR2.shape
    generalize hlen : ((rawN 6 d v).foldl insN []).length = ln at *
    clear b2 hR2 HN1 y0 y1 y2 y3 y4
    go_wp2_with fail
    refine HO2.out.mono ?_
    rintro e w3 ⟨u, rfl, B, hK, hB, b3⟩
    have hz := B2.size
    have hus : ∃ a n c, u = .slice a n c := by rcases hK with ⟨rfl, _⟩ | ⟨g, cap, cur, Bs, rfl, _⟩ <;> exact ⟨_, _, _, rfl⟩
    have HF : Hid (UEnd 6 d v w (.returned u) w3) := ⟨u, rfl, B, by rw [hn.out]; exact hK, fun b hb => by have := hB b hb; omega, Below.on B2 b3⟩
    obtain ⟨_, _, _, rfl⟩ := hus
    clear hK hB b3 HO2
    go_wp2
    go_ret
    exact HF.out
  · have hno : exprB d v = false := by simpa using hok
    have hn : Hid (namesE 6 d v = []) := if_neg hok
    rw [hno] at HE
    clear hno hok HV
    go_enter Tryd.func33, Tryd.ntmps33
    go_wp2_with fail
    refine (HE.out _).mono ?_
    rintro e w1 ⟨rfl, b1⟩
    have B1 := Below.on (Hb.out _) b1
    clear b1 HE
    go_wp2
    go_ret
    exact ⟨_, rfl, [], by rw [hn.out]; exact kNilE _, by simp, B1⟩

end Go.Proofs.YtgdjdgaoflekgaaDoor
/-
  shaped of the program: what it answers where the table of shapes lies as it was laid: 'shpB'.
-/
namespace Go.Proofs.YtgdjdgaoflekgaaDoor
open Go.RowKit
set_option linter.unusedVariables false
set_option linter.unusedSimpArgs false

/-- The table of shapes lies in its variable's block. -/
def ShpT (w : World) : Prop := ∀ k : Nat, k < 24 → w.cell? ⟨3, k * 4, none⟩ = some (.int .i64 (mostI k)) ∧ w.cell? ⟨3, k * 4 + 1, none⟩ = some (.int .i64 (saysI k)) ∧
  w.cell? ⟨3, k * 4 + 2, none⟩ = some (.bool (decide (k = 5))) ∧ w.cell? ⟨3, k * 4 + 3, none⟩ = some (.int .i64 (arI k))

theorem ShpT.lt {w : World} (h : ShpT w) : 3 < w.heap.size := World.block_lt_of_cell? w _ (h 0 (by omega)).1

theorem ShpT.below {w w' : World} (h : ShpT w) (hb : Below w.heap.size w w') : ShpT w' := fun k hk => by
  obtain ⟨h0, h1, h2, h3⟩ := h k hk
  have hl := h.lt
  exact ⟨(hb.cell (p := ⟨3, k * 4, none⟩) hl).trans h0, (hb.cell (p := ⟨3, k * 4 + 1, none⟩) hl).trans h1, (hb.cell (p := ⟨3, k * 4 + 2, none⟩) hl).trans h2, (hb.cell (p := ⟨3, k * 4 + 3, none⟩) hl).trans h3⟩

theorem ShpT.agree {R : Nat → Prop} {w w' : World} (h : ShpT w) (ha : Agree R w w') (hR : R 3) : ShpT w' := fun k hk => by
  obtain ⟨h0, h1, h2, h3⟩ := h k hk
  exact ⟨(cell_agree ha hR).trans h0, (cell_agree ha hR).trans h1, (cell_agree ha hR).trans h2, (cell_agree ha hR).trans h3⟩

set_option maxHeartbeats 1600000 in
theorem shaped_out (k n : Int) (c2 c3 c4 : Value) (w : World) (h : k < 0 ∨ 23 < k) :
    Calls Tryd.prog 64 #[.agg #[.int .i64 k, .int .i64 n, c2, c3, c4]] w fun e w' => e = .returned (.bool false) ∧ Below w.heap.size w w' := by
  have b0 : ∀ o : Obj, Below w.heap.size w (w.alloc o) := fun o => (Below.refl _ _).alloc (Nat.le_refl _) o
  have Hb := hide' b0
  clear b0
  rcases h with h | h
  all_goals
    go_enter Tryd.func64, Tryd.ntmps64
    go_wp2
    go_ret
    exact ⟨rfl, Hb.out _⟩

/-- What shaped answers, of numbers. -/
def shpR (kb : Bool) (q m n : Int) (l3 l4 : Nat) (ab sb : Bool) : Bool :=
  (if kb then decide (l3 = l4) && ab else decide (l3 = 0)) && (decide (q = -1) || decide (q = l4)) && decide (0 ≤ n) && decide (n ≤ m) && sb

theorem shpB_R (k : Nat) (hk : k < 24) (n : Int) (vs : List Int) (vK : List (List Int)) (l4 : Nat) :
    shpB k n vs vK l4 = shpR (decide (k = 5)) (arI k) (mostI k) n vK.length l4 (ascB vK) (saysB (saysI k) vs) := by
  have h1 : (0 : Int) ≤ (k : Int) := by omega
  have h2 : (k : Int) ≤ 23 := by omega
  have h3 : ((k : Int) = 5) ↔ k = 5 := by omega
  simp [shpB, shpR, keysB, kidsB, h1, h2, h3]

set_option maxHeartbeats 4000000 in
theorem shaped_in (R : Nat → Prop) (k : Nat) (hk : k < 24) (n : Int) (a2 a3 a4 : Option Addr) (p2 p3 p4 l4 : Nat) (vs : List Int) (vK : List (List Int)) (w : World) (hT : ShpT w) (s2 : Seg w a2 vs) (m2 : vs.length ≤ maxLen)
    (h3 : KSeg (fun b => b < w.heap.size) w (.slice a3 vK.length p3) vK) (hl4 : l4 ≤ maxLen) :
    Calls Tryd.prog 64 #[.agg #[.int .i64 k, .int .i64 n, .slice a2 vs.length p2, .slice a3 vK.length p3, .slice a4 l4 p4]] w fun e w' => e = .returned (.bool (shpB k n vs vK l4)) ∧ Below w.heap.size w w' := by
  have b0 : ∀ o : Obj, Below w.heap.size w (w.alloc o) := fun o => (Below.refl _ _).alloc (Nat.le_refl _) o
  have b1 : ∀ o o' : Obj, Below w.heap.size w ((w.alloc o).alloc o') := fun o o' => (b0 o).alloc (by simp) o'
  have Hb := hide' b1
  have hlt := hT.lt
  obtain ⟨t0, t1, t2, t3⟩ := hT k hk
  have u0 : ∀ o : Obj, (w.alloc o).cell? ⟨3, k * 4, none⟩ = some (.int .i64 (mostI k)) := fun o => ((b0 o).cell (p := ⟨3, k * 4, none⟩) hlt).trans t0
  have u1 : ∀ o : Obj, (w.alloc o).cell? ⟨3, k * 4 + 1, none⟩ = some (.int .i64 (saysI k)) := fun o => ((b0 o).cell (p := ⟨3, k * 4 + 1, none⟩) hlt).trans t1
  have u2 : ∀ o : Obj, (w.alloc o).cell? ⟨3, k * 4 + 2, none⟩ = some (.bool (decide (k = 5))) := fun o => ((b0 o).cell (p := ⟨3, k * 4 + 2, none⟩) hlt).trans t2
  have u3 : ∀ o : Obj, (w.alloc o).cell? ⟨3, k * 4 + 3, none⟩ = some (.int .i64 (arI k)) := fun o => ((b0 o).cell (p := ⟨3, k * 4 + 3, none⟩) hlt).trans t3
  have HA : Hid (∀ wx, Below w.heap.size w wx → Calls Tryd.prog 78 #[.slice a3 vK.length p3] wx fun e w' => e = .returned (.bool (ascB vK)) ∧ wx = w') := fun wx hb => ascendingNames_any _ _ vK wx (h3.agree (agree_below hb))
  have HS : Hid (∀ wx, Below w.heap.size w wx → Calls Tryd.prog 86 #[.int .i64 (saysI k), .slice a2 vs.length p2] wx fun e w' => e = .returned (.bool (saysB (saysI k) vs)) ∧ wx = w') := fun wx hb => impl_saysOk_any _ a2 p2 vs wx (s2.grow hb) m2
  have HW := hide' (shpB_R k hk n vs vK l4)
  have h1 : ¬ (k : Int) < 0 := by omega
  have h2 : ¬ (23 : Int) < (k : Int) := by omega
  have hl3 : vK.length ≤ maxLen := by
    obtain ⟨_, _, e, h, h', _⟩ := h3
    simp at e
    omega
  generalize ascB vK = ab at *
  generalize saysB (saysI k) vs = sb at *
  generalize saysI k = c at *
  generalize mostI k = m at *
  generalize arI k = q at *
  generalize decide (k = 5) = kb at *
  generalize vK.length = l3 at *
  unfold maxLen at hl4 hl3
  clear t0 t1 t2 t3 b0 b1 h3 s2 hT
  cases kb
  all_goals
    go_enter Tryd.func64, Tryd.ntmps64
    go_wp2_with (first
      | (go_at_call 78; refine (HA.out _ (Hb.out _ _)).mono ?_; rintro e w1 ⟨rfl, e1⟩; obtain rfl := e1)
      | (go_at_call 86; refine (HS.out _ (Hb.out _ _)).mono ?_; rintro e w1 ⟨rfl, e1⟩; obtain rfl := e1))
    all_goals
      go_ret
      refine ⟨ret_bool ?_, Hb.out _ _⟩
      rw [HW.out]
      clear HW HA HS Hb u0 u1 u2 u3
      first | (simp [shpR, *]; done) | (simp [shpR, *]; omega)
end Go.Proofs.YtgdjdgaoflekgaaDoor
