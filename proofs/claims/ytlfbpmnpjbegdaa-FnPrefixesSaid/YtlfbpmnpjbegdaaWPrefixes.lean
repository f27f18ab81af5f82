/-
  FnPrefixes answers true, whatever code it is handed; it makes new memory and turns nothing old.
-/
import Derived.Test.YtlfbpmnpjbegdaaDraw3
import Derived.Test.YtlfbpmnpjbegdaaWNumLen
namespace Go.Proofs.Ytlfbpmnpjbegdaa
open Go.RowKit
set_option linter.unusedVariables false

theorem take_com (xs ys : List Int) : xs.take (com xs ys) = ys.take (com xs ys) := by
  induction xs generalizing ys with
  | nil => simp [com]
  | cons x xs ih =>
    cases ys with
    | nil => simp [com]
    | cons y ys =>
      unfold com
      split
      · next h => simp [h, ih ys]
      · simp

theorem com_comm (xs ys : List Int) : com xs ys = com ys xs := by
  induction xs generalizing ys with
  | nil => cases ys <;> simp [com]
  | cons x xs ih =>
    cases ys with
    | nil => simp [com]
    | cons y ys =>
      unfold com
      by_cases h : x = y
      · simp [h, ih ys]
      · simp [h, Ne.symm h]

theorem com_end (xs ys : List Int) (h1 : com xs ys < xs.length) (h2 : com xs ys < ys.length) : xs.getD (com xs ys) 0 ≠ ys.getD (com xs ys) 0 := fun e => by
  have := com_step xs ys (com xs ys) (Nat.le_refl _) h1 h2 e
  omega

theorem hasPre_take (xs ys : List Int) : hasPre xs (ys.take (com xs ys)) = true := by
  have h := com_le xs ys
  have hl : (ys.take (com xs ys)).length = com xs ys := by simp; omega
  simp only [hasPre, hl, decide_eq_true_eq]
  exact take_com xs ys

theorem com_full {xs ys : List Int} (h : xs.take ys.length = ys) : com xs ys = ys.length := by
  induction xs generalizing ys with
  | nil => cases ys with
    | nil => simp [com]
    | cons y ys => simp at h
  | cons x xs ih =>
    cases ys with
    | nil => simp [com]
    | cons y ys =>
      simp at h
      unfold com
      rw [if_pos h.1, ih h.2]
      simp

theorem hasPre_com (xs ys : List Int) : hasPre xs ys = ((com xs ys : Int) == (ys.length : Int)) := by
  by_cases h : xs.take ys.length = ys
  · have := com_full h
    simp [hasPre, h, this]
  · have h2 : com xs ys ≠ ys.length := fun e => h (by have := take_com xs ys; rw [e] at this; rw [this]; simp)
    simp [hasPre, h]
    omega

theorem numLen_200 : numLen 200 = 2 := by
  have h : numLen ((200 : Nat) : Int) = (digs 200).length := numLen_yes 200 (by omega)
  rw [digs_big 200 (by omega), digs_small _ (by omega)] at h
  exact h

set_option maxHeartbeats 4000000 in
theorem walk_FnPrefixes (a : Option Addr) (cap : Nat) (xs : List Int) (w : World) (ha : Seg w a xs) (hl : xs.length ≤ maxLen) :
    Calls Try.prog 4 #[.slice a xs.length cap] w fun e w' => e = .returned (.bool true) ∧ Below w.heap.size w w' := by
  go_enter Try.func4, Try.ntmps4
  go_wp2_with fail
  refine (DrawCommon_any a cap xs _ ha hl).mono ?_
  rintro e w1 ⟨v1, v2, ys, zs, rfl, hy1, hz1, hyl, hzl, b1⟩
  obtain ⟨a1, c1, rfl, sy1, hc1, hm1, k1⟩ := hy1.seg_len
  obtain ⟨a2, c2, rfl, sz1, hc2, hm2, k2⟩ := hz1.seg_len
  clear hy1 hz1
  go_wp2_with fail
  refine (impl_Common_any _ _ _ _ ys zs _ sy1 sz1 (by omega) (by omega)).mono ?_
  rintro e w2 ⟨rfl, b2⟩
  have B2 := Below.on b1 b2
  have sy2 := sy1.grow b2
  have sz2 := sz1.grow b2
  clear b1 b2 sy1 sz1
  go_wp2_with fail
  refine (DrawHasPrefix_any a cap xs _ (ha.grow B2) hl).mono ?_
  rintro e w3 ⟨v3, v4, cs, ps, rfl, hc3, hp3, hcl, hpl, b3⟩
  obtain ⟨a3, c3, rfl, sc3, hc3', hm3, k3⟩ := hc3.seg_len
  obtain ⟨a4, c4, rfl, sp3, hc4', hm4, k4⟩ := hp3.seg_len
  have B3 := Below.on B2 b3
  have sy3 := sy2.grow b3
  have sz3 := sz2.grow b3
  clear hc3 hp3 b3 sy2 sz2 B2
  go_wp2_with fail
  refine (DrawNumLen_any a cap xs _ (ha.grow B3) hl).mono ?_
  rintro e w4 ⟨z, rfl, hzw, b4⟩
  have B4 := Below.on B3 b4
  have sy := sy3.grow b4
  have sz := sz3.grow b4
  have sc := sc3.grow b4
  have sp := sp3.grow b4
  clear sy3 sz3 sc3 sp3 b4 B3
  unfold maxLen at hm1 hm2 hm3 hm4
  have hcle := com_le ys zs
  obtain ⟨hn1, hn2⟩ := hcle
  -- what the calls of the test answer
  have hS : ∀ nq, Calls Try.prog 18 #[.slice a1 (com ys zs) c1, .slice a2 (com ys zs) c2] (w4.drewN nq) fun e w' => e = .returned (.bool true) ∧ w' = w4.drewN nq := by
    intro nq
    have bq : Below w4.heap.size w4 (w4.drewN nq) := below_drewN (Below.refl _ _) nq
    have h := laws_sameBytes_any a1 a2 c1 c2 (ys.take (com ys zs)) (zs.take (com ys zs)) (w4.drewN nq) (seg_take (sy.grow bq) _) (seg_take (sz.grow bq) _)
    rw [show (ys.take (com ys zs)).length = com ys zs from by simp; omega, show (zs.take (com ys zs)).length = com ys zs from by simp; omega] at h
    refine h.mono ?_
    rintro e w5 ⟨rfl, rfl⟩
    exact ⟨by simp [take_com ys zs], rfl⟩
  have hM : ∀ nq, Calls Try.prog 21 #[.slice a2 zs.length c2, .slice a1 ys.length c1] (w4.drewN nq) fun e w' => e = .returned (.int .i64 (com ys zs)) ∧ ∃ m, w' = (w4.drewN nq).drewN m := by
    intro nq
    have bq : Below w4.heap.size w4 (w4.drewN nq) := below_drewN (Below.refl _ _) nq
    have h := impl_Common_quiet a2 a1 c2 c1 zs ys (w4.drewN nq) (sz.grow bq) (sy.grow bq) (by omega) (by omega)
    rw [com_comm zs ys] at h
    exact h
  have hC : ∀ wx : World, Seg wx a3 cs → Seg wx a4 ps → Calls Try.prog 24 #[.slice a3 cs.length c3, .slice a4 ps.length c4] wx fun e w' => e = .returned (.bool ((com cs ps : Int) == (ps.length : Int))) ∧ wx = w' := by
    intro wx h1 h2
    have h := impl_HasPrefix_any a3 a4 c3 c4 cs ps wx h1 h2 hc3' (by unfold maxLen; omega) (by unfold maxLen; omega)
    rw [hasPre_com] at h
    exact h
  have HC := hide hC
  have hN : ∀ (z : Int) (wx : World), Calls Try.prog 25 #[.int .i64 z] wx fun e w' => e = .returned (.int .i64 ((putNum [] z).length : Nat)) ∧ Below wx.heap.size wx w' := fun z wx => impl_NumLen_any z wx
  have HN := hide hN
  have hN2 : ∀ wx : World, Calls Try.prog 25 #[.int .i64 200] wx fun e w' => e = .returned (.int .i64 2) ∧ Below wx.heap.size wx w' := by
    intro wx
    have h := impl_NumLen_any 200 wx
    rw [numLen_200] at h
    exact h
  have HN2 := hide hN2
  clear hC hN hN2
  have HS := hide hS
  have HM := hide hM
  have HP1 := hide (hasPre_take ys zs)
  have HE := hide (com_end ys zs)
  have hs1 := fun wx => slice_to wx a1 ys.length c1 (com ys zs) (by omega)
  have hs2 := fun wx => slice_to wx a2 zs.length c2 (com ys zs) (by omega)
  have hH : ∀ wx : World, Seg wx a1 ys → Seg wx a2 zs → Calls Try.prog 24 #[.slice a1 ys.length c1, .slice a2 (com ys zs) c2] wx fun e w' => e = .returned (.bool true) ∧ wx = w' := by
    intro wx h1 h2
    have h := impl_HasPrefix_any a1 a2 c1 c2 ys (zs.take (com ys zs)) wx h1 (seg_take h2 _) hc1 (by unfold maxLen; omega) (by unfold maxLen; simp; omega)
    rw [show (zs.take (com ys zs)).length = com ys zs from by simp; omega, hasPre_take] at h
    exact h
  have HH := hide hH
  clear hS hM hH
  generalize hnn : com ys zs = n at *
  generalize hla : ys.length = la at *
  generalize hlb : zs.length = lb at *
  have Hla := hide hla
  have Hlb := hide hlb
  clear hnn hla hlb
  have hd1 : decide (la < n) = false := by simp; omega
  have hd2 : decide (lb < n) = false := by simp; omega
  by_cases h1 : n < la
  · by_cases h2 : n < lb
    · obtain ⟨b1, o1, rfl, hq1⟩ := sy.at (k := n) (by have := unhide Hla; omega)
      obtain ⟨b2, o2, rfl, hq2⟩ := sz.at (k := n) (by have := unhide Hlb; omega)
      have hne := unhide HE h1 h2
      generalize ys.getD n 0 = d1 at hq1 hne
      generalize zs.getD n 0 = d2 at hq2 hne
      have hne' : (d1 == d2) = false := by simpa using hne
      have hd3 : decide (n < la) = true := by simp; omega
      have hd4 : decide (n < lb) = true := by simp; omega
      go_wp2_with fail
      go_quiet (first | (go_at_call 18; exact Calls.quiet_of_same (unhide HS _)) | (go_at_call 21; exact Calls.quiet_of (unhide HM _)))
      have bq : Below w4.heap.size w4 (w4.drewN nq) := below_drewN (Below.refl _ _) nq
      have B5 := Below.on B4 bq
      have sc5 := sc.grow bq
      have sp5 := sp.grow bq
      have h5 := unhide HH _ (sy.grow bq) (sz.grow bq)
      have H5 := hide h5
      clear h5 bq B4
      generalize w4.drewN nq = w5 at *
      go_wp2_with fail
      refine (unhide H5).mono ?_
      rintro e w6 ⟨rfl, e6⟩
      obtain rfl := e6
      go_wp2_with fail
      refine (unhide HC w5 sc5 sp5).mono ?_
      rintro e w6 ⟨rfl, e6⟩
      obtain rfl := e6
      go_wp2_with fail
      refine (impl_Common_any _ _ _ _ cs ps _ sc5 sp5 (by omega) (by omega)).mono ?_
      rintro e w7 ⟨rfl, b7⟩
      go_wp2_with fail
      refine (unhide HN z w7).mono ?_
      rintro e w8 ⟨rfl, b8⟩
      go_wp2_with fail
      refine (impl_PutNum_any none 0 [] z _ ⟨by simp, .inl rfl⟩ (fun _ => rfl) (by simp)).mono ?_
      rintro e w9 ⟨v9, rfl, hv9, b9⟩
      obtain ⟨a9, c9, rfl, _, _, _, _⟩ := hv9.seg_len
      have B9 := Below.on (Below.on (Below.on B5 b7) b8) b9
      clear hv9 b7 b8 b9 B5
      go_wp2_with fail
      refine (unhide HN2 w9).mono ?_
      rintro e w10 ⟨rfl, b10⟩
      have B10 := Below.on B9 b10
      go_wp2
      go_ret
      exact ⟨rfl, B10⟩
    · have hd3 : decide (n < la) = true := by simp; omega
      have hd4 : decide (n < lb) = false := by simp; omega
      go_wp2_with fail
      go_quiet (first | (go_at_call 18; exact Calls.quiet_of_same (unhide HS _)) | (go_at_call 21; exact Calls.quiet_of (unhide HM _)))
      have bq : Below w4.heap.size w4 (w4.drewN nq) := below_drewN (Below.refl _ _) nq
      have B5 := Below.on B4 bq
      have sc5 := sc.grow bq
      have sp5 := sp.grow bq
      have h5 := unhide HH _ (sy.grow bq) (sz.grow bq)
      have H5 := hide h5
      clear h5 bq B4
      generalize w4.drewN nq = w5 at *
      go_wp2_with fail
      refine (unhide H5).mono ?_
      rintro e w6 ⟨rfl, e6⟩
      obtain rfl := e6
      go_wp2_with fail
      refine (unhide HC w5 sc5 sp5).mono ?_
      rintro e w6 ⟨rfl, e6⟩
      obtain rfl := e6
      go_wp2_with fail
      refine (impl_Common_any _ _ _ _ cs ps _ sc5 sp5 (by omega) (by omega)).mono ?_
      rintro e w7 ⟨rfl, b7⟩
      go_wp2_with fail
      refine (unhide HN z w7).mono ?_
      rintro e w8 ⟨rfl, b8⟩
      go_wp2_with fail
      refine (impl_PutNum_any none 0 [] z _ ⟨by simp, .inl rfl⟩ (fun _ => rfl) (by simp)).mono ?_
      rintro e w9 ⟨v9, rfl, hv9, b9⟩
      obtain ⟨a9, c9, rfl, _, _, _, _⟩ := hv9.seg_len
      have B9 := Below.on (Below.on (Below.on B5 b7) b8) b9
      clear hv9 b7 b8 b9 B5
      go_wp2_with fail
      refine (unhide HN2 w9).mono ?_
      rintro e w10 ⟨rfl, b10⟩
      have B10 := Below.on B9 b10
      go_wp2
      go_ret
      exact ⟨rfl, B10⟩
  · have hd3 : decide (n < la) = false := by simp; omega
    go_wp2_with fail
    go_quiet (first | (go_at_call 18; exact Calls.quiet_of_same (unhide HS _)) | (go_at_call 21; exact Calls.quiet_of (unhide HM _)))
    have bq : Below w4.heap.size w4 (w4.drewN nq) := below_drewN (Below.refl _ _) nq
    have B5 := Below.on B4 bq
    have sc5 := sc.grow bq
    have sp5 := sp.grow bq
    have h5 := unhide HH _ (sy.grow bq) (sz.grow bq)
    have H5 := hide h5
    clear h5 bq B4
    generalize w4.drewN nq = w5 at *
    go_wp2_with fail
    refine (unhide H5).mono ?_
    rintro e w6 ⟨rfl, e6⟩
    obtain rfl := e6
    go_wp2_with fail
    refine (unhide HC w5 sc5 sp5).mono ?_
    rintro e w6 ⟨rfl, e6⟩
    obtain rfl := e6
    go_wp2_with fail
    refine (impl_Common_any _ _ _ _ cs ps _ sc5 sp5 (by omega) (by omega)).mono ?_
    rintro e w7 ⟨rfl, b7⟩
    go_wp2_with fail
    refine (unhide HN z w7).mono ?_
    rintro e w8 ⟨rfl, b8⟩
    go_wp2_with fail
    refine (impl_PutNum_any none 0 [] z _ ⟨by simp, .inl rfl⟩ (fun _ => rfl) (by simp)).mono ?_
    rintro e w9 ⟨v9, rfl, hv9, b9⟩
    obtain ⟨a9, c9, rfl, _, _, _, _⟩ := hv9.seg_len
    have B9 := Below.on (Below.on (Below.on B5 b7) b8) b9
    clear hv9 b7 b8 b9 B5
    go_wp2_with fail
    refine (unhide HN2 w9).mono ?_
    rintro e w10 ⟨rfl, b10⟩
    have B10 := Below.on B9 b10
    go_wp2
    go_ret
    exact ⟨rfl, B10⟩
end Go.Proofs.Ytlfbpmnpjbegdaa
