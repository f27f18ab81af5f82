/-
  Texts that a law leans on, one behind the other; no statement is proved here.
-/
import Derived.Test.YthkbapkndmlpfaaDoorPk8
/-
  l6item of the specification where the head is right: kind 1, many 1.
-/
namespace Go.Proofs.YthkbapkndmlpfaaDoor
open Go.RowKit
set_option linter.unusedVariables false
set_option linter.unusedSimpArgs false

set_option maxHeartbeats 4000000 in
set_option maxRecDepth 100000 in
theorem itR1 (d N : Nat) (cs : List Value) (nm : List Int) (by' : Vl d) (ks : List (List Int)) (es : List (Vl d)) (left : Int) (w : World) (h : ISeg (fun b => b < N) w d cs ((1, nm, 1, by', ks, es) : Itm d)) (hN : N ≤ w.heap.size) (h0 : 0 ≤ left) (h1 : left ≤ 150)
    (hh : headB d ((1, nm, 1, by', ks, es) : Itm d) = true) :
    Calls Tryd.prog 19 #[.agg cs.toArray, .int .i64 left] w fun e w' => e = .returned (.int .i64 (itemR d ((1, nm, 1, by', ks, es) : Itm d) left)) ∧ Below w.heap.size w w' := by
  obtain ⟨na, np, bk, bn, a2, l2, p2, a3, l3, p3, a4, l4, p4, xa, xp, ea, ep, rfl, ht, hv, hk, hl⟩ := h.form
  have HH := hide' hh
  simp only [headB] at ht hv hk hl hh ⊢
  have hw : wordB nm = true := by simp only [Bool.and_eq_true] at hh; exact hh.1
  have hel : es.length ≤ 6 := by simp at hh; omega
  have hkl : ks.length = es.length := by simp at hh; omega
  have HKL := hide' hkl
  have Hb : Hid (∀ o : Obj, Below w.heap.size w (w.alloc o)) := fun o => (Below.refl _ _).alloc (Nat.le_refl _) o
  have HW : Hid (∀ o : Obj, Calls Tryd.prog 42 #[.slice na nm.length np] (w.alloc o) fun e w' => e = .returned (.bool true) ∧ Below (w.alloc o).heap.size (w.alloc o) w') := fun o => by
    have ht' := ht.agree (w' := w.alloc o) (agree_below ((Hb.out o).mono hN))
    obtain ⟨_, _, e1, s1, _, m1, _⟩ := ht'
    simp at e1
    obtain ⟨rfl, _⟩ := e1
    have := spec_l6free_any na np nm (w.alloc o) s1 (by omega)
    rw [hw] at this
    exact this
  have HV : Hid (∀ wx, Below w.heap.size w wx → VSeg (fun b => b < N) wx d (.int .i64 bk, .int .i64 bn, .slice a2 l2 p2, .slice a3 l3 p3, .slice a4 l4 p4) by') := fun wx hb => VSeg.agree (agree_below (hb.mono hN)) d hv
  have HX : Hid (LSeg (fun b => b < N) w d (.slice ea es.length ep) es) := hl
  have Hbox : Hid (∀ o wx, Below (w.alloc o).heap.size (w.alloc o) wx → wx.heap[w.heap.size]? = some o) := fun o wx h => box_row h
  have HKs : Hid (KSeg (fun b => b < N) w (.slice xa ks.length xp) ks) := hk
  rw [hkl] at HKs
  rw [hkl]
  have HEl := hide' hel
  obtain ⟨R, hR⟩ : ∃ R, R = itemR d ((1, nm, 1, by', ks, es) : Itm d) left := ⟨_, rfl⟩
  have HR := hide' hR
  rw [← hR]
  clear ht hv hk hl h hh hw hkl hR
  generalize nm.length = s0 at *
  go_enter Tryd.func19, Tryd.ntmps19
  go_wp2_with fail
  refine (HW.out _).mono ?_
  rintro e w1 ⟨rfl, b1⟩
  have B1 := hide' b1
  clear b1 HW
  have hrow := Hbox.out _ _ B1.out
  have y10 := cell_of_row _ _ 0 _ _ _ hrow
  have y11 := cell_of_row _ _ 1 _ _ _ hrow
  have y12 := cell_of_row _ _ 2 _ _ _ hrow
  have y13 := cell_of_row _ _ 3 _ _ _ hrow
  have y14 := cell_of_row _ _ 4 _ _ _ hrow
  have y15 := cell_of_row _ _ 5 _ _ _ hrow
  have y16 := cell_of_row _ _ 6 _ _ _ hrow
  have y17 := cell_of_row _ _ 7 _ _ _ hrow
  have y18 := cell_of_row _ _ 8 _ _ _ hrow
  have y19 := cell_of_row _ _ 9 _ _ _ hrow
  simp at y10 y11 y12 y13 y14 y15 y16 y17 y18 y19
  clear hrow
  have HE := hide' (l6expr_any d N (.int .i64 bk, .int .i64 bn, .slice a2 l2 p2, .slice a3 l3 p3, .slice a4 l4 p4) by' 1 left w1 (HV.out w1 (Below.on (Hb.out _) B1.out)) (by have := (Below.on (Hb.out (.cells #[.int .i64 1, .slice na s0 np, .int .i64 1, .int .i64 bk, .int .i64 bn, .slice a2 l2 p2, .slice a3 l3 p3, .slice a4 l4 p4, .slice xa es.length xp, .slice ea es.length ep] 42)) B1.out).size; omega) (by omega) h0 h1)
  have H0 : Hid (∃ m, IK d ks es true m R ((m = left - byP d ((1, nm, 1, by', ks, es) : Itm d)) ∧ (if (1 : Int) = 0 then zeroE d by' = true else goodE d by' 1 = true) ∧ m ≤ 150) 0 (.int .i64 (okE d by' 1 left))) := by
    by_cases hg : goodE d by' 1 = true ∧ (partsE d by' : Int) ≤ left
    · refine ⟨left - partsE d by', Nat.zero_le _, .inl ⟨by rw [pre_zero, okE_yes hg.1 hg.2]; simp, by rw [pre_zero]; simp; omega, fun j _ h => by omega, fun _ j h => by omega, by simp [byP], ?_, by omega⟩⟩
      rw [if_neg (by decide)]
      exact hg.1
    · exact ⟨0, Nat.zero_le _, .inr ⟨by rw [okE_no hg], by rw [HR.out]; exact itemR_by (by show ¬ (1 : Int) = 0; decide) hg⟩⟩
  have hq : -1 ≤ okE d by' 1 left ∧ okE d by' 1 left ≤ 150 := by
    by_cases hg : goodE d by' 1 = true ∧ (partsE d by' : Int) ≤ left
    · rw [okE_yes hg.1 hg.2]; omega
    · rw [okE_no hg]; omega
  obtain ⟨hq0, hq1⟩ := hq
  generalize okE d by' 1 left = q at *
  go_wp2_with fail
  refine HE.out.mono ?_
  rintro e w2 ⟨rfl, b2⟩
  have B2 := hide' (Below.on B1.out b2)
  clear b2 HE h0 h1 y10 y11 y12 y13 y14 y15 y16 y17 y18 y19
  have hrow := Hbox.out _ _ B2.out
  have y20 := cell_of_row _ _ 0 _ _ _ hrow
  have y21 := cell_of_row _ _ 1 _ _ _ hrow
  have y22 := cell_of_row _ _ 2 _ _ _ hrow
  have y23 := cell_of_row _ _ 3 _ _ _ hrow
  have y24 := cell_of_row _ _ 4 _ _ _ hrow
  have y25 := cell_of_row _ _ 5 _ _ _ hrow
  have y26 := cell_of_row _ _ 6 _ _ _ hrow
  have y27 := cell_of_row _ _ 7 _ _ _ hrow
  have y28 := cell_of_row _ _ 8 _ _ _ hrow
  have y29 := cell_of_row _ _ 9 _ _ _ hrow
  simp at y20 y21 y22 y23 y24 y25 y26 y27 y28 y29
  clear hrow
  go_wp2_with fail
  obtain ⟨m, H1⟩ := H0.out
  replace H1 := hide' H1
  clear H0
  go_loopw [1, 5] (fun l i wr => ∃ k : Nat, i = .int .i64 k ∧ Hid (IK d ks es true m R ((m = left - byP d ((1, nm, 1, by', ks, es) : Itm d)) ∧ (if (1 : Int) = 0 then zeroE d by' = true else goodE d by' 1 = true) ∧ m ≤ 150) k l) ∧ Hid (Below (w.alloc (.cells #[.int .i64 1, .slice na s0 np, .int .i64 1, .int .i64 bk, .int .i64 bn, .slice a2 l2 p2, .slice a3 l3 p3, .slice a4 l4 p4, .slice xa es.length xp, .slice ea es.length ep] 42)).heap.size (w.alloc (.cells #[.int .i64 1, .slice na s0 np, .int .i64 1, .int .i64 bk, .int .i64 bn, .slice a2 l2 p2, .slice a3 l3 p3, .slice a4 l4 p4, .slice xa es.length xp, .slice ea es.length ep] 42)) wr)) (fun _ i _ => es.length - (intOf i).toNat)
  case atStart => exact ⟨0, rfl, H1, B2⟩
  case round =>
    clear B1 B2 H1 hq0 hq1 y20 y21 y22 y23 y24 y25 y26 y27 y28 y29
    obtain ⟨k, rfl, hIK, hbel⟩ := hrel
    have hrow := Hbox.out _ _ hbel.out
    have y0 := cell_of_row _ _ 0 _ _ _ hrow
    have y8 := cell_of_row _ _ 8 _ _ _ hrow
    have y9 := cell_of_row _ _ 9 _ _ _ hrow
    simp at y0 y8 y9
    have B := Below.on (Hb.out (.cells #[.int .i64 1, .slice na s0 np, .int .i64 1, .int .i64 bk, .int .i64 bn, .slice a2 l2 p2, .slice a3 l3 p3, .slice a4 l4 p4, .slice xa es.length xp, .slice ea es.length ep] 42)) hbel.out
    clear hrow
    obtain ⟨hk, ⟨rfl, hple, hgo, hst, hm, hby, hm1⟩ | ⟨rfl, hbad⟩⟩ := hIK.out
    rotate_left
    · have Hbad := hide' hbad
      clear hbad
      by_cases hlt : k < es.length
      · have hlt' : (k : Int) < (es.length : Int) := by have h2 := HEl.out; omega
        go_wp2
        go_ret
        exact ⟨ret_i64 Hbad.out.symm, B⟩
      · have hlt' : ¬ (k : Int) < (es.length : Int) := by have h2 := HEl.out; omega
        go_wp2
        go_ret
        exact ⟨ret_i64 Hbad.out.symm, B⟩
    have HM := hide' hm
    have HBy := hide' hby
    clear hm hby
    have hge : (0 : Int) ≤ m - pre (partsE d) es k := by omega
    by_cases hlt : k < es.length
    rotate_left
    · have hkn : k = es.length := by omega
      have hlt' : ¬ (k : Int) < (es.length : Int) := by have h2 := HEl.out; omega
      have HF : Hid (R = m - pre (partsE d) es k) := by
        show R = _
        rw [HR.out, itemR_all (it := ((1, nm, 1, by', ks, es) : Itm d)) HM.out HH.out (fun _ => ascB_yes fun i hi => hst rfl i (by have h1 := HKL.out; have h2 : i < ks.length := hi; omega)) HBy.out (fun j h => hgo j h (by show j < k; rw [hkn]; exact h)) (by show (pre (partsE d) es es.length : Int) ≤ m; rw [← hkn]; exact hple)]
        show m - pre (partsE d) es es.length = _
        rw [← hkn]
      clear hkn
      go_wp2
      go_ret
      exact ⟨ret_i64 HF.out.symm, B⟩
    have hlt' : (k : Int) < (es.length : Int) := by have h2 := HEl.out; omega
    obtain ⟨b, off, c, rfl, h5', hv⟩ := HX.out.at B hN hlt
    obtain ⟨c0, c1, c2, c3, c4⟩ := c
    obtain ⟨q0, q1, q2, q3, q4⟩ := h5'
    simp only at q0 q1 q2 q3 q4
    have hz := B.size
    have HC : Hid (∀ wx, Below w.heap.size w wx → Calls Tryd.prog 44 #[.agg #[c0, c1, c2, c3, c4], .int .i64 1, .int .i64 (m - pre (partsE d) es k)] wx fun e w' => e = .returned (.int .i64 (okE d es[k] 1 (m - pre (partsE d) es k))) ∧ Below wx.heap.size wx w') := fun wx hx => l6expr_any d N (c0, c1, c2, c3, c4) es[k] 1 _ wx (hv wx hx) (by have := hx.size; omega) (by omega) hge (by omega)
    have HNx : Hid (¬ (goodE d es[k] 1 = true ∧ (partsE d es[k] : Int) ≤ m - pre (partsE d) es k) → R = -1) := fun h => by rw [HR.out]; exact itemR_kid (it := ((1, nm, 1, by', ks, es) : Itm d)) HM.out hlt h
    clear hv
    have hKr : KSeg (fun b => b < N) wr (.slice xa es.length xp) ks := HKs.out.agree (agree_below (B.mono hN))
    have hltK : k < ks.length := by have := HKL.out; omega
    obtain ⟨kb, ko, rfl, hat⟩ := hKr.at hltK
    clear hKr
    obtain ⟨s2, e2, hu, g2, m2⟩ := hat k hltK
    have HNo : Hid (∀ i, i < ks.length → stepB ks i = false → R = -1) := fun i hi h => by rw [HR.out]; exact itemR_step (it := ((1, nm, 1, by', ks, es) : Itm d)) rfl hi h
    have HNm : Hid (∀ n, Calls Tryd.prog 45 #[.slice s2 (ks.getD k []).length e2] (wr.drewN n) fun e w' => e = .returned (.bool (nameB (ks.getD k []))) ∧ wr.drewN n = w') := fun n => spec_NameOk_any s2 e2 (ks.getD k []) (wr.drewN n) g2 m2
    by_cases hn : nameB (ks.getD k []) = true
    rotate_left
    · have hn' : nameB (ks.getD k []) = false := by simpa using hn
      rw [hn'] at HNm
      have HF := hide' (HNo.out k hltK (by unfold stepB; rw [hn']; rfl))
      generalize ks.getD k [] = ys at *
      clear hat hn hn' g2 HC HNx hgo hst hIK
      generalize m - pre (partsE d) es k = mx at *
      go_wp2_with fail
      go_quiet ((go_at_call 45; exact quiet_same (HNm.out _)))
      go_wp2
      go_ret
      exact ⟨ret_i64 HF.out.symm, below_drewN B _⟩
    rw [hn] at HNm
    cases k with
    | zero =>
      have HA : Hid (∀ j, j < 0 + 1 → stepB ks j = true) := fun j hj => by
        obtain rfl : j = 0 := by omega
        simp only [stepB, hn]
        simp
      simp only [Nat.add_zero, Nat.zero_mul] at hu q0 q1 q2 q3 q4
      generalize ks.getD 0 [] = ys at *
      clear hat hn g2
      by_cases hg : goodE d es[0] 1 = true ∧ (partsE d es[0] : Int) ≤ m - pre (partsE d) es 0
      · rw [okE_yes hg.1 hg.2] at HC
        have hps := pre_succ (partsE d) es 0 hlt
        have HF : Hid (IK d ks es true m R ((m = left - byP d ((1, nm, 1, by', ks, es) : Itm d)) ∧ (if (1 : Int) = 0 then zeroE d by' = true else goodE d by' 1 = true) ∧ m ≤ 150) (0 + 1) (.int .i64 (m - pre (partsE d) es 0 - partsE d es[0]))) := ⟨hlt, .inl ⟨by rw [hps]; simp; omega, by rw [hps]; simp; omega, fun j hj hjk => by
            by_cases e : j = 0
            · subst e; exact hg.1
            · exact hgo j hj (by omega), fun _ => HA.out, HM.out, HBy.out, hm1⟩⟩
        have hlo : -1 ≤ m - pre (partsE d) es 0 - partsE d es[0] := by omega
        have hup : m - pre (partsE d) es 0 - partsE d es[0] ≤ 150 := by omega
        generalize m - pre (partsE d) es 0 - partsE d es[0] = nx at *
        generalize m - pre (partsE d) es 0 = mx at *
        clear HNx hgo hst hIK hg hple hps HA
        go_wp2_with fail
        go_quiet ((go_at_call 45; exact quiet_same (HNm.out _)))
        go_wp2_with fail
        refine (HC.out _ (below_drewN B _)).mono ?_
        rintro e w3 ⟨rfl, b3⟩
        have B3 := hide' (Below.on (below_drewN hbel.out _) b3)
        clear q0 q1 q2 q3 q4 b3 y0 y8 y9
        go_wp2
        go_roundw
        case rel => exact ⟨0 + 1, by go_num, HF, B3⟩
        case measure => simp [intOf]; omega
      · rw [okE_no hg] at HC
        have HF : Hid (IK d ks es true m R ((m = left - byP d ((1, nm, 1, by', ks, es) : Itm d)) ∧ (if (1 : Int) = 0 then zeroE d by' = true else goodE d by' 1 = true) ∧ m ≤ 150) (0 + 1) (.int .i64 (-1))) := ⟨hlt, .inr ⟨rfl, HNx.out hg⟩⟩
        generalize m - pre (partsE d) es 0 = mx at *
        clear HNx hgo hst hIK hg hple HA
        go_wp2_with fail
        go_quiet ((go_at_call 45; exact quiet_same (HNm.out _)))
        go_wp2_with fail
        refine (HC.out _ (below_drewN B _)).mono ?_
        rintro e w3 ⟨rfl, b3⟩
        have B3 := hide' (Below.on (below_drewN hbel.out _) b3)
        clear q0 q1 q2 q3 q4 b3 y0 y8 y9
        go_wp2
        go_roundw
        case rel => exact ⟨0 + 1, by go_num, HF, B3⟩
        case measure => simp [intOf]; omega
    | succ j =>
      obtain ⟨s3, e3, hu3, g3, m3⟩ := hat j (by omega)
      have hsb : stepB ks (j + 1) = Op.bytesLess (strOf (ks.getD j [])).toList (strOf (ks.getD (j + 1) [])).toList := by
        rw [strOf_list, strOf_list]
        simp only [stepB, hn]
        simp [ltS]
      have hcv2 : ∀ n, (convert 29 9 (.slice s2 (ks.getD (j + 1) []).length e2)).run Tryd.prog (wr.drewN n) = .ok (.string (strOf (ks.getD (j + 1) []))) (wr.drewN n) := fun n => conv_seg (w := wr.drewN n) e2 g2
      have hcv3 : ∀ n, (convert 29 9 (.slice s3 (ks.getD j []).length e3)).run Tryd.prog (wr.drewN n) = .ok (.string (strOf (ks.getD j []))) (wr.drewN n) := fun n => conv_seg (w := wr.drewN n) e3 g3
      have hpos : (0 : Int) < ((j + 1 : Nat) : Int) := by omega
      by_cases hcmp : Op.bytesLess (strOf (ks.getD j [])).toList (strOf (ks.getD (j + 1) [])).toList = true
      rotate_left
      · have hcmp' : Op.bytesLess (strOf (ks.getD j [])).toList (strOf (ks.getD (j + 1) [])).toList = false := by simpa using hcmp
        have HF := hide' (HNo.out (j + 1) hltK (by rw [hsb]; exact hcmp'))
        generalize ks.getD (j + 1) [] = ys at *
        generalize ks.getD j [] = zs at *
        clear hat hn hsb g2 g3 HC HNx hcmp hgo hst hIK
        generalize m - pre (partsE d) es (j + 1) = mx at *
        go_wp2_with fail
        go_quiet ((go_at_call 45; exact quiet_same (HNm.out _)))
        go_wp2
        go_ret
        exact ⟨ret_i64 HF.out.symm, below_drewN B _⟩
      have HA : Hid (∀ i, i < j + 1 + 1 → stepB ks i = true) := fun i hi => by
        by_cases e : i = j + 1
        · subst e; rw [hsb]; exact hcmp
        · exact hst rfl i (by omega)
      generalize ks.getD (j + 1) [] = ys at *
      generalize ks.getD j [] = zs at *
      clear hat hn hsb g2 g3
      by_cases hg : goodE d es[(j + 1)] 1 = true ∧ (partsE d es[(j + 1)] : Int) ≤ m - pre (partsE d) es (j + 1)
      · rw [okE_yes hg.1 hg.2] at HC
        have hps := pre_succ (partsE d) es (j + 1) hlt
        have HF : Hid (IK d ks es true m R ((m = left - byP d ((1, nm, 1, by', ks, es) : Itm d)) ∧ (if (1 : Int) = 0 then zeroE d by' = true else goodE d by' 1 = true) ∧ m ≤ 150) ((j + 1) + 1) (.int .i64 (m - pre (partsE d) es (j + 1) - partsE d es[(j + 1)]))) := ⟨hlt, .inl ⟨by rw [hps]; simp; omega, by rw [hps]; simp; omega, fun i hi hik => by
            by_cases e : i = (j + 1)
            · subst e; exact hg.1
            · exact hgo i hi (by omega), fun _ => HA.out, HM.out, HBy.out, hm1⟩⟩
        have hlo : -1 ≤ m - pre (partsE d) es (j + 1) - partsE d es[(j + 1)] := by omega
        have hup : m - pre (partsE d) es (j + 1) - partsE d es[(j + 1)] ≤ 150 := by omega
        generalize m - pre (partsE d) es (j + 1) - partsE d es[(j + 1)] = nx at *
        generalize m - pre (partsE d) es (j + 1) = mx at *
        clear HNx hgo hst hIK hg hple hps HA
        go_wp2_with fail
        go_quiet ((go_at_call 45; exact quiet_same (HNm.out _)))
        go_wp2_with fail
        refine (HC.out _ (below_drewN B _)).mono ?_
        rintro e w3 ⟨rfl, b3⟩
        have B3 := hide' (Below.on (below_drewN hbel.out _) b3)
        clear q0 q1 q2 q3 q4 b3 y0 y8 y9
        go_wp2
        go_roundw
        case rel => exact ⟨(j + 1) + 1, by go_num, HF, B3⟩
        case measure => simp [intOf]; omega
      · rw [okE_no hg] at HC
        have HF : Hid (IK d ks es true m R ((m = left - byP d ((1, nm, 1, by', ks, es) : Itm d)) ∧ (if (1 : Int) = 0 then zeroE d by' = true else goodE d by' 1 = true) ∧ m ≤ 150) ((j + 1) + 1) (.int .i64 (-1))) := ⟨hlt, .inr ⟨rfl, HNx.out hg⟩⟩
        generalize m - pre (partsE d) es (j + 1) = mx at *
        clear HNx hgo hst hIK hg hple HA
        go_wp2_with fail
        go_quiet ((go_at_call 45; exact quiet_same (HNm.out _)))
        go_wp2_with fail
        refine (HC.out _ (below_drewN B _)).mono ?_
        rintro e w3 ⟨rfl, b3⟩
        have B3 := hide' (Below.on (below_drewN hbel.out _) b3)
        clear q0 q1 q2 q3 q4 b3 y0 y8 y9
        go_wp2
        go_roundw
        case rel => exact ⟨(j + 1) + 1, by go_num, HF, B3⟩
        case measure => simp [intOf]; omega
end Go.Proofs.YthkbapkndmlpfaaDoor
/-
  l6item of the specification where the head is right: kind 1, many 2.
-/
namespace Go.Proofs.YthkbapkndmlpfaaDoor
open Go.RowKit
set_option linter.unusedVariables false
set_option linter.unusedSimpArgs false

set_option maxHeartbeats 4000000 in
set_option maxRecDepth 100000 in
theorem itR2 (d N : Nat) (cs : List Value) (nm : List Int) (by' : Vl d) (ks : List (List Int)) (es : List (Vl d)) (left : Int) (w : World) (h : ISeg (fun b => b < N) w d cs ((1, nm, 2, by', ks, es) : Itm d)) (hN : N ≤ w.heap.size) (h0 : 0 ≤ left) (h1 : left ≤ 150)
    (hh : headB d ((1, nm, 2, by', ks, es) : Itm d) = true) :
    Calls Tryd.prog 19 #[.agg cs.toArray, .int .i64 left] w fun e w' => e = .returned (.int .i64 (itemR d ((1, nm, 2, by', ks, es) : Itm d) left)) ∧ Below w.heap.size w w' := by
  obtain ⟨na, np, bk, bn, a2, l2, p2, a3, l3, p3, a4, l4, p4, xa, xp, ea, ep, rfl, ht, hv, hk, hl⟩ := h.form
  have HH := hide' hh
  simp only [headB] at ht hv hk hl hh ⊢
  have hw : wordB nm = true := by simp only [Bool.and_eq_true] at hh; exact hh.1
  have hel : es.length ≤ 6 := by simp at hh; omega
  have hkl : ks.length = es.length := by simp at hh; omega
  have HKL := hide' hkl
  have Hb : Hid (∀ o : Obj, Below w.heap.size w (w.alloc o)) := fun o => (Below.refl _ _).alloc (Nat.le_refl _) o
  have HW : Hid (∀ o : Obj, Calls Tryd.prog 42 #[.slice na nm.length np] (w.alloc o) fun e w' => e = .returned (.bool true) ∧ Below (w.alloc o).heap.size (w.alloc o) w') := fun o => by
    have ht' := ht.agree (w' := w.alloc o) (agree_below ((Hb.out o).mono hN))
    obtain ⟨_, _, e1, s1, _, m1, _⟩ := ht'
    simp at e1
    obtain ⟨rfl, _⟩ := e1
    have := spec_l6free_any na np nm (w.alloc o) s1 (by omega)
    rw [hw] at this
    exact this
  have HV : Hid (∀ wx, Below w.heap.size w wx → VSeg (fun b => b < N) wx d (.int .i64 bk, .int .i64 bn, .slice a2 l2 p2, .slice a3 l3 p3, .slice a4 l4 p4) by') := fun wx hb => VSeg.agree (agree_below (hb.mono hN)) d hv
  have HX : Hid (LSeg (fun b => b < N) w d (.slice ea es.length ep) es) := hl
  have Hbox : Hid (∀ o wx, Below (w.alloc o).heap.size (w.alloc o) wx → wx.heap[w.heap.size]? = some o) := fun o wx h => box_row h
  have HKs : Hid (KSeg (fun b => b < N) w (.slice xa ks.length xp) ks) := hk
  rw [hkl] at HKs
  rw [hkl]
  have HEl := hide' hel
  obtain ⟨R, hR⟩ : ∃ R, R = itemR d ((1, nm, 2, by', ks, es) : Itm d) left := ⟨_, rfl⟩
  have HR := hide' hR
  rw [← hR]
  clear ht hv hk hl h hh hw hkl hR
  generalize nm.length = s0 at *
  go_enter Tryd.func19, Tryd.ntmps19
  go_wp2_with fail
  refine (HW.out _).mono ?_
  rintro e w1 ⟨rfl, b1⟩
  have B1 := hide' b1
  clear b1 HW
  have hrow := Hbox.out _ _ B1.out
  have y10 := cell_of_row _ _ 0 _ _ _ hrow
  have y11 := cell_of_row _ _ 1 _ _ _ hrow
  have y12 := cell_of_row _ _ 2 _ _ _ hrow
  have y13 := cell_of_row _ _ 3 _ _ _ hrow
  have y14 := cell_of_row _ _ 4 _ _ _ hrow
  have y15 := cell_of_row _ _ 5 _ _ _ hrow
  have y16 := cell_of_row _ _ 6 _ _ _ hrow
  have y17 := cell_of_row _ _ 7 _ _ _ hrow
  have y18 := cell_of_row _ _ 8 _ _ _ hrow
  have y19 := cell_of_row _ _ 9 _ _ _ hrow
  simp at y10 y11 y12 y13 y14 y15 y16 y17 y18 y19
  clear hrow
  have HE := hide' (l6expr_any d N (.int .i64 bk, .int .i64 bn, .slice a2 l2 p2, .slice a3 l3 p3, .slice a4 l4 p4) by' 1 left w1 (HV.out w1 (Below.on (Hb.out _) B1.out)) (by have := (Below.on (Hb.out (.cells #[.int .i64 1, .slice na s0 np, .int .i64 2, .int .i64 bk, .int .i64 bn, .slice a2 l2 p2, .slice a3 l3 p3, .slice a4 l4 p4, .slice xa es.length xp, .slice ea es.length ep] 42)) B1.out).size; omega) (by omega) h0 h1)
  have H0 : Hid (∃ m, IK d ks es true m R ((m = left - byP d ((1, nm, 2, by', ks, es) : Itm d)) ∧ (if (2 : Int) = 0 then zeroE d by' = true else goodE d by' 1 = true) ∧ m ≤ 150) 0 (.int .i64 (okE d by' 1 left))) := by
    by_cases hg : goodE d by' 1 = true ∧ (partsE d by' : Int) ≤ left
    · refine ⟨left - partsE d by', Nat.zero_le _, .inl ⟨by rw [pre_zero, okE_yes hg.1 hg.2]; simp, by rw [pre_zero]; simp; omega, fun j _ h => by omega, fun _ j h => by omega, by simp [byP], ?_, by omega⟩⟩
      rw [if_neg (by decide)]
      exact hg.1
    · exact ⟨0, Nat.zero_le _, .inr ⟨by rw [okE_no hg], by rw [HR.out]; exact itemR_by (by show ¬ (2 : Int) = 0; decide) hg⟩⟩
  have hq : -1 ≤ okE d by' 1 left ∧ okE d by' 1 left ≤ 150 := by
    by_cases hg : goodE d by' 1 = true ∧ (partsE d by' : Int) ≤ left
    · rw [okE_yes hg.1 hg.2]; omega
    · rw [okE_no hg]; omega
  obtain ⟨hq0, hq1⟩ := hq
  generalize okE d by' 1 left = q at *
  go_wp2_with fail
  refine HE.out.mono ?_
  rintro e w2 ⟨rfl, b2⟩
  have B2 := hide' (Below.on B1.out b2)
  clear b2 HE h0 h1 y10 y11 y12 y13 y14 y15 y16 y17 y18 y19
  have hrow := Hbox.out _ _ B2.out
  have y20 := cell_of_row _ _ 0 _ _ _ hrow
  have y21 := cell_of_row _ _ 1 _ _ _ hrow
  have y22 := cell_of_row _ _ 2 _ _ _ hrow
  have y23 := cell_of_row _ _ 3 _ _ _ hrow
  have y24 := cell_of_row _ _ 4 _ _ _ hrow
  have y25 := cell_of_row _ _ 5 _ _ _ hrow
  have y26 := cell_of_row _ _ 6 _ _ _ hrow
  have y27 := cell_of_row _ _ 7 _ _ _ hrow
  have y28 := cell_of_row _ _ 8 _ _ _ hrow
  have y29 := cell_of_row _ _ 9 _ _ _ hrow
  simp at y20 y21 y22 y23 y24 y25 y26 y27 y28 y29
  clear hrow
  go_wp2_with fail
  obtain ⟨m, H1⟩ := H0.out
  replace H1 := hide' H1
  clear H0
  go_loopw [1, 5] (fun l i wr => ∃ k : Nat, i = .int .i64 k ∧ Hid (IK d ks es true m R ((m = left - byP d ((1, nm, 2, by', ks, es) : Itm d)) ∧ (if (2 : Int) = 0 then zeroE d by' = true else goodE d by' 1 = true) ∧ m ≤ 150) k l) ∧ Hid (Below (w.alloc (.cells #[.int .i64 1, .slice na s0 np, .int .i64 2, .int .i64 bk, .int .i64 bn, .slice a2 l2 p2, .slice a3 l3 p3, .slice a4 l4 p4, .slice xa es.length xp, .slice ea es.length ep] 42)).heap.size (w.alloc (.cells #[.int .i64 1, .slice na s0 np, .int .i64 2, .int .i64 bk, .int .i64 bn, .slice a2 l2 p2, .slice a3 l3 p3, .slice a4 l4 p4, .slice xa es.length xp, .slice ea es.length ep] 42)) wr)) (fun _ i _ => es.length - (intOf i).toNat)
  case atStart => exact ⟨0, rfl, H1, B2⟩
  case round =>
    clear B1 B2 H1 hq0 hq1 y20 y21 y22 y23 y24 y25 y26 y27 y28 y29
    obtain ⟨k, rfl, hIK, hbel⟩ := hrel
    have hrow := Hbox.out _ _ hbel.out
    have y0 := cell_of_row _ _ 0 _ _ _ hrow
    have y8 := cell_of_row _ _ 8 _ _ _ hrow
    have y9 := cell_of_row _ _ 9 _ _ _ hrow
    simp at y0 y8 y9
    have B := Below.on (Hb.out (.cells #[.int .i64 1, .slice na s0 np, .int .i64 2, .int .i64 bk, .int .i64 bn, .slice a2 l2 p2, .slice a3 l3 p3, .slice a4 l4 p4, .slice xa es.length xp, .slice ea es.length ep] 42)) hbel.out
    clear hrow
    obtain ⟨hk, ⟨rfl, hple, hgo, hst, hm, hby, hm1⟩ | ⟨rfl, hbad⟩⟩ := hIK.out
    rotate_left
    · have Hbad := hide' hbad
      clear hbad
      by_cases hlt : k < es.length
      · have hlt' : (k : Int) < (es.length : Int) := by have h2 := HEl.out; omega
        go_wp2
        go_ret
        exact ⟨ret_i64 Hbad.out.symm, B⟩
      · have hlt' : ¬ (k : Int) < (es.length : Int) := by have h2 := HEl.out; omega
        go_wp2
        go_ret
        exact ⟨ret_i64 Hbad.out.symm, B⟩
    have HM := hide' hm
    have HBy := hide' hby
    clear hm hby
    have hge : (0 : Int) ≤ m - pre (partsE d) es k := by omega
    by_cases hlt : k < es.length
    rotate_left
    · have hkn : k = es.length := by omega
      have hlt' : ¬ (k : Int) < (es.length : Int) := by have h2 := HEl.out; omega
      have HF : Hid (R = m - pre (partsE d) es k) := by
        show R = _
        rw [HR.out, itemR_all (it := ((1, nm, 2, by', ks, es) : Itm d)) HM.out HH.out (fun _ => ascB_yes fun i hi => hst rfl i (by have h1 := HKL.out; have h2 : i < ks.length := hi; omega)) HBy.out (fun j h => hgo j h (by show j < k; rw [hkn]; exact h)) (by show (pre (partsE d) es es.length : Int) ≤ m; rw [← hkn]; exact hple)]
        show m - pre (partsE d) es es.length = _
        rw [← hkn]
      clear hkn
      go_wp2
      go_ret
      exact ⟨ret_i64 HF.out.symm, B⟩
    have hlt' : (k : Int) < (es.length : Int) := by have h2 := HEl.out; omega
    obtain ⟨b, off, c, rfl, h5', hv⟩ := HX.out.at B hN hlt
    obtain ⟨c0, c1, c2, c3, c4⟩ := c
    obtain ⟨q0, q1, q2, q3, q4⟩ := h5'
    simp only at q0 q1 q2 q3 q4
    have hz := B.size
    have HC : Hid (∀ wx, Below w.heap.size w wx → Calls Tryd.prog 44 #[.agg #[c0, c1, c2, c3, c4], .int .i64 1, .int .i64 (m - pre (partsE d) es k)] wx fun e w' => e = .returned (.int .i64 (okE d es[k] 1 (m - pre (partsE d) es k))) ∧ Below wx.heap.size wx w') := fun wx hx => l6expr_any d N (c0, c1, c2, c3, c4) es[k] 1 _ wx (hv wx hx) (by have := hx.size; omega) (by omega) hge (by omega)
    have HNx : Hid (¬ (goodE d es[k] 1 = true ∧ (partsE d es[k] : Int) ≤ m - pre (partsE d) es k) → R = -1) := fun h => by rw [HR.out]; exact itemR_kid (it := ((1, nm, 2, by', ks, es) : Itm d)) HM.out hlt h
    clear hv
    have hKr : KSeg (fun b => b < N) wr (.slice xa es.length xp) ks := HKs.out.agree (agree_below (B.mono hN))
    have hltK : k < ks.length := by have := HKL.out; omega
    obtain ⟨kb, ko, rfl, hat⟩ := hKr.at hltK
    clear hKr
    obtain ⟨s2, e2, hu, g2, m2⟩ := hat k hltK
    have HNo : Hid (∀ i, i < ks.length → stepB ks i = false → R = -1) := fun i hi h => by rw [HR.out]; exact itemR_step (it := ((1, nm, 2, by', ks, es) : Itm d)) rfl hi h
    have HNm : Hid (∀ n, Calls Tryd.prog 45 #[.slice s2 (ks.getD k []).length e2] (wr.drewN n) fun e w' => e = .returned (.bool (nameB (ks.getD k []))) ∧ wr.drewN n = w') := fun n => spec_NameOk_any s2 e2 (ks.getD k []) (wr.drewN n) g2 m2
    by_cases hn : nameB (ks.getD k []) = true
    rotate_left
    · have hn' : nameB (ks.getD k []) = false := by simpa using hn
      rw [hn'] at HNm
      have HF := hide' (HNo.out k hltK (by unfold stepB; rw [hn']; rfl))
      generalize ks.getD k [] = ys at *
      clear hat hn hn' g2 HC HNx hgo hst hIK
      generalize m - pre (partsE d) es k = mx at *
      go_wp2_with fail
      go_quiet ((go_at_call 45; exact quiet_same (HNm.out _)))
      go_wp2
      go_ret
      exact ⟨ret_i64 HF.out.symm, below_drewN B _⟩
    rw [hn] at HNm
    cases k with
    | zero =>
      have HA : Hid (∀ j, j < 0 + 1 → stepB ks j = true) := fun j hj => by
        obtain rfl : j = 0 := by omega
        simp only [stepB, hn]
        simp
      simp only [Nat.add_zero, Nat.zero_mul] at hu q0 q1 q2 q3 q4
      generalize ks.getD 0 [] = ys at *
      clear hat hn g2
      by_cases hg : goodE d es[0] 1 = true ∧ (partsE d es[0] : Int) ≤ m - pre (partsE d) es 0
      · rw [okE_yes hg.1 hg.2] at HC
        have hps := pre_succ (partsE d) es 0 hlt
        have HF : Hid (IK d ks es true m R ((m = left - byP d ((1, nm, 2, by', ks, es) : Itm d)) ∧ (if (2 : Int) = 0 then zeroE d by' = true else goodE d by' 1 = true) ∧ m ≤ 150) (0 + 1) (.int .i64 (m - pre (partsE d) es 0 - partsE d es[0]))) := ⟨hlt, .inl ⟨by rw [hps]; simp; omega, by rw [hps]; simp; omega, fun j hj hjk => by
            by_cases e : j = 0
            · subst e; exact hg.1
            · exact hgo j hj (by omega), fun _ => HA.out, HM.out, HBy.out, hm1⟩⟩
        have hlo : -1 ≤ m - pre (partsE d) es 0 - partsE d es[0] := by omega
        have hup : m - pre (partsE d) es 0 - partsE d es[0] ≤ 150 := by omega
        generalize m - pre (partsE d) es 0 - partsE d es[0] = nx at *
        generalize m - pre (partsE d) es 0 = mx at *
        clear HNx hgo hst hIK hg hple hps HA
        go_wp2_with fail
        go_quiet ((go_at_call 45; exact quiet_same (HNm.out _)))
        go_wp2_with fail
        refine (HC.out _ (below_drewN B _)).mono ?_
        rintro e w3 ⟨rfl, b3⟩
        have B3 := hide' (Below.on (below_drewN hbel.out _) b3)
        clear q0 q1 q2 q3 q4 b3 y0 y8 y9
        go_wp2
        go_roundw
        case rel => exact ⟨0 + 1, by go_num, HF, B3⟩
        case measure => simp [intOf]; omega
      · rw [okE_no hg] at HC
        have HF : Hid (IK d ks es true m R ((m = left - byP d ((1, nm, 2, by', ks, es) : Itm d)) ∧ (if (2 : Int) = 0 then zeroE d by' = true else goodE d by' 1 = true) ∧ m ≤ 150) (0 + 1) (.int .i64 (-1))) := ⟨hlt, .inr ⟨rfl, HNx.out hg⟩⟩
        generalize m - pre (partsE d) es 0 = mx at *
        clear HNx hgo hst hIK hg hple HA
        go_wp2_with fail
        go_quiet ((go_at_call 45; exact quiet_same (HNm.out _)))
        go_wp2_with fail
        refine (HC.out _ (below_drewN B _)).mono ?_
        rintro e w3 ⟨rfl, b3⟩
        have B3 := hide' (Below.on (below_drewN hbel.out _) b3)
        clear q0 q1 q2 q3 q4 b3 y0 y8 y9
        go_wp2
        go_roundw
        case rel => exact ⟨0 + 1, by go_num, HF, B3⟩
        case measure => simp [intOf]; omega
    | succ j =>
      obtain ⟨s3, e3, hu3, g3, m3⟩ := hat j (by omega)
      have hsb : stepB ks (j + 1) = Op.bytesLess (strOf (ks.getD j [])).toList (strOf (ks.getD (j + 1) [])).toList := by
        rw [strOf_list, strOf_list]
        simp only [stepB, hn]
        simp [ltS]
      have hcv2 : ∀ n, (convert 29 9 (.slice s2 (ks.getD (j + 1) []).length e2)).run Tryd.prog (wr.drewN n) = .ok (.string (strOf (ks.getD (j + 1) []))) (wr.drewN n) := fun n => conv_seg (w := wr.drewN n) e2 g2
      have hcv3 : ∀ n, (convert 29 9 (.slice s3 (ks.getD j []).length e3)).run Tryd.prog (wr.drewN n) = .ok (.string (strOf (ks.getD j []))) (wr.drewN n) := fun n => conv_seg (w := wr.drewN n) e3 g3
      have hpos : (0 : Int) < ((j + 1 : Nat) : Int) := by omega
      by_cases hcmp : Op.bytesLess (strOf (ks.getD j [])).toList (strOf (ks.getD (j + 1) [])).toList = true
      rotate_left
      · have hcmp' : Op.bytesLess (strOf (ks.getD j [])).toList (strOf (ks.getD (j + 1) [])).toList = false := by simpa using hcmp
        have HF := hide' (HNo.out (j + 1) hltK (by rw [hsb]; exact hcmp'))
        generalize ks.getD (j + 1) [] = ys at *
        generalize ks.getD j [] = zs at *
        clear hat hn hsb g2 g3 HC HNx hcmp hgo hst hIK
        generalize m - pre (partsE d) es (j + 1) = mx at *
        go_wp2_with fail
        go_quiet ((go_at_call 45; exact quiet_same (HNm.out _)))
        go_wp2
        go_ret
        exact ⟨ret_i64 HF.out.symm, below_drewN B _⟩
      have HA : Hid (∀ i, i < j + 1 + 1 → stepB ks i = true) := fun i hi => by
        by_cases e : i = j + 1
        · subst e; rw [hsb]; exact hcmp
        · exact hst rfl i (by omega)
      generalize ks.getD (j + 1) [] = ys at *
      generalize ks.getD j [] = zs at *
      clear hat hn hsb g2 g3
      by_cases hg : goodE d es[(j + 1)] 1 = true ∧ (partsE d es[(j + 1)] : Int) ≤ m - pre (partsE d) es (j + 1)
      · rw [okE_yes hg.1 hg.2] at HC
        have hps := pre_succ (partsE d) es (j + 1) hlt
        have HF : Hid (IK d ks es true m R ((m = left - byP d ((1, nm, 2, by', ks, es) : Itm d)) ∧ (if (2 : Int) = 0 then zeroE d by' = true else goodE d by' 1 = true) ∧ m ≤ 150) ((j + 1) + 1) (.int .i64 (m - pre (partsE d) es (j + 1) - partsE d es[(j + 1)]))) := ⟨hlt, .inl ⟨by rw [hps]; simp; omega, by rw [hps]; simp; omega, fun i hi hik => by
            by_cases e : i = (j + 1)
            · subst e; exact hg.1
            · exact hgo i hi (by omega), fun _ => HA.out, HM.out, HBy.out, hm1⟩⟩
        have hlo : -1 ≤ m - pre (partsE d) es (j + 1) - partsE d es[(j + 1)] := by omega
        have hup : m - pre (partsE d) es (j + 1) - partsE d es[(j + 1)] ≤ 150 := by omega
        generalize m - pre (partsE d) es (j + 1) - partsE d es[(j + 1)] = nx at *
        generalize m - pre (partsE d) es (j + 1) = mx at *
        clear HNx hgo hst hIK hg hple hps HA
        go_wp2_with fail
        go_quiet ((go_at_call 45; exact quiet_same (HNm.out _)))
        go_wp2_with fail
        refine (HC.out _ (below_drewN B _)).mono ?_
        rintro e w3 ⟨rfl, b3⟩
        have B3 := hide' (Below.on (below_drewN hbel.out _) b3)
        clear q0 q1 q2 q3 q4 b3 y0 y8 y9
        go_wp2
        go_roundw
        case rel => exact ⟨(j + 1) + 1, by go_num, HF, B3⟩
        case measure => simp [intOf]; omega
      · rw [okE_no hg] at HC
        have HF : Hid (IK d ks es true m R ((m = left - byP d ((1, nm, 2, by', ks, es) : Itm d)) ∧ (if (2 : Int) = 0 then zeroE d by' = true else goodE d by' 1 = true) ∧ m ≤ 150) ((j + 1) + 1) (.int .i64 (-1))) := ⟨hlt, .inr ⟨rfl, HNx.out hg⟩⟩
        generalize m - pre (partsE d) es (j + 1) = mx at *
        clear HNx hgo hst hIK hg hple HA
        go_wp2_with fail
        go_quiet ((go_at_call 45; exact quiet_same (HNm.out _)))
        go_wp2_with fail
        refine (HC.out _ (below_drewN B _)).mono ?_
        rintro e w3 ⟨rfl, b3⟩
        have B3 := hide' (Below.on (below_drewN hbel.out _) b3)
        clear q0 q1 q2 q3 q4 b3 y0 y8 y9
        go_wp2
        go_roundw
        case rel => exact ⟨(j + 1) + 1, by go_num, HF, B3⟩
        case measure => simp [intOf]; omega
end Go.Proofs.YthkbapkndmlpfaaDoor
/-
  l6item of the specification where the head is right: kind 0, many 0.
-/
namespace Go.Proofs.YthkbapkndmlpfaaDoor
open Go.RowKit
set_option linter.unusedVariables false
set_option linter.unusedSimpArgs false

set_option maxHeartbeats 4000000 in
set_option maxRecDepth 100000 in
theorem itO0 (d N : Nat) (cs : List Value) (nm : List Int) (by' : Vl d) (ks : List (List Int)) (es : List (Vl d)) (left : Int) (w : World) (h : ISeg (fun b => b < N) w d cs ((0, nm, 0, by', ks, es) : Itm d)) (hN : N ≤ w.heap.size) (h0 : 0 ≤ left) (h1 : left ≤ 150)
    (hh : headB d ((0, nm, 0, by', ks, es) : Itm d) = true) (hzr : zeroE d by' = true) :
    Calls Tryd.prog 19 #[.agg cs.toArray, .int .i64 left] w fun e w' => e = .returned (.int .i64 (itemR d ((0, nm, 0, by', ks, es) : Itm d) left)) ∧ Below w.heap.size w w' := by
  obtain ⟨na, np, bk, bn, a2, l2, p2, a3, l3, p3, a4, l4, p4, xa, xp, ea, ep, rfl, ht, hv, hk, hl⟩ := h.form
  have HH := hide' hh
  simp only [headB] at ht hv hk hl hh ⊢
  have hw : wordB nm = true := by simp only [Bool.and_eq_true] at hh; exact hh.1
  have hel : es.length = 1 := by simp at hh; omega
  have hkl : ks.length = 0 := by
    simp at hh
    rw [hh.2.2.1]
    rfl
  have HKL := hide' hkl
  have Hb : Hid (∀ o : Obj, Below w.heap.size w (w.alloc o)) := fun o => (Below.refl _ _).alloc (Nat.le_refl _) o
  have HW : Hid (∀ o : Obj, Calls Tryd.prog 42 #[.slice na nm.length np] (w.alloc o) fun e w' => e = .returned (.bool true) ∧ Below (w.alloc o).heap.size (w.alloc o) w') := fun o => by
    have ht' := ht.agree (w' := w.alloc o) (agree_below ((Hb.out o).mono hN))
    obtain ⟨_, _, e1, s1, _, m1, _⟩ := ht'
    simp at e1
    obtain ⟨rfl, _⟩ := e1
    have := spec_l6free_any na np nm (w.alloc o) s1 (by omega)
    rw [hw] at this
    exact this
  have HV : Hid (∀ wx, Below w.heap.size w wx → VSeg (fun b => b < N) wx d (.int .i64 bk, .int .i64 bn, .slice a2 l2 p2, .slice a3 l3 p3, .slice a4 l4 p4) by') := fun wx hb => VSeg.agree (agree_below (hb.mono hN)) d hv
  have HX : Hid (LSeg (fun b => b < N) w d (.slice ea es.length ep) es) := hl
  have Hbox : Hid (∀ o wx, Below (w.alloc o).heap.size (w.alloc o) wx → wx.heap[w.heap.size]? = some o) := fun o wx h => box_row h
  rw [hkl]
  have HEl := hide' hel
  rw [hel] at HX
  simp only [hel]
  clear hel
  obtain ⟨R, hR⟩ : ∃ R, R = itemR d ((0, nm, 0, by', ks, es) : Itm d) left := ⟨_, rfl⟩
  have HR := hide' hR
  rw [← hR]
  clear ht hv hk hl h hh hw hkl hR
  generalize nm.length = s0 at *
  go_enter Tryd.func19, Tryd.ntmps19
  go_wp2_with fail
  refine (HW.out _).mono ?_
  rintro e w1 ⟨rfl, b1⟩
  have B1 := hide' b1
  clear b1 HW
  have hrow := Hbox.out _ _ B1.out
  have y10 := cell_of_row _ _ 0 _ _ _ hrow
  have y11 := cell_of_row _ _ 1 _ _ _ hrow
  have y12 := cell_of_row _ _ 2 _ _ _ hrow
  have y13 := cell_of_row _ _ 3 _ _ _ hrow
  have y14 := cell_of_row _ _ 4 _ _ _ hrow
  have y15 := cell_of_row _ _ 5 _ _ _ hrow
  have y16 := cell_of_row _ _ 6 _ _ _ hrow
  have y17 := cell_of_row _ _ 7 _ _ _ hrow
  have y18 := cell_of_row _ _ 8 _ _ _ hrow
  have y19 := cell_of_row _ _ 9 _ _ _ hrow
  simp at y10 y11 y12 y13 y14 y15 y16 y17 y18 y19
  clear hrow
  have HZ := hide' (l6zero_any d N _ _ _ _ _ by' w1 (HV.out w1 (Below.on (Hb.out _) B1.out)))
  rw [hzr] at HZ
  go_wp2_with fail
  refine HZ.out.mono ?_
  rintro e w2 ⟨rfl, b2⟩
  have B2 := hide' (Below.on B1.out b2)
  clear b2 HZ y10 y11 y12 y13 y14 y15 y16 y17 y18 y19
  have hrow := Hbox.out _ _ B2.out
  have y20 := cell_of_row _ _ 0 _ _ _ hrow
  have y21 := cell_of_row _ _ 1 _ _ _ hrow
  have y22 := cell_of_row _ _ 2 _ _ _ hrow
  have y23 := cell_of_row _ _ 3 _ _ _ hrow
  have y24 := cell_of_row _ _ 4 _ _ _ hrow
  have y25 := cell_of_row _ _ 5 _ _ _ hrow
  have y26 := cell_of_row _ _ 6 _ _ _ hrow
  have y27 := cell_of_row _ _ 7 _ _ _ hrow
  have y28 := cell_of_row _ _ 8 _ _ _ hrow
  have y29 := cell_of_row _ _ 9 _ _ _ hrow
  simp at y20 y21 y22 y23 y24 y25 y26 y27 y28 y29
  clear hrow
  obtain ⟨q, hq⟩ : ∃ q : Int, q = left := ⟨_, rfl⟩
  have H0 : Hid (∃ m, IK d ks es false m R ((m = left - byP d ((0, nm, 0, by', ks, es) : Itm d)) ∧ (if (0 : Int) = 0 then zeroE d by' = true else goodE d by' 1 = true) ∧ m ≤ 150) 0 (.int .i64 q)) := ⟨left, Nat.zero_le _, .inl ⟨by rw [pre_zero, hq]; simp, by rw [pre_zero]; simpa using h0, fun j _ h => by omega, fun _ j h => by omega, by simp [byP], by rw [if_pos rfl]; exact hzr, h1⟩⟩
  have hq0 : -1 ≤ q := by omega
  have hq1 : q ≤ 150 := by omega
  rw [← hq]
  clear hq h0 h1 hzr
  go_wp2_with fail
  obtain ⟨m, H1⟩ := H0.out
  replace H1 := hide' H1
  clear H0
  go_loopw [1, 5] (fun l i wr => ∃ k : Nat, i = .int .i64 k ∧ Hid (IK d ks es false m R ((m = left - byP d ((0, nm, 0, by', ks, es) : Itm d)) ∧ (if (0 : Int) = 0 then zeroE d by' = true else goodE d by' 1 = true) ∧ m ≤ 150) k l) ∧ Hid (Below (w.alloc (.cells #[.int .i64 0, .slice na s0 np, .int .i64 0, .int .i64 bk, .int .i64 bn, .slice a2 l2 p2, .slice a3 l3 p3, .slice a4 l4 p4, .slice xa 0 xp, .slice ea 1 ep] 42)).heap.size (w.alloc (.cells #[.int .i64 0, .slice na s0 np, .int .i64 0, .int .i64 bk, .int .i64 bn, .slice a2 l2 p2, .slice a3 l3 p3, .slice a4 l4 p4, .slice xa 0 xp, .slice ea 1 ep] 42)) wr)) (fun _ i _ => es.length - (intOf i).toNat)
  case atStart => exact ⟨0, rfl, H1, B2⟩
  case round =>
    clear B1 B2 H1 hq0 hq1 y20 y21 y22 y23 y24 y25 y26 y27 y28 y29
    obtain ⟨k, rfl, hIK, hbel⟩ := hrel
    have hrow := Hbox.out _ _ hbel.out
    have y0 := cell_of_row _ _ 0 _ _ _ hrow
    have y8 := cell_of_row _ _ 8 _ _ _ hrow
    have y9 := cell_of_row _ _ 9 _ _ _ hrow
    simp at y0 y8 y9
    have B := Below.on (Hb.out (.cells #[.int .i64 0, .slice na s0 np, .int .i64 0, .int .i64 bk, .int .i64 bn, .slice a2 l2 p2, .slice a3 l3 p3, .slice a4 l4 p4, .slice xa 0 xp, .slice ea 1 ep] 42)) hbel.out
    clear hrow
    obtain ⟨hk, ⟨rfl, hple, hgo, hst, hm, hby, hm1⟩ | ⟨rfl, hbad⟩⟩ := hIK.out
    rotate_left
    · have Hbad := hide' hbad
      clear hbad
      by_cases hlt : k < es.length
      · have hlt' : (k : Int) < 1 := by have h2 := HEl.out; omega
        go_wp2
        go_ret
        exact ⟨ret_i64 Hbad.out.symm, B⟩
      · have hlt' : ¬ (k : Int) < 1 := by have h2 := HEl.out; omega
        go_wp2
        go_ret
        exact ⟨ret_i64 Hbad.out.symm, B⟩
    have HM := hide' hm
    have HBy := hide' hby
    clear hm hby
    have hge : (0 : Int) ≤ m - pre (partsE d) es k := by omega
    by_cases hlt : k < es.length
    rotate_left
    · have hkn : k = es.length := by omega
      have hlt' : ¬ (k : Int) < 1 := by have h2 := HEl.out; omega
      have HF : Hid (R = m - pre (partsE d) es k) := by
        show R = _
        rw [HR.out, itemR_all (it := ((0, nm, 0, by', ks, es) : Itm d)) HM.out HH.out (fun e => by have e2 : (0 : Int) = 1 := e; omega) HBy.out (fun j h => hgo j h (by show j < k; rw [hkn]; exact h)) (by show (pre (partsE d) es es.length : Int) ≤ m; rw [← hkn]; exact hple)]
        show m - pre (partsE d) es es.length = _
        rw [← hkn]
      clear hkn
      go_wp2
      go_ret
      exact ⟨ret_i64 HF.out.symm, B⟩
    have hlt' : (k : Int) < 1 := by have h2 := HEl.out; omega
    obtain ⟨b, off, c, rfl, h5', hv⟩ := HX.out.at B hN hlt
    obtain ⟨c0, c1, c2, c3, c4⟩ := c
    obtain ⟨q0, q1, q2, q3, q4⟩ := h5'
    simp only at q0 q1 q2 q3 q4
    have hz := B.size
    have HC : Hid (∀ wx, Below w.heap.size w wx → Calls Tryd.prog 44 #[.agg #[c0, c1, c2, c3, c4], .int .i64 1, .int .i64 (m - pre (partsE d) es k)] wx fun e w' => e = .returned (.int .i64 (okE d es[k] 1 (m - pre (partsE d) es k))) ∧ Below wx.heap.size wx w') := fun wx hx => l6expr_any d N (c0, c1, c2, c3, c4) es[k] 1 _ wx (hv wx hx) (by have := hx.size; omega) (by omega) hge (by omega)
    have HNx : Hid (¬ (goodE d es[k] 1 = true ∧ (partsE d es[k] : Int) ≤ m - pre (partsE d) es k) → R = -1) := fun h => by rw [HR.out]; exact itemR_kid (it := ((0, nm, 0, by', ks, es) : Itm d)) HM.out hlt h
    clear hv
    by_cases hg : goodE d es[k] 1 = true ∧ (partsE d es[k] : Int) ≤ m - pre (partsE d) es k
    · rw [okE_yes hg.1 hg.2] at HC
      have hps := pre_succ (partsE d) es k hlt
      have HF : Hid (IK d ks es false m R ((m = left - byP d ((0, nm, 0, by', ks, es) : Itm d)) ∧ (if (0 : Int) = 0 then zeroE d by' = true else goodE d by' 1 = true) ∧ m ≤ 150) (k + 1) (.int .i64 (m - pre (partsE d) es k - partsE d es[k]))) := ⟨hlt, .inl ⟨by rw [hps]; simp; omega, by rw [hps]; simp; omega, fun j hj hjk => by
          by_cases e : j = k
          · subst e; exact hg.1
          · exact hgo j hj (by omega), (fun h => by cases h), HM.out, HBy.out, hm1⟩⟩
      have hlo : -1 ≤ m - pre (partsE d) es k - partsE d es[k] := by omega
      have hup : m - pre (partsE d) es k - partsE d es[k] ≤ 150 := by omega
      generalize m - pre (partsE d) es k - partsE d es[k] = nx at *
      generalize m - pre (partsE d) es k = mx at *
      clear HNx hgo hst hIK hg hple hps
      go_wp2_with fail
      go_quiet (fail)
      go_wp2_with fail
      refine (HC.out _ (below_drewN B _)).mono ?_
      rintro e w3 ⟨rfl, b3⟩
      have B3 := hide' (Below.on (below_drewN hbel.out _) b3)
      clear q0 q1 q2 q3 q4 b3 y0 y8 y9
      go_wp2
      go_roundw
      case rel => exact ⟨k + 1, by go_num, HF, B3⟩
      case measure => simp [intOf]; omega
    · rw [okE_no hg] at HC
      have HF : Hid (IK d ks es false m R ((m = left - byP d ((0, nm, 0, by', ks, es) : Itm d)) ∧ (if (0 : Int) = 0 then zeroE d by' = true else goodE d by' 1 = true) ∧ m ≤ 150) (k + 1) (.int .i64 (-1))) := ⟨hlt, .inr ⟨rfl, HNx.out hg⟩⟩
      generalize m - pre (partsE d) es k = mx at *
      clear HNx hgo hst hIK hg hple
      go_wp2_with fail
      go_quiet (fail)
      go_wp2_with fail
      refine (HC.out _ (below_drewN B _)).mono ?_
      rintro e w3 ⟨rfl, b3⟩
      have B3 := hide' (Below.on (below_drewN hbel.out _) b3)
      clear q0 q1 q2 q3 q4 b3 y0 y8 y9
      go_wp2
      go_roundw
      case rel => exact ⟨k + 1, by go_num, HF, B3⟩
      case measure => simp [intOf]; omega
end Go.Proofs.YthkbapkndmlpfaaDoor
