/-
  Texts that a law leans on, one behind the other; no statement is proved here.
-/
import Derived.Test.YtfokidhamjphfaaDoorPk40
/-
  l6expr of the specification at maps.
-/
namespace Go.Proofs.YtfokidhamjphfaaDoor
open Go.RowKit
set_option linter.unusedVariables false
set_option linter.unusedSimpArgs false

theorem shpE_map {vK : List (List Int)} {n : Nat} (h : vK.length = n) : shpB 5 0 [] vK n = ascB vK := by simp [shpB, keysB, kidsB, arI, mostI, saysI, saysB, h]
theorem shpE_map_no {vK : List (List Int)} {n : Nat} (h : vK.length ≠ n) : shpB 5 0 [] vK n = false := by simp [shpB, keysB, kidsB, arI, mostI, saysI, saysB, h]

set_option maxHeartbeats 8000000 in
set_option maxRecDepth 100000 in
theorem l6loop_c5 (d : Nat) (ih : E6At d) (N : Nat) (vK : List (List Int)) (vL : List (Vl d)) (a2 : Option Addr) (p2 : Nat) (z x : Value) (deep : Nat) (left : Int) (w : World) (hz0 : KSeg (fun b => b < N) w z vK) (hx : LSeg (fun b => b < N) w d x vL) (hN : N ≤ w.heap.size) (h1 : 1 ≤ left) (h2 : left ≤ 150) (h3 : deep ≤ 10) :
    Calls Tryd.prog 28 #[.agg #[.int .i64 5, .int .i64 0, .slice a2 0 p2, z, x], .int .i64 deep, .int .i64 left] w fun e w' => e = .returned (.int .i64 (okE (d + 1) (5, 0, [], vK, vL) deep left)) ∧ Below w.heap.size w w' := by
  have HX := hide' hx
  have HZ := hide' hz0
  obtain ⟨a4, p4, rfl, hlc, hcm, ka, _⟩ := hx
  obtain ⟨a3, p3, rfl, hlc3, hcm3, ka3, _⟩ := hz0
  unfold maxLen at hcm hcm3
  have b0 : ∀ o : Obj, Below w.heap.size w (w.alloc o) := fun o => (Below.refl _ _).alloc (Nat.le_refl _) o
  have h4 : ¬ left - 1 < 0 := by omega
  have h5 : ¬ (10 : Int) < (deep : Int) := by omega
  have Hb := hide' b0
  have HAr : Hid (∀ wx, Calls Tryd.prog 54 #[.int .i64 5] wx fun e w' => e = .returned (.int .i64 (-1)) ∧ wx = w') := fun wx => l6arity_any 5 wx
  by_cases hkl : vK.length = vL.length
  · have HI := hide' ih
    have H3 := hide' h3
    have H1 := hide' h1
    have HKL := hide' hkl
    have HNo : Hid (∀ i, i < vK.length → stepB vK i = false → okE (d + 1) (5, 0, [], vK, vL) deep left = -1) := fun i hi h => okE_shape deep left (by rw [shpE_map hkl]; exact ascB_no hi h)
    have HYes : Hid ((∀ i, i < vK.length → stepB vK i = true) → shpB 5 0 [] vK vL.length = true) := fun h => by rw [shpE_map hkl]; exact ascB_yes h
    rw [hkl] at hlc3
    generalize hO : Obj.cells #[.int .i64 5, .int .i64 0, .slice a2 0 p2, .slice a3 vL.length p3, .slice a4 vL.length p4] 26 = ob
    have HOb := hide' hO
    rw [hkl]
    rw [hkl] at HZ
    clear ih b0 hO hkl
    go_enter Tryd.func28, Tryd.ntmps28
    go_wp2_with (go_at_call 54; refine (HAr.out _).mono ?_; rintro e w1 ⟨rfl, e1⟩; obtain rfl := e1)
    go_loopw [2, 8] (fun l i wr => ∃ k : Nat, i = .int .i64 k ∧ E6K d vL deep left k l ∧ (∀ j, j < k → stepB vK j = true) ∧ Hid (Below (w.alloc ob).heap.size (w.alloc ob) wr)) (fun _ i _ => vL.length - (intOf i).toNat)
    case atStart => exact ⟨0, rfl, E6K_zero H1.out, fun j h => by omega, by rw [← HOb.out]; exact Below.refl _ _⟩
    case round =>
      obtain ⟨k, rfl, hK, hst, hbel⟩ := hrel
      have hHK := hide' hK
      have hHS := hide' hst
      obtain ⟨hk, rfl, hple, _⟩ := hK
      have hrow := box_row hbel.out
      rw [← HOb.out] at hrow
      obtain ⟨y0, y1, y2, y3, y4, _⟩ := row5 hrow
      have B := Below.on (Hb.out ob) hbel.out
      clear hrow hst
      by_cases hlt : k < vL.length
      · have hlt' : (k : Int) < (vL.length : Int) := by omega
        obtain ⟨b, off, c, rfl, h5', hv⟩ := HX.out.at B hN hlt
        obtain ⟨c0, c1, c2, c3, c4⟩ := c
        obtain ⟨q0, q1, q2, q3, q4⟩ := h5'
        simp only at q0 q1 q2 q3 q4
        have hz := B.size
        have hKr : KSeg (fun b => b < N) wr (.slice a3 vL.length p3) vK := HZ.out.agree (agree_below (B.mono hN))
        have hltK : k < vK.length := by have := HKL.out; omega
        obtain ⟨kb, ko, rfl, hat⟩ := hKr.at hltK
        clear hKr
        obtain ⟨s2, e2, hu, g2, m2⟩ := hat k hltK
        have HC : Hid (∀ wx, Below w.heap.size w wx → Calls Tryd.prog 28 #[.agg #[c0, c1, c2, c3, c4], .int .i64 ((deep : Int) + 1), .int .i64 (left - 1 - pre (partsE d) vL k)] wx fun e w' => e = .returned (.int .i64 (okE d vL[k] (deep + 1) (left - 1 - pre (partsE d) vL k))) ∧ Below wx.heap.size wx w') := by
          intro wx hx
          have := HI.out N (c0, c1, c2, c3, c4) vL[k] (deep + 1) (left - 1 - pre (partsE d) vL k) wx (hv wx hx) (by have := hx.size; omega) (by omega) (by omega) (by omega)
          rw [Int.natCast_add] at this
          exact this
        have HN : Hid (¬ (goodE d vL[k] (deep + 1) = true ∧ (partsE d vL[k] : Int) ≤ left - 1 - pre (partsE d) vL k) → okE (d + 1) (5, 0, [], vK, vL) deep left = -1) := fun h => okE_kid hlt h
        have HS : Hid (goodE d vL[k] (deep + 1) = true → (partsE d vL[k] : Int) ≤ left - 1 - pre (partsE d) vL k → E6K d vL deep left (k + 1) (.int .i64 (left - 1 - pre (partsE d) vL k - partsE d vL[k]))) := fun h h' => E6K_succ hHK.out hlt h h'
        have HNm : Hid (∀ n, Calls Tryd.prog 35 #[.slice s2 (vK.getD k []).length e2] (wr.drewN n) fun e w' => e = .returned (.bool (nameB (vK.getD k []))) ∧ wr.drewN n = w') := fun n => spec_NameOk_any s2 e2 (vK.getD k []) (wr.drewN n) g2 m2
        by_cases hn : nameB (vK.getD k []) = true
        · rw [hn] at HNm
          cases k with
          | zero =>
            have HA : Hid (∀ j, j < 0 + 1 → stepB vK j = true) := fun j hj => by
              obtain rfl : j = 0 := by omega
              simp only [stepB, hn]
              simp
            simp only [Nat.add_zero, Nat.zero_mul] at hu q0 q1 q2 q3 q4
            generalize vK.getD 0 [] = ys at *
            clear hat hn g2
            by_cases hg : goodE d vL[0] (deep + 1) = true ∧ (partsE d vL[0] : Int) ≤ left - 1 - pre (partsE d) vL 0
            · rw [okE_yes hg.1 hg.2] at HC
              have HF := hide' (HS.out hg.1 hg.2)
              have hnn : ¬ (left - 1 - pre (partsE d) vL 0 - partsE d vL[0] < 0) := by omega
              have hup : left - 1 - pre (partsE d) vL 0 - partsE d vL[0] ≤ 150 := by omega
              generalize partsE d vL[0] = q at *
              generalize pre (partsE d) vL 0 = p at *
              clear HN HS hg hv
              go_wp2_with fail
              go_quiet ((go_at_call 35; exact quiet_same (HNm.out _)))
              go_wp2_with fail
              refine (HC.out _ (below_drewN B _)).mono ?_
              rintro e w1 ⟨rfl, b1⟩
              have B1 : Hid (Below (w.alloc ob).heap.size (w.alloc ob) w1) := Below.on (below_drewN hbel.out _) b1
              clear q0 q1 q2 q3 q4 b1
              go_wp2
              go_roundw
              case rel => exact ⟨0 + 1, by go_num, HF.out, HA.out, B1⟩
              case measure => simp [intOf]; omega
            · rw [okE_no hg] at HC
              have HF := hide' (HN.out hg)
              generalize pre (partsE d) vL 0 = p at *
              clear HN HS hg hv
              go_wp2_with fail
              go_quiet ((go_at_call 35; exact quiet_same (HNm.out _)))
              go_wp2_with fail
              refine (HC.out _ (below_drewN B _)).mono ?_
              rintro e w1 ⟨rfl, b1⟩
              have B1 : Below w.heap.size w w1 := Below.on (below_drewN B _) b1
              clear q0 q1 q2 q3 q4 b1
              go_wp2
              go_ret
              exact ⟨ret_i64 (by rw [HF.out]), B1⟩
          | succ j =>
            obtain ⟨s3, e3, hu3, g3, m3⟩ := hat j (by omega)
            have hst : stepB vK (j + 1) = Op.bytesLess (strOf (vK.getD j [])).toList (strOf (vK.getD (j + 1) [])).toList := by
              rw [strOf_list, strOf_list]
              simp only [stepB, hn]
              simp [ltS]
            have hcv2 : ∀ n, (convert 22 9 (.slice s2 (vK.getD (j + 1) []).length e2)).run Tryd.prog (wr.drewN n) = .ok (.string (strOf (vK.getD (j + 1) []))) (wr.drewN n) := fun n => conv_seg (w := wr.drewN n) e2 g2
            have hcv3 : ∀ n, (convert 22 9 (.slice s3 (vK.getD j []).length e3)).run Tryd.prog (wr.drewN n) = .ok (.string (strOf (vK.getD j []))) (wr.drewN n) := fun n => conv_seg (w := wr.drewN n) e3 g3
            have hpos : (0 : Int) < ((j + 1 : Nat) : Int) := by omega
            by_cases hcmp : Op.bytesLess (strOf (vK.getD j [])).toList (strOf (vK.getD (j + 1) [])).toList = true
            · have HA : Hid (∀ i, i < j + 1 + 1 → stepB vK i = true) := fun i hi => by
                by_cases e : i = j + 1
                · subst e; rw [hst]; exact hcmp
                · exact hHS.out i (by omega)
              generalize vK.getD (j + 1) [] = ys at *
              generalize vK.getD j [] = zs at *
              clear hat hn hst g2 g3
              by_cases hg : goodE d vL[j + 1] (deep + 1) = true ∧ (partsE d vL[j + 1] : Int) ≤ left - 1 - pre (partsE d) vL (j + 1)
              · rw [okE_yes hg.1 hg.2] at HC
                have HF := hide' (HS.out hg.1 hg.2)
                have hnn : ¬ (left - 1 - pre (partsE d) vL (j + 1) - partsE d vL[j + 1] < 0) := by omega
                have hup : left - 1 - pre (partsE d) vL (j + 1) - partsE d vL[j + 1] ≤ 150 := by omega
                generalize partsE d vL[j + 1] = q at *
                generalize pre (partsE d) vL (j + 1) = p at *
                clear HN HS hg hv
                go_wp2_with fail
                go_quiet ((go_at_call 35; exact quiet_same (HNm.out _)))
                go_wp2_with fail
                refine (HC.out _ (below_drewN B _)).mono ?_
                rintro e w1 ⟨rfl, b1⟩
                have B1 : Hid (Below (w.alloc ob).heap.size (w.alloc ob) w1) := Below.on (below_drewN hbel.out _) b1
                clear q0 q1 q2 q3 q4 b1
                go_wp2
                go_roundw
                case rel => exact ⟨(j + 1) + 1, by go_num, HF.out, HA.out, B1⟩
                case measure => simp [intOf]; omega
              · rw [okE_no hg] at HC
                have HF := hide' (HN.out hg)
                generalize pre (partsE d) vL (j + 1) = p at *
                clear HN HS hg hv
                go_wp2_with fail
                go_quiet ((go_at_call 35; exact quiet_same (HNm.out _)))
                go_wp2_with fail
                refine (HC.out _ (below_drewN B _)).mono ?_
                rintro e w1 ⟨rfl, b1⟩
                have B1 : Below w.heap.size w w1 := Below.on (below_drewN B _) b1
                clear q0 q1 q2 q3 q4 b1
                go_wp2
                go_ret
                exact ⟨ret_i64 (by rw [HF.out]), B1⟩
            · have hcmp' : Op.bytesLess (strOf (vK.getD j [])).toList (strOf (vK.getD (j + 1) [])).toList = false := by simpa using hcmp
              have HF := hide' (HNo.out (j + 1) hltK (by rw [hst]; exact hcmp'))
              generalize vK.getD (j + 1) [] = ys at *
              generalize vK.getD j [] = zs at *
              clear hat hn hst g2 g3 HC HN HS hcmp hv
              go_wp2_with fail
              go_quiet ((go_at_call 35; exact quiet_same (HNm.out _)))
              go_wp2
              go_ret
              exact ⟨ret_i64 (by rw [HF.out]), below_drewN B _⟩
        · have hn' : nameB (vK.getD k []) = false := by simpa using hn
          rw [hn'] at HNm
          have HF := hide' (HNo.out k hltK (by unfold stepB; rw [hn']; rfl))
          generalize vK.getD k [] = ys at *
          clear hat hn hn' g2 HC HN HS hv
          go_wp2_with fail
          go_quiet ((go_at_call 35; exact quiet_same (HNm.out _)))
          go_wp2
          go_ret
          exact ⟨ret_i64 (by rw [HF.out]), below_drewN B _⟩
      · have hkn : k = vL.length := by omega
        have hlt' : ¬ (k : Int) < (vL.length : Int) := by omega
        have HF : Hid (okE (d + 1) (5, 0, [], vK, vL) deep left = left - 1 - pre (partsE d) vL k) := by
          show okE (d + 1) (5, 0, [], vK, vL) deep left = _
          rw [okE_all H3.out (HYes.out fun i hi => hHS.out i (by have := HKL.out; omega)) (fun j h => hHK.out.2.2.2 j h (by omega)) (by rw [← hkn]; exact hple), ← hkn]
        clear hkn
        go_wp2
        go_ret
        exact ⟨ret_i64 (by rw [HF.out]), B⟩
  · have HF := hide' (okE_shape (d := d) (vL := vL) deep left (shpE_map_no hkl))
    have hne : ¬ (vK.length : Int) = (vL.length : Int) := by omega
    clear ih
    go_enter Tryd.func28, Tryd.ntmps28
    go_wp2_with (go_at_call 54; refine (HAr.out _).mono ?_; rintro e w1 ⟨rfl, e1⟩; obtain rfl := e1)
    go_ret
    exact ⟨ret_i64 (by rw [HF.out]), Hb.out _⟩
end Go.Proofs.YtfokidhamjphfaaDoor
