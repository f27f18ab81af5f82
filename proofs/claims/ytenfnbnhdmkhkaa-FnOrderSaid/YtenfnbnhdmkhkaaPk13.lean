/-
  Texts that a law leans on, one behind the other; no statement is proved here.
-/
import Derived.Test.YtenfnbnhdmkhkaaPk10
import Derived.Test.YtenfnbnhdmkhkaaPk11
import Derived.Test.YtenfnbnhdmkhkaaPk0
/-
  l2ok of the specification, its ways out ahead of the kinds: too many parts, too deep, a field that the kind does not have.
-/
namespace Go.Proofs.Ytenfnbnhdmkhkaa
open Go.RowKit
set_option linter.unusedVariables false
set_option linter.unusedSimpArgs false

set_option maxHeartbeats 4000000 in
set_option maxRecDepth 100000 in
theorem l2ok_left (vk vn : Int) (a2 a3 a4 : Option Addr) (n2 n3 n4 p2 p3 p4 : Nat) (deep : Nat) (left : Int) (w : World) (h1 : left < 1) (h2 : 0 ≤ left) :
    Calls Try.prog 28 #[.agg #[.int .i64 vk, .int .i64 vn, .slice a2 n2 p2, .slice a3 n3 p3, .slice a4 n4 p4], .int .i64 deep, .int .i64 left] w fun e w' => e = .returned (.int .i64 (-1)) ∧ Below w.heap.size w w' := by
  have Hb : Hid (∀ o : Obj, Below w.heap.size w (w.alloc o)) := fun o => (Below.refl _ _).alloc (Nat.le_refl _) o
  have h3 : left - 1 < 0 := by omega
  go_enter Try.func28, Try.ntmps28
  go_wp2
  go_ret
  exact ⟨rfl, Hb.out _⟩

set_option maxHeartbeats 4000000 in
set_option maxRecDepth 100000 in
theorem l2ok_deep (vk vn : Int) (a2 a3 a4 : Option Addr) (n2 n3 n4 p2 p3 p4 : Nat) (deep : Nat) (left : Int) (w : World) (h1 : 1 ≤ left) (h2 : left ≤ 40) (h3 : 5 < deep) :
    Calls Try.prog 28 #[.agg #[.int .i64 vk, .int .i64 vn, .slice a2 n2 p2, .slice a3 n3 p3, .slice a4 n4 p4], .int .i64 deep, .int .i64 left] w fun e w' => e = .returned (.int .i64 (-1)) ∧ Below w.heap.size w w' := by
  have Hb : Hid (∀ o : Obj, Below w.heap.size w (w.alloc o)) := fun o => (Below.refl _ _).alloc (Nat.le_refl _) o
  have h4 : ¬ left - 1 < 0 := by omega
  have h5 : (5 : Int) < (deep : Int) := by omega
  go_enter Try.func28, Try.ntmps28
  go_wp2
  go_ret
  exact ⟨rfl, Hb.out _⟩

set_option maxHeartbeats 8000000 in
set_option maxRecDepth 100000 in
theorem l2ok_bare (vk vn : Int) (a2 a3 a4 : Option Addr) (n2 n3 n4 p2 p3 p4 : Nat) (deep : Nat) (left : Int) (w : World) (h1 : 1 ≤ left) (h2 : left ≤ 40) (h3 : deep ≤ 5) (hbare : bareB vk vn n2 n3 n4 = false) :
    Calls Try.prog 28 #[.agg #[.int .i64 vk, .int .i64 vn, .slice a2 n2 p2, .slice a3 n3 p3, .slice a4 n4 p4], .int .i64 deep, .int .i64 left] w fun e w' => e = .returned (.int .i64 (-1)) ∧ Below w.heap.size w w' := by
  have Hb : Hid (∀ o : Obj, Below w.heap.size w (w.alloc o)) := fun o => (Below.refl _ _).alloc (Nat.le_refl _) o
  have h4 : ¬ left - 1 < 0 := by omega
  have h5 : ¬ (5 : Int) < (deep : Int) := by omega
  by_cases k1 : vk = 1
  · subst k1
    by_cases an2 : n2 = 0
    · subst an2
      by_cases an3 : n3 = 0
      · subst an3
        by_cases an4 : n4 = 0
        · subst an4
          simp [bareB, *] at hbare
        · have bn4 : (0 : Int) < (n4 : Int) := by omega
          clear hbare
          go_enter Try.func28, Try.ntmps28
          go_wp2
          go_ret
          exact ⟨rfl, Hb.out _⟩
      · have bn3 : (0 : Int) < (n3 : Int) := by omega
        clear hbare
        go_enter Try.func28, Try.ntmps28
        go_wp2
        go_ret
        exact ⟨rfl, Hb.out _⟩
    · have bn2 : (0 : Int) < (n2 : Int) := by omega
      clear hbare
      go_enter Try.func28, Try.ntmps28
      go_wp2
      go_ret
      exact ⟨rfl, Hb.out _⟩
  by_cases k2 : vk = 2
  · subst k2
    by_cases an2 : n2 = 0
    · subst an2
      by_cases an3 : n3 = 0
      · subst an3
        by_cases an4 : n4 = 0
        · subst an4
          simp [bareB, *] at hbare
        · have bn4 : (0 : Int) < (n4 : Int) := by omega
          clear hbare
          go_enter Try.func28, Try.ntmps28
          go_wp2
          go_ret
          exact ⟨rfl, Hb.out _⟩
      · have bn3 : (0 : Int) < (n3 : Int) := by omega
        clear hbare
        go_enter Try.func28, Try.ntmps28
        go_wp2
        go_ret
        exact ⟨rfl, Hb.out _⟩
    · have bn2 : (0 : Int) < (n2 : Int) := by omega
      clear hbare
      go_enter Try.func28, Try.ntmps28
      go_wp2
      go_ret
      exact ⟨rfl, Hb.out _⟩
  by_cases k3 : vk = 3
  · subst k3
    by_cases an3 : n3 = 0
    · subst an3
      by_cases an : vn = 0
      · subst an
        by_cases an4 : n4 = 0
        · subst an4
          simp [bareB, *] at hbare
        · have bn4 : (0 : Int) < (n4 : Int) := by omega
          clear hbare
          go_enter Try.func28, Try.ntmps28
          go_wp2
          go_ret
          exact ⟨rfl, Hb.out _⟩
      · clear hbare
        go_enter Try.func28, Try.ntmps28
        go_wp2
        go_ret
        exact ⟨rfl, Hb.out _⟩
    · have bn3 : (0 : Int) < (n3 : Int) := by omega
      clear hbare
      go_enter Try.func28, Try.ntmps28
      go_wp2
      go_ret
      exact ⟨rfl, Hb.out _⟩
  by_cases k4 : vk = 4
  · subst k4
    by_cases an2 : n2 = 0
    · subst an2
      by_cases an3 : n3 = 0
      · subst an3
        by_cases an : vn = 0
        · subst an
          simp [bareB, *] at hbare
        · clear hbare
          go_enter Try.func28, Try.ntmps28
          go_wp2
          go_ret
          exact ⟨rfl, Hb.out _⟩
      · have bn3 : (0 : Int) < (n3 : Int) := by omega
        clear hbare
        go_enter Try.func28, Try.ntmps28
        go_wp2
        go_ret
        exact ⟨rfl, Hb.out _⟩
    · have bn2 : (0 : Int) < (n2 : Int) := by omega
      clear hbare
      go_enter Try.func28, Try.ntmps28
      go_wp2
      go_ret
      exact ⟨rfl, Hb.out _⟩
  by_cases k5 : vk = 5
  · subst k5
    by_cases an2 : n2 = 0
    · subst an2
      by_cases an : vn = 0
      · subst an
        simp [bareB, *] at hbare
      · clear hbare
        go_enter Try.func28, Try.ntmps28
        go_wp2
        go_ret
        exact ⟨rfl, Hb.out _⟩
    · have bn2 : (0 : Int) < (n2 : Int) := by omega
      clear hbare
      go_enter Try.func28, Try.ntmps28
      go_wp2
      go_ret
      exact ⟨rfl, Hb.out _⟩
  have q1 : (vk != 1) = true := by simp [k1]
  have q2 : (vk != 2) = true := by simp [k2]
  have q3 : (vk != 3) = true := by simp [k3]
  have q4 : (vk != 4) = true := by simp [k4]
  have q5 : (vk != 5) = true := by simp [k5]
  by_cases an2 : n2 = 0
  · subst an2
    by_cases an3 : n3 = 0
    · subst an3
      by_cases an : vn = 0
      · subst an
        by_cases an4 : n4 = 0
        · subst an4
          simp [bareB, *] at hbare
        · have bn4 : (0 : Int) < (n4 : Int) := by omega
          clear hbare
          go_enter Try.func28, Try.ntmps28
          go_wp2
          go_ret
          exact ⟨rfl, Hb.out _⟩
      · clear hbare
        go_enter Try.func28, Try.ntmps28
        go_wp2
        go_ret
        exact ⟨rfl, Hb.out _⟩
    · have bn3 : (0 : Int) < (n3 : Int) := by omega
      clear hbare
      go_enter Try.func28, Try.ntmps28
      go_wp2
      go_ret
      exact ⟨rfl, Hb.out _⟩
  · have bn2 : (0 : Int) < (n2 : Int) := by omega
    clear hbare
    go_enter Try.func28, Try.ntmps28
    go_wp2
    go_ret
    exact ⟨rfl, Hb.out _⟩
end Go.Proofs.Ytenfnbnhdmkhkaa
/-
  l2ok of the specification at maps; at every value: 'okI'; ValOk of the specification.
-/
namespace Go.Proofs.Ytenfnbnhdmkhkaa
open Go.RowKit
set_option linter.unusedVariables false
set_option linter.unusedSimpArgs false

theorem shape_map {vK : List (List Int)} {n : Nat} (h : vK.length = n) : shapeB 5 0 [] vK n = ascB vK := by simp [shapeB, bareB, h]
theorem shape_map_no {vK : List (List Int)} {n : Nat} (h : vK.length ≠ n) : shapeB 5 0 [] vK n = false := by simp [shapeB, bareB, h]

set_option maxHeartbeats 8000000 in
set_option maxRecDepth 100000 in
theorem l2ok_map (d : Nat) (ih : OkAt d) (N : Nat) (vK : List (List Int)) (vL : List (Vl d)) (a2 : Option Addr) (p2 : Nat) (z x : Value) (deep : Nat) (left : Int) (w : World) (hz0 : KSeg (fun b => b < N) w z vK) (hx : LSeg (fun b => b < N) w d x vL) (hN : N ≤ w.heap.size) (h1 : 1 ≤ left) (h2 : left ≤ 40) (h3 : deep ≤ 5) :
    Calls Try.prog 28 #[.agg #[.int .i64 5, .int .i64 0, .slice a2 0 p2, z, x], .int .i64 deep, .int .i64 left] w fun e w' => e = .returned (.int .i64 (okI (d + 1) (5, 0, [], vK, vL) deep left)) ∧ Below w.heap.size w w' := by
  have HX := hide' hx
  have HZ := hide' hz0
  obtain ⟨a4, p4, rfl, hlc, hcm, ka, _⟩ := hx
  obtain ⟨a3, p3, rfl, hlc3, hcm3, ka3, _⟩ := hz0
  unfold maxLen at hcm hcm3
  have b0 : ∀ o : Obj, Below w.heap.size w (w.alloc o) := fun o => (Below.refl _ _).alloc (Nat.le_refl _) o
  have h4 : ¬ left - 1 < 0 := by omega
  have h5 : ¬ (5 : Int) < (deep : Int) := by omega
  have Hb := hide' b0
  by_cases hkl : vK.length = vL.length
  · have HI := hide' ih
    have H3 := hide' h3
    have H1 := hide' h1
    have HKL := hide' hkl
    have HNo : Hid (∀ i, i < vK.length → stepB vK i = false → okI (d + 1) (5, 0, [], vK, vL) deep left = -1) := fun i hi h => okI_shape deep left (by rw [shape_map hkl]; exact ascB_no hi h)
    have HYes : Hid ((∀ i, i < vK.length → stepB vK i = true) → shapeB 5 0 [] vK vL.length = true) := fun h => by rw [shape_map hkl]; exact ascB_yes h
    rw [hkl] at hlc3
    generalize hO : Obj.cells #[.int .i64 5, .int .i64 0, .slice a2 0 p2, .slice a3 vL.length p3, .slice a4 vL.length p4] 26 = ob
    have HOb := hide' hO
    rw [hkl]
    rw [hkl] at HZ
    clear ih b0 hO hkl
    go_enter Try.func28, Try.ntmps28
    go_wp2
    go_loopw [2, 7] (fun l i wr => ∃ k : Nat, i = .int .i64 k ∧ L2K d vL deep left k l ∧ (∀ j, j < k → stepB vK j = true) ∧ Hid (Below (w.alloc ob).heap.size (w.alloc ob) wr)) (fun _ i _ => vL.length - (intOf i).toNat)
    case atStart => exact ⟨0, rfl, L2K_zero H1.out, fun j h => by omega, by rw [← HOb.out]; exact Below.refl _ _⟩
    case round =>
      obtain ⟨k, rfl, hK, hst, hbel⟩ := hrel
      have hHK := hide' hK
      have hHS := hide' hst
      obtain ⟨hk, rfl, hple, _⟩ := hK
      have hrow := box_row hbel.out
      rw [← HOb.out] at hrow
      obtain ⟨y0, y1, y2, y3, y4, _⟩ := row5 hrow
      have B := Below.on (Hb.out ob) hbel.out
      clear hrow hst
      by_cases hlt : k < vL.length
      · have hlt' : (k : Int) < (vL.length : Int) := by omega
        obtain ⟨b, off, c, rfl, h5', hv⟩ := HX.out.at B hN hlt
        obtain ⟨c0, c1, c2, c3, c4⟩ := c
        obtain ⟨q0, q1, q2, q3, q4⟩ := h5'
        simp only at q0 q1 q2 q3 q4
        have hz := B.size
        have hKr : KSeg (fun b => b < N) wr (.slice a3 vL.length p3) vK := HZ.out.agree (agree_below (B.mono hN))
        have hltK : k < vK.length := by have := HKL.out; omega
        obtain ⟨kb, ko, rfl, hat⟩ := hKr.at hltK
        clear hKr
        obtain ⟨s2, e2, hu, g2, m2⟩ := hat k hltK
        have HC : Hid (∀ wx, Below w.heap.size w wx → Calls Try.prog 28 #[.agg #[c0, c1, c2, c3, c4], .int .i64 ((deep : Int) + 1), .int .i64 (left - 1 - pre (partsV d) vL k)] wx fun e w' => e = .returned (.int .i64 (okI d vL[k] (deep + 1) (left - 1 - pre (partsV d) vL k))) ∧ Below wx.heap.size wx w') := by
          intro wx hx
          have := HI.out N (c0, c1, c2, c3, c4) vL[k] (deep + 1) (left - 1 - pre (partsV d) vL k) wx (hv wx hx) (by have := hx.size; omega) (by omega) (by omega) (by omega)
          rw [Int.natCast_add] at this
          exact this
        have HN : Hid (¬ (goodB d vL[k] (deep + 1) = true ∧ (partsV d vL[k] : Int) ≤ left - 1 - pre (partsV d) vL k) → okI (d + 1) (5, 0, [], vK, vL) deep left = -1) := fun h => okI_kid hlt h
        have HS : Hid (goodB d vL[k] (deep + 1) = true → (partsV d vL[k] : Int) ≤ left - 1 - pre (partsV d) vL k → L2K d vL deep left (k + 1) (.int .i64 (left - 1 - pre (partsV d) vL k - partsV d vL[k]))) := fun h h' => L2K_succ hHK.out hlt h h'
        have HNm : Hid (∀ n, Calls Try.prog 48 #[.slice s2 (vK.getD k []).length e2] (wr.drewN n) fun e w' => e = .returned (.bool (nameB (vK.getD k []))) ∧ wr.drewN n = w') := fun n => spec_NameOk_any s2 e2 (vK.getD k []) (wr.drewN n) g2 m2
        by_cases hn : nameB (vK.getD k []) = true
        · rw [hn] at HNm
          cases k with
          | zero =>
            have HA : Hid (∀ j, j < 0 + 1 → stepB vK j = true) := fun j hj => by
              obtain rfl : j = 0 := by omega
              simp only [stepB, hn]
              simp
            simp only [Nat.add_zero, Nat.zero_mul] at hu q0 q1 q2 q3 q4
            generalize vK.getD 0 [] = ys at *
            clear hat hn g2
            by_cases hg : goodB d vL[0] (deep + 1) = true ∧ (partsV d vL[0] : Int) ≤ left - 1 - pre (partsV d) vL 0
            · rw [okI_yes hg.1 hg.2] at HC
              have HF := hide' (HS.out hg.1 hg.2)
              have hnn : ¬ (left - 1 - pre (partsV d) vL 0 - partsV d vL[0] < 0) := by omega
              have hup : left - 1 - pre (partsV d) vL 0 - partsV d vL[0] ≤ 40 := by omega
              generalize partsV d vL[0] = q at *
              generalize pre (partsV d) vL 0 = p at *
              clear HN HS hg hv
              go_wp2_with fail
              go_quiet ((go_at_call 48; exact quiet_same (HNm.out _)))
              go_wp2_with fail
              refine (HC.out _ (below_drewN B _)).mono ?_
              rintro e w1 ⟨rfl, b1⟩
              have B1 : Hid (Below (w.alloc ob).heap.size (w.alloc ob) w1) := Below.on (below_drewN hbel.out _) b1
              clear q0 q1 q2 q3 q4 b1
              go_wp2
              go_roundw
              case rel => exact ⟨0 + 1, by go_num, HF.out, HA.out, B1⟩
              case measure => simp [intOf]; omega
            · rw [okI_no hg] at HC
              have HF := hide' (HN.out hg)
              generalize pre (partsV d) vL 0 = p at *
              clear HN HS hg hv
              go_wp2_with fail
              go_quiet ((go_at_call 48; exact quiet_same (HNm.out _)))
              go_wp2_with fail
              refine (HC.out _ (below_drewN B _)).mono ?_
              rintro e w1 ⟨rfl, b1⟩
              have B1 : Below w.heap.size w w1 := Below.on (below_drewN B _) b1
              clear q0 q1 q2 q3 q4 b1
              go_wp2
              go_ret
              exact ⟨ret_i64 (by rw [HF.out]), B1⟩
          | succ j =>
            obtain ⟨s3, e3, hu3, g3, m3⟩ := hat j (by omega)
            have hst : stepB vK (j + 1) = Op.bytesLess (strOf (vK.getD j [])).toList (strOf (vK.getD (j + 1) [])).toList := by
              rw [strOf_list, strOf_list]
              simp only [stepB, hn]
              simp [ltS]
            have hcv2 : ∀ n, (convert 22 9 (.slice s2 (vK.getD (j + 1) []).length e2)).run Try.prog (wr.drewN n) = .ok (.string (strOf (vK.getD (j + 1) []))) (wr.drewN n) := fun n => conv_seg (w := wr.drewN n) e2 g2
            have hcv3 : ∀ n, (convert 22 9 (.slice s3 (vK.getD j []).length e3)).run Try.prog (wr.drewN n) = .ok (.string (strOf (vK.getD j []))) (wr.drewN n) := fun n => conv_seg (w := wr.drewN n) e3 g3
            have hpos : (0 : Int) < ((j + 1 : Nat) : Int) := by omega
            by_cases hcmp : Op.bytesLess (strOf (vK.getD j [])).toList (strOf (vK.getD (j + 1) [])).toList = true
            · have HA : Hid (∀ i, i < j + 1 + 1 → stepB vK i = true) := fun i hi => by
                by_cases e : i = j + 1
                · subst e; rw [hst]; exact hcmp
                · exact hHS.out i (by omega)
              generalize vK.getD (j + 1) [] = ys at *
              generalize vK.getD j [] = zs at *
              clear hat hn hst g2 g3
              by_cases hg : goodB d vL[j + 1] (deep + 1) = true ∧ (partsV d vL[j + 1] : Int) ≤ left - 1 - pre (partsV d) vL (j + 1)
              · rw [okI_yes hg.1 hg.2] at HC
                have HF := hide' (HS.out hg.1 hg.2)
                have hnn : ¬ (left - 1 - pre (partsV d) vL (j + 1) - partsV d vL[j + 1] < 0) := by omega
                have hup : left - 1 - pre (partsV d) vL (j + 1) - partsV d vL[j + 1] ≤ 40 := by omega
                generalize partsV d vL[j + 1] = q at *
                generalize pre (partsV d) vL (j + 1) = p at *
                clear HN HS hg hv
                go_wp2_with fail
                go_quiet ((go_at_call 48; exact quiet_same (HNm.out _)))
                go_wp2_with fail
                refine (HC.out _ (below_drewN B _)).mono ?_
                rintro e w1 ⟨rfl, b1⟩
                have B1 : Hid (Below (w.alloc ob).heap.size (w.alloc ob) w1) := Below.on (below_drewN hbel.out _) b1
                clear q0 q1 q2 q3 q4 b1
                go_wp2
                go_roundw
                case rel => exact ⟨(j + 1) + 1, by go_num, HF.out, HA.out, B1⟩
                case measure => simp [intOf]; omega
              · rw [okI_no hg] at HC
                have HF := hide' (HN.out hg)
                generalize pre (partsV d) vL (j + 1) = p at *
                clear HN HS hg hv
                go_wp2_with fail
                go_quiet ((go_at_call 48; exact quiet_same (HNm.out _)))
                go_wp2_with fail
                refine (HC.out _ (below_drewN B _)).mono ?_
                rintro e w1 ⟨rfl, b1⟩
                have B1 : Below w.heap.size w w1 := Below.on (below_drewN B _) b1
                clear q0 q1 q2 q3 q4 b1
                go_wp2
                go_ret
                exact ⟨ret_i64 (by rw [HF.out]), B1⟩
            · have hcmp' : Op.bytesLess (strOf (vK.getD j [])).toList (strOf (vK.getD (j + 1) [])).toList = false := by simpa using hcmp
              have HF := hide' (HNo.out (j + 1) hltK (by rw [hst]; exact hcmp'))
              generalize vK.getD (j + 1) [] = ys at *
              generalize vK.getD j [] = zs at *
              clear hat hn hst g2 g3 HC HN HS hcmp hv
              go_wp2_with fail
              go_quiet ((go_at_call 48; exact quiet_same (HNm.out _)))
              go_wp2
              go_ret
              exact ⟨ret_i64 (by rw [HF.out]), below_drewN B _⟩
        · have hn' : nameB (vK.getD k []) = false := by simpa using hn
          rw [hn'] at HNm
          have HF := hide' (HNo.out k hltK (by unfold stepB; rw [hn']; rfl))
          generalize vK.getD k [] = ys at *
          clear hat hn hn' g2 HC HN HS hv
          go_wp2_with fail
          go_quiet ((go_at_call 48; exact quiet_same (HNm.out _)))
          go_wp2
          go_ret
          exact ⟨ret_i64 (by rw [HF.out]), below_drewN B _⟩
      · have hkn : k = vL.length := by omega
        have hlt' : ¬ (k : Int) < (vL.length : Int) := by omega
        have HF : Hid (okI (d + 1) (5, 0, [], vK, vL) deep left = left - 1 - pre (partsV d) vL k) := by
          show okI (d + 1) (5, 0, [], vK, vL) deep left = _
          rw [okI_all H3.out (HYes.out fun i hi => hHS.out i (by have := HKL.out; omega)) (fun j h => hHK.out.2.2.2 j h (by omega)) (by rw [← hkn]; exact hple), ← hkn]
        clear hkn
        go_wp2
        go_ret
        exact ⟨ret_i64 (by rw [HF.out]), B⟩
  · have HF := hide' (okI_shape (d := d) (vL := vL) deep left (shape_map_no hkl))
    have hne : ¬ (vK.length : Int) = (vL.length : Int) := by omega
    clear ih
    go_enter Try.func28, Try.ntmps28
    go_wp2
    go_ret
    exact ⟨ret_i64 (by rw [HF.out]), Hb.out _⟩
end Go.Proofs.Ytenfnbnhdmkhkaa
/-
  l2ok and ValOk of the specification, at every value.
-/
namespace Go.Proofs.Ytenfnbnhdmkhkaa
open Go.RowKit
set_option linter.unusedVariables false
set_option linter.unusedSimpArgs false

theorem okI_leaf_sel {d : Nat} {vk vn : Int} {vs : List Int} {vK : List (List Int)} {deep : Nat} {left : Int} (p : Bool) (h1 : deep ≤ 5) (h2 : shapeB vk vn vs vK 0 = p) (h4 : 1 ≤ left) : okI (d + 1) (vk, vn, vs, vK, []) deep left = sel p (left - 1) := by
  cases p with
  | true => rw [okI_leaf h1 h2 h4]; rfl
  | false => rw [okI_shape (d := d) (vL := []) deep left (by simpa using h2)]; rfl

set_option maxHeartbeats 1600000 in
theorem l2ok_succ (d : Nat) (ih : OkAt d) : OkAt (d + 1) := by
  intro N c v deep left w hv hN hd h0 h1
  obtain ⟨c0, c1, c2, c3, c4⟩ := c
  obtain ⟨vk, vn, vs, vK, vL⟩ := v
  obtain ⟨e0, e1, ht, hk, hl⟩ := (VSeg_succ _ _ _ _ _).1 hv
  simp only at e0 e1 ht hk hl
  subst e0
  subst e1
  clear hv
  simp only
  have HK := hk
  have HL := hl
  obtain ⟨a2, p2, rfl, s2, l2, m2, _, _⟩ := ht
  obtain ⟨a3, p3, rfl, _, _, _, _⟩ := hk
  obtain ⟨a4, p4, rfl, _, _, _, _⟩ := hl
  by_cases q1 : left < 1
  · exact (l2ok_left _ _ _ _ _ _ _ _ _ _ _ deep left w q1 h0).mono fun e w' h => ⟨h.1.trans (ret_i64 (okI_left _ deep q1).symm), h.2⟩
  by_cases q2 : 5 < deep
  · exact (l2ok_deep _ _ _ _ _ _ _ _ _ _ _ deep left w (by omega) h1 q2).mono fun e w' h => ⟨h.1.trans (ret_i64 (okI_deep _ left q2).symm), h.2⟩
  by_cases q3 : bareB vk vn vs.length vK.length vL.length = false
  · exact (l2ok_bare _ _ _ _ _ _ _ _ _ _ _ deep left w (by omega) h1 (by omega) q3).mono fun e w' h => ⟨h.1.trans (ret_i64 (okI_bare deep left q3).symm), h.2⟩
  have q4 : bareB vk vn vs.length vK.length vL.length = true := by simpa using q3
  have hL1 : 1 ≤ left := by omega
  have hD1 : deep ≤ 5 := by omega
  clear q1 q2 q3
  by_cases k0 : vk = 0 ∨ vk = 6
  · have : vn = 0 ∧ vs = [] ∧ vK = [] ∧ vL = [] := by rcases k0 with rfl | rfl <;> · simp [bareB] at q4; simpa [and_assoc] using q4
    obtain ⟨rfl, rfl, rfl, rfl⟩ := this
    exact (l2ok_null vk k0 _ _ _ _ _ _ deep left w hL1 h1 hD1).mono fun e w' h => ⟨h.1.trans (ret_i64 (okI_leaf_sel true hD1 (by rcases k0 with rfl | rfl <;> simp [shapeB, bareB]) hL1).symm), h.2⟩
  by_cases k1 : vk = 1
  · subst k1
    have : vs = [] ∧ vK = [] ∧ vL = [] := by simp [bareB] at q4; simpa [and_assoc] using q4
    obtain ⟨rfl, rfl, rfl⟩ := this
    exact (l2ok_bool vn _ _ _ _ _ _ deep left w hL1 h1 hD1).mono fun e w' h => ⟨h.1.trans (ret_i64 (okI_leaf_sel (decide (vn = 0) || decide (vn = 1)) hD1 (by simp [shapeB, bareB]) hL1).symm), h.2⟩
  by_cases k2 : vk = 2
  · subst k2
    have : vs = [] ∧ vK = [] ∧ vL = [] := by simp [bareB] at q4; simpa [and_assoc] using q4
    obtain ⟨rfl, rfl, rfl⟩ := this
    exact (l2ok_int vn _ _ _ _ _ _ deep left w hL1 h1 hD1).mono fun e w' h => ⟨h.1.trans (ret_i64 (okI_leaf_sel (intB vn) hD1 (by simp [shapeB, bareB]) hL1).symm), h.2⟩
  by_cases k3 : vk = 3
  · subst k3
    have : vn = 0 ∧ vK = [] ∧ vL = [] := by simp [bareB] at q4; simpa [and_assoc] using q4
    obtain ⟨rfl, rfl, rfl⟩ := this
    exact (l2ok_text vs _ _ _ _ _ _ deep left w s2 (by omega) hL1 h1 hD1).mono fun e w' h => ⟨h.1.trans (ret_i64 (okI_leaf_sel (textB vs) hD1 (by simp [shapeB, bareB]) hL1).symm), h.2⟩
  by_cases k4 : vk = 4
  · subst k4
    have : vn = 0 ∧ vs = [] ∧ vK = [] := by simp [bareB] at q4; simpa [and_assoc] using q4
    obtain ⟨rfl, rfl, rfl⟩ := this
    exact l2ok_list d ih N vL _ _ _ _ _ deep left w HL hN hL1 h1 hD1
  by_cases k5 : vk = 5
  · subst k5
    have : vn = 0 ∧ vs = [] := by simp [bareB] at q4; simpa [and_assoc] using q4
    obtain ⟨rfl, rfl⟩ := this
    exact l2ok_map d ih N vK vL _ _ _ _ deep left w HK HL hN hL1 h1 hD1
  · have : vn = 0 ∧ vs = [] ∧ vK = [] ∧ vL = [] := by simp [bareB, k1, k2, k3, k4, k5] at q4; simpa [and_assoc] using q4
    obtain ⟨rfl, rfl, rfl, rfl⟩ := this
    have k6 : ¬ vk = 6 := fun e => k0 (.inr e)
    have k0' : ¬ vk = 0 := fun e => k0 (.inl e)
    exact (l2ok_none vk k0' k1 k2 k3 k4 k5 k6 _ _ _ _ _ _ deep left w hL1 h1 hD1).mono fun e w' h => ⟨h.1.trans (ret_i64 (okI_leaf_sel false hD1 (by simp [shapeB, bareB, k0', k1, k2, k3, k4, k5, k6]) hL1).symm), h.2⟩

theorem l2ok_any (d : Nat) : OkAt d := by
  induction d with
  | zero => intro N c v deep left w hv; exact hv.elim
  | succ d ih => exact l2ok_succ d ih

/-- What ValOk answers. -/
def okB (d : Nat) (v : Vl d) : Bool := goodB d v 1 && decide (partsV d v ≤ 40)

theorem okI_okB (d : Nat) (v : Vl d) : (okB d v = true → 0 ≤ okI d v 1 40 ∧ okI d v 1 40 ≤ 40) ∧ (okB d v = false → okI d v 1 40 = -1) := by
  constructor
  · intro h
    simp [okB] at h
    rw [okI_yes h.1 (by omega)]
    omega
  · intro h
    refine okI_no fun ⟨h1, h2⟩ => ?_
    simp [okB, h1] at h
    omega

set_option maxHeartbeats 1600000 in
theorem spec_ValOk_any (d N : Nat) (c0 c1 c2 c3 c4 : Value) (v : Vl d) (w : World) (hv : VSeg (fun b => b < N) w d (c0, c1, c2, c3, c4) v) (hN : N ≤ w.heap.size) :
    Calls Try.prog 9 #[.agg #[c0, c1, c2, c3, c4]] w fun e w' => e = .returned (.bool (okB d v)) ∧ Below w.heap.size w w' := by
  have b0 : ∀ o : Obj, Below w.heap.size w (w.alloc o) := fun o => (Below.refl _ _).alloc (Nat.le_refl _) o
  have HC : Hid (∀ o : Obj, Calls Try.prog 28 #[.agg #[c0, c1, c2, c3, c4], .int .i64 1, .int .i64 40] (w.alloc o) fun e w' => e = .returned (.int .i64 (okI d v 1 40)) ∧ Below (w.alloc o).heap.size (w.alloc o) w') := fun o =>
    l2ok_any d N (c0, c1, c2, c3, c4) v 1 40 (w.alloc o) (VSeg.agree (agree_below ((b0 o).mono hN)) d hv) (by have := (b0 o).size; omega) (by omega) (by omega) (by omega)
  have Hb := hide' b0
  have hq := okI_okB d v
  clear b0
  cases hb : okB d v with
  | true =>
    obtain ⟨h1, h2⟩ := hq.1 hb
    generalize okI d v 1 40 = q at *
    clear hq hb
    go_enter Try.func9, Try.ntmps9
    go_wp2_with fail
    refine (HC.out _).mono ?_
    rintro e w1 ⟨rfl, b1⟩
    have B1 := Below.on (Hb.out _) b1
    clear b1
    go_wp2
    go_ret
    exact ⟨rfl, B1⟩
  | false =>
    have h1 := hq.2 hb
    rw [h1] at HC
    clear hq hb h1
    go_enter Try.func9, Try.ntmps9
    go_wp2_with fail
    refine (HC.out _).mono ?_
    rintro e w1 ⟨rfl, b1⟩
    have B1 := Below.on (Hb.out _) b1
    clear b1
    go_wp2
    go_ret
    exact ⟨rfl, B1⟩
end Go.Proofs.Ytenfnbnhdmkhkaa
/-
  Numbers as bytes, plain: what PutNum makes of a number, and what is read back; no Go text here.
-/
namespace Go.Proofs.Ytenfnbnhdmkhkaa
set_option linter.unusedVariables false

/-- The bytes of a number, seven bits a byte, the least first; the first argument bounds how many. -/
def digsF : Nat → Nat → List Int
  | 0, n => [(n : Int)]
  | f + 1, n => if n < 128 then [(n : Int)] else ((n % 128 + 128 : Nat) : Int) :: digsF f (n / 128)

/-- The bytes of a number. -/
def digs (n : Nat) : List Int := digsF n n

theorem digsF_small (f n : Nat) (h : n < 128) : digsF f n = [(n : Int)] := by
  cases f with
  | zero => rfl
  | succ f => simp [digsF, h]

theorem digsF_enough (f : Nat) : ∀ (g n : Nat), n ≤ f → n ≤ g → digsF f n = digsF g n := by
  induction f with
  | zero =>
    intro g n h1 h2
    rw [digsF_small 0 n (by omega), digsF_small g n (by omega)]
  | succ f ih =>
    intro g n h1 h2
    by_cases h : n < 128
    · rw [digsF_small _ n h, digsF_small _ n h]
    · cases g with
      | zero => omega
      | succ g =>
        simp only [digsF, if_neg h]
        rw [ih g (n / 128) (by omega) (by omega)]

theorem digs_small (n : Nat) (h : n < 128) : digs n = [(n : Int)] := digsF_small n n h
theorem digs_big (n : Nat) (h : ¬ n < 128) : digs n = ((n % 128 + 128 : Nat) : Int) :: digs (n / 128) := by
  unfold digs
  cases n with
  | zero => omega
  | succ m =>
    rw [digsF, if_neg h, digsF_enough m ((m + 1) / 128) ((m + 1) / 128) (by omega) (by omega)]

theorem digs_byt (n : Nat) : ∀ x ∈ digs n, Byt x := by
  induction n using Nat.strongRecOn with
  | ind n ih =>
    intro x hx
    by_cases h : n < 128
    · rw [digs_small n h] at hx
      simp at hx
      unfold Byt; omega
    · rw [digs_big n h] at hx
      simp at hx
      rcases hx with rfl | hx
      · unfold Byt; omega
      · exact ih (n / 128) (by omega) x hx

theorem digs_len_pos (n : Nat) : 1 ≤ (digs n).length := by
  by_cases h : n < 128
  · rw [digs_small n h]; simp
  · rw [digs_big n h]; simp

theorem digs_len (n : Nat) (h : n ≤ 2147483647) : (digs n).length ≤ 5 := by
  by_cases h1 : n < 128
  · rw [digs_small n h1]; simp
  rw [digs_big n h1]
  by_cases h2 : n / 128 < 128
  · rw [digs_small _ h2]; simp
  rw [digs_big _ h2]
  by_cases h3 : n / 128 / 128 < 128
  · rw [digs_small _ h3]; simp
  rw [digs_big _ h3]
  by_cases h4 : n / 128 / 128 / 128 < 128
  · rw [digs_small _ h4]; simp
  rw [digs_big _ h4, digs_small _ (by omega)]
  simp

/-- What PutNum answers. -/
def putNum (xs : List Int) (n : Int) : List Int := if n < 0 ∨ 2147483647 < n then xs else xs ++ digs n.toNat

theorem putNum_no (xs : List Int) (n : Int) (h : n < 0 ∨ 2147483647 < n) : putNum xs n = xs := by simp [putNum, h]
theorem putNum_yes (xs : List Int) (n : Int) (h0 : 0 ≤ n) (h1 : n ≤ 2147483647) : putNum xs n = xs ++ digs n.toNat := by
  rw [putNum, if_neg (by omega)]

theorem putNum_byt (xs : List Int) (n : Int) (h : ∀ x ∈ xs, Byt x) : ∀ x ∈ putNum xs n, Byt x := by
  intro x hx
  unfold putNum at hx
  split at hx
  · exact h x hx
  · rcases List.mem_append.1 hx with h1 | h1
    · exact h x h1
    · exact digs_byt _ x h1

theorem putNum_len (xs : List Int) (n : Int) : (putNum xs n).length ≤ xs.length + 5 := by
  unfold putNum
  split
  · omega
  · have := digs_len n.toNat (by omega)
    simp; omega

end Go.Proofs.Ytenfnbnhdmkhkaa
/-
  The laws' own helpers markByteS and heldByteS: the one writes running numbers into a row that is the call's own, the other finds them there.
-/
namespace Go.Proofs.Ytenfnbnhdmkhkaa
open Go.RowKit
set_option linter.unusedVariables false

/-- The running numbers, as bytes. -/
def marks (m n : Nat) : List Int := (List.range n).map fun i => (((m + i) % 256 : Nat) : Int)

theorem length_marks (m n : Nat) : (marks m n).length = n := by simp [marks]
theorem marks_byt (m n : Nat) : ∀ x ∈ marks m n, Byt x := by
  intro x hx
  simp only [marks, List.mem_map] at hx
  obtain ⟨i, _, rfl⟩ := hx
  unfold Byt
  omega
theorem marks_at (m n k : Nat) (h : k < n) : (marks m n).getD k 0 = (((m + k) % 256 : Nat) : Int) := by simp [marks, h]

/-- What a row holds after k of the marks. -/
def marked (xs : List Int) (m k : Nat) : List Value := cellsOf (marks m k) ++ cellsOf (xs.drop k)
theorem marked_zero (xs : List Int) (m : Nat) : marked xs m 0 = cellsOf xs := by simp [marked, marks, cellsOf]
theorem marked_all (xs : List Int) (m : Nat) : marked xs m xs.length = cellsOf (marks m xs.length) := by simp [marked, cellsOf]
theorem length_marked (xs : List Int) (m k : Nat) (h : k ≤ xs.length) : (marked xs m k).length = xs.length := by simp [marked, marks, cellsOf]; omega
theorem marked_set (xs : List Int) (m k : Nat) (h : k < xs.length) : (marked xs m k).set k (.int .u8 (((m + k) % 256 : Nat) : Int)) = marked xs m (k + 1) := by
  apply List.ext_getElem
  · simp [marked, marks, cellsOf]; omega
  · intro i h1 h2
    simp only [marked, marks, cellsOf, List.getElem_set, List.getElem_append, List.length_map, List.length_range]
    by_cases hik : k = i
    · subst hik
      simp
    · by_cases hlt : i < k
      · have e2 : i < k + 1 := by omega
        simp [hik, hlt, e2]
      · have e2 : ¬ i < k + 1 := by omega
        have e3 : k + 1 + (i - (k + 1)) = k + (i - k) := by omega
        simp [hik, hlt, e2, e3]



end Go.Proofs.Ytenfnbnhdmkhkaa
/-
  numDigits of the program: the five bytes and how many of them count.
-/
namespace Go.Proofs.Ytenfnbnhdmkhkaa
open Go.RowKit
set_option linter.unusedVariables false

theorem below2 (w : World) (o1 o2 : Obj) : Below w.heap.size w ((w.alloc o1).alloc o2) :=
  ((Below.refl _ _).alloc (Nat.le_refl _) _).alloc (by simp) _

/-- After k rounds: k bytes are laid, m is left of n. -/
def DigAt (n k m : Nat) (c0 c1 c2 c3 c4 : Int) : Prop :=
  m * 128 ^ k ≤ 2147483647 ∧ ∃ pre : List Int, pre.length = k ∧ pre ++ digs m = digs n ∧ [c0, c1, c2, c3, c4] = pre ++ List.replicate (5 - k) 0

theorem digAt_k {n k m : Nat} {c0 c1 c2 c3 c4 : Int} (h : DigAt n k m c0 c1 c2 c3 c4) (hm : 128 ≤ m) : k = 0 ∨ k = 1 ∨ k = 2 ∨ k = 3 := by
  obtain ⟨h1, _⟩ := h
  by_cases hk : k < 4
  · omega
  · have h2 : 128 ^ 4 ≤ 128 ^ k := Nat.pow_le_pow_right (by omega) (by omega)
    have h3 : 128 * 128 ^ 4 ≤ m * 128 ^ k := Nat.mul_le_mul hm h2
    have : (128 : Nat) * 128 ^ 4 = 34359738368 := by decide
    omega

theorem digAt_k4 {n k m : Nat} {c0 c1 c2 c3 c4 : Int} (h : DigAt n k m c0 c1 c2 c3 c4) (hn : n ≤ 2147483647) : k = 0 ∨ k = 1 ∨ k = 2 ∨ k = 3 ∨ k = 4 := by
  obtain ⟨_, pre, hp, he, _⟩ := h
  have h1 := congrArg List.length he
  have h2 := digs_len n hn
  have h3 := digs_len_pos m
  simp at h1
  omega

theorem digAt_next {n k m : Nat} {c0 c1 c2 c3 c4 d0 d1 d2 d3 d4 : Int} (h : DigAt n k m c0 c1 c2 c3 c4) (hm : 128 ≤ m) (hd : [d0, d1, d2, d3, d4] = [c0, c1, c2, c3, c4].set k ((m : Int) % 128 + 128)) : DigAt n (k + 1) (m / 128) d0 d1 d2 d3 d4 := by
  have hk := digAt_k h hm
  obtain ⟨h1, pre, hp, he, hc⟩ := h
  refine ⟨?_, pre ++ [(m : Int) % 128 + 128], by simp [hp], ?_, ?_⟩
  · rw [Nat.pow_succ, Nat.mul_comm (128 ^ k) 128, ← Nat.mul_assoc]
    exact Nat.le_trans (Nat.mul_le_mul_right _ (Nat.div_mul_le_self m 128)) h1
  · rw [← he, digs_big m (by omega)]
    simp
  · rw [hd, hc, List.set_append_right _ _ (by omega), hp, Nat.sub_self]
    have : 5 - k = (5 - (k + 1)) + 1 := by omega
    rw [this, List.replicate_succ, List.set_cons_zero, List.append_assoc]
    rfl

theorem digAt_last {n k m : Nat} {c0 c1 c2 c3 c4 d0 d1 d2 d3 d4 : Int} (h : DigAt n k m c0 c1 c2 c3 c4) (hn : n ≤ 2147483647) (hm : m < 128) (hd : [d0, d1, d2, d3, d4] = [c0, c1, c2, c3, c4].set k (m : Int)) :
    (digs n).length = k + 1 ∧ [d0, d1, d2, d3, d4] = digs n ++ List.replicate (5 - (k + 1)) 0 := by
  have hk := digAt_k4 h hn
  obtain ⟨_, pre, hp, he, hc⟩ := h
  rw [digs_small m hm] at he
  refine ⟨by rw [← he]; simp [hp], ?_⟩
  rw [hd, hc, List.set_append_right _ _ (by omega), hp, Nat.sub_self]
  have : 5 - k = (5 - (k + 1)) + 1 := by omega
  rw [this, List.replicate_succ, List.set_cons_zero, ← he, List.append_assoc]
  rfl

end Go.Proofs.Ytenfnbnhdmkhkaa
/-
  The specification's PutNum: it makes a row of its own that holds its argument's bytes and those of the number behind them.
-/
namespace Go.Proofs.Ytenfnbnhdmkhkaa
open Go.RowKit
set_option linter.unusedVariables false

set_option maxHeartbeats 800000 in
theorem spec_PutNum_no (a : Option Addr) (cap : Nat) (xs : List Int) (n : Int) (w : World) (hs : Seg w a xs) (hc : a = none → cap = 0) (hl : xs.length ≤ 2097152) (hn : n < 0 ∨ 2147483647 < n) :
    Calls Try.prog 62 #[.slice a xs.length cap, .int .i64 n] w fun e w' => ∃ v, e = .returned v ∧ Bts w' w.heap.size v (putNum xs n) ∧ Below w.heap.size w w' := by
  have hE := bts_empty w
  have hS1 : Seg (w.alloc (.cells #[] 5)) a xs := hs.grow ((Below.refl _ _).alloc (Nat.le_refl _) _)
  have hB1 : Below w.heap.size w (w.alloc (.cells #[] 5)) := (Below.refl _ _).alloc (Nat.le_refl _) _
  have Hp : Hid (putNum xs n = xs) := putNum_no xs n hn
  generalize hnn : xs.length = nn
  have Hnn : Hid (nn = xs.length) := hnn.symm
  clear hnn
  rcases hn with hn | hn
  · go_enter Try.func62, Try.ntmps62
    go_wp2_with (at_builtin; refine wpList_append_seg rfl _ _ rfl w.heap.size _ [] xs rfl hE a nn cap Hnn.out rfl hS1 hc (by simp; omega) (by simp) ?_; intro v2 w2 hv2 hg2)
    go_ret
    exact ⟨_, rfl, by rw [Hp.out]; exact hv2, hB1.grown hg2 (by simp) hE.own⟩
  · have hn0 : ¬ n < 0 := by omega
    go_enter Try.func62, Try.ntmps62
    go_wp2_with (at_builtin; refine wpList_append_seg rfl _ _ rfl w.heap.size _ [] xs rfl hE a nn cap Hnn.out rfl hS1 hc (by simp; omega) (by simp) ?_; intro v2 w2 hv2 hg2)
    go_ret
    exact ⟨_, rfl, by rw [Hp.out]; exact hv2, hB1.grown hg2 (by simp) hE.own⟩

set_option maxHeartbeats 800000 in
theorem spec_PutNum_yes (a : Option Addr) (cap : Nat) (xs : List Int) (n : Int) (w : World) (hs : Seg w a xs) (hc : a = none → cap = 0) (hl : xs.length ≤ 2097152) (hn0 : 0 ≤ n) (hn1 : n ≤ 2147483647) :
    Calls Try.prog 62 #[.slice a xs.length cap, .int .i64 n] w fun e w' => ∃ v, e = .returned v ∧ Bts w' w.heap.size v (putNum xs n) ∧ Below w.heap.size w w' := by
  have hE := bts_empty w
  have hS1 : Seg (w.alloc (.cells #[] 5)) a xs := hs.grow ((Below.refl _ _).alloc (Nat.le_refl _) _)
  have hB1 : Below w.heap.size w (w.alloc (.cells #[] 5)) := (Below.refl _ _).alloc (Nat.le_refl _) _
  have Hp : Hid (putNum xs n = xs ++ digs n.toNat) := putNum_yes xs n hn0 hn1
  generalize hnn : xs.length = nn
  have Hnn : Hid (nn = xs.length) := hnn.symm
  clear hnn
  go_enter Try.func62, Try.ntmps62
  go_wp2_with (at_builtin; refine wpList_append_seg rfl _ _ rfl w.heap.size _ [] xs rfl hE a nn cap Hnn.out rfl hS1 hc (by simp; omega) (by simp) ?_; intro v2 w2 hv2 hg2)
  go_loopw [1, 5] (fun n' v wr => ∃ (m : Nat) (pre : List Int), m ≤ 2147483647 ∧ n' = .int .i64 m ∧ Bts wr w.heap.size v (xs ++ pre) ∧ pre ++ digs m = digs n.toNat ∧ Below w.heap.size w wr) (fun n' _ _ => (intOf n').toNat)
  case atStart => exact ⟨n.toNat, [], by omega, by rw [Int.toNat_of_nonneg hn0], by simpa using hv2, by simp, hB1.grown hg2 (by simp) hE.own⟩
  case round =>
    obtain ⟨m, pre, hm, rfl, hv, hpre, hbel⟩ := hrel
    have Hpre : Hid (pre ++ digs m = digs n.toNat) := hpre
    clear hpre hv2 hg2
    have hsz := hbel.size
    have hpl : pre.length ≤ 5 := by
      have h1 := congrArg List.length Hpre.out
      have h2 := digs_len n.toNat (by omega)
      simp at h1
      omega
    by_cases hbig : (127 : Int) < (m : Int)
    · have hc1 : Byt ((m : Int) % 128 + 128) := by unfold Byt; omega
      have hS2 := seg_one wr _ hc1
      have hv' := hv.alloc (.cells #[.int .u8 ((m : Int) % 128 + 128)] 5)
      have hB2 : Below w.heap.size w (wr.alloc (.cells #[.int .u8 ((m : Int) % 128 + 128)] 5)) := hbel.alloc (by omega) _
      go_wp2_with (at_builtin; refine wpList_append_seg rfl _ _ rfl w.heap.size _ (xs ++ pre) [(m : Int) % 128 + 128] rfl hv' (some ⟨wr.heap.size, 0, none⟩) 1 1 rfl rfl hS2 (by simp) (by simp; omega) (by simp; omega) ?_; intro v3 w3 hv3 hg3)
      go_roundw
      case rel =>
        refine ⟨m / 128, pre ++ [(m : Int) % 128 + 128], by omega, by go_num, by simpa using hv3, ?_, hB2.grown hg3 (by simp; omega) hv'.own⟩
        rw [← Hpre.out, digs_big m (by omega)]
        simp
      case measure => simp [intOf]; omega
    · have hc1 : Byt (m : Int) := by unfold Byt; omega
      have hS2 := seg_one wr _ hc1
      have hv' := hv.alloc (.cells #[.int .u8 (m : Int)] 5)
      have hB2 : Below w.heap.size w (wr.alloc (.cells #[.int .u8 (m : Int)] 5)) := hbel.alloc (by omega) _
      go_wp2_with (at_builtin; refine wpList_append_seg rfl _ _ rfl w.heap.size _ (xs ++ pre) [(m : Int)] rfl hv' (some ⟨wr.heap.size, 0, none⟩) 1 1 rfl rfl hS2 (by simp) (by simp; omega) (by simp; omega) ?_; intro v3 w3 hv3 hg3)
      go_ret
      refine ⟨_, rfl, ?_, hB2.grown hg3 (by simp; omega) hv'.own⟩
      rw [Hp.out, ← Hpre.out, digs_small m (by omega), ← List.append_assoc]
      exact hv3

theorem spec_PutNum_any (a : Option Addr) (cap : Nat) (xs : List Int) (n : Int) (w : World) (hs : Seg w a xs) (hc : a = none → cap = 0) (hl : xs.length ≤ 2097152) :
    Calls Try.prog 62 #[.slice a xs.length cap, .int .i64 n] w fun e w' => ∃ v, e = .returned v ∧ Bts w' w.heap.size v (putNum xs n) ∧ Below w.heap.size w w' := by
  by_cases h : n < 0 ∨ 2147483647 < n
  · exact spec_PutNum_no a cap xs n w hs hc hl h
  · exact spec_PutNum_yes a cap xs n w hs hc hl (by omega) (by omega)

end Go.Proofs.Ytenfnbnhdmkhkaa
/-
  joined, PutNum and NumLen of the program, NumLen of the specification.
-/
namespace Go.Proofs.Ytenfnbnhdmkhkaa
open Go.RowKit
set_option linter.unusedVariables false

theorem bts_made {w1 : World} {base g cap : Nat} (h : w1.ownsRow base 5 1 (.slice (some ⟨g, 0, none⟩) 0 cap) 0 []) : Bts w1 base (.slice (some ⟨g, 0, none⟩) 0 cap) [] := ⟨by simp, by simpa [cellsOf] using h⟩

end Go.Proofs.Ytenfnbnhdmkhkaa
/-
  PutText of the program and of the specification: a text with its length ahead, behind a copy of what was there.
-/
namespace Go.Proofs.Ytenfnbnhdmkhkaa
open Go.RowKit
set_option linter.unusedVariables false

/-- What PutText answers. -/
def putText (xs ts : List Int) : List Int := if 20 < ts.length then xs else putNum xs ts.length ++ ts
theorem putText_no (xs ts : List Int) (h : 20 < ts.length) : putText xs ts = xs := by simp [putText, h]
theorem putText_yes (xs ts : List Int) (h : ¬ 20 < ts.length) : putText xs ts = putNum xs ts.length ++ ts := by simp [putText, h]
theorem putText_len (xs ts : List Int) : (putText xs ts).length ≤ xs.length + 25 := by
  unfold putText
  split
  · omega
  · have := putNum_len xs ts.length
    simp; omega

set_option maxHeartbeats 800000 in
theorem spec_PutText_any (a b : Option Addr) (c1 c2 : Nat) (xs ts : List Int) (w : World) (ha : Seg w a xs) (hb : Seg w b ts) (ka : a = none → c1 = 0) (kb : b = none → c2 = 0) (hl : xs.length ≤ 2097152) (hl2 : ts.length ≤ 2097152) :
    Calls Try.prog 63 #[.slice a xs.length c1, .slice b ts.length c2] w fun e w' => ∃ v, e = .returned v ∧ Bts w' w.heap.size v (putText xs ts) ∧ Below w.heap.size w w' := by
  by_cases h : 20 < ts.length
  · have Hp : Hid (putText xs ts = xs) := putText_no xs ts h
    have h' : (20 : Int) < (ts.length : Int) := by omega
    have hE := bts_empty w
    have hB1 : Below w.heap.size w (w.alloc (.cells #[] 5)) := (Below.refl _ _).alloc (Nat.le_refl _) _
    have hS1 := ha.grow hB1
    generalize hn : xs.length = n at *
    have Hn : Hid (n = xs.length) := hn.symm
    clear hn
    go_enter Try.func63, Try.ntmps63
    go_wp2_with (at_builtin; refine wpList_append_seg rfl (.tmp 8) (.tmp 9) rfl w.heap.size _ [] xs rfl hE a n c1 Hn.out rfl hS1 ka (by simp; have := Hn.out; omega) (by simp) ?_; intro v2 w2 hv2 hg2)
    go_ret
    exact ⟨_, rfl, by rw [Hp.out]; exact hv2, hB1.grown hg2 (by simp) hE.own⟩
  · have Hp : Hid (putText xs ts = putNum xs ts.length ++ ts) := putText_yes xs ts h
    have h' : ¬ (20 : Int) < (ts.length : Int) := by omega
    have hpl := putNum_len xs ts.length
    generalize hn : ts.length = n at *
    have Hn : Hid (n = ts.length) := hn.symm
    clear hn
    go_enter Try.func63, Try.ntmps63
    go_wp2_with fail
    refine (spec_PutNum_any _ _ xs n _ ha ka (by omega)).mono ?_
    rintro e w1 ⟨v1, rfl, hv1, b1⟩
    have hS := hb.grow b1
    have z1 := b1.size
    go_wp2_with (at_builtin; refine wpList_append_seg rfl (.tmp 14) (.tmp 15) rfl w.heap.size _ (putNum xs n) ts rfl hv1 b n c2 Hn.out rfl hS kb (by have := Hn.out; omega) z1 ?_; intro v2 w2 hv2 hg2)
    go_ret
    exact ⟨_, rfl, by rw [Hp.out]; exact hv2, b1.grown hg2 z1 hv1.own⟩

end Go.Proofs.Ytenfnbnhdmkhkaa
