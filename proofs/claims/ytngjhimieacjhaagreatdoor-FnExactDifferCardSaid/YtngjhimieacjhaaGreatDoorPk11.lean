/-
  Texts that a law leans on, one behind the other; no statement is proved here.
-/
import Derived.Test.YtngjhimieacjhaaGreatDoorPk10
import Derived.Test.YtngjhimieacjhaaGreatDoorPk9
import Derived.Maps.Own
/-
  l2ok of the specification at maps; at every value: 'okI'; ValOk of the specification.
-/
namespace Go.Proofs.YtngjhimieacjhaaGreatDoor
open Go.RowKit
set_option linter.unusedVariables false
set_option linter.unusedSimpArgs false

theorem shape_map {vK : List (List Int)} {n : Nat} (h : vK.length = n) : shapeB 5 0 [] vK n = ascB vK := by simp [shapeB, bareB, h]
theorem shape_map_no {vK : List (List Int)} {n : Nat} (h : vK.length ≠ n) : shapeB 5 0 [] vK n = false := by simp [shapeB, bareB, h]

set_option maxHeartbeats 8000000 in
set_option maxRecDepth 100000 in
theorem l2ok_map (d : Nat) (ih : OkAt d) (N : Nat) (vK : List (List Int)) (vL : List (Vl d)) (a2 : Option Addr) (p2 : Nat) (z x : Value) (deep : Nat) (left : Int) (w : World) (hz0 : KSeg (fun b => b < N) w z vK) (hx : LSeg (fun b => b < N) w d x vL) (hN : N ≤ w.heap.size) (h1 : 1 ≤ left) (h2 : left ≤ 40) (h3 : deep ≤ 5) :
    Calls Tryz.prog 79 #[.agg #[.int .i64 5, .int .i64 0, .slice a2 0 p2, z, x], .int .i64 deep, .int .i64 left] w fun e w' => e = .returned (.int .i64 (okI (d + 1) (5, 0, [], vK, vL) deep left)) ∧ Below w.heap.size w w' := by
  have HX := hide' hx
  have HZ := hide' hz0
  obtain ⟨a4, p4, rfl, hlc, hcm, ka, _⟩ := hx
  obtain ⟨a3, p3, rfl, hlc3, hcm3, ka3, _⟩ := hz0
  unfold maxLen at hcm hcm3
  have b0 : ∀ o : Obj, Below w.heap.size w (w.alloc o) := fun o => (Below.refl _ _).alloc (Nat.le_refl _) o
  have h4 : ¬ left - 1 < 0 := by omega
  have h5 : ¬ (5 : Int) < (deep : Int) := by omega
  have Hb := hide' b0
  by_cases hkl : vK.length = vL.length
  · have HI := hide' ih
    have H3 := hide' h3
    have H1 := hide' h1
    have HKL := hide' hkl
    have HNo : Hid (∀ i, i < vK.length → stepB vK i = false → okI (d + 1) (5, 0, [], vK, vL) deep left = -1) := fun i hi h => okI_shape deep left (by rw [shape_map hkl]; exact ascB_no hi h)
    have HYes : Hid ((∀ i, i < vK.length → stepB vK i = true) → shapeB 5 0 [] vK vL.length = true) := fun h => by rw [shape_map hkl]; exact ascB_yes h
    rw [hkl] at hlc3
    generalize hO : Obj.cells #[.int .i64 5, .int .i64 0, .slice a2 0 p2, .slice a3 vL.length p3, .slice a4 vL.length p4] 49 = ob
    have HOb := hide' hO
    rw [hkl]
    rw [hkl] at HZ
    clear ih b0 hO hkl
    go_enter Tryz.func79, Tryz.ntmps79
    go_wp2
    go_loopw [2, 7] (fun l i wr => ∃ k : Nat, i = .int .i64 k ∧ L2K d vL deep left k l ∧ (∀ j, j < k → stepB vK j = true) ∧ Hid (Below (w.alloc ob).heap.size (w.alloc ob) wr)) (fun _ i _ => vL.length - (intOf i).toNat)
    case atStart => exact ⟨0, rfl, L2K_zero H1.out, fun j h => by omega, by rw [← HOb.out]; exact Below.refl _ _⟩
    case round =>
      obtain ⟨k, rfl, hK, hst, hbel⟩ := hrel
      have hHK := hide' hK
      have hHS := hide' hst
      obtain ⟨hk, rfl, hple, _⟩ := hK
      have hrow := box_row hbel.out
      rw [← HOb.out] at hrow
      obtain ⟨y0, y1, y2, y3, y4, _⟩ := row5 hrow
      have B := Below.on (Hb.out ob) hbel.out
      clear hrow hst
      by_cases hlt : k < vL.length
      · have hlt' : (k : Int) < (vL.length : Int) := by omega
        obtain ⟨b, off, c, rfl, h5', hv⟩ := HX.out.at B hN hlt
        obtain ⟨c0, c1, c2, c3, c4⟩ := c
        obtain ⟨q0, q1, q2, q3, q4⟩ := h5'
        simp only at q0 q1 q2 q3 q4
        have hz := B.size
        have hKr : KSeg (fun b => b < N) wr (.slice a3 vL.length p3) vK := HZ.out.agree (agree_below (B.mono hN))
        have hltK : k < vK.length := by have := HKL.out; omega
        obtain ⟨kb, ko, rfl, hat⟩ := hKr.at hltK
        clear hKr
        obtain ⟨s2, e2, hu, g2, m2⟩ := hat k hltK
        have HC : Hid (∀ wx, Below w.heap.size w wx → Calls Tryz.prog 79 #[.agg #[c0, c1, c2, c3, c4], .int .i64 ((deep : Int) + 1), .int .i64 (left - 1 - pre (partsV d) vL k)] wx fun e w' => e = .returned (.int .i64 (okI d vL[k] (deep + 1) (left - 1 - pre (partsV d) vL k))) ∧ Below wx.heap.size wx w') := by
          intro wx hx
          have := HI.out N (c0, c1, c2, c3, c4) vL[k] (deep + 1) (left - 1 - pre (partsV d) vL k) wx (hv wx hx) (by have := hx.size; omega) (by omega) (by omega) (by omega)
          rw [Int.natCast_add] at this
          exact this
        have HN : Hid (¬ (goodB d vL[k] (deep + 1) = true ∧ (partsV d vL[k] : Int) ≤ left - 1 - pre (partsV d) vL k) → okI (d + 1) (5, 0, [], vK, vL) deep left = -1) := fun h => okI_kid hlt h
        have HS : Hid (goodB d vL[k] (deep + 1) = true → (partsV d vL[k] : Int) ≤ left - 1 - pre (partsV d) vL k → L2K d vL deep left (k + 1) (.int .i64 (left - 1 - pre (partsV d) vL k - partsV d vL[k]))) := fun h h' => L2K_succ hHK.out hlt h h'
        have HNm : Hid (∀ n, Calls Tryz.prog 78 #[.slice s2 (vK.getD k []).length e2] (wr.drewN n) fun e w' => e = .returned (.bool (nameB (vK.getD k []))) ∧ wr.drewN n = w') := fun n => spec_NameOk_any s2 e2 (vK.getD k []) (wr.drewN n) g2 m2
        by_cases hn : nameB (vK.getD k []) = true
        · rw [hn] at HNm
          cases k with
          | zero =>
            have HA : Hid (∀ j, j < 0 + 1 → stepB vK j = true) := fun j hj => by
              obtain rfl : j = 0 := by omega
              simp only [stepB, hn]
              simp
            simp only [Nat.add_zero, Nat.zero_mul] at hu q0 q1 q2 q3 q4
            generalize vK.getD 0 [] = ys at *
            clear hat hn g2
            by_cases hg : goodB d vL[0] (deep + 1) = true ∧ (partsV d vL[0] : Int) ≤ left - 1 - pre (partsV d) vL 0
            · rw [okI_yes hg.1 hg.2] at HC
              have HF := hide' (HS.out hg.1 hg.2)
              have hnn : ¬ (left - 1 - pre (partsV d) vL 0 - partsV d vL[0] < 0) := by omega
              have hup : left - 1 - pre (partsV d) vL 0 - partsV d vL[0] ≤ 40 := by omega
              generalize partsV d vL[0] = q at *
              generalize pre (partsV d) vL 0 = p at *
              clear HN HS hg hv
              go_wp2_with fail
              go_quiet ((go_at_call 78; exact quiet_same (HNm.out _)))
              go_wp2_with fail
              refine (HC.out _ (below_drewN B _)).mono ?_
              rintro e w1 ⟨rfl, b1⟩
              have B1 : Hid (Below (w.alloc ob).heap.size (w.alloc ob) w1) := Below.on (below_drewN hbel.out _) b1
              clear q0 q1 q2 q3 q4 b1
              go_wp2
              go_roundw
              case rel => exact ⟨0 + 1, by go_num, HF.out, HA.out, B1⟩
              case measure => simp [intOf]; omega
            · rw [okI_no hg] at HC
              have HF := hide' (HN.out hg)
              generalize pre (partsV d) vL 0 = p at *
              clear HN HS hg hv
              go_wp2_with fail
              go_quiet ((go_at_call 78; exact quiet_same (HNm.out _)))
              go_wp2_with fail
              refine (HC.out _ (below_drewN B _)).mono ?_
              rintro e w1 ⟨rfl, b1⟩
              have B1 : Below w.heap.size w w1 := Below.on (below_drewN B _) b1
              clear q0 q1 q2 q3 q4 b1
              go_wp2
              go_ret
              exact ⟨ret_i64 (by rw [HF.out]), B1⟩
          | succ j =>
            obtain ⟨s3, e3, hu3, g3, m3⟩ := hat j (by omega)
            have hst : stepB vK (j + 1) = Op.bytesLess (strOf (vK.getD j [])).toList (strOf (vK.getD (j + 1) [])).toList := by
              rw [strOf_list, strOf_list]
              simp only [stepB, hn]
              simp [ltS]
            have hcv2 : ∀ n, (convert 22 9 (.slice s2 (vK.getD (j + 1) []).length e2)).run Tryz.prog (wr.drewN n) = .ok (.string (strOf (vK.getD (j + 1) []))) (wr.drewN n) := fun n => conv_seg (w := wr.drewN n) e2 g2
            have hcv3 : ∀ n, (convert 22 9 (.slice s3 (vK.getD j []).length e3)).run Tryz.prog (wr.drewN n) = .ok (.string (strOf (vK.getD j []))) (wr.drewN n) := fun n => conv_seg (w := wr.drewN n) e3 g3
            have hpos : (0 : Int) < ((j + 1 : Nat) : Int) := by omega
            by_cases hcmp : Op.bytesLess (strOf (vK.getD j [])).toList (strOf (vK.getD (j + 1) [])).toList = true
            · have HA : Hid (∀ i, i < j + 1 + 1 → stepB vK i = true) := fun i hi => by
                by_cases e : i = j + 1
                · subst e; rw [hst]; exact hcmp
                · exact hHS.out i (by omega)
              generalize vK.getD (j + 1) [] = ys at *
              generalize vK.getD j [] = zs at *
              clear hat hn hst g2 g3
              by_cases hg : goodB d vL[j + 1] (deep + 1) = true ∧ (partsV d vL[j + 1] : Int) ≤ left - 1 - pre (partsV d) vL (j + 1)
              · rw [okI_yes hg.1 hg.2] at HC
                have HF := hide' (HS.out hg.1 hg.2)
                have hnn : ¬ (left - 1 - pre (partsV d) vL (j + 1) - partsV d vL[j + 1] < 0) := by omega
                have hup : left - 1 - pre (partsV d) vL (j + 1) - partsV d vL[j + 1] ≤ 40 := by omega
                generalize partsV d vL[j + 1] = q at *
                generalize pre (partsV d) vL (j + 1) = p at *
                clear HN HS hg hv
                go_wp2_with fail
                go_quiet ((go_at_call 78; exact quiet_same (HNm.out _)))
                go_wp2_with fail
                refine (HC.out _ (below_drewN B _)).mono ?_
                rintro e w1 ⟨rfl, b1⟩
                have B1 : Hid (Below (w.alloc ob).heap.size (w.alloc ob) w1) := Below.on (below_drewN hbel.out _) b1
                clear q0 q1 q2 q3 q4 b1
                go_wp2
                go_roundw
                case rel => exact ⟨(j + 1) + 1, by go_num, HF.out, HA.out, B1⟩
                case measure => simp [intOf]; omega
              · rw [okI_no hg] at HC
                have HF := hide' (HN.out hg)
                generalize pre (partsV d) vL (j + 1) = p at *
                clear HN HS hg hv
                go_wp2_with fail
                go_quiet ((go_at_call 78; exact quiet_same (HNm.out _)))
                go_wp2_with fail
                refine (HC.out _ (below_drewN B _)).mono ?_
                rintro e w1 ⟨rfl, b1⟩
                have B1 : Below w.heap.size w w1 := Below.on (below_drewN B _) b1
                clear q0 q1 q2 q3 q4 b1
                go_wp2
                go_ret
                exact ⟨ret_i64 (by rw [HF.out]), B1⟩
            · have hcmp' : Op.bytesLess (strOf (vK.getD j [])).toList (strOf (vK.getD (j + 1) [])).toList = false := by simpa using hcmp
              have HF := hide' (HNo.out (j + 1) hltK (by rw [hst]; exact hcmp'))
              generalize vK.getD (j + 1) [] = ys at *
              generalize vK.getD j [] = zs at *
              clear hat hn hst g2 g3 HC HN HS hcmp hv
              go_wp2_with fail
              go_quiet ((go_at_call 78; exact quiet_same (HNm.out _)))
              go_wp2
              go_ret
              exact ⟨ret_i64 (by rw [HF.out]), below_drewN B _⟩
        · have hn' : nameB (vK.getD k []) = false := by simpa using hn
          rw [hn'] at HNm
          have HF := hide' (HNo.out k hltK (by unfold stepB; rw [hn']; rfl))
          generalize vK.getD k [] = ys at *
          clear hat hn hn' g2 HC HN HS hv
          go_wp2_with fail
          go_quiet ((go_at_call 78; exact quiet_same (HNm.out _)))
          go_wp2
          go_ret
          exact ⟨ret_i64 (by rw [HF.out]), below_drewN B _⟩
      · have hkn : k = vL.length := by omega
        have hlt' : ¬ (k : Int) < (vL.length : Int) := by omega
        have HF : Hid (okI (d + 1) (5, 0, [], vK, vL) deep left = left - 1 - pre (partsV d) vL k) := by
          show okI (d + 1) (5, 0, [], vK, vL) deep left = _
          rw [okI_all H3.out (HYes.out fun i hi => hHS.out i (by have := HKL.out; omega)) (fun j h => hHK.out.2.2.2 j h (by omega)) (by rw [← hkn]; exact hple), ← hkn]
        clear hkn
        go_wp2
        go_ret
        exact ⟨ret_i64 (by rw [HF.out]), B⟩
  · have HF := hide' (okI_shape (d := d) (vL := vL) deep left (shape_map_no hkl))
    have hne : ¬ (vK.length : Int) = (vL.length : Int) := by omega
    clear ih
    go_enter Tryz.func79, Tryz.ntmps79
    go_wp2
    go_ret
    exact ⟨ret_i64 (by rw [HF.out]), Hb.out _⟩
end Go.Proofs.YtngjhimieacjhaaGreatDoor
/-
  l2ok and ValOk of the specification, at every value.
-/
namespace Go.Proofs.YtngjhimieacjhaaGreatDoor
open Go.RowKit
set_option linter.unusedVariables false
set_option linter.unusedSimpArgs false

theorem okI_leaf_sel {d : Nat} {vk vn : Int} {vs : List Int} {vK : List (List Int)} {deep : Nat} {left : Int} (p : Bool) (h1 : deep ≤ 5) (h2 : shapeB vk vn vs vK 0 = p) (h4 : 1 ≤ left) : okI (d + 1) (vk, vn, vs, vK, []) deep left = sel p (left - 1) := by
  cases p with
  | true => rw [okI_leaf h1 h2 h4]; rfl
  | false => rw [okI_shape (d := d) (vL := []) deep left (by simpa using h2)]; rfl

set_option maxHeartbeats 1600000 in
theorem l2ok_succ (d : Nat) (ih : OkAt d) : OkAt (d + 1) := by
  intro N c v deep left w hv hN hd h0 h1
  obtain ⟨c0, c1, c2, c3, c4⟩ := c
  obtain ⟨vk, vn, vs, vK, vL⟩ := v
  obtain ⟨e0, e1, ht, hk, hl⟩ := (VSeg_succ _ _ _ _ _).1 hv
  simp only at e0 e1 ht hk hl
  subst e0
  subst e1
  clear hv
  simp only
  have HK := hk
  have HL := hl
  obtain ⟨a2, p2, rfl, s2, l2, m2, _, _⟩ := ht
  obtain ⟨a3, p3, rfl, _, _, _, _⟩ := hk
  obtain ⟨a4, p4, rfl, _, _, _, _⟩ := hl
  by_cases q1 : left < 1
  · exact (l2ok_left _ _ _ _ _ _ _ _ _ _ _ deep left w q1 h0).mono fun e w' h => ⟨h.1.trans (ret_i64 (okI_left _ deep q1).symm), h.2⟩
  by_cases q2 : 5 < deep
  · exact (l2ok_deep _ _ _ _ _ _ _ _ _ _ _ deep left w (by omega) h1 q2).mono fun e w' h => ⟨h.1.trans (ret_i64 (okI_deep _ left q2).symm), h.2⟩
  by_cases q3 : bareB vk vn vs.length vK.length vL.length = false
  · exact (l2ok_bare _ _ _ _ _ _ _ _ _ _ _ deep left w (by omega) h1 (by omega) q3).mono fun e w' h => ⟨h.1.trans (ret_i64 (okI_bare deep left q3).symm), h.2⟩
  have q4 : bareB vk vn vs.length vK.length vL.length = true := by simpa using q3
  have hL1 : 1 ≤ left := by omega
  have hD1 : deep ≤ 5 := by omega
  clear q1 q2 q3
  by_cases k0 : vk = 0 ∨ vk = 6
  · have : vn = 0 ∧ vs = [] ∧ vK = [] ∧ vL = [] := by rcases k0 with rfl | rfl <;> · simp [bareB] at q4; simpa [and_assoc] using q4
    obtain ⟨rfl, rfl, rfl, rfl⟩ := this
    exact (l2ok_null vk k0 _ _ _ _ _ _ deep left w hL1 h1 hD1).mono fun e w' h => ⟨h.1.trans (ret_i64 (okI_leaf_sel true hD1 (by rcases k0 with rfl | rfl <;> simp [shapeB, bareB]) hL1).symm), h.2⟩
  by_cases k1 : vk = 1
  · subst k1
    have : vs = [] ∧ vK = [] ∧ vL = [] := by simp [bareB] at q4; simpa [and_assoc] using q4
    obtain ⟨rfl, rfl, rfl⟩ := this
    exact (l2ok_bool vn _ _ _ _ _ _ deep left w hL1 h1 hD1).mono fun e w' h => ⟨h.1.trans (ret_i64 (okI_leaf_sel (decide (vn = 0) || decide (vn = 1)) hD1 (by simp [shapeB, bareB]) hL1).symm), h.2⟩
  by_cases k2 : vk = 2
  · subst k2
    have : vs = [] ∧ vK = [] ∧ vL = [] := by simp [bareB] at q4; simpa [and_assoc] using q4
    obtain ⟨rfl, rfl, rfl⟩ := this
    exact (l2ok_int vn _ _ _ _ _ _ deep left w hL1 h1 hD1).mono fun e w' h => ⟨h.1.trans (ret_i64 (okI_leaf_sel (intB vn) hD1 (by simp [shapeB, bareB]) hL1).symm), h.2⟩
  by_cases k3 : vk = 3
  · subst k3
    have : vn = 0 ∧ vK = [] ∧ vL = [] := by simp [bareB] at q4; simpa [and_assoc] using q4
    obtain ⟨rfl, rfl, rfl⟩ := this
    exact (l2ok_text vs _ _ _ _ _ _ deep left w s2 (by omega) hL1 h1 hD1).mono fun e w' h => ⟨h.1.trans (ret_i64 (okI_leaf_sel (textB vs) hD1 (by simp [shapeB, bareB]) hL1).symm), h.2⟩
  by_cases k4 : vk = 4
  · subst k4
    have : vn = 0 ∧ vs = [] ∧ vK = [] := by simp [bareB] at q4; simpa [and_assoc] using q4
    obtain ⟨rfl, rfl, rfl⟩ := this
    exact l2ok_list d ih N vL _ _ _ _ _ deep left w HL hN hL1 h1 hD1
  by_cases k5 : vk = 5
  · subst k5
    have : vn = 0 ∧ vs = [] := by simp [bareB] at q4; simpa [and_assoc] using q4
    obtain ⟨rfl, rfl⟩ := this
    exact l2ok_map d ih N vK vL _ _ _ _ deep left w HK HL hN hL1 h1 hD1
  · have : vn = 0 ∧ vs = [] ∧ vK = [] ∧ vL = [] := by simp [bareB, k1, k2, k3, k4, k5] at q4; simpa [and_assoc] using q4
    obtain ⟨rfl, rfl, rfl, rfl⟩ := this
    have k6 : ¬ vk = 6 := fun e => k0 (.inr e)
    have k0' : ¬ vk = 0 := fun e => k0 (.inl e)
    exact (l2ok_none vk k0' k1 k2 k3 k4 k5 k6 _ _ _ _ _ _ deep left w hL1 h1 hD1).mono fun e w' h => ⟨h.1.trans (ret_i64 (okI_leaf_sel false hD1 (by simp [shapeB, bareB, k0', k1, k2, k3, k4, k5, k6]) hL1).symm), h.2⟩

theorem l2ok_any (d : Nat) : OkAt d := by
  induction d with
  | zero => intro N c v deep left w hv; exact hv.elim
  | succ d ih => exact l2ok_succ d ih

/-- What ValOk answers. -/
def okB (d : Nat) (v : Vl d) : Bool := goodB d v 1 && decide (partsV d v ≤ 40)

theorem okI_okB (d : Nat) (v : Vl d) : (okB d v = true → 0 ≤ okI d v 1 40 ∧ okI d v 1 40 ≤ 40) ∧ (okB d v = false → okI d v 1 40 = -1) := by
  constructor
  · intro h
    simp [okB] at h
    rw [okI_yes h.1 (by omega)]
    omega
  · intro h
    refine okI_no fun ⟨h1, h2⟩ => ?_
    simp [okB, h1] at h
    omega

set_option maxHeartbeats 1600000 in
theorem spec_ValOk_any (d N : Nat) (c0 c1 c2 c3 c4 : Value) (v : Vl d) (w : World) (hv : VSeg (fun b => b < N) w d (c0, c1, c2, c3, c4) v) (hN : N ≤ w.heap.size) :
    Calls Tryz.prog 59 #[.agg #[c0, c1, c2, c3, c4]] w fun e w' => e = .returned (.bool (okB d v)) ∧ Below w.heap.size w w' := by
  have b0 : ∀ o : Obj, Below w.heap.size w (w.alloc o) := fun o => (Below.refl _ _).alloc (Nat.le_refl _) o
  have HC : Hid (∀ o : Obj, Calls Tryz.prog 79 #[.agg #[c0, c1, c2, c3, c4], .int .i64 1, .int .i64 40] (w.alloc o) fun e w' => e = .returned (.int .i64 (okI d v 1 40)) ∧ Below (w.alloc o).heap.size (w.alloc o) w') := fun o =>
    l2ok_any d N (c0, c1, c2, c3, c4) v 1 40 (w.alloc o) (VSeg.agree (agree_below ((b0 o).mono hN)) d hv) (by have := (b0 o).size; omega) (by omega) (by omega) (by omega)
  have Hb := hide' b0
  have hq := okI_okB d v
  clear b0
  cases hb : okB d v with
  | true =>
    obtain ⟨h1, h2⟩ := hq.1 hb
    generalize okI d v 1 40 = q at *
    clear hq hb
    go_enter Tryz.func59, Tryz.ntmps59
    go_wp2_with fail
    refine (HC.out _).mono ?_
    rintro e w1 ⟨rfl, b1⟩
    have B1 := Below.on (Hb.out _) b1
    clear b1
    go_wp2
    go_ret
    exact ⟨rfl, B1⟩
  | false =>
    have h1 := hq.2 hb
    rw [h1] at HC
    clear hq hb h1
    go_enter Tryz.func59, Tryz.ntmps59
    go_wp2_with fail
    refine (HC.out _).mono ?_
    rintro e w1 ⟨rfl, b1⟩
    have B1 := Below.on (Hb.out _) b1
    clear b1
    go_wp2
    go_ret
    exact ⟨rfl, B1⟩
end Go.Proofs.YtngjhimieacjhaaGreatDoor
/-
  l2parts, l2deep, l2known of the specification, and ValParts, ValDeep, ValKnown of it, at every value.
-/
namespace Go.Proofs.YtngjhimieacjhaaGreatDoor
open Go.RowKit
set_option linter.unusedVariables false
set_option linter.unusedSimpArgs false

/-- How deep the deepest part is. -/
def deepV : (d : Nat) → Vl d → Nat
  | 0, _ => 0
  | d + 1, v => (v.2.2.2.2.map (deepV d)).foldr max 0 + 1
/-- No part is unknown. -/
def knownV : (d : Nat) → Vl d → Bool
  | 0, _ => false
  | d + 1, v => decide (v.1 ≠ 6) && v.2.2.2.2.all (knownV d)

/-- The greatest of the first k. -/
def mx {α : Type} (f : α → Nat) (l : List α) (k : Nat) : Nat := ((l.take k).map f).foldl max 0
theorem mx_zero {α : Type} (f : α → Nat) (l : List α) : mx f l 0 = 0 := by simp [mx]
theorem mx_succ {α : Type} (f : α → Nat) (l : List α) (k : Nat) (h : k < l.length) : mx f l (k + 1) = max (mx f l k) (f l[k]) := by
  unfold mx
  rw [List.take_succ_eq_append_getElem h, List.map_append, List.foldl_append]
  simp only [List.map_cons, List.map_nil, List.foldl_cons, List.foldl_nil]
theorem foldl_max (l : List Nat) : ∀ a, l.foldl max a = max a (l.foldr max 0) := by
  induction l with
  | nil => intro a; simp
  | cons x l ih => intro a; simp only [List.foldl_cons, List.foldr_cons]; rw [ih]; omega
theorem mx_all {α : Type} (f : α → Nat) (l : List α) : mx f l l.length = (l.map f).foldr max 0 := by
  unfold mx
  rw [List.take_length, foldl_max]
  omega
theorem deep_succ (d : Nat) (vk vn : Int) (vs : List Int) (vK : List (List Int)) (vL : List (Vl d)) : deepV (d + 1) (vk, vn, vs, vK, vL) = mx (deepV d) vL vL.length + 1 := by
  rw [mx_all]; rfl
theorem mx_le_pre {α : Type} (f g : α → Nat) (l : List α) (h : ∀ x, f x ≤ g x) : ∀ k, k ≤ l.length → mx f l k ≤ pre g l k
  | 0, _ => by simp [mx_zero]
  | k + 1, hk => by
    have := mx_le_pre f g l h k (by omega)
    have h1 := mx_succ f l k (by omega)
    have h2 := pre_succ g l k (by omega)
    have := h l[k]
    omega
theorem deep_le (d : Nat) : ∀ v : Vl d, deepV d v ≤ partsV d v := by
  induction d with
  | zero => intro v; exact v.elim
  | succ d ih =>
    intro v
    obtain ⟨vk, vn, vs, vK, vL⟩ := v
    rw [deep_succ, parts_succ]
    have := mx_le_pre (deepV d) (partsV d) vL ih vL.length (Nat.le_refl _)
    omega
theorem known_no {d : Nat} {vk vn : Int} {vs : List Int} {vK : List (List Int)} {vL : List (Vl d)} {k : Nat} (hk : k < vL.length) (h : knownV d vL[k] = false) : knownV (d + 1) (vk, vn, vs, vK, vL) = false := by
  show (decide (vk ≠ 6) && vL.all (knownV d)) = false
  rw [Bool.and_eq_false_iff]
  refine .inr ?_
  rw [List.all_eq_false]
  exact ⟨vL[k], List.getElem_mem hk, by simp [h]⟩
theorem known_yes {d : Nat} {vk vn : Int} {vs : List Int} {vK : List (List Int)} {vL : List (Vl d)} (hk : vk ≠ 6) (h : ∀ k (hk : k < vL.length), knownV d vL[k] = true) : knownV (d + 1) (vk, vn, vs, vK, vL) = true := by
  show (decide (vk ≠ 6) && vL.all (knownV d)) = true
  simp only [Bool.and_eq_true, decide_eq_true_eq, List.all_eq_true]
  refine ⟨hk, fun x hx => ?_⟩
  obtain ⟨i, hi, rfl⟩ := List.getElem_of_mem hx
  exact h i hi
theorem kid_parts {d : Nat} {vk vn : Int} {vs : List Int} {vK : List (List Int)} {vL : List (Vl d)} {k : Nat} (hk : k < vL.length) (h : partsV (d + 1) (vk, vn, vs, vK, vL) ≤ 40) : partsV d vL[k] ≤ 40 ∧ 1 + pre (partsV d) vL (k + 1) ≤ 40 := by
  rw [parts_succ] at h
  have h1 := pre_succ (partsV d) vL k hk
  have h2 := pre_le (partsV d) vL (k + 1)
  have h3 := pre_all (partsV d) vL
  omega
theorem pre_le_len {α : Type} (f : α → Nat) (l : List α) (k : Nat) : pre f l k ≤ pre f l l.length := by
  have := pre_le f l k
  have := pre_all f l
  omega

/-- A function of a value that only reads it: what it answers at depth d. -/
def FnAt (F : Nat) (ans : (d : Nat) → Vl d → Value) (d : Nat) : Prop := ∀ (N : Nat) (c : Value × Value × Value × Value × Value) (v : Vl d) (w : World), VSeg (fun b => b < N) w d c v → N ≤ w.heap.size → partsV d v ≤ 40 →
  Calls Tryz.prog F #[.agg #[c.1, c.2.1, c.2.2.1, c.2.2.2.1, c.2.2.2.2]] w fun e w' => e = .returned (ans d v) ∧ Below w.heap.size w w'

set_option maxHeartbeats 4000000 in
theorem l2known_succ (d : Nat) (ih : FnAt 60 (fun d v => .bool (knownV d v)) d) : FnAt 60 (fun d v => .bool (knownV d v)) (d + 1) := by
  intro N c v w hv hN hp
  obtain ⟨c0, c1, c2, c3, c4⟩ := c
  obtain ⟨vk, vn, vs, vK, vL⟩ := v
  obtain ⟨e0, e1, ht, hk, hl⟩ := (VSeg_succ _ _ _ _ _).1 hv
  simp only at e0 e1 ht hk hl
  subst e0
  subst e1
  clear hv
  simp only
  have HX := hide' hl
  obtain ⟨a2, p2, rfl, s2, l2, m2, _, _⟩ := ht
  obtain ⟨a3, p3, rfl, _, _, _, _⟩ := hk
  obtain ⟨a4, p4, rfl, hlc, hcm, ka, _⟩ := hl
  unfold maxLen at hcm
  have b0 : ∀ o : Obj, Below w.heap.size w (w.alloc o) := fun o => (Below.refl _ _).alloc (Nat.le_refl _) o
  have Hb := hide' b0
  have HI := hide' ih
  have HP := hide' hp
  generalize hO : Obj.cells #[.int .i64 vk, .int .i64 vn, .slice a2 vs.length p2, .slice a3 vK.length p3, .slice a4 vL.length p4] 49 = ob
  have HOb := hide' hO
  clear ih b0 hp s2
  by_cases hk6 : vk = 6
  · subst hk6
    subst hO
    have HF : Hid (knownV (d + 1) (6, vn, vs, vK, vL) = false) := rfl
    go_enter Tryz.func60, Tryz.ntmps60
    go_wp2
    go_ret
    exact ⟨ret_bool HF.out.symm, Hb.out _⟩
  have HK6 : Hid (vk ≠ 6) := hk6
  clear hO
  go_enter Tryz.func60, Tryz.ntmps60
  go_wp2
  go_loopw [3] (fun i wr => ∃ k : Nat, k ≤ vL.length ∧ i = .int .i64 k ∧ (∀ j (h : j < vL.length), j < k → knownV d vL[j] = true) ∧ Hid (Below (w.alloc ob).heap.size (w.alloc ob) wr)) (fun i _ => vL.length - (intOf i).toNat)
  case atStart => exact ⟨0, Nat.zero_le _, rfl, fun j _ h => by omega, by rw [← HOb.out]; exact Below.refl _ _⟩
  case round =>
    obtain ⟨k, hk, rfl, hall, hbel⟩ := hrel
    have hrow := box_row hbel.out
    rw [← HOb.out] at hrow
    obtain ⟨y0, y1, y2, y3, y4, _⟩ := row5 hrow
    have B := Below.on (Hb.out ob) hbel.out
    clear hrow
    by_cases hlt : k < vL.length
    · have hlt' : (k : Int) < (vL.length : Int) := by omega
      obtain ⟨b, off, c, rfl, h5', hv⟩ := HX.out.at B hN hlt
      obtain ⟨c0, c1, c2, c3, c4⟩ := c
      obtain ⟨q0, q1, q2, q3, q4⟩ := h5'
      simp only at q0 q1 q2 q3 q4
      have hz := B.size
      obtain ⟨hp1, hp2⟩ := kid_parts hlt HP.out
      have HC0 := HI.out N (c0, c1, c2, c3, c4) vL[k] wr (hv wr B) (by omega) hp1
      dsimp only at HC0
      have HC := hide' HC0
      clear HC0
      cases hkb : knownV d vL[k] with
      | true =>
        have HF : Hid (∀ j (h : j < vL.length), j < k + 1 → knownV d vL[j] = true) := fun j h hj => by
          by_cases e : j = k
          · subst e; exact hkb
          · exact hall j h (by omega)
        rw [hkb] at HC
        clear hv hkb hall hp1 hp2
        go_wp2_with fail
        refine HC.out.mono ?_
        rintro e w1 ⟨rfl, b1⟩
        have B1 : Hid (Below (w.alloc ob).heap.size (w.alloc ob) w1) := Below.on hbel.out b1
        clear q0 q1 q2 q3 q4 b1
        go_wp2
        go_roundw
        case rel => exact ⟨k + 1, by omega, by go_num, HF.out, B1⟩
        case measure => simp [intOf]; omega
      | false =>
        have HF := hide' (known_no (vk := vk) (vn := vn) (vs := vs) (vK := vK) hlt hkb)
        rw [hkb] at HC
        clear hv hkb hall hp1 hp2
        go_wp2_with fail
        refine HC.out.mono ?_
        rintro e w1 ⟨rfl, b1⟩
        have B1 : Below w.heap.size w w1 := Below.on B b1
        clear q0 q1 q2 q3 q4 b1
        go_wp2
        go_ret
        exact ⟨ret_bool HF.out.symm, B1⟩
    · have hlt' : ¬ (k : Int) < (vL.length : Int) := by omega
      have HF := hide' (known_yes (vn := vn) (vs := vs) (vK := vK) HK6.out fun j h => hall j h (by omega))
      clear hall
      go_wp2
      go_ret
      exact ⟨ret_bool HF.out.symm, B⟩

theorem l2known_any (d : Nat) : FnAt 60 (fun d v => .bool (knownV d v)) d := by
  induction d with
  | zero => intro N c v w hv; exact hv.elim
  | succ d ih => exact l2known_succ d ih

/-- What ValParts answers. -/
def ansValParts (d : Nat) (v : Vl d) : Nat := cond (okB d v) (partsV d v) 0

/-- What ValDeep answers. -/
def ansValDeep (d : Nat) (v : Vl d) : Nat := cond (okB d v) (deepV d v) 0

/-- What ValKnown answers. -/
def ansValKnown (d : Nat) (v : Vl d) : Bool := okB d v && knownV d v

end Go.Proofs.YtngjhimieacjhaaGreatDoor
/-
  The datum of a map of parts while its keys are put; no statement is proved here.
-/
namespace Go.Proofs.YtngjhimieacjhaaGreatDoor
open Go.RowKit
set_option linter.unusedVariables false

/-- How an element of a map of parts reads: as itself. -/
def tokR (v : Value) : Option (DataW Value × List MemPlace) := some (.held v, [])

/-- The map's datum after the first k of its keys were put. -/
def mapD (vK : List (List Int)) (ps : List Value) : Nat → DataW Value
  | 0 => .map []
  | k + 1 => (mapD vK ps k).put (.string (u8s (vK.getD k []))) (.held (ps.getD k .nilIface))

theorem below_grows {w w' : World} (h : Below w.heap.size w w') (r : Option Nat) : w.grownBy w' r := ⟨h.os, h.tape, h.output, h.size, fun k hk _ => h.block k hk⟩
end Go.Proofs.YtngjhimieacjhaaGreatDoor
/-
  What the program's inner parts (an interface with one type a kind) hold: 'PSeg' reads one as a value; lists and maps of them.
-/
namespace Go.Proofs.YtngjhimieacjhaaGreatDoor
open Go.RowKit
set_option linter.unusedVariables false
set_option linter.unusedSimpArgs false

/-- A part of the program's reads as a value of depth at most d; it lies in blocks of R. -/
def PSeg (R : Nat → Prop) (w : World) : (d : Nat) → Value → Vl d → Prop
  | 0, _, _ => False
  | d + 1, p, v =>
    (v.1 = 0 ∧ p = .iface 165 (.agg #[])) ∨ (v.1 = 6 ∧ p = .iface 166 (.agg #[])) ∨
    (v.1 = 1 ∧ p = .iface 113 (.agg #[.int .i64 v.2.1])) ∨ (v.1 = 2 ∧ p = .iface 114 (.agg #[.int .i64 v.2.1])) ∨
    (v.1 = 3 ∧ p = .iface 116 (.agg #[.string (strOf v.2.2.1)])) ∨
    (v.1 = 4 ∧ ∃ a cap, p = .iface 120 (.agg #[.slice a v.2.2.2.2.length cap]) ∧ (v.2.2.2.2 = [] ∨ ∃ b off, a = some ⟨b, off, none⟩ ∧ R b ∧ ∀ i (h : i < v.2.2.2.2.length), ∃ u, w.cell? ⟨b, off + i, none⟩ = some u ∧ PSeg R w d u (v.2.2.2.2[i]))) ∨
    (v.1 = 5 ∧ ∃ b ps, p = .iface 59 (.agg #[.map (some b)]) ∧ R b ∧ w.ownsMap Tryz.prog 9 tokR b 64 (mapD v.2.2.2.1 ps v.2.2.2.2.length) ∧ ∀ i (h : i < v.2.2.2.2.length), PSeg R w d (ps.getD i .nilIface) (v.2.2.2.2[i]))

/-- A slice of parts. -/
def PLSeg (R : Nat → Prop) (w : World) (d : Nat) (x : Value) (l : List (Vl d)) : Prop :=
  ∃ a cap, x = .slice a l.length cap ∧ (l = [] ∨ ∃ b off, a = some ⟨b, off, none⟩ ∧ R b ∧ ∀ i (h : i < l.length), ∃ u, w.cell? ⟨b, off + i, none⟩ = some u ∧ PSeg R w d u (l[i]))

theorem ownsMap_agree {R : Nat → Prop} {w w' : World} {b n : Nat} {D : DataW Value} (h : w.ownsMap Tryz.prog 9 tokR b n D) (ha : Agree R w w') (hb : R b) : w'.ownsMap Tryz.prog 9 tokR b n D := by
  obtain ⟨es, clock, h1, r⟩ := h
  exact ⟨es, clock, (ha b hb).trans h1, r⟩

theorem PSeg.carry {R R' : Nat → Prop} {w w' : World} (hr : ∀ b, R b → R' b) (ha : Agree R w w') (d : Nat) : ∀ {p : Value} {v : Vl d}, PSeg R w d p v → PSeg R' w' d p v := by
  induction d with
  | zero => intro p v h; exact h
  | succ d ih =>
    intro p v h
    rcases h with h | h | h | h | h | ⟨hk, a, cap, hp, hc⟩ | ⟨hk, b, ps, hp, hR, hm, hc⟩
    · exact .inl h
    · exact .inr (.inl h)
    · exact .inr (.inr (.inl h))
    · exact .inr (.inr (.inr (.inl h)))
    · exact .inr (.inr (.inr (.inr (.inl h))))
    · refine .inr (.inr (.inr (.inr (.inr (.inl ⟨hk, a, cap, hp, ?_⟩)))))
      rcases hc with h0 | ⟨b, off, e, hR, hc⟩
      · exact .inl h0
      · refine .inr ⟨b, off, e, hr b hR, fun i hi => ?_⟩
        obtain ⟨u, hu, hv⟩ := hc i hi
        exact ⟨u, (cell_agree ha hR).trans hu, ih hv⟩
    · exact .inr (.inr (.inr (.inr (.inr (.inr ⟨hk, b, ps, hp, hr b hR, ownsMap_agree hm ha hR, fun i hi => ih (hc i hi)⟩)))))

/-- What take leaves of all that was there: all but the block of its counter. -/
theorem agree_grown {N q : Nat} {w w' : World} (h : w.grownBy w' (some q)) (hN : N ≤ q) (hq : q < w.heap.size) : Agree (fun b => b < N) w w' := fun b hb => h.block b (by omega) (by simp; omega)

theorem run_makeMapN (t k e : TypeId) (n : Int) (w : World) (ht : Tryz.prog.underlying t = some (.map k e)) : (Instr.makeMap t (some (.int .i64 n))).run Tryz.prog w = .ok (.map (some w.heap.size)) (w.alloc (.map #[] 0)) := by
  unfold Instr.makeMap
  simp only [Sem.run_bind, Sem.run_pure, run_underlying ht, Result.andThen]
  rfl

theorem info_part : (Tryz.prog.info? 96).map (fun i => (i.zero, i.size, i.bytes)) = some (some .nilIface, 1, 16) := by kernel_rfl

/-- The counter of an intake. -/
def Cnt (w : World) (q : Nat) (n : Nat) : Prop := w.heap[q]? = some (.cells #[.int .i64 n] 140 (0, 0))

/-- What a good take has brought about. -/
def Took (d : Nat) (v : Vl d) (deep n q : Nat) (w w' : World) (p : Value) : Prop :=
  goodB d v deep = true ∧ n + partsV d v ≤ 40 ∧ Cnt w' q (n + partsV d v) ∧ PSeg (fun b => w.heap.size ≤ b ∧ b < w'.heap.size) w' d p v

/-- The contract of take at depth d. -/
def TakeAt (d : Nat) : Prop := ∀ (N q n : Nat) (c : Value × Value × Value × Value × Value) (v : Vl d) (deep : Nat) (w : World), VSeg (fun b => b < N) w d c v → N ≤ q → q < w.heap.size → Cnt w q n → n ≤ 40 → deep ≤ 6 →
  Calls Tryz.prog 95 #[.pointer (some ⟨q, 0, none⟩), .agg #[c.1, c.2.1, c.2.2.1, c.2.2.2.1, c.2.2.2.2], .int .i64 deep] w fun e w' =>
    w.grownBy w' (some q) ∧ ((∃ p, e = .returned (.tuple #[p, .bool true]) ∧ Took d v deep n q w w' p) ∨ (e = .returned (.tuple #[.nilIface, .bool false]) ∧ ¬ (goodB d v deep = true ∧ n + partsV d v ≤ 40)))

theorem Cnt.cell {w : World} {q n : Nat} (h : Cnt w q n) : w.cell? ⟨q, 0, none⟩ = some (.int .i64 n) ∧ w.frozen? ⟨q, 0, none⟩ = false := by
  refine ⟨?_, frozen_of_row w q 0 _ _ h⟩
  rw [cell_of_row w q 0 _ _ (0, 0) h]
  rfl

theorem Cnt.set {w : World} {q n : Nat} (h : Cnt w q n) (m : Nat) : Cnt (w.setCell ⟨q, 0, none⟩ (.int .i64 m)) q m := heap_setCell_same w q 0 _ _ _ h
end Go.Proofs.YtngjhimieacjhaaGreatDoor
/-
  Which type a part is: the type assertions of a part, at each type.
-/
namespace Go.Proofs.YtngjhimieacjhaaGreatDoor
open Go.RowKit
set_option linter.unusedVariables false
set_option linter.unusedSimpArgs false

theorem nobool_nullPart (x : Value) (w : World) : (Instr.typeAssert (.iface 165 x) 96 113 true).run Tryz.prog w = .ok (.tuple #[.agg #[.int .i64 0], .bool false]) w := by kernel_rfl
theorem nobool_unknownPart (x : Value) (w : World) : (Instr.typeAssert (.iface 166 x) 96 113 true).run Tryz.prog w = .ok (.tuple #[.agg #[.int .i64 0], .bool false]) w := by kernel_rfl
theorem nobool_intPart (x : Value) (w : World) : (Instr.typeAssert (.iface 114 x) 96 113 true).run Tryz.prog w = .ok (.tuple #[.agg #[.int .i64 0], .bool false]) w := by kernel_rfl
theorem nobool_textPart (x : Value) (w : World) : (Instr.typeAssert (.iface 116 x) 96 113 true).run Tryz.prog w = .ok (.tuple #[.agg #[.int .i64 0], .bool false]) w := by kernel_rfl
theorem nobool_listPart (x : Value) (w : World) : (Instr.typeAssert (.iface 120 x) 96 113 true).run Tryz.prog w = .ok (.tuple #[.agg #[.int .i64 0], .bool false]) w := by kernel_rfl
theorem nobool_mapPart (x : Value) (w : World) : (Instr.typeAssert (.iface 59 x) 96 113 true).run Tryz.prog w = .ok (.tuple #[.agg #[.int .i64 0], .bool false]) w := by kernel_rfl
theorem noint_nullPart (x : Value) (w : World) : (Instr.typeAssert (.iface 165 x) 96 114 true).run Tryz.prog w = .ok (.tuple #[.agg #[.int .i64 0], .bool false]) w := by kernel_rfl
theorem noint_unknownPart (x : Value) (w : World) : (Instr.typeAssert (.iface 166 x) 96 114 true).run Tryz.prog w = .ok (.tuple #[.agg #[.int .i64 0], .bool false]) w := by kernel_rfl
theorem noint_textPart (x : Value) (w : World) : (Instr.typeAssert (.iface 116 x) 96 114 true).run Tryz.prog w = .ok (.tuple #[.agg #[.int .i64 0], .bool false]) w := by kernel_rfl
theorem noint_listPart (x : Value) (w : World) : (Instr.typeAssert (.iface 120 x) 96 114 true).run Tryz.prog w = .ok (.tuple #[.agg #[.int .i64 0], .bool false]) w := by kernel_rfl
theorem noint_mapPart (x : Value) (w : World) : (Instr.typeAssert (.iface 59 x) 96 114 true).run Tryz.prog w = .ok (.tuple #[.agg #[.int .i64 0], .bool false]) w := by kernel_rfl
theorem notext_nullPart (x : Value) (w : World) : (Instr.typeAssert (.iface 165 x) 96 116 true).run Tryz.prog w = .ok (.tuple #[.agg #[.string ⟨#[]⟩], .bool false]) w := by kernel_rfl
theorem notext_unknownPart (x : Value) (w : World) : (Instr.typeAssert (.iface 166 x) 96 116 true).run Tryz.prog w = .ok (.tuple #[.agg #[.string ⟨#[]⟩], .bool false]) w := by kernel_rfl
theorem notext_listPart (x : Value) (w : World) : (Instr.typeAssert (.iface 120 x) 96 116 true).run Tryz.prog w = .ok (.tuple #[.agg #[.string ⟨#[]⟩], .bool false]) w := by kernel_rfl
theorem notext_mapPart (x : Value) (w : World) : (Instr.typeAssert (.iface 59 x) 96 116 true).run Tryz.prog w = .ok (.tuple #[.agg #[.string ⟨#[]⟩], .bool false]) w := by kernel_rfl
theorem nolist_nullPart (x : Value) (w : World) : (Instr.typeAssert (.iface 165 x) 96 120 true).run Tryz.prog w = .ok (.tuple #[.agg #[.slice none 0 0], .bool false]) w := by kernel_rfl
theorem nolist_unknownPart (x : Value) (w : World) : (Instr.typeAssert (.iface 166 x) 96 120 true).run Tryz.prog w = .ok (.tuple #[.agg #[.slice none 0 0], .bool false]) w := by kernel_rfl
theorem nolist_mapPart (x : Value) (w : World) : (Instr.typeAssert (.iface 59 x) 96 120 true).run Tryz.prog w = .ok (.tuple #[.agg #[.slice none 0 0], .bool false]) w := by kernel_rfl
theorem nomap_nullPart (x : Value) (w : World) : (Instr.typeAssert (.iface 165 x) 96 59 true).run Tryz.prog w = .ok (.tuple #[.agg #[.map none], .bool false]) w := by kernel_rfl
theorem nomap_unknownPart (x : Value) (w : World) : (Instr.typeAssert (.iface 166 x) 96 59 true).run Tryz.prog w = .ok (.tuple #[.agg #[.map none], .bool false]) w := by kernel_rfl
theorem is_boolPart (x : Value) (w : World) : (Instr.typeAssert (.iface 113 x) 96 113 true).run Tryz.prog w = .ok (.tuple #[x, .bool true]) w := by kernel_rfl
theorem is_intPart (x : Value) (w : World) : (Instr.typeAssert (.iface 114 x) 96 114 true).run Tryz.prog w = .ok (.tuple #[x, .bool true]) w := by kernel_rfl
theorem is_textPart (x : Value) (w : World) : (Instr.typeAssert (.iface 116 x) 96 116 true).run Tryz.prog w = .ok (.tuple #[x, .bool true]) w := by kernel_rfl
theorem is_listPart (x : Value) (w : World) : (Instr.typeAssert (.iface 120 x) 96 120 true).run Tryz.prog w = .ok (.tuple #[x, .bool true]) w := by kernel_rfl
theorem is_mapPart (x : Value) (w : World) : (Instr.typeAssert (.iface 59 x) 96 59 true).run Tryz.prog w = .ok (.tuple #[x, .bool true]) w := by kernel_rfl

end Go.Proofs.YtngjhimieacjhaaGreatDoor
