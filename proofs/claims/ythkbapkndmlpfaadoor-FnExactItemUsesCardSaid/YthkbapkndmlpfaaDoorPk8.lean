/-
  Texts that a law leans on, one behind the other; no statement is proved here.
-/
import Derived.Test.YthkbapkndmlpfaaDoorPk7
import Derived.Test.YthkbapkndmlpfaaDoorPk6
/-
  l6expr of the specification at maps.
-/
namespace Go.Proofs.YthkbapkndmlpfaaDoor
open Go.RowKit
set_option linter.unusedVariables false
set_option linter.unusedSimpArgs false

theorem shpE_map {vK : List (List Int)} {n : Nat} (h : vK.length = n) : shpB 5 0 [] vK n = ascB vK := by simp [shpB, keysB, kidsB, arI, mostI, saysI, saysB, h]
theorem shpE_map_no {vK : List (List Int)} {n : Nat} (h : vK.length ≠ n) : shpB 5 0 [] vK n = false := by simp [shpB, keysB, kidsB, arI, mostI, saysI, saysB, h]

set_option maxHeartbeats 8000000 in
set_option maxRecDepth 100000 in
theorem l6loop_c5 (d : Nat) (ih : E6At d) (N : Nat) (vK : List (List Int)) (vL : List (Vl d)) (a2 : Option Addr) (p2 : Nat) (z x : Value) (deep : Nat) (left : Int) (w : World) (hz0 : KSeg (fun b => b < N) w z vK) (hx : LSeg (fun b => b < N) w d x vL) (hN : N ≤ w.heap.size) (h1 : 1 ≤ left) (h2 : left ≤ 150) (h3 : deep ≤ 10) :
    Calls Tryd.prog 44 #[.agg #[.int .i64 5, .int .i64 0, .slice a2 0 p2, z, x], .int .i64 deep, .int .i64 left] w fun e w' => e = .returned (.int .i64 (okE (d + 1) (5, 0, [], vK, vL) deep left)) ∧ Below w.heap.size w w' := by
  have HX := hide' hx
  have HZ := hide' hz0
  obtain ⟨a4, p4, rfl, hlc, hcm, ka, _⟩ := hx
  obtain ⟨a3, p3, rfl, hlc3, hcm3, ka3, _⟩ := hz0
  unfold maxLen at hcm hcm3
  have b0 : ∀ o : Obj, Below w.heap.size w (w.alloc o) := fun o => (Below.refl _ _).alloc (Nat.le_refl _) o
  have h4 : ¬ left - 1 < 0 := by omega
  have h5 : ¬ (10 : Int) < (deep : Int) := by omega
  have Hb := hide' b0
  have HAr : Hid (∀ wx, Calls Tryd.prog 57 #[.int .i64 5] wx fun e w' => e = .returned (.int .i64 (-1)) ∧ wx = w') := fun wx => l6arity_any 5 wx
  by_cases hkl : vK.length = vL.length
  · have HI := hide' ih
    have H3 := hide' h3
    have H1 := hide' h1
    have HKL := hide' hkl
    have HNo : Hid (∀ i, i < vK.length → stepB vK i = false → okE (d + 1) (5, 0, [], vK, vL) deep left = -1) := fun i hi h => okE_shape deep left (by rw [shpE_map hkl]; exact ascB_no hi h)
    have HYes : Hid ((∀ i, i < vK.length → stepB vK i = true) → shpB 5 0 [] vK vL.length = true) := fun h => by rw [shpE_map hkl]; exact ascB_yes h
    rw [hkl] at hlc3
    generalize hO : Obj.cells #[.int .i64 5, .int .i64 0, .slice a2 0 p2, .slice a3 vL.length p3, .slice a4 vL.length p4] 40 = ob
    have HOb := hide' hO
    rw [hkl]
    rw [hkl] at HZ
    clear ih b0 hO hkl
    go_enter Tryd.func44, Tryd.ntmps44
    go_wp2_with (go_at_call 57; refine (HAr.out _).mono ?_; rintro e w1 ⟨rfl, e1⟩; obtain rfl := e1)
    go_loopw [2, 8] (fun l i wr => ∃ k : Nat, i = .int .i64 k ∧ E6K d vL deep left k l ∧ (∀ j, j < k → stepB vK j = true) ∧ Hid (Below (w.alloc ob).heap.size (w.alloc ob) wr)) (fun _ i _ => vL.length - (intOf i).toNat)
    case atStart => exact ⟨0, rfl, E6K_zero H1.out, fun j h => by omega, by rw [← HOb.out]; exact Below.refl _ _⟩
    case round =>
      obtain ⟨k, rfl, hK, hst, hbel⟩ := hrel
      have hHK := hide' hK
      have hHS := hide' hst
      obtain ⟨hk, rfl, hple, _⟩ := hK
      have hrow := box_row hbel.out
      rw [← HOb.out] at hrow
      obtain ⟨y0, y1, y2, y3, y4, _⟩ := row5 hrow
      have B := Below.on (Hb.out ob) hbel.out
      clear hrow hst
      by_cases hlt : k < vL.length
      · have hlt' : (k : Int) < (vL.length : Int) := by omega
        obtain ⟨b, off, c, rfl, h5', hv⟩ := HX.out.at B hN hlt
        obtain ⟨c0, c1, c2, c3, c4⟩ := c
        obtain ⟨q0, q1, q2, q3, q4⟩ := h5'
        simp only at q0 q1 q2 q3 q4
        have hz := B.size
        have hKr : KSeg (fun b => b < N) wr (.slice a3 vL.length p3) vK := HZ.out.agree (agree_below (B.mono hN))
        have hltK : k < vK.length := by have := HKL.out; omega
        obtain ⟨kb, ko, rfl, hat⟩ := hKr.at hltK
        clear hKr
        obtain ⟨s2, e2, hu, g2, m2⟩ := hat k hltK
        have HC : Hid (∀ wx, Below w.heap.size w wx → Calls Tryd.prog 44 #[.agg #[c0, c1, c2, c3, c4], .int .i64 ((deep : Int) + 1), .int .i64 (left - 1 - pre (partsE d) vL k)] wx fun e w' => e = .returned (.int .i64 (okE d vL[k] (deep + 1) (left - 1 - pre (partsE d) vL k))) ∧ Below wx.heap.size wx w') := by
          intro wx hx
          have := HI.out N (c0, c1, c2, c3, c4) vL[k] (deep + 1) (left - 1 - pre (partsE d) vL k) wx (hv wx hx) (by have := hx.size; omega) (by omega) (by omega) (by omega)
          rw [Int.natCast_add] at this
          exact this
        have HN : Hid (¬ (goodE d vL[k] (deep + 1) = true ∧ (partsE d vL[k] : Int) ≤ left - 1 - pre (partsE d) vL k) → okE (d + 1) (5, 0, [], vK, vL) deep left = -1) := fun h => okE_kid hlt h
        have HS : Hid (goodE d vL[k] (deep + 1) = true → (partsE d vL[k] : Int) ≤ left - 1 - pre (partsE d) vL k → E6K d vL deep left (k + 1) (.int .i64 (left - 1 - pre (partsE d) vL k - partsE d vL[k]))) := fun h h' => E6K_succ hHK.out hlt h h'
        have HNm : Hid (∀ n, Calls Tryd.prog 45 #[.slice s2 (vK.getD k []).length e2] (wr.drewN n) fun e w' => e = .returned (.bool (nameB (vK.getD k []))) ∧ wr.drewN n = w') := fun n => spec_NameOk_any s2 e2 (vK.getD k []) (wr.drewN n) g2 m2
        by_cases hn : nameB (vK.getD k []) = true
        · rw [hn] at HNm
          cases k with
          | zero =>
            have HA : Hid (∀ j, j < 0 + 1 → stepB vK j = true) := fun j hj => by
              obtain rfl : j = 0 := by omega
              simp only [stepB, hn]
              simp
            simp only [Nat.add_zero, Nat.zero_mul] at hu q0 q1 q2 q3 q4
            generalize vK.getD 0 [] = ys at *
            clear hat hn g2
            by_cases hg : goodE d vL[0] (deep + 1) = true ∧ (partsE d vL[0] : Int) ≤ left - 1 - pre (partsE d) vL 0
            · rw [okE_yes hg.1 hg.2] at HC
              have HF := hide' (HS.out hg.1 hg.2)
              have hnn : ¬ (left - 1 - pre (partsE d) vL 0 - partsE d vL[0] < 0) := by omega
              have hup : left - 1 - pre (partsE d) vL 0 - partsE d vL[0] ≤ 150 := by omega
              generalize partsE d vL[0] = q at *
              generalize pre (partsE d) vL 0 = p at *
              clear HN HS hg hv
              go_wp2_with fail
              go_quiet ((go_at_call 45; exact quiet_same (HNm.out _)))
              go_wp2_with fail
              refine (HC.out _ (below_drewN B _)).mono ?_
              rintro e w1 ⟨rfl, b1⟩
              have B1 : Hid (Below (w.alloc ob).heap.size (w.alloc ob) w1) := Below.on (below_drewN hbel.out _) b1
              clear q0 q1 q2 q3 q4 b1
              go_wp2
              go_roundw
              case rel => exact ⟨0 + 1, by go_num, HF.out, HA.out, B1⟩
              case measure => simp [intOf]; omega
            · rw [okE_no hg] at HC
              have HF := hide' (HN.out hg)
              generalize pre (partsE d) vL 0 = p at *
              clear HN HS hg hv
              go_wp2_with fail
              go_quiet ((go_at_call 45; exact quiet_same (HNm.out _)))
              go_wp2_with fail
              refine (HC.out _ (below_drewN B _)).mono ?_
              rintro e w1 ⟨rfl, b1⟩
              have B1 : Below w.heap.size w w1 := Below.on (below_drewN B _) b1
              clear q0 q1 q2 q3 q4 b1
              go_wp2
              go_ret
              exact ⟨ret_i64 (by rw [HF.out]), B1⟩
          | succ j =>
            obtain ⟨s3, e3, hu3, g3, m3⟩ := hat j (by omega)
            have hst : stepB vK (j + 1) = Op.bytesLess (strOf (vK.getD j [])).toList (strOf (vK.getD (j + 1) [])).toList := by
              rw [strOf_list, strOf_list]
              simp only [stepB, hn]
              simp [ltS]
            have hcv2 : ∀ n, (convert 29 9 (.slice s2 (vK.getD (j + 1) []).length e2)).run Tryd.prog (wr.drewN n) = .ok (.string (strOf (vK.getD (j + 1) []))) (wr.drewN n) := fun n => conv_seg (w := wr.drewN n) e2 g2
            have hcv3 : ∀ n, (convert 29 9 (.slice s3 (vK.getD j []).length e3)).run Tryd.prog (wr.drewN n) = .ok (.string (strOf (vK.getD j []))) (wr.drewN n) := fun n => conv_seg (w := wr.drewN n) e3 g3
            have hpos : (0 : Int) < ((j + 1 : Nat) : Int) := by omega
            by_cases hcmp : Op.bytesLess (strOf (vK.getD j [])).toList (strOf (vK.getD (j + 1) [])).toList = true
            · have HA : Hid (∀ i, i < j + 1 + 1 → stepB vK i = true) := fun i hi => by
                by_cases e : i = j + 1
                · subst e; rw [hst]; exact hcmp
                · exact hHS.out i (by omega)
              generalize vK.getD (j + 1) [] = ys at *
              generalize vK.getD j [] = zs at *
              clear hat hn hst g2 g3
              by_cases hg : goodE d vL[j + 1] (deep + 1) = true ∧ (partsE d vL[j + 1] : Int) ≤ left - 1 - pre (partsE d) vL (j + 1)
              · rw [okE_yes hg.1 hg.2] at HC
                have HF := hide' (HS.out hg.1 hg.2)
                have hnn : ¬ (left - 1 - pre (partsE d) vL (j + 1) - partsE d vL[j + 1] < 0) := by omega
                have hup : left - 1 - pre (partsE d) vL (j + 1) - partsE d vL[j + 1] ≤ 150 := by omega
                generalize partsE d vL[j + 1] = q at *
                generalize pre (partsE d) vL (j + 1) = p at *
                clear HN HS hg hv
                go_wp2_with fail
                go_quiet ((go_at_call 45; exact quiet_same (HNm.out _)))
                go_wp2_with fail
                refine (HC.out _ (below_drewN B _)).mono ?_
                rintro e w1 ⟨rfl, b1⟩
                have B1 : Hid (Below (w.alloc ob).heap.size (w.alloc ob) w1) := Below.on (below_drewN hbel.out _) b1
                clear q0 q1 q2 q3 q4 b1
                go_wp2
                go_roundw
                case rel => exact ⟨(j + 1) + 1, by go_num, HF.out, HA.out, B1⟩
                case measure => simp [intOf]; omega
              · rw [okE_no hg] at HC
                have HF := hide' (HN.out hg)
                generalize pre (partsE d) vL (j + 1) = p at *
                clear HN HS hg hv
                go_wp2_with fail
                go_quiet ((go_at_call 45; exact quiet_same (HNm.out _)))
                go_wp2_with fail
                refine (HC.out _ (below_drewN B _)).mono ?_
                rintro e w1 ⟨rfl, b1⟩
                have B1 : Below w.heap.size w w1 := Below.on (below_drewN B _) b1
                clear q0 q1 q2 q3 q4 b1
                go_wp2
                go_ret
                exact ⟨ret_i64 (by rw [HF.out]), B1⟩
            · have hcmp' : Op.bytesLess (strOf (vK.getD j [])).toList (strOf (vK.getD (j + 1) [])).toList = false := by simpa using hcmp
              have HF := hide' (HNo.out (j + 1) hltK (by rw [hst]; exact hcmp'))
              generalize vK.getD (j + 1) [] = ys at *
              generalize vK.getD j [] = zs at *
              clear hat hn hst g2 g3 HC HN HS hcmp hv
              go_wp2_with fail
              go_quiet ((go_at_call 45; exact quiet_same (HNm.out _)))
              go_wp2
              go_ret
              exact ⟨ret_i64 (by rw [HF.out]), below_drewN B _⟩
        · have hn' : nameB (vK.getD k []) = false := by simpa using hn
          rw [hn'] at HNm
          have HF := hide' (HNo.out k hltK (by unfold stepB; rw [hn']; rfl))
          generalize vK.getD k [] = ys at *
          clear hat hn hn' g2 HC HN HS hv
          go_wp2_with fail
          go_quiet ((go_at_call 45; exact quiet_same (HNm.out _)))
          go_wp2
          go_ret
          exact ⟨ret_i64 (by rw [HF.out]), below_drewN B _⟩
      · have hkn : k = vL.length := by omega
        have hlt' : ¬ (k : Int) < (vL.length : Int) := by omega
        have HF : Hid (okE (d + 1) (5, 0, [], vK, vL) deep left = left - 1 - pre (partsE d) vL k) := by
          show okE (d + 1) (5, 0, [], vK, vL) deep left = _
          rw [okE_all H3.out (HYes.out fun i hi => hHS.out i (by have := HKL.out; omega)) (fun j h => hHK.out.2.2.2 j h (by omega)) (by rw [← hkn]; exact hple), ← hkn]
        clear hkn
        go_wp2
        go_ret
        exact ⟨ret_i64 (by rw [HF.out]), B⟩
  · have HF := hide' (okE_shape (d := d) (vL := vL) deep left (shpE_map_no hkl))
    have hne : ¬ (vK.length : Int) = (vL.length : Int) := by omega
    clear ih
    go_enter Tryd.func44, Tryd.ntmps44
    go_wp2_with (go_at_call 57; refine (HAr.out _).mono ?_; rintro e w1 ⟨rfl, e1⟩; obtain rfl := e1)
    go_ret
    exact ⟨ret_i64 (by rw [HF.out]), Hb.out _⟩
end Go.Proofs.YthkbapkndmlpfaaDoor
/-
  l6expr and ExprOk of the specification, at every expression.
-/
namespace Go.Proofs.YthkbapkndmlpfaaDoor
open Go.RowKit
set_option linter.unusedVariables false
set_option linter.unusedSimpArgs false

theorem okE_leaf {d : Nat} {vk vn : Int} {vs : List Int} {deep : Nat} {left : Int} (h1 : deep ≤ 10) (h2 : shpB vk vn vs [] 0 = true) (h4 : 1 ≤ left) : okE (d + 1) (vk, vn, vs, [], []) deep left = left - 1 := by
  have := okE_all (d := d) (vL := []) (deep := deep) (left := left) h1 (by simpa using h2) (by intro j h; simp at h) (by simp [pre]; omega)
  simpa [pre] using this

theorem arI_bound (k : Int) : -1 ≤ arI k ∧ arI k ≤ 3 := by
  unfold arI
  split
  · omega
  split
  · omega
  split
  · omega
  split <;> omega

set_option maxHeartbeats 1600000 in
set_option maxRecDepth 100000 in
theorem l6expr_out (k n : Int) (c2 c3 c4 : Value) (deep : Nat) (left : Int) (w : World) (h0 : 0 ≤ left) (h2 : left ≤ 150) (h : left < 1 ∨ 10 < deep ∨ k < 0 ∨ 23 < k) (hd : deep ≤ 11) :
    Calls Tryd.prog 44 #[.agg #[.int .i64 k, .int .i64 n, c2, c3, c4], .int .i64 deep, .int .i64 left] w fun e w' => e = .returned (.int .i64 (-1)) ∧ Below w.heap.size w w' := by
  have b0 : ∀ o : Obj, Below w.heap.size w (w.alloc o) := fun o => (Below.refl _ _).alloc (Nat.le_refl _) o
  have Hb := hide' b0
  clear b0
  by_cases q1 : left - 1 < 0
  · go_enter Tryd.func44, Tryd.ntmps44
    go_wp2
    go_ret
    exact ⟨rfl, Hb.out _⟩
  by_cases q2 : (10 : Int) < (deep : Int)
  · go_enter Tryd.func44, Tryd.ntmps44
    go_wp2
    go_ret
    exact ⟨rfl, Hb.out _⟩
  by_cases q3 : k < 0
  · go_enter Tryd.func44, Tryd.ntmps44
    go_wp2
    go_ret
    exact ⟨rfl, Hb.out _⟩
  have q4 : (23 : Int) < k := by omega
  go_enter Tryd.func44, Tryd.ntmps44
  go_wp2
  go_ret
  exact ⟨rfl, Hb.out _⟩

theorem shp_out {vk vn : Int} {vs : List Int} {vK : List (List Int)} {nL : Nat} (h : vk < 0 ∨ 23 < vk) : shpB vk vn vs vK nL = false := by
  rcases h with h | h
  · have h1 : ¬ (0 : Int) ≤ vk := by omega
    simp [shpB, h1]
  · have h1 : ¬ vk ≤ 23 := by omega
    simp [shpB, h1]

/-- A part by itself, of what is asked ahead of its kids and of its keys' order. -/
theorem shp_hd (vk vn : Int) (k0 : 0 ≤ vk) (k23 : vk ≤ 23) (vs : List Int) (vK : List (List Int)) (nL : Nat) : shpB vk vn vs vK nL = (hdR (decide (vk = 5)) (arI vk) (mostI vk) vn vK.length nL (saysB (saysI vk) vs) && (!decide (vk = 5) || ascB vK)) := by
  by_cases h : vk = 5
  · subst h
    simp [shpB, hdR, keysB, kidsB]
    cases decide (vK.length = nL) <;> cases ascB vK <;> cases decide (0 ≤ vn) <;> cases decide (vn ≤ mostI 5) <;> simp
  · simp [shpB, hdR, keysB, kidsB, h, k0, k23]

theorem hdR_true {kb : Bool} {q m n : Int} {l3 l4 : Nat} {sb : Bool} (h : hdR kb q m n l3 l4 sb = true) : (if kb then decide (l3 = l4) else decide (l3 = 0)) = true ∧ (q = -1 ∨ q = l4) ∧ 0 ≤ n ∧ n ≤ m ∧ sb = true := by
  unfold hdR at h
  simp only [Bool.and_eq_true, Bool.or_eq_true, decide_eq_true_eq] at h
  obtain ⟨⟨⟨⟨a, b⟩, c⟩, d⟩, e⟩ := h
  exact ⟨a, b, c, d, e⟩

set_option maxHeartbeats 1600000 in
theorem l6expr_succ (d : Nat) (ih : E6At d) : E6At (d + 1) := by
  intro N c v deep left w hv hN hd h0 h1
  obtain ⟨c0, c1, c2, c3, c4⟩ := c
  obtain ⟨vk, vn, vs, vK, vL⟩ := v
  obtain ⟨e0, e1, ht, hk, hl⟩ := (VSeg_succ _ _ _ _ _).1 hv
  simp only at e0 e1 ht hk hl
  subst e0
  subst e1
  clear hv
  simp only
  have HK := hk
  have HL := hl
  obtain ⟨a2, p2, rfl, s2, l2, m2, _, _⟩ := ht
  obtain ⟨a3, p3, rfl, l3, m3, _, _⟩ := hk
  obtain ⟨a4, p4, rfl, l4, m4, _, _⟩ := hl
  by_cases q0 : left < 1 ∨ 10 < deep ∨ vk < 0 ∨ 23 < vk
  · refine (l6expr_out vk vn _ _ _ deep left w h0 h1 q0 hd).mono fun e w' h => ⟨h.1.trans (ret_i64 ?_), h.2⟩
    rcases q0 with q | q | q | q
    · exact (okE_left _ deep q).symm
    · exact (okE_deep _ left q).symm
    · exact (okE_shape deep left (shp_out (.inl q))).symm
    · exact (okE_shape deep left (shp_out (.inr q))).symm
  have hL1 : 1 ≤ left := by omega
  have hD1 : deep ≤ 10 := by omega
  have k0 : 0 ≤ vk := by omega
  have k23' : vk ≤ 23 := by omega
  clear q0
  have m2' : vs.length ≤ maxLen := by omega
  have m3' : vK.length ≤ maxLen := by omega
  have m4' : vL.length ≤ maxLen := by omega
  have hsh := shp_hd vk vn k0 k23' vs vK vL.length
  cases hb : hdR (decide (vk = 5)) (arI vk) (mostI vk) vn vK.length vL.length (saysB (saysI vk) vs) with
  | false =>
    rw [hb] at hsh
    simp only [Bool.false_and] at hsh
    have hno := okE_shape (d := d) (vL := vL) deep left hsh
    have fin : ∀ (e : Ending) (w' : World), (e = .returned (.int .i64 (-1)) ∧ Below w.heap.size w w') → (e = .returned (.int .i64 (okE (d + 1) (vk, vn, vs, vK, vL) deep left)) ∧ Below w.heap.size w w') := fun e w' h => ⟨h.1.trans (ret_i64 hno.symm), h.2⟩
    by_cases k1 : vk = 1
    · subst k1
      exact (l6bad_c1 vn a2 a3 a4 p2 p3 p4 _ _ vs deep left w hL1 h1 hD1 s2 m2' m3' m4' hb).mono fin
    by_cases k2 : vk = 2
    · subst k2
      exact (l6bad_c2 vn a2 a3 a4 p2 p3 p4 _ _ vs deep left w hL1 h1 hD1 s2 m2' m3' m4' hb).mono fin
    by_cases k3 : vk = 3
    · subst k3
      exact (l6bad_c3 vn a2 a3 a4 p2 p3 p4 _ _ vs deep left w hL1 h1 hD1 s2 m2' m3' m4' hb).mono fin
    by_cases k4 : vk = 4
    · subst k4
      exact (l6bad_c4 vn a2 a3 a4 p2 p3 p4 _ _ vs deep left w hL1 h1 hD1 s2 m2' m3' m4' hb).mono fin
    by_cases k5 : vk = 5
    · subst k5
      exact (l6bad_c5 vn a2 a3 a4 p2 p3 p4 _ _ vs deep left w hL1 h1 hD1 s2 m2' m3' m4' hb).mono fin
    by_cases k6 : vk = 6
    · subst k6
      exact (l6bad_c6 vn a2 a3 a4 p2 p3 p4 _ _ vs deep left w hL1 h1 hD1 s2 m2' m3' m4' hb).mono fin
    by_cases k7 : vk = 7
    · subst k7
      exact (l6bad_c7 vn a2 a3 a4 p2 p3 p4 _ _ vs deep left w hL1 h1 hD1 s2 m2' m3' m4' hb).mono fin
    by_cases k8 : vk = 8
    · subst k8
      exact (l6bad_c8 vn a2 a3 a4 p2 p3 p4 _ _ vs deep left w hL1 h1 hD1 s2 m2' m3' m4' hb).mono fin
    by_cases k23 : vk = 23
    · subst k23
      exact (l6bad_c23 vn a2 a3 a4 p2 p3 p4 _ _ vs deep left w hL1 h1 hD1 s2 m2' m3' m4' hb).mono fin
    · refine (l6bad_other vk k0 k23' k1 k2 k3 k4 k5 k6 k7 k8 k23 vn a2 a3 a4 p2 p3 p4 vs.length _ _ deep left w hL1 h1 hD1 m2' m3' m4' (arI_bound vk) ?_).mono fin
      simpa [mostI, saysI, saysB, k1, k2, k3, k5, k6, k7, k8, k23] using hb
  | true =>
    rw [hb] at hsh
    simp only [Bool.true_and] at hsh
    obtain ⟨fK, fq, fn0, fn1, fs⟩ := hdR_true hb
    have nil3 : ¬ vk = 5 → vK = [] := fun h => by
      rw [decide_eq_false h] at fK
      exact List.eq_nil_of_length_eq_zero (by simpa using fK)
    have hsh5 : ¬ vk = 5 → shpB vk vn vs vK vL.length = true := fun h => by rw [hsh, decide_eq_false h]; rfl
    by_cases k1 : vk = 1
    · subst k1
      obtain rfl : vK = [] := nil3 (by omega)
      have fq' : (0 : Int) = -1 ∨ (0 : Int) = vL.length := fq
      obtain rfl : vL = [] := List.eq_nil_of_length_eq_zero (by omega)
      have fs' : decide (vs.length = 0) = true := fs
      obtain rfl : vs = [] := List.eq_nil_of_length_eq_zero (by simpa using fs')
      exact (l6leaf_c1 vn fn0 fn1 a2 a3 a4 p2 p3 p4 deep left w hL1 h1 hD1).mono fun e w' h => ⟨h.1.trans (ret_i64 (okE_leaf hD1 (hsh5 (by omega)) hL1).symm), h.2⟩
    by_cases k2 : vk = 2
    · subst k2
      obtain rfl : vK = [] := nil3 (by omega)
      have fq' : (0 : Int) = -1 ∨ (0 : Int) = vL.length := fq
      obtain rfl : vL = [] := List.eq_nil_of_length_eq_zero (by omega)
      have fs' : decide (vs.length = 0) = true := fs
      obtain rfl : vs = [] := List.eq_nil_of_length_eq_zero (by simpa using fs')
      exact (l6leaf_c2 vn fn0 fn1 a2 a3 a4 p2 p3 p4 deep left w hL1 h1 hD1).mono fun e w' h => ⟨h.1.trans (ret_i64 (okE_leaf hD1 (hsh5 (by omega)) hL1).symm), h.2⟩
    by_cases k3 : vk = 3
    · subst k3
      obtain rfl : vK = [] := nil3 (by omega)
      have fq' : (0 : Int) = -1 ∨ (0 : Int) = vL.length := fq
      obtain rfl : vL = [] := List.eq_nil_of_length_eq_zero (by omega)
      have fn1' : vn ≤ 0 := fn1
      obtain rfl : vn = 0 := by omega
      exact (l6leaf_c3 a2 a3 a4 p2 p3 p4 vs deep left w hL1 h1 hD1 s2 m2' fs).mono fun e w' h => ⟨h.1.trans (ret_i64 (okE_leaf hD1 (hsh5 (by omega)) hL1).symm), h.2⟩
    by_cases k6 : vk = 6
    · subst k6
      obtain rfl : vK = [] := nil3 (by omega)
      have fq' : (0 : Int) = -1 ∨ (0 : Int) = vL.length := fq
      obtain rfl : vL = [] := List.eq_nil_of_length_eq_zero (by omega)
      have fn1' : vn ≤ 0 := fn1
      obtain rfl : vn = 0 := by omega
      exact (l6leaf_c6 a2 a3 a4 p2 p3 p4 vs deep left w hL1 h1 hD1 s2 m2' fs).mono fun e w' h => ⟨h.1.trans (ret_i64 (okE_leaf hD1 (hsh5 (by omega)) hL1).symm), h.2⟩
    by_cases k7 : vk = 7
    · subst k7
      obtain rfl : vK = [] := nil3 (by omega)
      have fq' : (0 : Int) = -1 ∨ (0 : Int) = vL.length := fq
      obtain rfl : vL = [] := List.eq_nil_of_length_eq_zero (by omega)
      have fn1' : vn ≤ 0 := fn1
      obtain rfl : vn = 0 := by omega
      exact (l6leaf_c7 a2 a3 a4 p2 p3 p4 vs deep left w hL1 h1 hD1 s2 m2' fs).mono fun e w' h => ⟨h.1.trans (ret_i64 (okE_leaf hD1 (hsh5 (by omega)) hL1).symm), h.2⟩
    by_cases k5 : vk = 5
    · subst k5
      have fn1' : vn ≤ 0 := fn1
      obtain rfl : vn = 0 := by omega
      have fs' : decide (vs.length = 0) = true := fs
      obtain rfl : vs = [] := List.eq_nil_of_length_eq_zero (by simpa using fs')
      exact l6loop_c5 d ih N vK vL _ _ _ _ deep left w HK HL hN hL1 h1 hD1
    obtain rfl : vK = [] := nil3 k5
    have hsh6 := hsh5 k5
    have fn1' : vn ≤ 0 := by
      have := fn1
      simp only [mostI, k1, k2, if_false] at this
      exact this
    obtain rfl : vn = 0 := by omega
    by_cases k4 : vk = 4
    · subst k4
      have fs' : decide (vs.length = 0) = true := fs
      obtain rfl : vs = [] := List.eq_nil_of_length_eq_zero (by simpa using fs')
      exact l6loop_c4 d ih N vL _ _ _ _ _ deep left w HL hN hL1 h1 hD1 hsh6
    by_cases k8 : vk = 8
    · subst k8
      have fq' : (1 : Int) = -1 ∨ (1 : Int) = vL.length := fq
      exact l6loop_c8 d ih N vL _ _ _ _ _ vs deep left w HL hN hL1 h1 hD1 s2 m2' fs (by omega) hsh6
    by_cases k23 : vk = 23
    · subst k23
      have fs' : (nameB vs && !keptB vs) = true := fs
      simp at fs'
      exact l6loop_c23 d ih N vL _ _ _ _ _ vs deep left w HL hN hL1 h1 hD1 s2 m2' fs'.1 fs'.2 hsh6
    · have fs' : vs = [] := by
        have := fs
        simp only [saysI, saysB, k3, k6, k7, k8, k23, if_false, or_false] at this
        exact List.eq_nil_of_length_eq_zero (by simpa using this)
      subst fs'
      have hq : arI vk = vL.length := by
        rcases fq with h | h
        · exfalso
          have : ¬ (vk = 4 ∨ vk = 5 ∨ vk = 23) := by omega
          simp only [arI, this, if_false] at h
          split at h
          · omega
          split at h
          · omega
          split at h <;> omega
        · exact h
      exact l6loop_other d ih N vk k0 k23' k1 k2 k3 k4 k5 k6 k7 k8 k23 vL _ _ _ _ _ deep left w HL hN hL1 h1 hD1 hq hsh6

theorem l6expr_any (d : Nat) : E6At d := by
  induction d with
  | zero => intro N c v deep left w hv; exact hv.elim
  | succ d ih => exact l6expr_succ d ih

end Go.Proofs.YthkbapkndmlpfaaDoor
/-
  l6item of the specification: what holds in its loop.
-/
namespace Go.Proofs.YthkbapkndmlpfaaDoor
open Go.RowKit
set_option linter.unusedVariables false
set_option linter.unusedSimpArgs false

/-- What holds ahead of the round k of l6item, m being what By has left. -/
def IK (d : Nat) (ks : List (List Int)) (es : List (Vl d)) (named : Bool) (m res : Int) (G : Prop) (k : Nat) (l : Value) : Prop :=
  k ≤ es.length ∧ ((l = .int .i64 (m - pre (partsE d) es k) ∧ (pre (partsE d) es k : Int) ≤ m ∧ (∀ j (h : j < es.length), j < k → goodE d es[j] 1 = true) ∧ (named = true → ∀ j, j < k → stepB ks j = true) ∧ G) ∨ (l = .int .i64 (-1) ∧ res = -1))

/-- By and the expressions, one behind the other. -/
theorem itemR_kid {d : Nat} {it : Itm d} {left m : Int} (hm : m = left - byP d it) {k : Nat} (hk : k < it.2.2.2.2.2.length)
    (h : ¬ (goodE d it.2.2.2.2.2[k] 1 = true ∧ (partsE d it.2.2.2.2.2[k] : Int) ≤ m - pre (partsE d) it.2.2.2.2.2 k)) : itemR d it left = -1 := by
  unfold itemR
  rw [if_neg]
  rintro ⟨h1, h2⟩
  apply h
  simp only [itemB, Bool.and_eq_true, List.all_eq_true] at h1
  refine ⟨h1.2.2.2 _ (List.getElem_mem hk), ?_⟩
  have h3 := pre_succ (partsE d) it.2.2.2.2.2 k hk
  have h4 := pre_le (partsE d) it.2.2.2.2.2 (k + 1)
  have h5 := pre_all (partsE d) it.2.2.2.2.2
  unfold itemP at h2
  omega
theorem itemR_step {d : Nat} {it : Itm d} {left : Int} {i : Nat} (h1 : it.1 = 1) (hi : i < it.2.2.2.2.1.length) (h : stepB it.2.2.2.2.1 i = false) : itemR d it left = -1 :=
  itemR_no (by have := ascB_no hi h; simp [itemB, h1, this])
theorem itemR_all {d : Nat} {it : Itm d} {left m : Int} (hm : m = left - byP d it) (hh : headB d it = true) (ha : it.1 = 1 → ascB it.2.2.2.2.1 = true) (hb : if it.2.2.1 = 0 then zeroE d it.2.2.2.1 = true else goodE d it.2.2.2.1 1 = true)
    (hg : ∀ j (h : j < it.2.2.2.2.2.length), goodE d it.2.2.2.2.2[j] 1 = true) (hp : (pre (partsE d) it.2.2.2.2.2 it.2.2.2.2.2.length : Int) ≤ m) : itemR d it left = m - pre (partsE d) it.2.2.2.2.2 it.2.2.2.2.2.length := by
  have hB : itemB d it = true := by
    simp only [itemB, Bool.and_eq_true, List.all_eq_true]
    refine ⟨hh, ?_, ?_, fun x hx => ?_⟩
    · split
      · next e => exact ha e
      · rfl
    · split
      · next e => rw [if_pos e] at hb; exact hb
      · next e => rw [if_neg e] at hb; exact hb
    · obtain ⟨j, h, rfl⟩ := List.getElem_of_mem hx
      exact hg j h
  unfold itemR
  rw [if_pos ⟨hB, by unfold itemP; omega⟩]
  unfold itemP
  omega
theorem itemR_by {d : Nat} {it : Itm d} {left : Int} (h0 : ¬ it.2.2.1 = 0) (h : ¬ (goodE d it.2.2.2.1 1 = true ∧ (partsE d it.2.2.2.1 : Int) ≤ left)) : itemR d it left = -1 := by
  unfold itemR
  rw [if_neg]
  rintro ⟨h1, h2⟩
  apply h
  simp only [itemB, Bool.and_eq_true, if_neg h0] at h1
  refine ⟨h1.2.2.1, ?_⟩
  unfold itemP byP at h2
  rw [if_neg h0] at h2
  omega
end Go.Proofs.YthkbapkndmlpfaaDoor
/-
  l6item of the specification where the head is right: kind 1, many 0.
-/
namespace Go.Proofs.YthkbapkndmlpfaaDoor
open Go.RowKit
set_option linter.unusedVariables false
set_option linter.unusedSimpArgs false

set_option maxHeartbeats 4000000 in
set_option maxRecDepth 100000 in
theorem itR0 (d N : Nat) (cs : List Value) (nm : List Int) (by' : Vl d) (ks : List (List Int)) (es : List (Vl d)) (left : Int) (w : World) (h : ISeg (fun b => b < N) w d cs ((1, nm, 0, by', ks, es) : Itm d)) (hN : N ≤ w.heap.size) (h0 : 0 ≤ left) (h1 : left ≤ 150)
    (hh : headB d ((1, nm, 0, by', ks, es) : Itm d) = true) (hzr : zeroE d by' = true) :
    Calls Tryd.prog 19 #[.agg cs.toArray, .int .i64 left] w fun e w' => e = .returned (.int .i64 (itemR d ((1, nm, 0, by', ks, es) : Itm d) left)) ∧ Below w.heap.size w w' := by
  obtain ⟨na, np, bk, bn, a2, l2, p2, a3, l3, p3, a4, l4, p4, xa, xp, ea, ep, rfl, ht, hv, hk, hl⟩ := h.form
  have HH := hide' hh
  simp only [headB] at ht hv hk hl hh ⊢
  have hw : wordB nm = true := by simp only [Bool.and_eq_true] at hh; exact hh.1
  have hel : es.length ≤ 6 := by simp at hh; omega
  have hkl : ks.length = es.length := by simp at hh; omega
  have HKL := hide' hkl
  have Hb : Hid (∀ o : Obj, Below w.heap.size w (w.alloc o)) := fun o => (Below.refl _ _).alloc (Nat.le_refl _) o
  have HW : Hid (∀ o : Obj, Calls Tryd.prog 42 #[.slice na nm.length np] (w.alloc o) fun e w' => e = .returned (.bool true) ∧ Below (w.alloc o).heap.size (w.alloc o) w') := fun o => by
    have ht' := ht.agree (w' := w.alloc o) (agree_below ((Hb.out o).mono hN))
    obtain ⟨_, _, e1, s1, _, m1, _⟩ := ht'
    simp at e1
    obtain ⟨rfl, _⟩ := e1
    have := spec_l6free_any na np nm (w.alloc o) s1 (by omega)
    rw [hw] at this
    exact this
  have HV : Hid (∀ wx, Below w.heap.size w wx → VSeg (fun b => b < N) wx d (.int .i64 bk, .int .i64 bn, .slice a2 l2 p2, .slice a3 l3 p3, .slice a4 l4 p4) by') := fun wx hb => VSeg.agree (agree_below (hb.mono hN)) d hv
  have HX : Hid (LSeg (fun b => b < N) w d (.slice ea es.length ep) es) := hl
  have Hbox : Hid (∀ o wx, Below (w.alloc o).heap.size (w.alloc o) wx → wx.heap[w.heap.size]? = some o) := fun o wx h => box_row h
  have HKs : Hid (KSeg (fun b => b < N) w (.slice xa ks.length xp) ks) := hk
  rw [hkl] at HKs
  rw [hkl]
  have HEl := hide' hel
  obtain ⟨R, hR⟩ : ∃ R, R = itemR d ((1, nm, 0, by', ks, es) : Itm d) left := ⟨_, rfl⟩
  have HR := hide' hR
  rw [← hR]
  clear ht hv hk hl h hh hw hkl hR
  generalize nm.length = s0 at *
  go_enter Tryd.func19, Tryd.ntmps19
  go_wp2_with fail
  refine (HW.out _).mono ?_
  rintro e w1 ⟨rfl, b1⟩
  have B1 := hide' b1
  clear b1 HW
  have hrow := Hbox.out _ _ B1.out
  have y10 := cell_of_row _ _ 0 _ _ _ hrow
  have y11 := cell_of_row _ _ 1 _ _ _ hrow
  have y12 := cell_of_row _ _ 2 _ _ _ hrow
  have y13 := cell_of_row _ _ 3 _ _ _ hrow
  have y14 := cell_of_row _ _ 4 _ _ _ hrow
  have y15 := cell_of_row _ _ 5 _ _ _ hrow
  have y16 := cell_of_row _ _ 6 _ _ _ hrow
  have y17 := cell_of_row _ _ 7 _ _ _ hrow
  have y18 := cell_of_row _ _ 8 _ _ _ hrow
  have y19 := cell_of_row _ _ 9 _ _ _ hrow
  simp at y10 y11 y12 y13 y14 y15 y16 y17 y18 y19
  clear hrow
  have HZ := hide' (l6zero_any d N _ _ _ _ _ by' w1 (HV.out w1 (Below.on (Hb.out _) B1.out)))
  rw [hzr] at HZ
  go_wp2_with fail
  refine HZ.out.mono ?_
  rintro e w2 ⟨rfl, b2⟩
  have B2 := hide' (Below.on B1.out b2)
  clear b2 HZ y10 y11 y12 y13 y14 y15 y16 y17 y18 y19
  have hrow := Hbox.out _ _ B2.out
  have y20 := cell_of_row _ _ 0 _ _ _ hrow
  have y21 := cell_of_row _ _ 1 _ _ _ hrow
  have y22 := cell_of_row _ _ 2 _ _ _ hrow
  have y23 := cell_of_row _ _ 3 _ _ _ hrow
  have y24 := cell_of_row _ _ 4 _ _ _ hrow
  have y25 := cell_of_row _ _ 5 _ _ _ hrow
  have y26 := cell_of_row _ _ 6 _ _ _ hrow
  have y27 := cell_of_row _ _ 7 _ _ _ hrow
  have y28 := cell_of_row _ _ 8 _ _ _ hrow
  have y29 := cell_of_row _ _ 9 _ _ _ hrow
  simp at y20 y21 y22 y23 y24 y25 y26 y27 y28 y29
  clear hrow
  obtain ⟨q, hq⟩ : ∃ q : Int, q = left := ⟨_, rfl⟩
  have H0 : Hid (∃ m, IK d ks es true m R ((m = left - byP d ((1, nm, 0, by', ks, es) : Itm d)) ∧ (if (0 : Int) = 0 then zeroE d by' = true else goodE d by' 1 = true) ∧ m ≤ 150) 0 (.int .i64 q)) := ⟨left, Nat.zero_le _, .inl ⟨by rw [pre_zero, hq]; simp, by rw [pre_zero]; simpa using h0, fun j _ h => by omega, fun _ j h => by omega, by simp [byP], by rw [if_pos rfl]; exact hzr, h1⟩⟩
  have hq0 : -1 ≤ q := by omega
  have hq1 : q ≤ 150 := by omega
  rw [← hq]
  clear hq h0 h1 hzr
  go_wp2_with fail
  obtain ⟨m, H1⟩ := H0.out
  replace H1 := hide' H1
  clear H0
  go_loopw [1, 5] (fun l i wr => ∃ k : Nat, i = .int .i64 k ∧ Hid (IK d ks es true m R ((m = left - byP d ((1, nm, 0, by', ks, es) : Itm d)) ∧ (if (0 : Int) = 0 then zeroE d by' = true else goodE d by' 1 = true) ∧ m ≤ 150) k l) ∧ Hid (Below (w.alloc (.cells #[.int .i64 1, .slice na s0 np, .int .i64 0, .int .i64 bk, .int .i64 bn, .slice a2 l2 p2, .slice a3 l3 p3, .slice a4 l4 p4, .slice xa es.length xp, .slice ea es.length ep] 42)).heap.size (w.alloc (.cells #[.int .i64 1, .slice na s0 np, .int .i64 0, .int .i64 bk, .int .i64 bn, .slice a2 l2 p2, .slice a3 l3 p3, .slice a4 l4 p4, .slice xa es.length xp, .slice ea es.length ep] 42)) wr)) (fun _ i _ => es.length - (intOf i).toNat)
  case atStart => exact ⟨0, rfl, H1, B2⟩
  case round =>
    clear B1 B2 H1 hq0 hq1 y20 y21 y22 y23 y24 y25 y26 y27 y28 y29
    obtain ⟨k, rfl, hIK, hbel⟩ := hrel
    have hrow := Hbox.out _ _ hbel.out
    have y0 := cell_of_row _ _ 0 _ _ _ hrow
    have y8 := cell_of_row _ _ 8 _ _ _ hrow
    have y9 := cell_of_row _ _ 9 _ _ _ hrow
    simp at y0 y8 y9
    have B := Below.on (Hb.out (.cells #[.int .i64 1, .slice na s0 np, .int .i64 0, .int .i64 bk, .int .i64 bn, .slice a2 l2 p2, .slice a3 l3 p3, .slice a4 l4 p4, .slice xa es.length xp, .slice ea es.length ep] 42)) hbel.out
    clear hrow
    obtain ⟨hk, ⟨rfl, hple, hgo, hst, hm, hby, hm1⟩ | ⟨rfl, hbad⟩⟩ := hIK.out
    rotate_left
    · have Hbad := hide' hbad
      clear hbad
      by_cases hlt : k < es.length
      · have hlt' : (k : Int) < (es.length : Int) := by have h2 := HEl.out; omega
        go_wp2
        go_ret
        exact ⟨ret_i64 Hbad.out.symm, B⟩
      · have hlt' : ¬ (k : Int) < (es.length : Int) := by have h2 := HEl.out; omega
        go_wp2
        go_ret
        exact ⟨ret_i64 Hbad.out.symm, B⟩
    have HM := hide' hm
    have HBy := hide' hby
    clear hm hby
    have hge : (0 : Int) ≤ m - pre (partsE d) es k := by omega
    by_cases hlt : k < es.length
    rotate_left
    · have hkn : k = es.length := by omega
      have hlt' : ¬ (k : Int) < (es.length : Int) := by have h2 := HEl.out; omega
      have HF : Hid (R = m - pre (partsE d) es k) := by
        show R = _
        rw [HR.out, itemR_all (it := ((1, nm, 0, by', ks, es) : Itm d)) HM.out HH.out (fun _ => ascB_yes fun i hi => hst rfl i (by have h1 := HKL.out; have h2 : i < ks.length := hi; omega)) HBy.out (fun j h => hgo j h (by show j < k; rw [hkn]; exact h)) (by show (pre (partsE d) es es.length : Int) ≤ m; rw [← hkn]; exact hple)]
        show m - pre (partsE d) es es.length = _
        rw [← hkn]
      clear hkn
      go_wp2
      go_ret
      exact ⟨ret_i64 HF.out.symm, B⟩
    have hlt' : (k : Int) < (es.length : Int) := by have h2 := HEl.out; omega
    obtain ⟨b, off, c, rfl, h5', hv⟩ := HX.out.at B hN hlt
    obtain ⟨c0, c1, c2, c3, c4⟩ := c
    obtain ⟨q0, q1, q2, q3, q4⟩ := h5'
    simp only at q0 q1 q2 q3 q4
    have hz := B.size
    have HC : Hid (∀ wx, Below w.heap.size w wx → Calls Tryd.prog 44 #[.agg #[c0, c1, c2, c3, c4], .int .i64 1, .int .i64 (m - pre (partsE d) es k)] wx fun e w' => e = .returned (.int .i64 (okE d es[k] 1 (m - pre (partsE d) es k))) ∧ Below wx.heap.size wx w') := fun wx hx => l6expr_any d N (c0, c1, c2, c3, c4) es[k] 1 _ wx (hv wx hx) (by have := hx.size; omega) (by omega) hge (by omega)
    have HNx : Hid (¬ (goodE d es[k] 1 = true ∧ (partsE d es[k] : Int) ≤ m - pre (partsE d) es k) → R = -1) := fun h => by rw [HR.out]; exact itemR_kid (it := ((1, nm, 0, by', ks, es) : Itm d)) HM.out hlt h
    clear hv
    have hKr : KSeg (fun b => b < N) wr (.slice xa es.length xp) ks := HKs.out.agree (agree_below (B.mono hN))
    have hltK : k < ks.length := by have := HKL.out; omega
    obtain ⟨kb, ko, rfl, hat⟩ := hKr.at hltK
    clear hKr
    obtain ⟨s2, e2, hu, g2, m2⟩ := hat k hltK
    have HNo : Hid (∀ i, i < ks.length → stepB ks i = false → R = -1) := fun i hi h => by rw [HR.out]; exact itemR_step (it := ((1, nm, 0, by', ks, es) : Itm d)) rfl hi h
    have HNm : Hid (∀ n, Calls Tryd.prog 45 #[.slice s2 (ks.getD k []).length e2] (wr.drewN n) fun e w' => e = .returned (.bool (nameB (ks.getD k []))) ∧ wr.drewN n = w') := fun n => spec_NameOk_any s2 e2 (ks.getD k []) (wr.drewN n) g2 m2
    by_cases hn : nameB (ks.getD k []) = true
    rotate_left
    · have hn' : nameB (ks.getD k []) = false := by simpa using hn
      rw [hn'] at HNm
      have HF := hide' (HNo.out k hltK (by unfold stepB; rw [hn']; rfl))
      generalize ks.getD k [] = ys at *
      clear hat hn hn' g2 HC HNx hgo hst hIK
      generalize m - pre (partsE d) es k = mx at *
      go_wp2_with fail
      go_quiet ((go_at_call 45; exact quiet_same (HNm.out _)))
      go_wp2
      go_ret
      exact ⟨ret_i64 HF.out.symm, below_drewN B _⟩
    rw [hn] at HNm
    cases k with
    | zero =>
      have HA : Hid (∀ j, j < 0 + 1 → stepB ks j = true) := fun j hj => by
        obtain rfl : j = 0 := by omega
        simp only [stepB, hn]
        simp
      simp only [Nat.add_zero, Nat.zero_mul] at hu q0 q1 q2 q3 q4
      generalize ks.getD 0 [] = ys at *
      clear hat hn g2
      by_cases hg : goodE d es[0] 1 = true ∧ (partsE d es[0] : Int) ≤ m - pre (partsE d) es 0
      · rw [okE_yes hg.1 hg.2] at HC
        have hps := pre_succ (partsE d) es 0 hlt
        have HF : Hid (IK d ks es true m R ((m = left - byP d ((1, nm, 0, by', ks, es) : Itm d)) ∧ (if (0 : Int) = 0 then zeroE d by' = true else goodE d by' 1 = true) ∧ m ≤ 150) (0 + 1) (.int .i64 (m - pre (partsE d) es 0 - partsE d es[0]))) := ⟨hlt, .inl ⟨by rw [hps]; simp; omega, by rw [hps]; simp; omega, fun j hj hjk => by
            by_cases e : j = 0
            · subst e; exact hg.1
            · exact hgo j hj (by omega), fun _ => HA.out, HM.out, HBy.out, hm1⟩⟩
        have hlo : -1 ≤ m - pre (partsE d) es 0 - partsE d es[0] := by omega
        have hup : m - pre (partsE d) es 0 - partsE d es[0] ≤ 150 := by omega
        generalize m - pre (partsE d) es 0 - partsE d es[0] = nx at *
        generalize m - pre (partsE d) es 0 = mx at *
        clear HNx hgo hst hIK hg hple hps HA
        go_wp2_with fail
        go_quiet ((go_at_call 45; exact quiet_same (HNm.out _)))
        go_wp2_with fail
        refine (HC.out _ (below_drewN B _)).mono ?_
        rintro e w3 ⟨rfl, b3⟩
        have B3 := hide' (Below.on (below_drewN hbel.out _) b3)
        clear q0 q1 q2 q3 q4 b3 y0 y8 y9
        go_wp2
        go_roundw
        case rel => exact ⟨0 + 1, by go_num, HF, B3⟩
        case measure => simp [intOf]; omega
      · rw [okE_no hg] at HC
        have HF : Hid (IK d ks es true m R ((m = left - byP d ((1, nm, 0, by', ks, es) : Itm d)) ∧ (if (0 : Int) = 0 then zeroE d by' = true else goodE d by' 1 = true) ∧ m ≤ 150) (0 + 1) (.int .i64 (-1))) := ⟨hlt, .inr ⟨rfl, HNx.out hg⟩⟩
        generalize m - pre (partsE d) es 0 = mx at *
        clear HNx hgo hst hIK hg hple HA
        go_wp2_with fail
        go_quiet ((go_at_call 45; exact quiet_same (HNm.out _)))
        go_wp2_with fail
        refine (HC.out _ (below_drewN B _)).mono ?_
        rintro e w3 ⟨rfl, b3⟩
        have B3 := hide' (Below.on (below_drewN hbel.out _) b3)
        clear q0 q1 q2 q3 q4 b3 y0 y8 y9
        go_wp2
        go_roundw
        case rel => exact ⟨0 + 1, by go_num, HF, B3⟩
        case measure => simp [intOf]; omega
    | succ j =>
      obtain ⟨s3, e3, hu3, g3, m3⟩ := hat j (by omega)
      have hsb : stepB ks (j + 1) = Op.bytesLess (strOf (ks.getD j [])).toList (strOf (ks.getD (j + 1) [])).toList := by
        rw [strOf_list, strOf_list]
        simp only [stepB, hn]
        simp [ltS]
      have hcv2 : ∀ n, (convert 29 9 (.slice s2 (ks.getD (j + 1) []).length e2)).run Tryd.prog (wr.drewN n) = .ok (.string (strOf (ks.getD (j + 1) []))) (wr.drewN n) := fun n => conv_seg (w := wr.drewN n) e2 g2
      have hcv3 : ∀ n, (convert 29 9 (.slice s3 (ks.getD j []).length e3)).run Tryd.prog (wr.drewN n) = .ok (.string (strOf (ks.getD j []))) (wr.drewN n) := fun n => conv_seg (w := wr.drewN n) e3 g3
      have hpos : (0 : Int) < ((j + 1 : Nat) : Int) := by omega
      by_cases hcmp : Op.bytesLess (strOf (ks.getD j [])).toList (strOf (ks.getD (j + 1) [])).toList = true
      rotate_left
      · have hcmp' : Op.bytesLess (strOf (ks.getD j [])).toList (strOf (ks.getD (j + 1) [])).toList = false := by simpa using hcmp
        have HF := hide' (HNo.out (j + 1) hltK (by rw [hsb]; exact hcmp'))
        generalize ks.getD (j + 1) [] = ys at *
        generalize ks.getD j [] = zs at *
        clear hat hn hsb g2 g3 HC HNx hcmp hgo hst hIK
        generalize m - pre (partsE d) es (j + 1) = mx at *
        go_wp2_with fail
        go_quiet ((go_at_call 45; exact quiet_same (HNm.out _)))
        go_wp2
        go_ret
        exact ⟨ret_i64 HF.out.symm, below_drewN B _⟩
      have HA : Hid (∀ i, i < j + 1 + 1 → stepB ks i = true) := fun i hi => by
        by_cases e : i = j + 1
        · subst e; rw [hsb]; exact hcmp
        · exact hst rfl i (by omega)
      generalize ks.getD (j + 1) [] = ys at *
      generalize ks.getD j [] = zs at *
      clear hat hn hsb g2 g3
      by_cases hg : goodE d es[(j + 1)] 1 = true ∧ (partsE d es[(j + 1)] : Int) ≤ m - pre (partsE d) es (j + 1)
      · rw [okE_yes hg.1 hg.2] at HC
        have hps := pre_succ (partsE d) es (j + 1) hlt
        have HF : Hid (IK d ks es true m R ((m = left - byP d ((1, nm, 0, by', ks, es) : Itm d)) ∧ (if (0 : Int) = 0 then zeroE d by' = true else goodE d by' 1 = true) ∧ m ≤ 150) ((j + 1) + 1) (.int .i64 (m - pre (partsE d) es (j + 1) - partsE d es[(j + 1)]))) := ⟨hlt, .inl ⟨by rw [hps]; simp; omega, by rw [hps]; simp; omega, fun i hi hik => by
            by_cases e : i = (j + 1)
            · subst e; exact hg.1
            · exact hgo i hi (by omega), fun _ => HA.out, HM.out, HBy.out, hm1⟩⟩
        have hlo : -1 ≤ m - pre (partsE d) es (j + 1) - partsE d es[(j + 1)] := by omega
        have hup : m - pre (partsE d) es (j + 1) - partsE d es[(j + 1)] ≤ 150 := by omega
        generalize m - pre (partsE d) es (j + 1) - partsE d es[(j + 1)] = nx at *
        generalize m - pre (partsE d) es (j + 1) = mx at *
        clear HNx hgo hst hIK hg hple hps HA
        go_wp2_with fail
        go_quiet ((go_at_call 45; exact quiet_same (HNm.out _)))
        go_wp2_with fail
        refine (HC.out _ (below_drewN B _)).mono ?_
        rintro e w3 ⟨rfl, b3⟩
        have B3 := hide' (Below.on (below_drewN hbel.out _) b3)
        clear q0 q1 q2 q3 q4 b3 y0 y8 y9
        go_wp2
        go_roundw
        case rel => exact ⟨(j + 1) + 1, by go_num, HF, B3⟩
        case measure => simp [intOf]; omega
      · rw [okE_no hg] at HC
        have HF : Hid (IK d ks es true m R ((m = left - byP d ((1, nm, 0, by', ks, es) : Itm d)) ∧ (if (0 : Int) = 0 then zeroE d by' = true else goodE d by' 1 = true) ∧ m ≤ 150) ((j + 1) + 1) (.int .i64 (-1))) := ⟨hlt, .inr ⟨rfl, HNx.out hg⟩⟩
        generalize m - pre (partsE d) es (j + 1) = mx at *
        clear HNx hgo hst hIK hg hple HA
        go_wp2_with fail
        go_quiet ((go_at_call 45; exact quiet_same (HNm.out _)))
        go_wp2_with fail
        refine (HC.out _ (below_drewN B _)).mono ?_
        rintro e w3 ⟨rfl, b3⟩
        have B3 := hide' (Below.on (below_drewN hbel.out _) b3)
        clear q0 q1 q2 q3 q4 b3 y0 y8 y9
        go_wp2
        go_roundw
        case rel => exact ⟨(j + 1) + 1, by go_num, HF, B3⟩
        case measure => simp [intOf]; omega
end Go.Proofs.YthkbapkndmlpfaaDoor
