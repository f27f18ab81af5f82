/-
  Texts that a law leans on, one behind the other; no statement is proved here.
-/
import Derived.Test.YtngjhimieacjhaaGreatDoorPk31
import Derived.Test.YtngjhimieacjhaaGreatDoorPk10
import Derived.Deep.RegionHeld3
/-
  l2cmp of the specification at every depth: the order of two values that may be.
-/
namespace Go.Proofs.YtngjhimieacjhaaGreatDoor
open Go.RowKit
set_option linter.unusedVariables false
set_option linter.unusedSimpArgs false

theorem seg_of_TS {R : Nat → Prop} {w : World} {a : Option Addr} {n c : Nat} {xs : List Int} (h : TSeg R w (.slice a n c) xs) : Seg w a xs ∧ n = xs.length := by
  obtain ⟨a', c', e, hs, _⟩ := h
  simp at e
  exact ⟨e.1 ▸ hs, e.2.1⟩

theorem LSeg.nth {R : Nat → Prop} {w : World} {d : Nat} {a : Option Addr} {n cap : Nat} {l : List (Vl d)} (h : LSeg R w d (.slice a n cap) l) {k : Nat} (hk : k < l.length) :
    ∃ b off c0 c1 c2 c3 c4, a = some ⟨b, off, none⟩ ∧ R b ∧ Five w b (off + k * 5) (c0, c1, c2, c3, c4) ∧ VSeg R w d (c0, c1, c2, c3, c4) (l[k]) := by
  obtain ⟨a', cap', g1, _, _, _, g5⟩ := h
  simp only [Value.slice.injEq] at g1
  obtain ⟨rfl, _, _⟩ := g1
  rcases g5 with e | ⟨b, off, hb, hR, hc⟩
  · rw [e] at hk; simp at hk
  · obtain ⟨⟨c0, c1, c2, c3, c4⟩, he, hv⟩ := hc k hk
    exact ⟨b, off, c0, c1, c2, c3, c4, hb, hR, he, hv⟩

/-- The contract of l2cmp at depth d. -/
def L2cmpAt (d : Nat) : Prop := ∀ (N : Nat) (c c' : Value × Value × Value × Value × Value) (a b : Vl d) (deep deep' : Nat) (w : World), VSeg (fun b => b < N) w d c a → VSeg (fun b => b < N) w d c' b → N ≤ w.heap.size → goodB d a deep = true → goodB d b deep' = true →
  Calls Tryz.prog 35 #[.agg #[c.1, c.2.1, c.2.2.1, c.2.2.2.1, c.2.2.2.2], .agg #[c'.1, c'.2.1, c'.2.2.1, c'.2.2.2.1, c'.2.2.2.2]] w fun e w' => e = .returned (.int .i64 (cmpV d a b)) ∧ Below w.heap.size w w'

theorem good_keys {d : Nat} {vk vn : Int} {vs : List Int} {vK : List (List Int)} {vL : List (Vl d)} {deep : Nat} (h : goodB (d + 1) (vk, vn, vs, vK, vL) deep = true) (h5 : vk = 5) : vK.length = vL.length := by
  have hs := ((good_succ _ _ _ _ _ _ _).1 h).2.1
  subst h5
  unfold shapeB at hs
  simp at hs
  exact hs.2.1

set_option maxHeartbeats 6400000 in
theorem l2cmp_succ (d : Nat) (ih : L2cmpAt d) : L2cmpAt (d + 1) := by
  intro N c c' a b deep deep' w ha hb hN ga gb
  obtain ⟨c0, c1, c2, c3, c4⟩ := c
  obtain ⟨e0, e1, e2, e3, e4⟩ := c'
  obtain ⟨ak, an, aS, aK, aL⟩ := a
  obtain ⟨bk, bn, bS, bK, bL⟩ := b
  have gka := fun h => good_keys ga h
  have gkb := fun h => good_keys gb h
  have gpa := ((good_succ _ _ _ _ _ _ _).1 ga).2.2
  have gpb := ((good_succ _ _ _ _ _ _ _).1 gb).2.2
  obtain ⟨h0, h1, ht, hk, hl⟩ := (VSeg_succ _ _ _ _ _).1 ha
  obtain ⟨f0, f1, ht', hk', hl'⟩ := (VSeg_succ _ _ _ _ _).1 hb
  simp only at h0 h1 ht hk hl f0 f1 ht' hk' hl'
  subst h0
  subst h1
  subst f0
  subst f1
  simp only
  have Hag : Hid (∀ wx, Below w.heap.size w wx → Agree (fun b => b < N) w wx) := fun wx hb => agree_below (hb.mono hN)
  have Ht : Hid (∀ wx, Below w.heap.size w wx → TSeg (fun b => b < N) wx c2 aS ∧ TSeg (fun b => b < N) wx e2 bS) := fun wx hb => ⟨ht.agree (Hag.out wx hb), ht'.agree (Hag.out wx hb)⟩
  have Hk : Hid (∀ wx, Below w.heap.size w wx → KSeg (fun b => b < N) wx c3 aK ∧ KSeg (fun b => b < N) wx e3 bK) := fun wx hb => ⟨hk.agree (Hag.out wx hb), hk'.agree (Hag.out wx hb)⟩
  have Hl : Hid (∀ wx, Below w.heap.size w wx → LSeg (fun b => b < N) wx d c4 aL ∧ LSeg (fun b => b < N) wx d e4 bL) := fun wx hb => ⟨hl.agree (Hag.out wx hb), hl'.agree (Hag.out wx hb)⟩
  obtain ⟨a2, p2, rfl, _, _, _, _⟩ := ht
  obtain ⟨a2', p2', rfl, _, _, _, _⟩ := ht'
  obtain ⟨a3, p3, rfl, _, hm3, _, _⟩ := hk
  obtain ⟨a3', p3', rfl, _, hm3', _, _⟩ := hk'
  obtain ⟨a4, p4, rfl, hc4, hm4, _, _⟩ := hl
  obtain ⟨a4', p4', rfl, hc4', hm4', _, _⟩ := hl'
  unfold maxLen at hm3 hm3' hm4 hm4'
  have HI := hide' ih
  have HGa := hide' gpa
  have HGb := hide' gpb
  have Hb2 : Hid (∀ o o' : Obj, Below w.heap.size w ((w.alloc o).alloc o')) := fun o o' => ((Below.refl _ _).alloc (Nat.le_refl _) o).alloc (by simp) o'
  have H2 := hide' (two_boxes w (.cells #[.int .i64 ak, .int .i64 an, .slice a2 aS.length p2, .slice a3 aK.length p3, .slice a4 aL.length p4] 49) (.cells #[.int .i64 bk, .int .i64 bn, .slice a2' bS.length p2', .slice a3' bK.length p3', .slice a4' bL.length p4'] 49))
  have Hz2 := hide' (size2 w (.cells #[.int .i64 ak, .int .i64 an, .slice a2 aS.length p2, .slice a3 aK.length p3, .slice a4 aL.length p4] 49) (.cells #[.int .i64 bk, .int .i64 bn, .slice a2' bS.length p2', .slice a3' bK.length p3', .slice a4' bL.length p4'] 49))
  clear ha hb ga gb gpa gpb ih Hag
  by_cases hkk : ak = bk
  · subst hkk
    by_cases h3 : ak = 3
    · have HO : Hid (cmpV (d + 1) (ak, an, aS, aK, aL) (ak, bn, bS, bK, bL) = bytesC aS bS) := cmpV_text rfl h3
      have hcall : Hid (∀ o o' : Obj, Calls Tryz.prog 54 #[.slice a2 aS.length p2, .slice a2' bS.length p2'] ((w.alloc o).alloc o') fun e w' => e = .returned (.int .i64 (bytesC aS bS)) ∧ (w.alloc o).alloc o' = w') := fun o o' =>
        l2bytes_any _ _ _ _ aS bS _ (seg_of_TS (Ht.out _ (Hb2.out o o')).1).1 (seg_of_TS (Ht.out _ (Hb2.out o o')).2).1
      subst h3
      clear Hk Hl Ht
      go_enter Tryz.func35, Tryz.ntmps35
      go_wp2_with fail
      refine (hcall.out _ _).mono ?_
      rintro e w1 ⟨rfl, e1⟩
      obtain rfl := e1
      go_wp2
      go_ret
      exact ⟨ret_i64 (by rw [HO.out]), Hb2.out _ _⟩
    · have h3' : (ak == 3) = false := by simp [h3]
      by_cases hnn : an = bn
      · subst hnn
        have HO : Hid (cmpV (d + 1) (ak, an, aS, aK, aL) (ak, an, bS, bK, bL) = cmpK (decide (ak = 5)) aK bK aL bL 0) := cmpV_parts rfl h3 rfl
        generalize hans : cmpV (d + 1) (ak, an, aS, aK, aL) (ak, an, bS, bK, bL) = ans at *
        clear hans Ht
        go_enter Tryz.func35, Tryz.ntmps35
        go_wp2
        go_loopw [5, 6, 7] (fun i _ _ wr => ∃ k : Nat, k ≤ aL.length ∧ k ≤ bL.length ∧ i = .int .i64 k ∧ ans = cmpK (decide (ak = 5)) aK bK aL bL k ∧ Below ((w.alloc (.cells #[.int .i64 ak, .int .i64 an, .slice a2 aS.length p2, .slice a3 aK.length p3, .slice a4 aL.length p4] 49)).alloc (.cells #[.int .i64 ak, .int .i64 an, .slice a2' bS.length p2', .slice a3' bK.length p3', .slice a4' bL.length p4'] 49)).heap.size ((w.alloc (.cells #[.int .i64 ak, .int .i64 an, .slice a2 aS.length p2, .slice a3 aK.length p3, .slice a4 aL.length p4] 49)).alloc (.cells #[.int .i64 ak, .int .i64 an, .slice a2' bS.length p2', .slice a3' bK.length p3', .slice a4' bL.length p4'] 49)) wr) (fun i _ _ _ => aL.length - (intOf i).toNat)
        case atStart => exact ⟨0, Nat.zero_le _, Nat.zero_le _, rfl, HO.out, Below.refl _ _⟩
        case round =>
          obtain ⟨k, hk, hk', rfl, hP, hbel⟩ := hrel
          have hsz2 := hbel.size
          have hzz := Hz2.out
          have hB := Below.on (Hb2.out _ _) hbel
          obtain ⟨x0, x1, x2, x3, x4, _⟩ := row5 ((hbel.block _ (by rw [hzz]; omega)).trans H2.out.1)
          obtain ⟨y0, y1, y2, y3, y4, _⟩ := row5 ((hbel.block _ (by rw [hzz]; omega)).trans H2.out.2)
          have HB := hide' hB
          have Hbel := hide' hbel
          have hNr : N ≤ wr.heap.size := by have := hB.size; omega
          by_cases hlt : k < aL.length
          · have hlt' : (k : Int) < (aL.length : Int) := by omega
            by_cases hlt2 : k < bL.length
            · have hlt2' : (k : Int) < (bL.length : Int) := by omega
              obtain ⟨ba, oa, d0, d1, d2, d3, d4, rfl, _, q5, hva⟩ := (Hl.out wr hB).1.nth hlt
              obtain ⟨bb, ob, g0, g1, g2, g3, g4, rfl, _, r5, hvb⟩ := (Hl.out wr hB).2.nth hlt2
              obtain ⟨q0, q1, q2, q3, q4⟩ := q5
              obtain ⟨r0, r1, r2, r3, r4⟩ := r5
              simp only at q0 q1 q2 q3 q4 r0 r1 r2 r3 r4
              rw [cmpK_step hlt hlt2] at hP
              have HE : Hid (∀ wx, Below wr.heap.size wr wx → Calls Tryz.prog 35 #[.agg #[d0, d1, d2, d3, d4], .agg #[g0, g1, g2, g3, g4]] wx fun e w' => e = .returned (.int .i64 (cmpV d aL[k] bL[k])) ∧ Below wx.heap.size wx w') := fun wx hx =>
                HI.out N (d0, d1, d2, d3, d4) (g0, g1, g2, g3, g4) aL[k] bL[k] (deep + 1) (deep' + 1) wx (VSeg.agree (agree_below (hx.mono hNr)) d hva) (VSeg.agree (agree_below (hx.mono hNr)) d hvb) (by have := hx.size; omega) (HGa.out k hlt) (HGb.out k hlt2)
              have HP := hide' hP
              by_cases h5 : ak = 5
              · have hka := gka h5
                have hkb := gkb h5
                obtain ⟨kb, ko, rfl, hk3⟩ := (Hk.out wr hB).1.at (k := k) (by omega)
                obtain ⟨kb', ko', rfl, hk3'⟩ := (Hk.out wr hB).2.at (k := k) (by omega)
                obtain ⟨s3, z3, hu3, gs3, _⟩ := hk3 k (by omega)
                obtain ⟨s3', z3', hu3', gs3', _⟩ := hk3' k (by omega)
                have hkl' : (k : Int) < (aK.length : Int) := by omega
                have hkl2' : (k : Int) < (bK.length : Int) := by omega
                have HBy : Hid (∀ n, Calls Tryz.prog 54 #[.slice s3 (aK.getD k []).length z3, .slice s3' (bK.getD k []).length z3'] (wr.drewN n) fun e w' => e = .returned (.int .i64 (bytesC (aK.getD k []) (bK.getD k []))) ∧ wr.drewN n = w') := fun n => l2bytes_any _ _ _ _ _ _ (wr.drewN n) gs3 gs3'
                clear hva hvb hP gka gkb gs3 gs3' hk3 hk3' hka hkb
                generalize cmpV d aL[k] bL[k] = cv at *
                generalize bytesC (aK.getD k []) (bK.getD k []) = bc at *
                generalize (aK.getD k []).length = nk at *
                generalize (bK.getD k []).length = nk' at *
                by_cases hbc : bc = 0
                · have HBy1 := hide' (HBy.out 1)
                  have Hbc : Hid ((bc != 0) = false) := by show (bc != 0) = false; simp [hbc]
                  by_cases hc0 : cv = 0
                  · subst hc0
                    have HP' : Hid (ans = cmpK (decide (ak = 5)) aK bK aL bL (k + 1)) := by show ans = _; rw [HP.out]; simp [hbc]
                    subst h5
                    clear HP hB hbel hbc
                    go_wp2_with fail
                    go_region_held3 (fun wx => wx.cell? ⟨w.heap.size, 3, none⟩ = some (.slice (some ⟨kb, ko, none⟩) aK.length p3) ∧ wx.cell? ⟨kb, ko + k, none⟩ = some (.slice s3 nk z3) ∧ wx.cell? ⟨w.heap.size + 1, 3, none⟩ = some (.slice (some ⟨kb', ko', none⟩) bK.length p3') ∧ wx.cell? ⟨kb', ko' + k, none⟩ = some (.slice s3' nk' z3')) (go_keep) (first
                      | (go_at_call 54; refine HBy1.out.mono ?_; rintro e w0 ⟨rfl, e0⟩; obtain rfl := e0))
                    have hbc' := Hbc.out
                    go_wp2_with fail
                    go_region_with (go_at_call 35; refine (HE.out _ (Below.refl _ _).drew.drew).mono ?_; rintro e w1 ⟨rfl, b1⟩)
                    all_goals
                      have B1 := Below.on Hbel.out.drew.drew b1
                      clear x0 x1 x2 x3 x4 y0 y1 y2 y3 y4 q0 q1 q2 q3 q4 r0 r1 r2 r3 r4 hu3 hu3'
                      go_wp2
                      go_roundw
                      case rel => exact ⟨k + 1, by omega, by omega, by go_num, HP'.out, B1⟩
                      case measure => simp [intOf]; omega
                  · have HP' : Hid (ans = cv) := by show ans = _; rw [HP.out]; simp [hc0, hbc]
                    have hc0' : (cv != 0) = true := by simp [hc0]
                    subst h5
                    clear HP hB hbel hbc
                    go_wp2_with fail
                    go_region_held3 (fun wx => wx.cell? ⟨w.heap.size, 3, none⟩ = some (.slice (some ⟨kb, ko, none⟩) aK.length p3) ∧ wx.cell? ⟨kb, ko + k, none⟩ = some (.slice s3 nk z3) ∧ wx.cell? ⟨w.heap.size + 1, 3, none⟩ = some (.slice (some ⟨kb', ko', none⟩) bK.length p3') ∧ wx.cell? ⟨kb', ko' + k, none⟩ = some (.slice s3' nk' z3')) (go_keep) (first
                      | (go_at_call 54; refine HBy1.out.mono ?_; rintro e w0 ⟨rfl, e0⟩; obtain rfl := e0))
                    have hbc' := Hbc.out
                    go_wp2_with fail
                    go_region_with (go_at_call 35; refine (HE.out _ (Below.refl _ _).drew.drew).mono ?_; rintro e w1 ⟨rfl, b1⟩)
                    all_goals
                      have B1 := Below.on HB.out.drew.drew b1
                      clear x0 x1 x2 x3 x4 y0 y1 y2 y3 y4 q0 q1 q2 q3 q4 r0 r1 r2 r3 r4 hu3 hu3'
                      go_wp2
                      go_ret
                      exact ⟨ret_i64 (by rw [HP'.out]), B1⟩
                · have HBy1 := hide' (HBy.out 1)
                  have HP' : Hid (ans = bc) := by show ans = _; rw [HP.out]; simp [h5, hbc]
                  have hbc' : (bc != 0) = true := by simp [hbc]
                  subst h5
                  clear HP hB hbel
                  go_wp2_with fail
                  go_region_held3 (fun wx => wx.cell? ⟨w.heap.size, 3, none⟩ = some (.slice (some ⟨kb, ko, none⟩) aK.length p3) ∧ wx.cell? ⟨kb, ko + k, none⟩ = some (.slice s3 nk z3) ∧ wx.cell? ⟨w.heap.size + 1, 3, none⟩ = some (.slice (some ⟨kb', ko', none⟩) bK.length p3') ∧ wx.cell? ⟨kb', ko' + k, none⟩ = some (.slice s3' nk' z3')) (go_keep) (first
                    | (go_at_call 54; refine HBy1.out.mono ?_; rintro e w0 ⟨rfl, e0⟩; obtain rfl := e0))
                  go_wp2
                  go_ret
                  exact ⟨ret_i64 (by rw [HP'.out]), HB.out.drew⟩
              · have h5' : (ak == 5) = false := by simp [h5]
                clear hva hvb hP gka gkb
                generalize cmpV d aL[k] bL[k] = cv at *
                by_cases hc0 : cv = 0
                · subst hc0
                  have HP' : Hid (ans = cmpK (decide (ak = 5)) aK bK aL bL (k + 1)) := by show ans = _; rw [HP.out]; simp [h5]
                  have hE := hide' (HE.out wr.drew (Below.refl wr.heap.size wr).drew)
                  clear HP HE hB hbel
                  go_wp2_with fail
                  go_region_with (go_at_call 35; refine hE.out.mono ?_; rintro e w1 ⟨rfl, b1⟩)
                  all_goals
                    have B1 := Below.on Hbel.out.drew b1
                    clear x0 x1 x2 x3 x4 y0 y1 y2 y3 y4 q0 q1 q2 q3 q4 r0 r1 r2 r3 r4
                    go_wp2
                    go_roundw
                    case rel => exact ⟨k + 1, by omega, by omega, by go_num, HP'.out, B1⟩
                    case measure => simp [intOf]; omega
                · have HP' : Hid (ans = cv) := by show ans = _; rw [HP.out]; simp [h5, hc0]
                  have hc0' : (cv != 0) = true := by simp [hc0]
                  have hE := hide' (HE.out wr.drew (Below.refl wr.heap.size wr).drew)
                  clear HP HE hB hbel
                  go_wp2_with fail
                  go_region_with (go_at_call 35; refine hE.out.mono ?_; rintro e w1 ⟨rfl, b1⟩)
                  all_goals
                    have B1 := Below.on HB.out.drew b1
                    clear x0 x1 x2 x3 x4 y0 y1 y2 y3 y4 q0 q1 q2 q3 q4 r0 r1 r2 r3 r4
                    go_wp2
                    go_ret
                    exact ⟨ret_i64 (by rw [HP'.out]), B1⟩
            · have hlt2' : ¬ (k : Int) < (bL.length : Int) := by omega
              rw [cmpK_end1 hlt hlt2] at hP
              have HP := hide' hP
              have Hn : Hid (numC (aL.length : Int) (bL.length : Int) = 1) := numC_gt (by omega)
              clear hP hB hbel
              go_wp2_with fail
              refine (l2num_any _ _ _).mono ?_
              rintro e w1 ⟨rfl, e1⟩
              obtain rfl := e1
              go_wp2
              go_ret
              exact ⟨ret_i64 (by rw [HP.out, Hn.out]), HB.out⟩
          · have hlt' : ¬ (k : Int) < (aL.length : Int) := by omega
            by_cases hlt2 : k < bL.length
            · rw [cmpK_end2 hlt hlt2] at hP
              have HP := hide' hP
              have Hn : Hid (numC (aL.length : Int) (bL.length : Int) = -1) := numC_lt (by omega)
              clear hP hB hbel
              go_wp2_with fail
              refine (l2num_any _ _ _).mono ?_
              rintro e w1 ⟨rfl, e1⟩
              obtain rfl := e1
              go_wp2
              go_ret
              exact ⟨ret_i64 (by rw [HP.out, Hn.out]), HB.out⟩
            · rw [cmpK_end3 hlt hlt2] at hP
              have HP := hide' hP
              have Hn : Hid (numC (aL.length : Int) (bL.length : Int) = 0) := by
                show numC (aL.length : Int) (bL.length : Int) = 0
                have : (aL.length : Int) = (bL.length : Int) := by omega
                rw [this]
                exact numC_eq _
              clear hP hB hbel
              go_wp2_with fail
              refine (l2num_any _ _ _).mono ?_
              rintro e w1 ⟨rfl, e1⟩
              obtain rfl := e1
              go_wp2
              go_ret
              exact ⟨ret_i64 (by rw [HP.out, Hn.out]), HB.out⟩
      · have HO : Hid (cmpV (d + 1) (ak, an, aS, aK, aL) (ak, bn, bS, bK, bL) = numC an bn) := cmpV_num rfl h3 hnn
        have hnn' : (an != bn) = true := by simp [hnn]
        clear Hk Hl Ht
        go_enter Tryz.func35, Tryz.ntmps35
        go_wp2_with fail
        refine (l2num_any an bn _).mono ?_
        rintro e w1 ⟨rfl, e1⟩
        obtain rfl := e1
        go_wp2
        go_ret
        exact ⟨ret_i64 (by rw [HO.out]), Hb2.out _ _⟩
  · have HO : Hid (cmpV (d + 1) (ak, an, aS, aK, aL) (bk, bn, bS, bK, bL) = numC ak bk) := cmpV_kind hkk
    have hkk' : (ak != bk) = true := by simp [hkk]
    clear Hk Hl Ht
    go_enter Tryz.func35, Tryz.ntmps35
    go_wp2_with fail
    refine (l2num_any ak bk _).mono ?_
    rintro e w1 ⟨rfl, e1⟩
    obtain rfl := e1
    go_wp2
    go_ret
    exact ⟨ret_i64 (by rw [HO.out]), Hb2.out _ _⟩

theorem l2cmp_any (d : Nat) : L2cmpAt d := by
  induction d with
  | zero => intro N c c' a b deep deep' w hv; exact hv.elim
  | succ d ih => exact l2cmp_succ d ih
end Go.Proofs.YtngjhimieacjhaaGreatDoor
