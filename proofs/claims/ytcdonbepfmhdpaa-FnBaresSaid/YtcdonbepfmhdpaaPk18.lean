/-
  Texts that a law leans on, one behind the other; no statement is proved here.
-/
import Derived.Test.YtcdonbepfmhdpaaPk9
import Derived.Test.YtcdonbepfmhdpaaPk10
import Derived.Test.YtcdonbepfmhdpaaPk13
import Derived.Test.YtcdonbepfmhdpaaPk17
import Derived.Test.YtcdonbepfmhdpaaPk5
import Derived.Test.YtcdonbepfmhdpaaPk15
import Derived.BigQuiet
/-
  The walk of FnBares.
-/
namespace Go.Proofs.Ytcdonbepfmhdpaa
open Go.RowKit
set_option linter.unusedVariables false
set_option linter.unusedSimpArgs false

theorem eseg_newB (w : World) (ef et : Int) : ESeg (fun b => b < w.heap.size + 1) (w.alloc (.cells #[.int .i64 ef, .int .i64 et] 36)) (.slice (some ⟨w.heap.size, 0, none⟩) 1 1) [(ef, et)] := by
  obtain ⟨h0, h1, -⟩ := row2 (MapKept.heap_alloc w (.cells #[.int .i64 ef, .int .i64 et] 36)).1
  refine ⟨_, 1, rfl, by simp, by unfold maxLen; omega, by simp, .inr ⟨w.heap.size, 0, rfl, Nat.lt_succ_self _, fun i hi => ?_⟩⟩
  have : i = 0 := by simp at hi; omega
  subst this
  exact ⟨h0, h1⟩
theorem leads_one (w : World) : Calls Try.prog 17 #[.agg #[.int .i64 2, .slice (some ⟨w.heap.size, 0, none⟩) 1 1], .int .i64 0, .int .i64 1] (w.alloc (.cells #[.int .i64 0, .int .i64 1] 36)) fun e w' => e = .returned (.bool true) ∧ Below w.heap.size w w' := by
  refine (impl_Leads_any (w.heap.size + 1) 2 _ [(0, 1)] 0 1 _ (eseg_newB w 0 1) (by simp)).mono ?_
  rintro e w' ⟨rfl, hb⟩
  have e1 : leadsB 2 [(0, 1)] 0 1 = true := by decide +kernel
  rw [e1]
  exact ⟨rfl, Below.on ((Below.refl _ _).alloc (Nat.le_refl _) _) hb⟩

set_option maxHeartbeats 6400000 in
set_option maxRecDepth 100000 in
theorem walk_FnBares (a : Option Addr) (cap : Nat) (xs : List Int) (w : World) (ha : Seg w a xs) (hl : xs.length ≤ maxLen) :
    Calls Try.prog 5 #[.slice a xs.length cap] w fun e w' => e = .returned (.bool true) ∧ Below w.heap.size w w' := by
  have HDr := hide' (DrawBare_any a cap xs w ha hl)
  clear ha
  generalize hlen : xs.length = len at *
  clear hlen hl
  go_enter Try.func5, Try.ntmps5
  go_wp2_with fail
  refine HDr.out.mono ?_
  rintro e w1 ⟨n, u, E, rfl, hn0, hn1, hE15, hEo, hb1⟩
  obtain ⟨ua, uc, hu⟩ := hEo.form
  subst hu
  have hA1 := (Below.refl w1.heap.size w1).alloc (Nat.le_refl _) (.cells #[.int .i64 n, .slice ua E.length uc] 25)
  have HX1 := hide' (hEo.read.agree (agree_below hA1))
  have HBr := hide' (impl_Bare_any w1.heap.size n _ E _ HX1.out (by simp))
  have HB0 := hide' (Below.on hb1 hA1)
  have hbx := (MapKept.heap_alloc w1 (.cells #[.int .i64 n, .slice ua E.length uc] 25)).1
  have Hbx := hide' hbx
  clear hEo hb1 hA1 hbx HDr
  go_wp2_with fail
  refine HBr.out.mono ?_
  rintro e w2 ⟨r, rfl, hrO, hb2⟩
  obtain ⟨ta, tc, hr⟩ := hrO.form
  subst hr
  have hsz2 : w1.heap.size + 1 ≤ w2.heap.size := by have := hb2.size; simpa using this
  have hA2 := (Below.refl w2.heap.size w2).alloc (Nat.le_refl _) (.cells #[.int .i64 (bareN n E), .slice ta (bareA n E).length tc] 25)
  have HX2 := hide' (((HX1.out.agree (agree_below (hb2.mono (by simp)))).agree (agree_below (hA2.mono (by omega)))).mono (R' := fun b => b < w2.heap.size + 1) fun b hb => by omega)
  have HT2 := hide' ((hrO.read.agree (agree_below hA2)).mono (R' := fun b => b < w2.heap.size + 1) fun b hb => by omega)
  have Hbx2 := hide' ((hA2.block w1.heap.size (by omega)).trans ((hb2.block w1.heap.size (by simp)).trans Hbx.out))
  have Htb2 := hide' (MapKept.heap_alloc w2 (.cells #[.int .i64 (bareN n E), .slice ta (bareA n E).length tc] 25)).1
  have HB2 := hide' (Below.on (Below.on HB0.out hb2) hA2)
  obtain ⟨b0, b1, -⟩ := row2 Hbx2.out
  obtain ⟨t0, t1, -⟩ := row2 Htb2.out
  have hw4s : (w2.alloc (.cells #[.int .i64 (bareN n E), .slice ta (bareA n E).length tc] 25)).heap.size = w2.heap.size + 1 := by simp
  clear HBr HX1 Hbx HB0 hrO hb2 hA2
  cases hob : ordB n E with
  | false =>
    have hbn : bareN n E = 0 := by unfold bareN; rw [if_neg (by rw [hob]; simp)]
    have HO : Hid (Calls Try.prog 7 #[.agg #[.int .i64 n, .slice ua E.length uc]] (w2.alloc (.cells #[.int .i64 (bareN n E), .slice ta (bareA n E).length tc] 25)) fun e w' => ∃ sa sl sc, e = .returned (.tuple #[.slice sa sl sc, .bool false]) ∧ Below (w2.heap.size + 1) (w2.alloc (.cells #[.int .i64 (bareN n E), .slice ta (bareA n E).length tc] 25)) w') := by
      refine (impl_Order_any (w2.heap.size + 1) n _ E _ HX2.out (by simp)).mono ?_
      rintro e w' ⟨s, rfl, hs, hb⟩
      rw [hob]
      obtain ⟨sa, sc, rfl⟩ := hs.form
      exact ⟨sa, _, sc, rfl, by simpa using hb⟩
    rw [hbn] at HO HB2 t0 t1 Htb2 b0 b1 ⊢
    clear HX2 HT2 hw4s hob hbn
    go_wp2_with fail
    refine HO.out.mono ?_
    rintro e w5 ⟨sa, sl, sc, rfl, hb5⟩
    have HB5 := hide' (HB2.out.trans (hb5.mono (by have := HB2.out.size; simpa using this)))
    have t5 := (hb5.cell (p := ⟨w2.heap.size, 0, none⟩) (by show w2.heap.size < w2.heap.size + 1; omega)).trans t0
    have HL := hide' (leads_one w5)
    clear hb5 HB2 HO t0 t1 b0 b1 Hbx2 Htb2
    go_wp2_with fail
    refine HL.out.mono ?_
    rintro e w6 ⟨rfl, hb6⟩
    have HB6 := hide' (Below.on HB5.out hb6)
    clear hb6 HB5 HL
    go_wp2
    go_ret
    exact ⟨rfl, HB6.out⟩
  | true =>
    have hgb : gB n E = true := by
      unfold ordB at hob
      rw [Bool.and_eq_true] at hob
      exact hob.1
    obtain ⟨m, rfl, hm20, hE400, hInG⟩ := gB_nat hgb
    have hbn : bareN (m : Int) E = (m : Int) := by unfold bareN; rw [if_pos hob]
    have hba : bareA (m : Int) E = bareF m E E.length := by unfold bareA; rw [if_pos hob, Int.toNat_natCast]
    obtain ⟨hgB, hoB, hbB, hiB⟩ := bare_facts hgb hInG hm20 hE400 hob
    have HLS := hide' (leads_same hgb hInG hm20 hE400 hob)
    have hle : (bareF m E E.length).length ≤ E.length := bareF_len m E E.length
    rw [hbn, hba] at HX2 HT2 HB2 t0 t1 Htb2 Hbx2 b0 b1 hw4s
    rw [hbn, hba]
    have HBB : Hid (∀ (N : Nat) (x : Value) (wx : World), ESeg (fun b => b < N) wx x (bareF m E E.length) → N ≤ wx.heap.size → Calls Try.prog 16 #[.agg #[.int .i64 (m : Int), x]] wx (GrEnd (m : Int) (bareF m E E.length) true wx)) := fun N x wx hx hN => by
      have := impl_Bare_any N (m : Int) x (bareF m E E.length) wx hx hN
      have e1 : bareN (m : Int) (bareF m E E.length) = (m : Int) := by unfold bareN; rw [if_pos hoB]
      have e2 : bareA (m : Int) (bareF m E E.length) = bareF m E E.length := by unfold bareA; rw [if_pos hoB, Int.toNat_natCast]; exact hbB
      rw [e1, e2, hoB] at this
      exact this
    have HGB : Hid (∀ (N : Nat) (x : Value) (wx : World), ESeg (fun b => b < N) wx x (bareF m E E.length) → N ≤ wx.heap.size → Calls Try.prog 9 #[.agg #[.int .i64 (m : Int), x]] wx fun e w' => e = .returned (.bool true) ∧ Below wx.heap.size wx w') := fun N x wx hx hN => by
      have := impl_GraphOk_any N (m : Int) x (bareF m E E.length) wx hx hN
      rw [hgB] at this
      exact this
    clear hgB hoB hbB hiB hgb hbn hba hInG hob
    generalize bareF m E E.length = B at *
    go_wp2_with fail
    generalize hw4 : w2.alloc (.cells #[.int .i64 (m : Int), .slice ta B.length tc] 25) = w4 at *
    generalize hBx : w1.heap.size = Bx at *
    generalize hTb : w2.heap.size = Tb at *
    rw [← hw4s] at HX2 HT2
    have hBx4 : Bx < w4.heap.size := by omega
    have hTb4 : Tb < w4.heap.size := by omega
    clear hw4 hBx hTb Hbx2 Htb2 hw4s hsz2
    have HCg : Hid (∀ (p q : Int) (wx : World), (fun wx => wx.cell? ⟨Bx, 0, none⟩ = some (.int .i64 (m : Int)) ∧ wx.cell? ⟨Bx, 1, none⟩ = some (.slice ua E.length uc) ∧ wx.cell? ⟨Tb, 0, none⟩ = some (.int .i64 (m : Int)) ∧ wx.cell? ⟨Tb, 1, none⟩ = some (.slice ta B.length tc) ∧ Hid (Below w4.heap.size w4 wx)) wx → Calls Try.prog 17 #[.agg #[.int .i64 (m : Int), .slice ua E.length uc], .int .i64 p, .int .i64 q] wx fun e w' => e = .returned (.bool (leadsB (m : Int) B p q)) ∧ (fun wx => wx.cell? ⟨Bx, 0, none⟩ = some (.int .i64 (m : Int)) ∧ wx.cell? ⟨Bx, 1, none⟩ = some (.slice ua E.length uc) ∧ wx.cell? ⟨Tb, 0, none⟩ = some (.int .i64 (m : Int)) ∧ wx.cell? ⟨Tb, 1, none⟩ = some (.slice ta B.length tc) ∧ Hid (Below w4.heap.size w4 wx)) w') := by
      rintro p q wx ⟨s0, s1, s2, s3, s4⟩
      refine (impl_Leads_any w4.heap.size (m : Int) _ E p q wx (HX2.out.agree (agree_below s4.out)) s4.out.size).mono ?_
      rintro e w' ⟨rfl, hb⟩
      rw [HLS.out p q]
      exact ⟨rfl, cell_kept hb s0, cell_kept hb s1, cell_kept hb s2, cell_kept hb s3, Below.on s4.out hb⟩
    have HCb : Hid (∀ (p q : Int) (wx : World), (fun wx => wx.cell? ⟨Bx, 0, none⟩ = some (.int .i64 (m : Int)) ∧ wx.cell? ⟨Bx, 1, none⟩ = some (.slice ua E.length uc) ∧ wx.cell? ⟨Tb, 0, none⟩ = some (.int .i64 (m : Int)) ∧ wx.cell? ⟨Tb, 1, none⟩ = some (.slice ta B.length tc) ∧ Hid (Below w4.heap.size w4 wx)) wx → Calls Try.prog 17 #[.agg #[.int .i64 (m : Int), .slice ta B.length tc], .int .i64 p, .int .i64 q] wx fun e w' => e = .returned (.bool (leadsB (m : Int) B p q)) ∧ (fun wx => wx.cell? ⟨Bx, 0, none⟩ = some (.int .i64 (m : Int)) ∧ wx.cell? ⟨Bx, 1, none⟩ = some (.slice ua E.length uc) ∧ wx.cell? ⟨Tb, 0, none⟩ = some (.int .i64 (m : Int)) ∧ wx.cell? ⟨Tb, 1, none⟩ = some (.slice ta B.length tc) ∧ Hid (Below w4.heap.size w4 wx)) w') := by
      rintro p q wx ⟨s0, s1, s2, s3, s4⟩
      refine (impl_Leads_any w4.heap.size (m : Int) _ B p q wx (HT2.out.agree (agree_below s4.out)) s4.out.size).mono ?_
      rintro e w' ⟨rfl, hb⟩
      exact ⟨rfl, cell_kept hb s0, cell_kept hb s1, cell_kept hb s2, cell_kept hb s3, Below.on s4.out hb⟩
    have hS0 : Hid (Below w4.heap.size w4 w4) := Below.refl _ _
    go_loopw [8, 9] (fun i _ wr => ∃ k : Nat, i = .int .i64 k ∧ k ≤ m ∧ Hid (Below w4.heap.size w4 wr)) (fun i _ _ => m - (intOf i).toNat)
    case atStart => exact ⟨0, rfl, Nat.zero_le _, hS0⟩
    case round =>
      clear hS0
      obtain ⟨k, rfl, hk, hS⟩ := hrel
      have d0 := (hS.out.cell (p := ⟨Bx, 0, none⟩) hBx4).trans b0
      have d1 := (hS.out.cell (p := ⟨Bx, 1, none⟩) hBx4).trans b1
      have d2 := (hS.out.cell (p := ⟨Tb, 0, none⟩) hTb4).trans t0
      have d3 := (hS.out.cell (p := ⟨Tb, 1, none⟩) hTb4).trans t1
      by_cases hlt : k < m
      · have hlt' : (k : Int) < (m : Int) := by omega
        have hS1 := hS
        clear hS d1 d2 d3
        go_wp2_with fail
        go_loopw [9] (fun j wt => ∃ i : Nat, j = .int .i64 i ∧ i ≤ m ∧ Hid (Below w4.heap.size w4 wt)) (fun j _ => m - (intOf j).toNat)
        case atStart => exact ⟨0, rfl, Nat.zero_le _, hS1⟩
        case round =>
        clear hS1 d0
        obtain ⟨i, rfl, hi, hS⟩ := hrel
        have d0 := (hS.out.cell (p := ⟨Bx, 0, none⟩) hBx4).trans b0
        have d1 := (hS.out.cell (p := ⟨Bx, 1, none⟩) hBx4).trans b1
        have d2 := (hS.out.cell (p := ⟨Tb, 0, none⟩) hTb4).trans t0
        have d3 := (hS.out.cell (p := ⟨Tb, 1, none⟩) hTb4).trans t1
        by_cases hli : i < m
        · have hli' : (i : Int) < (m : Int) := by omega
          have HS4 : Hid (Hid (Below w4.heap.size w4 wr.drew)) := Below.on hS.out ((Below.refl _ _).drew)
          clear hS
          go_wp2_with fail
          refine wp_region_held_drew (S := (fun wx => wx.cell? ⟨Bx, 0, none⟩ = some (.int .i64 (m : Int)) ∧ wx.cell? ⟨Bx, 1, none⟩ = some (.slice ua E.length uc) ∧ wx.cell? ⟨Tb, 0, none⟩ = some (.int .i64 (m : Int)) ∧ wx.cell? ⟨Tb, 1, none⟩ = some (.slice ta B.length tc) ∧ Hid (Below w4.heap.size w4 wx))) (by kernel_rfl) ⟨d0, d1, d2, d3, HS4.out⟩ (fun hHeld => ?_)
          refine take_yes (i := 0) 51 (v := ?_) rfl rfl (by kernel_rfl) (by kernel_rfl) (by kernel_rfl) (fun _ _ _ h => h) (by kernel_rfl) hHeld ?_ ?_
          rotate_left
          focus (intro w hSw; (try dsimp only at hSw); go_simp; (try with_reducible rfl))
          simp only [Act.put, List.setIfInBounds_toArray, List.set_cons_zero, List.set_cons_succ]
          refine take_yes (i := 1) 52 (v := ?_) rfl rfl (by kernel_rfl) (by kernel_rfl) (by kernel_rfl) (fun _ _ _ h => h) (by kernel_rfl) hHeld ?_ ?_
          rotate_left
          focus (intro w hSw; (try dsimp only at hSw); go_simp; (try with_reducible rfl))
          simp only [Act.put, List.setIfInBounds_toArray, List.set_cons_zero, List.set_cons_succ]
          refine take_yes (i := 2) 53 (v := ?_) rfl rfl (by kernel_rfl) (by kernel_rfl) (by kernel_rfl) (fun _ _ _ h => h) (by kernel_rfl) hHeld ?_ ?_
          rotate_left
          focus (intro w hSw; (try dsimp only at hSw); go_simp; (try with_reducible rfl))
          simp only [Act.put, List.setIfInBounds_toArray, List.set_cons_zero, List.set_cons_succ]
          refine take_yes (i := 4) 55 (v := ?_) rfl rfl (by kernel_rfl) (by kernel_rfl) (by kernel_rfl) (fun _ _ _ h => h) (by kernel_rfl) hHeld ?_ ?_
          rotate_left
          focus (intro w hSw; (try dsimp only at hSw); go_simp; (try with_reducible rfl))
          simp only [Act.put, List.setIfInBounds_toArray, List.set_cons_zero, List.set_cons_succ]
          refine take_yes (i := 5) 56 (v := ?_) rfl rfl (by kernel_rfl) (by kernel_rfl) (by kernel_rfl) (fun _ _ _ h => h) (by kernel_rfl) hHeld ?_ ?_
          rotate_left
          focus (intro w hSw; (try dsimp only at hSw); go_simp; (try with_reducible rfl))
          simp only [Act.put, List.setIfInBounds_toArray, List.set_cons_zero, List.set_cons_succ]
          refine take_yes (i := 6) 57 (v := ?_) rfl rfl (by kernel_rfl) (by kernel_rfl) (by kernel_rfl) (fun _ _ _ h => h) (by kernel_rfl) hHeld ?_ ?_
          rotate_left
          focus (intro w hSw; (try dsimp only at hSw); go_simp; (try with_reducible rfl))
          simp only [Act.put, List.setIfInBounds_toArray, List.set_cons_zero, List.set_cons_succ]
          refine wpAnyH_ready (rs := [3]) (by kernel_rfl) (by simp) ?_
          refine AllReadyH.cons rfl (fun K hK => ?_) AllReadyH.nil
          go_simp
          go_at_call 17
          refine (HCg.out _ _ _ hHeld).mono ?_
          rintro e w7 ⟨rfl, hS⟩
          go_wp2_with fail
          refine hK.out _ _ hS (fun hHeld => ?_)
          clear hK
          (try simp only [Act.put, List.setIfInBounds_toArray, List.set_cons_zero, List.set_cons_succ])
          refine wpAnyH_ready (rs := [7]) (by kernel_rfl) (by simp) ?_
          refine AllReadyH.cons rfl (fun K hK => ?_) AllReadyH.nil
          go_simp
          go_at_call 17
          refine (HCb.out _ _ _ hHeld).mono ?_
          rintro e w7 ⟨rfl, hS⟩
          go_wp2_with fail
          refine hK.out _ _ hS (fun hHeld => ?_)
          clear hK
          (try simp only [Act.put, List.setIfInBounds_toArray, List.set_cons_zero, List.set_cons_succ])
          refine take_yes (i := 8) 59 (v := ?_) rfl rfl (by kernel_rfl) (by kernel_rfl) (by kernel_rfl) (fun _ _ _ h => h) (by kernel_rfl) hHeld ?_ ?_
          rotate_left
          focus (intro w hSw; (try dsimp only at hSw); go_simp; (try with_reducible rfl))
          simp only [Act.put, List.setIfInBounds_toArray, List.set_cons_zero, List.set_cons_succ]
          refine wpAnyH_done (by kernel_rfl) ?_ _
          go_wp2
          go_roundw
          case rel => exact ⟨i + 1, by go_num, by omega, hHeld.2.2.2.2⟩
          case measure => simp [intOf]; omega
        · have hli' : ¬ (i : Int) < (m : Int) := by omega
          clear d1 d2 d3
          go_wp2
          go_roundw
          case rel => exact ⟨k + 1, by go_num, by omega, hS⟩
          case measure => simp [intOf]; omega
      · have hlt' : ¬ (k : Int) < (m : Int) := by omega
        have HBB2 := hide' (HBB.out w4.heap.size (.slice ta B.length tc) wr (HT2.out.agree (agree_below hS.out)) hS.out.size)
        clear d1
        go_wp2_with fail
        refine HBB2.out.mono ?_
        rintro e w5 ⟨v, rfl, hvO, hb5⟩
        obtain ⟨va, vc, hv⟩ := hvO.form
        subst hv
        have hA5 := (Below.refl w5.heap.size w5).alloc (Nat.le_refl _) (.cells #[.int .i64 (m : Int), .slice va B.length vc] 25)
        have hbb : Below w4.heap.size w4 (w5.alloc (.cells #[.int .i64 (m : Int), .slice va B.length vc] 25)) := Below.on (Below.on hS.out hb5) hA5
        have d0 := (hbb.cell (p := ⟨Bx, 0, none⟩) hBx4).trans b0
        have d1 := (hbb.cell (p := ⟨Bx, 1, none⟩) hBx4).trans b1
        have d2 := (hbb.cell (p := ⟨Tb, 0, none⟩) hTb4).trans t0
        have d3 := (hbb.cell (p := ⟨Tb, 1, none⟩) hTb4).trans t1
        obtain ⟨z0, z1, -⟩ := row2 (MapKept.heap_alloc w5 (.cells #[.int .i64 (m : Int), .slice va B.length vc] 25)).1
        have HGK := hide' (HGB.out w4.heap.size (.slice ta B.length tc) _ (HT2.out.agree (agree_below hbb)) hbb.size)
        have HBe := hide' (Below.on HB2.out hbb)
        have hle1 : (B.length : Int) ≤ (E.length : Int) := by omega
        have hle2 : decide (B.length ≤ E.length) = true := decide_eq_true hle
        have hle3 : decide ((B.length : Int) ≤ (E.length : Int)) = true := decide_eq_true hle1
        clear hS hvO hb5 hA5 HBB2 hbb
        go_wp2_with fail
        refine HGK.out.mono ?_
        rintro e w6 ⟨rfl, hb6⟩
        have HBf := hide' (Below.on HBe.out hb6)
        clear hb6 HGK HBe
        go_wp2
        go_ret
        exact ⟨rfl, HBf.out⟩
end Go.Proofs.Ytcdonbepfmhdpaa
