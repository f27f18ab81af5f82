/-
  Texts that a law leans on, one behind the other; no statement is proved here.
-/
import Derived.Test.YtdhlmcgbgdljmaaGreatDoorPk12
import Derived.Test.YtdhlmcgbgdljmaaGreatDoorPk13
import Derived.Test.YtdhlmcgbgdljmaaGreatDoorPk3
import Derived.Test.YtdhlmcgbgdljmaaGreatDoorPk14
import Derived.Test.YtdhlmcgbgdljmaaGreatDoorPk9
import Derived.Deep.MidRow
import Derived.Deep.RegionHeld3
import Derived.Test.YtdhlmcgbgdljmaaGreatDoorPk7
import Derived.Maps.Own
import Derived.Test.YtdhlmcgbgdljmaaGreatDoorPk8
/-
  ChangeText of the specification.
-/
namespace Go.Proofs.YtdhlmcgbgdljmaaGreatDoor
open Go.RowKit
set_option linter.unusedVariables false
set_option linter.unusedSimpArgs false

/-- One change in a row. -/
theorem one_row {w : World} {d N g : Nat} {cs : List Value} {x : Chg d} {R : Nat → Prop} (h : CSg R w d cs x) (hg : w.heap[g]? = some (.cells cs.toArray 37 (0, 0))) (hR : ∀ b, R b → b < N) (hgN : g < N) : CLSg (fun b => b < N) w d (.slice (some ⟨g, 0, none⟩) 1 1) [x] := by
  refine ⟨some ⟨g, 0, none⟩, 1, rfl, Nat.le_refl _, by unfold maxLen; omega, by simp, .inr ⟨g, 0, rfl, hgN, fun i hi => ?_⟩⟩
  have : i = 0 := by simp at hi; omega
  subst this
  refine ⟨cs, fun j v hj => ?_, h.mono hR⟩
  rw [cell_of_row w g _ _ _ _ hg]
  simpa using hj
theorem spec_one (d N g : Nat) (x : Chg d) (w : World) (h : CLSg (fun b => b < N) w d (.slice (some ⟨g, 0, none⟩) 1 1) [x]) (hN : N ≤ w.heap.size) : Calls Tryz.prog 15 #[.slice (some ⟨g, 0, none⟩) 1 1] w fun e w' => e = .returned (.bool (okC d x)) ∧ Below w.heap.size w w' := by
  have h1 := spec_ChangesOk_any d N (some ⟨g, 0, none⟩) 1 [x] w h hN (by simp)
  rw [chB_one] at h1
  exact h1

set_option maxHeartbeats 12800000 in
set_option maxRecDepth 100000 in
theorem spec_ChangeText_any (d N : Nat) (cs : List Value) (x : Chg d) (w : World) (h : CSg (fun b => b < N) w d cs x) (hN : N ≤ w.heap.size) :
    Calls Tryz.prog 5 #[.agg cs.toArray] w (SayEnd (chgT d x) w) := by
  obtain ⟨pa, pc, ok, on, o2, ol2, op2, o3, ol3, op3, o4, ol4, op4, nk, nn, n2, nl2, np2, n3, nl3, np3, n4, nl4, np4, rfl, hp, hv, hu⟩ := h.form
  obtain ⟨pth, had, old, has, new⟩ := x
  simp only at hp hv hu h ⊢
  have HA : Hid (∀ o : Obj, Below w.heap.size w (w.alloc o)) := fun o => (Below.refl _ _).alloc (Nat.le_refl _) o
  have HA2 : Hid (∀ o o' : Obj, Below w.heap.size w ((w.alloc o).alloc o')) := fun o o' => ((Below.refl _ _).alloc (Nat.le_refl _) o).alloc (by simp) o'
  have HC : Hid (∀ o : Obj, Calls Tryz.prog 15 #[.slice (some ⟨w.heap.size + 1, 0, none⟩) 1 1] ((w.alloc o).alloc (.cells #[.slice pa pth.length pc, .bool had, .int .i64 ok, .int .i64 on, .slice o2 ol2 op2, .slice o3 ol3 op3, .slice o4 ol4 op4, .bool has, .int .i64 nk, .int .i64 nn, .slice n2 nl2 np2, .slice n3 nl3 np3, .slice n4 nl4 np4] 37)) fun e w' => e = .returned (.bool (okC d (pth, had, old, has, new))) ∧ Below ((w.alloc o).alloc (.cells #[.slice pa pth.length pc, .bool had, .int .i64 ok, .int .i64 on, .slice o2 ol2 op2, .slice o3 ol3 op3, .slice o4 ol4 op4, .bool has, .int .i64 nk, .int .i64 nn, .slice n2 nl2 np2, .slice n3 nl3 np3, .slice n4 nl4 np4] 37)).heap.size ((w.alloc o).alloc (.cells #[.slice pa pth.length pc, .bool had, .int .i64 ok, .int .i64 on, .slice o2 ol2 op2, .slice o3 ol3 op3, .slice o4 ol4 op4, .bool has, .int .i64 nk, .int .i64 nn, .slice n2 nl2 np2, .slice n3 nl3 np3, .slice n4 nl4 np4] 37)) w') := fun o => by
    exact spec_one d _ (w.heap.size + 1) _ _ (one_row (h.agree (agree_below ((HA2.out o _).mono hN))) (two_boxes w o _).2 (fun b hb => by have : N ≤ w.heap.size := hN; simp; omega) (by simp)) (Nat.le_refl _)
  have Hbox : Hid (∀ o o' wx, Below ((w.alloc o).alloc o').heap.size ((w.alloc o).alloc o') wx → wx.heap[w.heap.size]? = some o) := fun o o' wx hb => (hb.block _ (by simp; omega)).trans (two_boxes w o o').1
  have hA : ∀ wx, Below w.heap.size w wx → Agree (fun b => b < N) w wx := fun wx hb => agree_below (hb.mono hN)
  cases hok : okC d (pth, had, old, has, new) with
  | false =>
    have HF := hide' (chgT_no hok)
    rw [hok] at HC
    clear hok hp hv hu h hA
    have hr := range_of_row (cs := [.slice pa pth.length pc, .bool had, .int .i64 ok, .int .i64 on, .slice o2 ol2 op2, .slice o3 ol3 op3, .slice o4 ol4 op4, .bool has, .int .i64 nk, .int .i64 nn, .slice n2 nl2 np2, .slice n3 nl3 np3, .slice n4 nl4 np4]) (MapKept.heap_alloc w (.cells #[.slice pa pth.length pc, .bool had, .int .i64 ok, .int .i64 on, .slice o2 ol2 op2, .slice o3 ol3 op3, .slice o4 ol4 op4, .bool has, .int .i64 nk, .int .i64 nn, .slice n2 nl2 np2, .slice n3 nl3 np3, .slice n4 nl4 np4] 37)).1
    generalize pth.length = pl at *
    go_enter Tryz.func5, Tryz.ntmps5
    go_wp2_with (refine wpList_load_mid rfl 37 (.tmp 1) (by rfl) w.heap.size 0 (by rfl) [.slice pa pl pc, .bool had, .int .i64 ok, .int .i64 on, .slice o2 ol2 op2, .slice o3 ol3 op3, .slice o4 ol4 op4, .bool has, .int .i64 nk, .int .i64 nn, .slice n2 nl2 np2, .slice n3 nl3 np3, .slice n4 nl4 np4] _ hr Tryz.underlying37 rfl (by kernel_rfl) ?_)
    refine (HC.out _).mono ?_
    rintro e w1 ⟨rfl, b1⟩
    have B1 := hide' (Below.on (HA2.out _ _) b1)
    clear b1 HC hr
    go_wp2
    go_ret
    rw [HF.out]
    exact ⟨none, 0, rfl, ⟨by simp, .inl rfl⟩, fun _ => rfl, by simp, B1.out⟩
  | true =>
    obtain ⟨hpB, hoB, hnB⟩ := okC_parts hok
    simp only at hpB hoB hnB
    have HTx0 := hide' (chgT_yes hok)
    simp only at HTx0
    rw [hok] at HC
    have HPt : Hid (∀ wx, Below w.heap.size w wx → Calls Tryz.prog 16 #[.slice pa pth.length pc] wx (PtEnd pth wx)) := fun wx hb => spec_l3text_any N _ pth wx (hp.agree (hA wx hb)) (by have := hb.size; omega) hpB
    have HSo : Hid (∀ wx, Below w.heap.size w wx → Calls Tryz.prog 17 #[.agg #[.int .i64 ok, .int .i64 on, .slice o2 ol2 op2, .slice o3 ol3 op3, .slice o4 ol4 op4]] wx (SayEnd (sayV d old) wx)) := fun wx hb => l2say_any d N (.int .i64 ok, .int .i64 on, .slice o2 ol2 op2, .slice o3 ol3 op3, .slice o4 ol4 op4) old 1 wx (VSeg.agree (hA wx hb) d hv) (by have := hb.size; omega) (ok_says hoB).1 (ok_says hoB).2
    have HSn : Hid (∀ wx, Below w.heap.size w wx → Calls Tryz.prog 17 #[.agg #[.int .i64 nk, .int .i64 nn, .slice n2 nl2 np2, .slice n3 nl3 np3, .slice n4 nl4 np4]] wx (SayEnd (sayV d new) wx)) := fun wx hb => l2say_any d N (.int .i64 nk, .int .i64 nn, .slice n2 nl2 np2, .slice n3 nl3 np3, .slice n4 nl4 np4) new 1 wx (VSeg.agree (hA wx hb) d hu) (by have := hb.size; omega) (ok_says hnB).1 (ok_says hnB).2
    have hsol := say_len hoB
    have hsnl := say_len hnB
    have hptl := pathT_len pth
    unfold PtEnd at HPt
    generalize chgT d (pth, had, old, has, new) = xs at *
    generalize sayV d old = so at *
    generalize sayV d new = sn at *
    generalize pathT pth = pt at *
    clear hok hp hv hu h hA hpB hoB hnB
    have hr := range_of_row (cs := [.slice pa pth.length pc, .bool had, .int .i64 ok, .int .i64 on, .slice o2 ol2 op2, .slice o3 ol3 op3, .slice o4 ol4 op4, .bool has, .int .i64 nk, .int .i64 nn, .slice n2 nl2 np2, .slice n3 nl3 np3, .slice n4 nl4 np4]) (MapKept.heap_alloc w (.cells #[.slice pa pth.length pc, .bool had, .int .i64 ok, .int .i64 on, .slice o2 ol2 op2, .slice o3 ol3 op3, .slice o4 ol4 op4, .bool has, .int .i64 nk, .int .i64 nn, .slice n2 nl2 np2, .slice n3 nl3 np3, .slice n4 nl4 np4] 37)).1
    generalize pth.length = pl at *
    go_enter Tryz.func5, Tryz.ntmps5
    go_wp2_with (refine wpList_load_mid rfl 37 (.tmp 1) (by rfl) w.heap.size 0 (by rfl) [.slice pa pl pc, .bool had, .int .i64 ok, .int .i64 on, .slice o2 ol2 op2, .slice o3 ol3 op3, .slice o4 ol4 op4, .bool has, .int .i64 nk, .int .i64 nn, .slice n2 nl2 np2, .slice n3 nl3 np3, .slice n4 nl4 np4] _ hr Tryz.underlying37 rfl (by kernel_rfl) ?_)
    refine (HC.out _).mono ?_
    rintro e w1 ⟨rfl, b1⟩
    have B1 := hide' (Below.on (HA2.out _ _) b1)
    have hr1 := Hbox.out _ _ _ b1
    have hX1 := hide' hr1
    have hw1 := hide' (Nat.lt_of_lt_of_le (show w.heap.size + 1 < ((w.alloc (.cells #[.slice pa pl pc, .bool had, .int .i64 ok, .int .i64 on, .slice o2 ol2 op2, .slice o3 ol3 op3, .slice o4 ol4 op4, .bool has, .int .i64 nk, .int .i64 nn, .slice n2 nl2 np2, .slice n3 nl3 np3, .slice n4 nl4 np4] 37)).alloc (.cells #[.slice pa pl pc, .bool had, .int .i64 ok, .int .i64 on, .slice o2 ol2 op2, .slice o3 ol3 op3, .slice o4 ol4 op4, .bool has, .int .i64 nk, .int .i64 nn, .slice n2 nl2 np2, .slice n3 nl3 np3, .slice n4 nl4 np4] 37)).heap.size by simp) b1.size)
    have x0 := cell_of_row _ _ 0 _ _ _ hr1
    simp at x0
    clear b1 HC hr hr1
    go_wp2_with fail
    refine (HPt.out _ B1.out).mono ?_
    rintro e w2 ⟨pv, rfl, hPv, b2⟩
    have hb := hide' (Below.on B1.out b2)
    have hX : Hid (w2.heap[w.heap.size]? = some (.cells #[.slice pa pl pc, .bool had, .int .i64 ok, .int .i64 on, .slice o2 ol2 op2, .slice o3 ol3 op3, .slice o4 ol4 op4, .bool has, .int .i64 nk, .int .i64 nn, .slice n2 nl2 np2, .slice n3 nl3 np3, .slice n4 nl4 np4] 37 (0, 0))) := (b2.block _ (by have := hw1.out; omega)).trans hX1.out
    have hY : Hid (Bts w2 (w.heap.size + 1) pv pt) := hPv.mono (by have := hw1.out; omega)
    clear b2 hPv x0 hX1 B1 HPt hw1 Hbox HA HA2
    cases had with
    | true =>
      have HTx : Hid (xs = (pt ++ sidT true 45 so) ++ sidT has 43 sn) := HTx0.out
      clear HTx0
      cases has with
      | true =>
        obtain ⟨g0, g1, g2, g3, g4, g5, g6, g7, g8, g9, g10, g11, g12⟩ := row13 hX.out
        go_wp2_with fail
        refine wp_region_held_drew (S := (fun wx => wx.cell? ⟨w.heap.size, 2, none⟩ = some (.int .i64 ok) ∧ wx.cell? ⟨w.heap.size, 3, none⟩ = some (.int .i64 on) ∧ wx.cell? ⟨w.heap.size, 4, none⟩ = some (.slice o2 ol2 op2) ∧ wx.cell? ⟨w.heap.size, 5, none⟩ = some (.slice o3 ol3 op3) ∧ wx.cell? ⟨w.heap.size, 6, none⟩ = some (.slice o4 ol4 op4))) (by kernel_rfl) ⟨g2, g3, g4, g5, g6⟩ (fun hHeld => ?_)
        replace hY : Hid (Bts w2.drew (w.heap.size + 1) _ (pt)) := hY.out
        replace hX : Hid (w2.drew.heap[w.heap.size]? = _) := hX.out
        replace hb : Hid (Below w.heap.size w w2.drew) := hb.out.drew
        generalize w2.drew = V0 at *
        refine take_yes (i := 0) 13 (v := ?_) rfl rfl (by kernel_rfl) (by kernel_rfl) (by kernel_rfl) (fun _ _ _ h => h) (by kernel_rfl) hHeld ?_ ?_
        rotate_left
        focus (intro w hSw; (try dsimp only at hSw); go_simp; (try with_reducible rfl))
        simp only [Act.put, List.setIfInBounds_toArray, List.set_cons_zero, List.set_cons_succ]
        refine take_yes (i := 2) 15 (v := ?_) rfl rfl (by kernel_rfl) (by kernel_rfl) (by kernel_rfl) (fun _ _ _ h => h) (by kernel_rfl) hHeld ?_ ?_
        rotate_left
        focus (intro w hSw; (try dsimp only at hSw); go_simp; (try with_reducible rfl))
        simp only [Act.put, List.setIfInBounds_toArray, List.set_cons_zero, List.set_cons_succ]
        refine take_yes (i := 3) 16 (v := ?_) rfl rfl (by kernel_rfl) (by kernel_rfl) (by kernel_rfl) (fun _ _ _ h => h) (by kernel_rfl) hHeld ?_ ?_
        rotate_left
        focus (intro w hSw; (try dsimp only at hSw); go_simp; (try with_reducible rfl))
        simp only [Act.put, List.setIfInBounds_toArray, List.set_cons_zero, List.set_cons_succ]
        refine wpAnyH_ready (rs := [1]) (by kernel_rfl) (by simp) ?_
        refine AllReadyH.cons rfl (fun K hK => ?_) AllReadyH.nil
        refine step_append_text (by rfl) (.tmp 13) (.const (.string ⟨#[32, 45, 32]⟩)) 9 (by rfl) Tryz.underlying9 (w.heap.size + 1) pv (pt) [32, 45, 32] (by rfl) hY.out ⟨#[32, 45, 32]⟩ (by rfl) (by simp [Byt]) (by rfl) (by (try simp only [List.length_append, List.length_cons, List.length_nil]); omega) (Array.getElem?_eq_some_iff.1 hX.out).1 ?_
        intro Vy1 V1 hY2 hg
        replace hX := hide' (kept_grown hY.out hg _ _ _ _ hX.out (by decide))
        replace hb := hide' (hb.out.grown hg hb.out.size (fun k hk => by have := hY.out.own k hk; omega))
        replace hY := hide' hY2
        clear hY2 hg
        show K (Act.put _ (some 14) Vy1) V1
        refine hK.out _ _ ⟨(row13 hX.out).2.2.1, (row13 hX.out).2.2.2.1, (row13 hX.out).2.2.2.2.1, (row13 hX.out).2.2.2.2.2.1, (row13 hX.out).2.2.2.2.2.2.1⟩ (fun hHeld => ?_)
        clear hK
        (try simp only [Act.put, List.setIfInBounds_toArray, List.set_cons_zero, List.set_cons_succ])
        refine wpAnyH_ready (rs := [4]) (by kernel_rfl) (by simp) ?_
        refine AllReadyH.cons rfl (fun K hK => ?_) AllReadyH.nil
        go_simp
        go_at_call 17
        refine (HSo.out _ hb.out).mono ?_
        rintro e V2 ⟨ra, rc, rfl, hRs, hrn, -, hbn⟩
        have hR := hide' hRs
        clear hRs
        replace hY := hide' (hY.out.grow hbn)
        replace hX := hide' (kept_below hbn _ _ _ _ hX.out (by decide))
        replace hb := hide' (Below.on hb.out hbn)
        clear hbn
        go_wp2_with fail
        refine hK.out _ _ ⟨(row13 hX.out).2.2.1, (row13 hX.out).2.2.2.1, (row13 hX.out).2.2.2.2.1, (row13 hX.out).2.2.2.2.2.1, (row13 hX.out).2.2.2.2.2.2.1⟩ (fun hHeld => ?_)
        clear hK
        (try simp only [Act.put, List.setIfInBounds_toArray, List.set_cons_zero, List.set_cons_succ])
        refine wpAnyH_ready (rs := [5]) (by kernel_rfl) (by simp) ?_
        refine AllReadyH.cons rfl (fun K hK => ?_) AllReadyH.nil
        refine step_append_seg (by rfl) (.tmp 14) (.tmp 17) (by rfl) (w.heap.size + 1) Vy1 ((pt) ++ [32, 45, 32]) so (by rfl) hY.out ra so.length rc rfl (by rfl) hR.out hrn (by (try simp only [List.length_append, List.length_cons, List.length_nil]); omega) (Array.getElem?_eq_some_iff.1 hX.out).1 ?_
        intro Vy3 V3 hY2 hg
        replace hX := hide' (kept_grown hY.out hg _ _ _ _ hX.out (by decide))
        replace hb := hide' (hb.out.grown hg hb.out.size (fun k hk => by have := hY.out.own k hk; omega))
        replace hY := hide' hY2
        clear hY2 hg
        show K (Act.put _ (some 18) Vy3) V3
        refine hK.out _ _ ⟨(row13 hX.out).2.2.1, (row13 hX.out).2.2.2.1, (row13 hX.out).2.2.2.2.1, (row13 hX.out).2.2.2.2.2.1, (row13 hX.out).2.2.2.2.2.2.1⟩ (fun hHeld => ?_)
        clear hK
        (try simp only [Act.put, List.setIfInBounds_toArray, List.set_cons_zero, List.set_cons_succ])
        refine take_yes (i := 6) 3 (v := ?_) rfl rfl (by kernel_rfl) (by kernel_rfl) (by kernel_rfl) (fun _ _ _ h => h) (by kernel_rfl) hHeld ?_ ?_
        rotate_left
        focus (intro w hSw; (try dsimp only at hSw); go_simp; (try with_reducible rfl))
        simp only [Act.put, List.setIfInBounds_toArray, List.set_cons_zero, List.set_cons_succ]
        refine wpAnyH_done (by kernel_rfl) ?_ _
        clear hHeld
        clear g0 g1 g2 g3 g4 g5 g6 g7 g8 g9 g10 g11 g12
        obtain ⟨g0, g1, g2, g3, g4, g5, g6, g7, g8, g9, g10, g11, g12⟩ := row13 hX.out
        obtain ⟨zs1, hz1⟩ : ∃ zs1, zs1 = ((pt) ++ [32, 45, 32]) ++ so := ⟨_, rfl⟩
        rw [← hz1] at hY
        have hz1l : zs1.length ≤ 2600 := by rw [hz1]; simp only [List.length_append, List.length_cons, List.length_nil]; omega
        have HZ1 := hide' hz1
        clear hz1
        go_wp2_with fail
        refine wp_region_held_drew (S := (fun wx => wx.cell? ⟨w.heap.size, 8, none⟩ = some (.int .i64 nk) ∧ wx.cell? ⟨w.heap.size, 9, none⟩ = some (.int .i64 nn) ∧ wx.cell? ⟨w.heap.size, 10, none⟩ = some (.slice n2 nl2 np2) ∧ wx.cell? ⟨w.heap.size, 11, none⟩ = some (.slice n3 nl3 np3) ∧ wx.cell? ⟨w.heap.size, 12, none⟩ = some (.slice n4 nl4 np4))) (by kernel_rfl) ⟨g8, g9, g10, g11, g12⟩ (fun hHeld => ?_)
        replace hY : Hid (Bts V3.drew (w.heap.size + 1) _ (zs1)) := hY.out
        replace hX : Hid (V3.drew.heap[w.heap.size]? = _) := hX.out
        replace hb : Hid (Below w.heap.size w V3.drew) := hb.out.drew
        generalize V3.drew = U0 at *
        refine take_yes (i := 0) 21 (v := ?_) rfl rfl (by kernel_rfl) (by kernel_rfl) (by kernel_rfl) (fun _ _ _ h => h) (by kernel_rfl) hHeld ?_ ?_
        rotate_left
        focus (intro w hSw; (try dsimp only at hSw); go_simp; (try with_reducible rfl))
        simp only [Act.put, List.setIfInBounds_toArray, List.set_cons_zero, List.set_cons_succ]
        refine take_yes (i := 2) 23 (v := ?_) rfl rfl (by kernel_rfl) (by kernel_rfl) (by kernel_rfl) (fun _ _ _ h => h) (by kernel_rfl) hHeld ?_ ?_
        rotate_left
        focus (intro w hSw; (try dsimp only at hSw); go_simp; (try with_reducible rfl))
        simp only [Act.put, List.setIfInBounds_toArray, List.set_cons_zero, List.set_cons_succ]
        refine take_yes (i := 3) 24 (v := ?_) rfl rfl (by kernel_rfl) (by kernel_rfl) (by kernel_rfl) (fun _ _ _ h => h) (by kernel_rfl) hHeld ?_ ?_
        rotate_left
        focus (intro w hSw; (try dsimp only at hSw); go_simp; (try with_reducible rfl))
        simp only [Act.put, List.setIfInBounds_toArray, List.set_cons_zero, List.set_cons_succ]
        refine wpAnyH_ready (rs := [1]) (by kernel_rfl) (by simp) ?_
        refine AllReadyH.cons rfl (fun K hK => ?_) AllReadyH.nil
        refine step_append_text (by rfl) (.tmp 21) (.const (.string ⟨#[32, 43, 32]⟩)) 9 (by rfl) Tryz.underlying9 (w.heap.size + 1) Vy3 (zs1) [32, 43, 32] (by rfl) hY.out ⟨#[32, 43, 32]⟩ (by rfl) (by simp [Byt]) (by rfl) (by (try simp only [List.length_append, List.length_cons, List.length_nil]); omega) (Array.getElem?_eq_some_iff.1 hX.out).1 ?_
        intro Uy1 U1 hY2 hg
        replace hX := hide' (kept_grown hY.out hg _ _ _ _ hX.out (by decide))
        replace hb := hide' (hb.out.grown hg hb.out.size (fun k hk => by have := hY.out.own k hk; omega))
        replace hY := hide' hY2
        clear hY2 hg
        show K (Act.put _ (some 22) Uy1) U1
        refine hK.out _ _ ⟨(row13 hX.out).2.2.2.2.2.2.2.2.1, (row13 hX.out).2.2.2.2.2.2.2.2.2.1, (row13 hX.out).2.2.2.2.2.2.2.2.2.2.1, (row13 hX.out).2.2.2.2.2.2.2.2.2.2.2.1, (row13 hX.out).2.2.2.2.2.2.2.2.2.2.2.2⟩ (fun hHeld => ?_)
        clear hK
        (try simp only [Act.put, List.setIfInBounds_toArray, List.set_cons_zero, List.set_cons_succ])
        refine wpAnyH_ready (rs := [4]) (by kernel_rfl) (by simp) ?_
        refine AllReadyH.cons rfl (fun K hK => ?_) AllReadyH.nil
        go_simp
        go_at_call 17
        refine (HSn.out _ hb.out).mono ?_
        rintro e U2 ⟨ra, rc, rfl, hRs, hrn, -, hbn⟩
        have hR := hide' hRs
        clear hRs
        replace hY := hide' (hY.out.grow hbn)
        replace hX := hide' (kept_below hbn _ _ _ _ hX.out (by decide))
        replace hb := hide' (Below.on hb.out hbn)
        clear hbn
        go_wp2_with fail
        refine hK.out _ _ ⟨(row13 hX.out).2.2.2.2.2.2.2.2.1, (row13 hX.out).2.2.2.2.2.2.2.2.2.1, (row13 hX.out).2.2.2.2.2.2.2.2.2.2.1, (row13 hX.out).2.2.2.2.2.2.2.2.2.2.2.1, (row13 hX.out).2.2.2.2.2.2.2.2.2.2.2.2⟩ (fun hHeld => ?_)
        clear hK
        (try simp only [Act.put, List.setIfInBounds_toArray, List.set_cons_zero, List.set_cons_succ])
        refine wpAnyH_ready (rs := [5]) (by kernel_rfl) (by simp) ?_
        refine AllReadyH.cons rfl (fun K hK => ?_) AllReadyH.nil
        refine step_append_seg (by rfl) (.tmp 22) (.tmp 25) (by rfl) (w.heap.size + 1) Uy1 ((zs1) ++ [32, 43, 32]) sn (by rfl) hY.out ra sn.length rc rfl (by rfl) hR.out hrn (by (try simp only [List.length_append, List.length_cons, List.length_nil]); omega) (Array.getElem?_eq_some_iff.1 hX.out).1 ?_
        intro Uy3 U3 hY2 hg
        replace hX := hide' (kept_grown hY.out hg _ _ _ _ hX.out (by decide))
        replace hb := hide' (hb.out.grown hg hb.out.size (fun k hk => by have := hY.out.own k hk; omega))
        replace hY := hide' hY2
        clear hY2 hg
        show K (Act.put _ (some 26) Uy3) U3
        refine hK.out _ _ ⟨(row13 hX.out).2.2.2.2.2.2.2.2.1, (row13 hX.out).2.2.2.2.2.2.2.2.2.1, (row13 hX.out).2.2.2.2.2.2.2.2.2.2.1, (row13 hX.out).2.2.2.2.2.2.2.2.2.2.2.1, (row13 hX.out).2.2.2.2.2.2.2.2.2.2.2.2⟩ (fun hHeld => ?_)
        clear hK
        (try simp only [Act.put, List.setIfInBounds_toArray, List.set_cons_zero, List.set_cons_succ])
        refine take_yes (i := 6) 3 (v := ?_) rfl rfl (by kernel_rfl) (by kernel_rfl) (by kernel_rfl) (fun _ _ _ h => h) (by kernel_rfl) hHeld ?_ ?_
        rotate_left
        focus (intro w hSw; (try dsimp only at hSw); go_simp; (try with_reducible rfl))
        simp only [Act.put, List.setIfInBounds_toArray, List.set_cons_zero, List.set_cons_succ]
        refine wpAnyH_done (by kernel_rfl) ?_ _
        clear hHeld
        clear g0 g1 g2 g3 g4 g5 g6 g7 g8 g9 g10 g11 g12
        obtain ⟨g0, g1, g2, g3, g4, g5, g6, g7, g8, g9, g10, g11, g12⟩ := row13 hX.out
        go_wp2
        go_ret
        have hF : ((zs1) ++ [32, 43, 32]) ++ sn = xs := by rw [HTx.out, HZ1.out]; simp [sidT]
        rw [hF] at hY
        exact sayEnd_of (w1 := w.alloc (.cells #[] 5)) (hY.out.mono (by simp)) (by simp) hb.out
      | false =>
        obtain ⟨g0, g1, g2, g3, g4, g5, g6, g7, g8, g9, g10, g11, g12⟩ := row13 hX.out
        go_wp2_with fail
        refine wp_region_held_drew (S := (fun wx => wx.cell? ⟨w.heap.size, 2, none⟩ = some (.int .i64 ok) ∧ wx.cell? ⟨w.heap.size, 3, none⟩ = some (.int .i64 on) ∧ wx.cell? ⟨w.heap.size, 4, none⟩ = some (.slice o2 ol2 op2) ∧ wx.cell? ⟨w.heap.size, 5, none⟩ = some (.slice o3 ol3 op3) ∧ wx.cell? ⟨w.heap.size, 6, none⟩ = some (.slice o4 ol4 op4))) (by kernel_rfl) ⟨g2, g3, g4, g5, g6⟩ (fun hHeld => ?_)
        replace hY : Hid (Bts w2.drew (w.heap.size + 1) _ (pt)) := hY.out
        replace hX : Hid (w2.drew.heap[w.heap.size]? = _) := hX.out
        replace hb : Hid (Below w.heap.size w w2.drew) := hb.out.drew
        generalize w2.drew = V0 at *
        refine take_yes (i := 0) 13 (v := ?_) rfl rfl (by kernel_rfl) (by kernel_rfl) (by kernel_rfl) (fun _ _ _ h => h) (by kernel_rfl) hHeld ?_ ?_
        rotate_left
        focus (intro w hSw; (try dsimp only at hSw); go_simp; (try with_reducible rfl))
        simp only [Act.put, List.setIfInBounds_toArray, List.set_cons_zero, List.set_cons_succ]
        refine take_yes (i := 2) 15 (v := ?_) rfl rfl (by kernel_rfl) (by kernel_rfl) (by kernel_rfl) (fun _ _ _ h => h) (by kernel_rfl) hHeld ?_ ?_
        rotate_left
        focus (intro w hSw; (try dsimp only at hSw); go_simp; (try with_reducible rfl))
        simp only [Act.put, List.setIfInBounds_toArray, List.set_cons_zero, List.set_cons_succ]
        refine take_yes (i := 3) 16 (v := ?_) rfl rfl (by kernel_rfl) (by kernel_rfl) (by kernel_rfl) (fun _ _ _ h => h) (by kernel_rfl) hHeld ?_ ?_
        rotate_left
        focus (intro w hSw; (try dsimp only at hSw); go_simp; (try with_reducible rfl))
        simp only [Act.put, List.setIfInBounds_toArray, List.set_cons_zero, List.set_cons_succ]
        refine wpAnyH_ready (rs := [1]) (by kernel_rfl) (by simp) ?_
        refine AllReadyH.cons rfl (fun K hK => ?_) AllReadyH.nil
        refine step_append_text (by rfl) (.tmp 13) (.const (.string ⟨#[32, 45, 32]⟩)) 9 (by rfl) Tryz.underlying9 (w.heap.size + 1) pv (pt) [32, 45, 32] (by rfl) hY.out ⟨#[32, 45, 32]⟩ (by rfl) (by simp [Byt]) (by rfl) (by (try simp only [List.length_append, List.length_cons, List.length_nil]); omega) (Array.getElem?_eq_some_iff.1 hX.out).1 ?_
        intro Vy1 V1 hY2 hg
        replace hX := hide' (kept_grown hY.out hg _ _ _ _ hX.out (by decide))
        replace hb := hide' (hb.out.grown hg hb.out.size (fun k hk => by have := hY.out.own k hk; omega))
        replace hY := hide' hY2
        clear hY2 hg
        show K (Act.put _ (some 14) Vy1) V1
        refine hK.out _ _ ⟨(row13 hX.out).2.2.1, (row13 hX.out).2.2.2.1, (row13 hX.out).2.2.2.2.1, (row13 hX.out).2.2.2.2.2.1, (row13 hX.out).2.2.2.2.2.2.1⟩ (fun hHeld => ?_)
        clear hK
        (try simp only [Act.put, List.setIfInBounds_toArray, List.set_cons_zero, List.set_cons_succ])
        refine wpAnyH_ready (rs := [4]) (by kernel_rfl) (by simp) ?_
        refine AllReadyH.cons rfl (fun K hK => ?_) AllReadyH.nil
        go_simp
        go_at_call 17
        refine (HSo.out _ hb.out).mono ?_
        rintro e V2 ⟨ra, rc, rfl, hRs, hrn, -, hbn⟩
        have hR := hide' hRs
        clear hRs
        replace hY := hide' (hY.out.grow hbn)
        replace hX := hide' (kept_below hbn _ _ _ _ hX.out (by decide))
        replace hb := hide' (Below.on hb.out hbn)
        clear hbn
        go_wp2_with fail
        refine hK.out _ _ ⟨(row13 hX.out).2.2.1, (row13 hX.out).2.2.2.1, (row13 hX.out).2.2.2.2.1, (row13 hX.out).2.2.2.2.2.1, (row13 hX.out).2.2.2.2.2.2.1⟩ (fun hHeld => ?_)
        clear hK
        (try simp only [Act.put, List.setIfInBounds_toArray, List.set_cons_zero, List.set_cons_succ])
        refine wpAnyH_ready (rs := [5]) (by kernel_rfl) (by simp) ?_
        refine AllReadyH.cons rfl (fun K hK => ?_) AllReadyH.nil
        refine step_append_seg (by rfl) (.tmp 14) (.tmp 17) (by rfl) (w.heap.size + 1) Vy1 ((pt) ++ [32, 45, 32]) so (by rfl) hY.out ra so.length rc rfl (by rfl) hR.out hrn (by (try simp only [List.length_append, List.length_cons, List.length_nil]); omega) (Array.getElem?_eq_some_iff.1 hX.out).1 ?_
        intro Vy3 V3 hY2 hg
        replace hX := hide' (kept_grown hY.out hg _ _ _ _ hX.out (by decide))
        replace hb := hide' (hb.out.grown hg hb.out.size (fun k hk => by have := hY.out.own k hk; omega))
        replace hY := hide' hY2
        clear hY2 hg
        show K (Act.put _ (some 18) Vy3) V3
        refine hK.out _ _ ⟨(row13 hX.out).2.2.1, (row13 hX.out).2.2.2.1, (row13 hX.out).2.2.2.2.1, (row13 hX.out).2.2.2.2.2.1, (row13 hX.out).2.2.2.2.2.2.1⟩ (fun hHeld => ?_)
        clear hK
        (try simp only [Act.put, List.setIfInBounds_toArray, List.set_cons_zero, List.set_cons_succ])
        refine take_yes (i := 6) 3 (v := ?_) rfl rfl (by kernel_rfl) (by kernel_rfl) (by kernel_rfl) (fun _ _ _ h => h) (by kernel_rfl) hHeld ?_ ?_
        rotate_left
        focus (intro w hSw; (try dsimp only at hSw); go_simp; (try with_reducible rfl))
        simp only [Act.put, List.setIfInBounds_toArray, List.set_cons_zero, List.set_cons_succ]
        refine wpAnyH_done (by kernel_rfl) ?_ _
        clear hHeld
        clear g0 g1 g2 g3 g4 g5 g6 g7 g8 g9 g10 g11 g12
        obtain ⟨g0, g1, g2, g3, g4, g5, g6, g7, g8, g9, g10, g11, g12⟩ := row13 hX.out
        obtain ⟨zs1, hz1⟩ : ∃ zs1, zs1 = ((pt) ++ [32, 45, 32]) ++ so := ⟨_, rfl⟩
        rw [← hz1] at hY
        have hz1l : zs1.length ≤ 2600 := by rw [hz1]; simp only [List.length_append, List.length_cons, List.length_nil]; omega
        have HZ1 := hide' hz1
        clear hz1
        go_wp2_with fail
        go_wp2
        go_ret
        have hF : zs1 = xs := by rw [HTx.out, HZ1.out]; simp [sidT]
        rw [hF] at hY
        exact sayEnd_of (w1 := w.alloc (.cells #[] 5)) (hY.out.mono (by simp)) (by simp) hb.out
    | false =>
      have HTx : Hid (xs = (pt ++ sidT false 45 so) ++ sidT has 43 sn) := HTx0.out
      clear HTx0
      cases has with
      | true =>
        obtain ⟨g0, g1, g2, g3, g4, g5, g6, g7, g8, g9, g10, g11, g12⟩ := row13 hX.out
        go_wp2_with fail
        obtain ⟨zs1, hz1⟩ : ∃ zs1, zs1 = pt := ⟨_, rfl⟩
        rw [← hz1] at hY
        have hz1l : zs1.length ≤ 2600 := by rw [hz1]; omega
        have HZ1 := hide' hz1
        clear hz1
        refine wp_region_held_drew (S := (fun wx => wx.cell? ⟨w.heap.size, 8, none⟩ = some (.int .i64 nk) ∧ wx.cell? ⟨w.heap.size, 9, none⟩ = some (.int .i64 nn) ∧ wx.cell? ⟨w.heap.size, 10, none⟩ = some (.slice n2 nl2 np2) ∧ wx.cell? ⟨w.heap.size, 11, none⟩ = some (.slice n3 nl3 np3) ∧ wx.cell? ⟨w.heap.size, 12, none⟩ = some (.slice n4 nl4 np4))) (by kernel_rfl) ⟨g8, g9, g10, g11, g12⟩ (fun hHeld => ?_)
        replace hY : Hid (Bts w2.drew (w.heap.size + 1) _ (zs1)) := hY.out
        replace hX : Hid (w2.drew.heap[w.heap.size]? = _) := hX.out
        replace hb : Hid (Below w.heap.size w w2.drew) := hb.out.drew
        generalize w2.drew = U0 at *
        refine take_yes (i := 0) 21 (v := ?_) rfl rfl (by kernel_rfl) (by kernel_rfl) (by kernel_rfl) (fun _ _ _ h => h) (by kernel_rfl) hHeld ?_ ?_
        rotate_left
        focus (intro w hSw; (try dsimp only at hSw); go_simp; (try with_reducible rfl))
        simp only [Act.put, List.setIfInBounds_toArray, List.set_cons_zero, List.set_cons_succ]
        refine take_yes (i := 2) 23 (v := ?_) rfl rfl (by kernel_rfl) (by kernel_rfl) (by kernel_rfl) (fun _ _ _ h => h) (by kernel_rfl) hHeld ?_ ?_
        rotate_left
        focus (intro w hSw; (try dsimp only at hSw); go_simp; (try with_reducible rfl))
        simp only [Act.put, List.setIfInBounds_toArray, List.set_cons_zero, List.set_cons_succ]
        refine take_yes (i := 3) 24 (v := ?_) rfl rfl (by kernel_rfl) (by kernel_rfl) (by kernel_rfl) (fun _ _ _ h => h) (by kernel_rfl) hHeld ?_ ?_
        rotate_left
        focus (intro w hSw; (try dsimp only at hSw); go_simp; (try with_reducible rfl))
        simp only [Act.put, List.setIfInBounds_toArray, List.set_cons_zero, List.set_cons_succ]
        refine wpAnyH_ready (rs := [1]) (by kernel_rfl) (by simp) ?_
        refine AllReadyH.cons rfl (fun K hK => ?_) AllReadyH.nil
        refine step_append_text (by rfl) (.tmp 21) (.const (.string ⟨#[32, 43, 32]⟩)) 9 (by rfl) Tryz.underlying9 (w.heap.size + 1) pv (zs1) [32, 43, 32] (by rfl) hY.out ⟨#[32, 43, 32]⟩ (by rfl) (by simp [Byt]) (by rfl) (by (try simp only [List.length_append, List.length_cons, List.length_nil]); omega) (Array.getElem?_eq_some_iff.1 hX.out).1 ?_
        intro Uy1 U1 hY2 hg
        replace hX := hide' (kept_grown hY.out hg _ _ _ _ hX.out (by decide))
        replace hb := hide' (hb.out.grown hg hb.out.size (fun k hk => by have := hY.out.own k hk; omega))
        replace hY := hide' hY2
        clear hY2 hg
        show K (Act.put _ (some 22) Uy1) U1
        refine hK.out _ _ ⟨(row13 hX.out).2.2.2.2.2.2.2.2.1, (row13 hX.out).2.2.2.2.2.2.2.2.2.1, (row13 hX.out).2.2.2.2.2.2.2.2.2.2.1, (row13 hX.out).2.2.2.2.2.2.2.2.2.2.2.1, (row13 hX.out).2.2.2.2.2.2.2.2.2.2.2.2⟩ (fun hHeld => ?_)
        clear hK
        (try simp only [Act.put, List.setIfInBounds_toArray, List.set_cons_zero, List.set_cons_succ])
        refine wpAnyH_ready (rs := [4]) (by kernel_rfl) (by simp) ?_
        refine AllReadyH.cons rfl (fun K hK => ?_) AllReadyH.nil
        go_simp
        go_at_call 17
        refine (HSn.out _ hb.out).mono ?_
        rintro e U2 ⟨ra, rc, rfl, hRs, hrn, -, hbn⟩
        have hR := hide' hRs
        clear hRs
        replace hY := hide' (hY.out.grow hbn)
        replace hX := hide' (kept_below hbn _ _ _ _ hX.out (by decide))
        replace hb := hide' (Below.on hb.out hbn)
        clear hbn
        go_wp2_with fail
        refine hK.out _ _ ⟨(row13 hX.out).2.2.2.2.2.2.2.2.1, (row13 hX.out).2.2.2.2.2.2.2.2.2.1, (row13 hX.out).2.2.2.2.2.2.2.2.2.2.1, (row13 hX.out).2.2.2.2.2.2.2.2.2.2.2.1, (row13 hX.out).2.2.2.2.2.2.2.2.2.2.2.2⟩ (fun hHeld => ?_)
        clear hK
        (try simp only [Act.put, List.setIfInBounds_toArray, List.set_cons_zero, List.set_cons_succ])
        refine wpAnyH_ready (rs := [5]) (by kernel_rfl) (by simp) ?_
        refine AllReadyH.cons rfl (fun K hK => ?_) AllReadyH.nil
        refine step_append_seg (by rfl) (.tmp 22) (.tmp 25) (by rfl) (w.heap.size + 1) Uy1 ((zs1) ++ [32, 43, 32]) sn (by rfl) hY.out ra sn.length rc rfl (by rfl) hR.out hrn (by (try simp only [List.length_append, List.length_cons, List.length_nil]); omega) (Array.getElem?_eq_some_iff.1 hX.out).1 ?_
        intro Uy3 U3 hY2 hg
        replace hX := hide' (kept_grown hY.out hg _ _ _ _ hX.out (by decide))
        replace hb := hide' (hb.out.grown hg hb.out.size (fun k hk => by have := hY.out.own k hk; omega))
        replace hY := hide' hY2
        clear hY2 hg
        show K (Act.put _ (some 26) Uy3) U3
        refine hK.out _ _ ⟨(row13 hX.out).2.2.2.2.2.2.2.2.1, (row13 hX.out).2.2.2.2.2.2.2.2.2.1, (row13 hX.out).2.2.2.2.2.2.2.2.2.2.1, (row13 hX.out).2.2.2.2.2.2.2.2.2.2.2.1, (row13 hX.out).2.2.2.2.2.2.2.2.2.2.2.2⟩ (fun hHeld => ?_)
        clear hK
        (try simp only [Act.put, List.setIfInBounds_toArray, List.set_cons_zero, List.set_cons_succ])
        refine take_yes (i := 6) 3 (v := ?_) rfl rfl (by kernel_rfl) (by kernel_rfl) (by kernel_rfl) (fun _ _ _ h => h) (by kernel_rfl) hHeld ?_ ?_
        rotate_left
        focus (intro w hSw; (try dsimp only at hSw); go_simp; (try with_reducible rfl))
        simp only [Act.put, List.setIfInBounds_toArray, List.set_cons_zero, List.set_cons_succ]
        refine wpAnyH_done (by kernel_rfl) ?_ _
        clear hHeld
        clear g0 g1 g2 g3 g4 g5 g6 g7 g8 g9 g10 g11 g12
        obtain ⟨g0, g1, g2, g3, g4, g5, g6, g7, g8, g9, g10, g11, g12⟩ := row13 hX.out
        go_wp2
        go_ret
        have hF : ((zs1) ++ [32, 43, 32]) ++ sn = xs := by rw [HTx.out, HZ1.out]; simp [sidT]
        rw [hF] at hY
        exact sayEnd_of (w1 := w.alloc (.cells #[] 5)) (hY.out.mono (by simp)) (by simp) hb.out
      | false =>
        obtain ⟨g0, g1, g2, g3, g4, g5, g6, g7, g8, g9, g10, g11, g12⟩ := row13 hX.out
        go_wp2_with fail
        obtain ⟨zs1, hz1⟩ : ∃ zs1, zs1 = pt := ⟨_, rfl⟩
        rw [← hz1] at hY
        have hz1l : zs1.length ≤ 2600 := by rw [hz1]; omega
        have HZ1 := hide' hz1
        clear hz1
        go_wp2
        go_ret
        have hF : zs1 = xs := by rw [HTx.out, HZ1.out]; simp [sidT]
        rw [hF] at hY
        exact sayEnd_of (w1 := w.alloc (.cells #[] 5)) (hY.out.mono (by simp)) (by simp) hb.out
end Go.Proofs.YtdhlmcgbgdljmaaGreatDoor
/-
  PathCmp of the program.
-/
namespace Go.Proofs.YtdhlmcgbgdljmaaGreatDoor
open Go.RowKit
set_option linter.unusedVariables false
set_option linter.unusedSimpArgs false

/-- What PathCmp answers. -/
def pcI (l m : List Stp) : Int := if pathB l = true ∧ pathB m = true then pthC l m else 0
theorem pcI_no1 {l m : List Stp} (h : pathB l = false) : pcI l m = 0 := by simp [pcI, h]
theorem pcI_no2 {l m : List Stp} (h : pathB m = false) : pcI l m = 0 := by simp [pcI, h]
theorem pcI_yes {l m : List Stp} (h : pathB l = true) (h' : pathB m = true) : pcI l m = pthC l m := by simp [pcI, h, h']
theorem pathB_each {l : List Stp} (h : pathB l = true) : l.all stpB = true := by
  unfold pathB at h
  simp only [Bool.and_eq_true] at h
  exact h.2

end Go.Proofs.YtdhlmcgbgdljmaaGreatDoor
/-
  The datum of a map of parts while its keys are put; no statement is proved here.
-/
namespace Go.Proofs.YtdhlmcgbgdljmaaGreatDoor
open Go.RowKit
set_option linter.unusedVariables false

/-- How an element of a map of parts reads: as itself. -/
def tokR (v : Value) : Option (DataW Value × List MemPlace) := some (.held v, [])

/-- The map's datum after the first k of its keys were put. -/
def mapD (vK : List (List Int)) (ps : List Value) : Nat → DataW Value
  | 0 => .map []
  | k + 1 => (mapD vK ps k).put (.string (u8s (vK.getD k []))) (.held (ps.getD k .nilIface))

theorem below_grows {w w' : World} (h : Below w.heap.size w w') (r : Option Nat) : w.grownBy w' r := ⟨h.os, h.tape, h.output, h.size, fun k hk _ => h.block k hk⟩
end Go.Proofs.YtdhlmcgbgdljmaaGreatDoor
/-
  What the program's inner parts (an interface with one type a kind) hold: 'PSeg' reads one as a value; lists and maps of them.
-/
namespace Go.Proofs.YtdhlmcgbgdljmaaGreatDoor
open Go.RowKit
set_option linter.unusedVariables false
set_option linter.unusedSimpArgs false

/-- A part of the program's reads as a value of depth at most d; it lies in blocks of R. -/
def PSeg (R : Nat → Prop) (w : World) : (d : Nat) → Value → Vl d → Prop
  | 0, _, _ => False
  | d + 1, p, v =>
    (v.1 = 0 ∧ p = .iface 83 (.agg #[])) ∨ (v.1 = 6 ∧ p = .iface 103 (.agg #[])) ∨
    (v.1 = 1 ∧ p = .iface 85 (.agg #[.int .i64 v.2.1])) ∨ (v.1 = 2 ∧ p = .iface 87 (.agg #[.int .i64 v.2.1])) ∨
    (v.1 = 3 ∧ p = .iface 90 (.agg #[.string (strOf v.2.2.1)])) ∨
    (v.1 = 4 ∧ ∃ a cap, p = .iface 94 (.agg #[.slice a v.2.2.2.2.length cap]) ∧ (v.2.2.2.2 = [] ∨ ∃ b off, a = some ⟨b, off, none⟩ ∧ R b ∧ ∀ i (h : i < v.2.2.2.2.length), ∃ u, w.cell? ⟨b, off + i, none⟩ = some u ∧ PSeg R w d u (v.2.2.2.2[i]))) ∨
    (v.1 = 5 ∧ ∃ b ps, p = .iface 98 (.agg #[.map (some b)]) ∧ R b ∧ w.ownsMap Tryz.prog 9 tokR b 64 (mapD v.2.2.2.1 ps v.2.2.2.2.length) ∧ ∀ i (h : i < v.2.2.2.2.length), PSeg R w d (ps.getD i .nilIface) (v.2.2.2.2[i]))

/-- A slice of parts. -/
def PLSeg (R : Nat → Prop) (w : World) (d : Nat) (x : Value) (l : List (Vl d)) : Prop :=
  ∃ a cap, x = .slice a l.length cap ∧ (l = [] ∨ ∃ b off, a = some ⟨b, off, none⟩ ∧ R b ∧ ∀ i (h : i < l.length), ∃ u, w.cell? ⟨b, off + i, none⟩ = some u ∧ PSeg R w d u (l[i]))

theorem ownsMap_agree {R : Nat → Prop} {w w' : World} {b n : Nat} {D : DataW Value} (h : w.ownsMap Tryz.prog 9 tokR b n D) (ha : Agree R w w') (hb : R b) : w'.ownsMap Tryz.prog 9 tokR b n D := by
  obtain ⟨es, clock, h1, r⟩ := h
  exact ⟨es, clock, (ha b hb).trans h1, r⟩

theorem PSeg.carry {R R' : Nat → Prop} {w w' : World} (hr : ∀ b, R b → R' b) (ha : Agree R w w') (d : Nat) : ∀ {p : Value} {v : Vl d}, PSeg R w d p v → PSeg R' w' d p v := by
  induction d with
  | zero => intro p v h; exact h
  | succ d ih =>
    intro p v h
    rcases h with h | h | h | h | h | ⟨hk, a, cap, hp, hc⟩ | ⟨hk, b, ps, hp, hR, hm, hc⟩
    · exact .inl h
    · exact .inr (.inl h)
    · exact .inr (.inr (.inl h))
    · exact .inr (.inr (.inr (.inl h)))
    · exact .inr (.inr (.inr (.inr (.inl h))))
    · refine .inr (.inr (.inr (.inr (.inr (.inl ⟨hk, a, cap, hp, ?_⟩)))))
      rcases hc with h0 | ⟨b, off, e, hR, hc⟩
      · exact .inl h0
      · refine .inr ⟨b, off, e, hr b hR, fun i hi => ?_⟩
        obtain ⟨u, hu, hv⟩ := hc i hi
        exact ⟨u, (cell_agree ha hR).trans hu, ih hv⟩
    · exact .inr (.inr (.inr (.inr (.inr (.inr ⟨hk, b, ps, hp, hr b hR, ownsMap_agree hm ha hR, fun i hi => ih (hc i hi)⟩)))))

/-- What take leaves of all that was there: all but the block of its counter. -/
theorem agree_grown {N q : Nat} {w w' : World} (h : w.grownBy w' (some q)) (hN : N ≤ q) (hq : q < w.heap.size) : Agree (fun b => b < N) w w' := fun b hb => h.block b (by omega) (by simp; omega)

theorem run_makeMapN (t k e : TypeId) (n : Int) (w : World) (ht : Tryz.prog.underlying t = some (.map k e)) : (Instr.makeMap t (some (.int .i64 n))).run Tryz.prog w = .ok (.map (some w.heap.size)) (w.alloc (.map #[] 0)) := by
  unfold Instr.makeMap
  simp only [Sem.run_bind, Sem.run_pure, run_underlying ht, Result.andThen]
  rfl

theorem info_part : (Tryz.prog.info? 53).map (fun i => (i.zero, i.size, i.bytes)) = some (some .nilIface, 1, 16) := by kernel_rfl

/-- The counter of an intake. -/
def Cnt (w : World) (q : Nat) (n : Nat) : Prop := w.heap[q]? = some (.cells #[.int .i64 n] 123 (0, 0))

/-- What a good take has brought about. -/
def Took (d : Nat) (v : Vl d) (deep n q : Nat) (w w' : World) (p : Value) : Prop :=
  goodB d v deep = true ∧ n + partsV d v ≤ 40 ∧ Cnt w' q (n + partsV d v) ∧ PSeg (fun b => w.heap.size ≤ b ∧ b < w'.heap.size) w' d p v

/-- The contract of take at depth d. -/
def TakeAt (d : Nat) : Prop := ∀ (N q n : Nat) (c : Value × Value × Value × Value × Value) (v : Vl d) (deep : Nat) (w : World), VSeg (fun b => b < N) w d c v → N ≤ q → q < w.heap.size → Cnt w q n → n ≤ 40 → deep ≤ 6 →
  Calls Tryz.prog 72 #[.pointer (some ⟨q, 0, none⟩), .agg #[c.1, c.2.1, c.2.2.1, c.2.2.2.1, c.2.2.2.2], .int .i64 deep] w fun e w' =>
    w.grownBy w' (some q) ∧ ((∃ p, e = .returned (.tuple #[p, .bool true]) ∧ Took d v deep n q w w' p) ∨ (e = .returned (.tuple #[.nilIface, .bool false]) ∧ ¬ (goodB d v deep = true ∧ n + partsV d v ≤ 40)))

theorem Cnt.cell {w : World} {q n : Nat} (h : Cnt w q n) : w.cell? ⟨q, 0, none⟩ = some (.int .i64 n) ∧ w.frozen? ⟨q, 0, none⟩ = false := by
  refine ⟨?_, frozen_of_row w q 0 _ _ h⟩
  rw [cell_of_row w q 0 _ _ (0, 0) h]
  rfl

theorem Cnt.set {w : World} {q n : Nat} (h : Cnt w q n) (m : Nat) : Cnt (w.setCell ⟨q, 0, none⟩ (.int .i64 m)) q m := heap_setCell_same w q 0 _ _ _ h
end Go.Proofs.YtdhlmcgbgdljmaaGreatDoor
