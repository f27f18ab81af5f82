/-
  Texts that a law leans on, one behind the other; no statement is proved here.
-/
import Derived.Test.YtfojpencmkmdfaaGreatDoorPk13
import Derived.Test.YtfojpencmkmdfaaGreatDoorPk14
import Derived.Test.YtfojpencmkmdfaaGreatDoorPk12
import Derived.Deep.RegionHeld3
/-
  EventText of the specification.
-/
namespace Go.Proofs.YtfojpencmkmdfaaGreatDoor
open Go.RowKit
set_option linter.unusedVariables false
set_option linter.unusedSimpArgs false

theorem sayEnd_M {w w' : World} {u : Value} {xs : List Int} (hB : BtsM w' (w.heap.size + 1) u xs) (hb : Below w.heap.size w w') : SayEnd xs w (.returned u) w' := by
  obtain ⟨a, c, rfl, hs, _, _, hbd, hn⟩ := hB.1.shape
  exact ⟨a, c, rfl, hs, hn, fun x hx => ⟨by have := hB.2 x.block (by subst hx; rfl); omega, (hbd x hx).2.1⟩, hb⟩

set_option maxHeartbeats 12800000 in
set_option maxRecDepth 100000 in
theorem spec_EventText_any (d N : Nat) (cs : List Value) (it : Rcd d) (w : World) (h : RSg (fun b => b < N) w d cs it) (hN : N ≤ w.heap.size) (hz : RSz d it) :
    Calls Tryz.prog 5 #[.agg cs.toArray] w (SayEnd (evtT d it) w) := by
  have HA : Hid (∀ o : Obj, Below w.heap.size w (w.alloc o)) := fun o => (Below.refl _ _).alloc (Nat.le_refl _) o
  have Hbox : Hid (∀ o wx, Below (w.alloc o).heap.size (w.alloc o) wx → wx.heap[w.heap.size]? = some o) := fun o wx h => box_row h
  have HC : Hid (∀ wx, Below w.heap.size w wx → Calls Tryz.prog 16 #[.agg cs.toArray] wx fun e w' => e = .returned (.bool (evB d it)) ∧ Below wx.heap.size wx w') := fun wx hb => spec_EventOk_any d N cs it wx (h.agree (agree_below (hb.mono hN))) (by have := hb.size; omega)
  obtain ⟨na, np, bk, bn, a2, l2, p2, a3, l3, p3, a4, l4, p4, xa, xp, rfl, ht, hv, hkk⟩ := h.form
  obtain ⟨kk, ad, jj, vv, ds⟩ := it
  simp only at ht hv hkk HC ⊢
  have hadl : ad.length ≤ 1048576 := hz.1
  have hA : ∀ wx, Below w.heap.size w wx → Agree (fun b => b < N) w wx := fun wx hb => agree_below (hb.mono hN)
  obtain ⟨na', np', e1, hsa, hac, hac2, hna, hral⟩ := ht
  simp only [Value.slice.injEq, true_and] at e1
  obtain ⟨rfl, rfl⟩ := e1
  have HSa : Hid (∀ wx, Below w.heap.size w wx → Seg wx na ad) := fun wx hb => hsa.grow hb
  have HSay0 : Hid (goodB d vv 1 = true → partsV d vv ≤ 40 → ∀ wx, Below w.heap.size w wx → Calls Tryz.prog 18 #[.agg #[.int .i64 bk, .int .i64 bn, .slice a2 l2 p2, .slice a3 l3 p3, .slice a4 l4 p4]] wx (SayEnd (sayV d vv) wx)) := fun gd gp wx hb => l2say_any d N (.int .i64 bk, .int .i64 bn, .slice a2 l2 p2, .slice a3 l3 p3, .slice a4 l4 p4) vv 1 wx (VSeg.agree (hA wx hb) d hv) (by have := hb.size; omega) gd gp
  clear h hsa hral hv hkk hA hz hac hac2
  show Calls _ _ _ _ fun e w' => SayEnd (evtT d (kk, ad, jj, vv, ds)) w e w'
  cases hev : evB d (kk, ad, jj, vv, ds) with
  | false =>
    have HF := hide' (evtT_no hev)
    rw [hev] at HC
    generalize ds.length = dl at *
    generalize ad.length = al at *
    clear hev HSa HSay0
    go_enter Tryz.func5, Tryz.ntmps5
    go_wp2_with fail
    refine (HC.out _ (HA.out _)).mono ?_
    rintro e w1 ⟨rfl, b1⟩
    have B1 := hide' (Below.on (HA.out _) b1)
    clear b1
    go_wp2
    go_ret
    rw [HF.out]
    exact ⟨none, 0, rfl, ⟨by simp, .inl rfl⟩, fun _ => rfl, by simp, B1.out⟩
  | true =>
  rw [hev] at HC
  obtain ⟨hk0, hk6, hhd, hre⟩ := ev_parts hev
  obtain ⟨hq1, hq2, hq3⟩ := head_addr hhd
  have hgd := rest_map hre
  have HT0 : Hid (evtT d (kk, ad, jj, vv, ds) = (evW kk ++ (if 1 ≤ kk ∧ kk ≤ 4 then [32] ++ ad else [])) ++ (if kk = 1 then [32] ++ nmT jj else if kk = 2 then [32] ++ sayV d vv else [])) := by
    show _ = _
    unfold evtT
    rw [if_pos hev]
  obtain ⟨al, hal⟩ : ∃ al, al = ad.length := ⟨_, rfl⟩
  have Hal := hide' hal
  have hal1 : Hid ((1 ≤ kk ∧ kk ≤ 4) → ¬ al = 0) := by rw [hal]; exact hq1
  have hal0 : Hid (¬ (1 ≤ kk ∧ kk ≤ 4) → al = 0) := by rw [hal]; exact hq2
  rw [← hal] at HC ⊢
  generalize ds.length = dl at *
  have hnl := nm_len jj
  clear hhd hre hq1 hq2 hev hal
  have hkc : kk = 0 ∨ kk = 1 ∨ kk = 2 ∨ kk = 3 ∨ kk = 4 ∨ kk = 5 ∨ kk = 6 := by omega
  clear hk0 hk6
  go_enter Tryz.func5, Tryz.ntmps5
  go_wp2_with fail
  refine (HC.out _ (HA.out _)).mono ?_
  rintro e w1 ⟨rfl, b1⟩
  have B1 := hide' (Below.on (HA.out _) b1)
  have hr1 := hide' (Hbox.out _ _ b1)
  clear b1 HC Hbox HA
  obtain ⟨f0, f1, f2, f3, f4, f5, f6, f7, f8⟩ := ev_row hr1.out
  rcases hkc with rfl | rfl | rfl | rfl | rfl | rfl | rfl
  ·
    have HTxt : Hid (evtT d (0, ad, jj, vv, ds) = [98, 101, 103, 105, 110]) := by show _ = _; rw [HT0.out]; simp [evW]
    clear HT0 HSay0 hgd hq3
    obtain ⟨ck, wB, hcv, hMB, bB⟩ := conv_M [98, 101, 103, 105, 110] (by simp [Byt]) (by simp) (w1.alloc (.cells #[.string ⟨#[98, 101, 103, 105, 110]⟩, .string ⟨#[105, 110, 116, 101, 110, 116]⟩, .string ⟨#[100, 111, 110, 101]⟩, .string ⟨#[103, 111, 110, 101]⟩, .string ⟨#[102, 97, 105, 108]⟩, .string ⟨#[101, 110, 100]⟩, .string ⟨#[114, 101, 115, 101, 116]⟩] 9))
    have hcv' : (convert 9 22 (.string ⟨#[98, 101, 103, 105, 110]⟩)).run Tryz.prog (w1.alloc (.cells #[.string ⟨#[98, 101, 103, 105, 110]⟩, .string ⟨#[105, 110, 116, 101, 110, 116]⟩, .string ⟨#[100, 111, 110, 101]⟩, .string ⟨#[103, 111, 110, 101]⟩, .string ⟨#[102, 97, 105, 108]⟩, .string ⟨#[101, 110, 100]⟩, .string ⟨#[114, 101, 115, 101, 116]⟩] 9)) = .ok (.slice (some ⟨(w1.alloc (.cells #[.string ⟨#[98, 101, 103, 105, 110]⟩, .string ⟨#[105, 110, 116, 101, 110, 116]⟩, .string ⟨#[100, 111, 110, 101]⟩, .string ⟨#[103, 111, 110, 101]⟩, .string ⟨#[102, 97, 105, 108]⟩, .string ⟨#[101, 110, 100]⟩, .string ⟨#[114, 101, 115, 101, 116]⟩] 9)).heap.size, 0, none⟩) 5 ck) wB := hcv
    have hX : Hid (wB.heap[w.heap.size]? = some (.cells #[.int .i64 0, .slice na al np, .int .i64 jj, .int .i64 bk, .int .i64 bn, .slice a2 l2 p2, .slice a3 l3 p3, .slice a4 l4 p4, .slice xa dl xp] 35 (0, 0))) := (bB.block _ (by have := (Array.getElem?_eq_some_iff.1 hr1.out).1; simp; omega)).trans ((Below.heap_alloc w1 _ _ (Array.getElem?_eq_some_iff.1 hr1.out).1).trans hr1.out)
    have hb : Hid (Below w.heap.size w wB) := Below.on (B1.out.alloc B1.out.size _) bB
    have hY : Hid (BtsM wB (w.heap.size + 1) (.slice (some ⟨(w1.alloc (.cells #[.string ⟨#[98, 101, 103, 105, 110]⟩, .string ⟨#[105, 110, 116, 101, 110, 116]⟩, .string ⟨#[100, 111, 110, 101]⟩, .string ⟨#[103, 111, 110, 101]⟩, .string ⟨#[102, 97, 105, 108]⟩, .string ⟨#[101, 110, 100]⟩, .string ⟨#[114, 101, 115, 101, 116]⟩] 9)).heap.size, 0, none⟩) 5 ck) [98, 101, 103, 105, 110]) := hMB.mono (by have := (Array.getElem?_eq_some_iff.1 hr1.out).1; simp; omega)
    simp only [World.size_alloc] at hcv' hY
    obtain ⟨g0, g1, g2, g3, g4, g5, g6, g7, g8⟩ := ev_row hX.out
    obtain ⟨e0, e1, -, -, -, -, -, -, -⟩ := ev_row ((Below.heap_alloc w1 (.cells #[.string ⟨#[98, 101, 103, 105, 110]⟩, .string ⟨#[105, 110, 116, 101, 110, 116]⟩, .string ⟨#[100, 111, 110, 101]⟩, .string ⟨#[103, 111, 110, 101]⟩, .string ⟨#[102, 97, 105, 108]⟩, .string ⟨#[101, 110, 100]⟩, .string ⟨#[114, 101, 115, 101, 116]⟩] 9) _ (Array.getElem?_eq_some_iff.1 hr1.out).1).trans hr1.out)
    clear hcv hMB bB B1 hr1
    obtain rfl : al = 0 := hal0.out (by omega)
    go_wp2
    go_ret
    rw [HTxt.out]
    exact sayEnd_M (xs := [98, 101, 103, 105, 110]) hY.out hb.out
  ·
    have HNm : Hid (∀ wx, Calls Tryz.prog 17 #[.int .i64 jj] wx fun e w' => e = .returned (.string (strOf (nmT jj))) ∧ Below wx.heap.size wx w') := fun wx => l10name_any jj (hq3 rfl).1 (hq3 rfl).2 wx
    have HTxt : Hid (evtT d (1, ad, jj, vv, ds) = ((((([105, 110, 116, 101, 110, 116]) ++ [32]) ++ ad) ++ [32]) ++ nmT jj)) := by show _ = _; rw [HT0.out]; simp [evW]
    clear HT0 HSay0 hgd hq3
    obtain ⟨ck, wB, hcv, hMB, bB⟩ := conv_M [105, 110, 116, 101, 110, 116] (by simp [Byt]) (by simp) (w1.alloc (.cells #[.string ⟨#[98, 101, 103, 105, 110]⟩, .string ⟨#[105, 110, 116, 101, 110, 116]⟩, .string ⟨#[100, 111, 110, 101]⟩, .string ⟨#[103, 111, 110, 101]⟩, .string ⟨#[102, 97, 105, 108]⟩, .string ⟨#[101, 110, 100]⟩, .string ⟨#[114, 101, 115, 101, 116]⟩] 9))
    have hcv' : (convert 9 22 (.string ⟨#[105, 110, 116, 101, 110, 116]⟩)).run Tryz.prog (w1.alloc (.cells #[.string ⟨#[98, 101, 103, 105, 110]⟩, .string ⟨#[105, 110, 116, 101, 110, 116]⟩, .string ⟨#[100, 111, 110, 101]⟩, .string ⟨#[103, 111, 110, 101]⟩, .string ⟨#[102, 97, 105, 108]⟩, .string ⟨#[101, 110, 100]⟩, .string ⟨#[114, 101, 115, 101, 116]⟩] 9)) = .ok (.slice (some ⟨(w1.alloc (.cells #[.string ⟨#[98, 101, 103, 105, 110]⟩, .string ⟨#[105, 110, 116, 101, 110, 116]⟩, .string ⟨#[100, 111, 110, 101]⟩, .string ⟨#[103, 111, 110, 101]⟩, .string ⟨#[102, 97, 105, 108]⟩, .string ⟨#[101, 110, 100]⟩, .string ⟨#[114, 101, 115, 101, 116]⟩] 9)).heap.size, 0, none⟩) 6 ck) wB := hcv
    have hX : Hid (wB.heap[w.heap.size]? = some (.cells #[.int .i64 1, .slice na al np, .int .i64 jj, .int .i64 bk, .int .i64 bn, .slice a2 l2 p2, .slice a3 l3 p3, .slice a4 l4 p4, .slice xa dl xp] 35 (0, 0))) := (bB.block _ (by have := (Array.getElem?_eq_some_iff.1 hr1.out).1; simp; omega)).trans ((Below.heap_alloc w1 _ _ (Array.getElem?_eq_some_iff.1 hr1.out).1).trans hr1.out)
    have hb : Hid (Below w.heap.size w wB) := Below.on (B1.out.alloc B1.out.size _) bB
    have hY : Hid (BtsM wB (w.heap.size + 1) (.slice (some ⟨(w1.alloc (.cells #[.string ⟨#[98, 101, 103, 105, 110]⟩, .string ⟨#[105, 110, 116, 101, 110, 116]⟩, .string ⟨#[100, 111, 110, 101]⟩, .string ⟨#[103, 111, 110, 101]⟩, .string ⟨#[102, 97, 105, 108]⟩, .string ⟨#[101, 110, 100]⟩, .string ⟨#[114, 101, 115, 101, 116]⟩] 9)).heap.size, 0, none⟩) 6 ck) [105, 110, 116, 101, 110, 116]) := hMB.mono (by have := (Array.getElem?_eq_some_iff.1 hr1.out).1; simp; omega)
    simp only [World.size_alloc] at hcv' hY
    obtain ⟨g0, g1, g2, g3, g4, g5, g6, g7, g8⟩ := ev_row hX.out
    obtain ⟨e0, e1, -, -, -, -, -, -, -⟩ := ev_row ((Below.heap_alloc w1 (.cells #[.string ⟨#[98, 101, 103, 105, 110]⟩, .string ⟨#[105, 110, 116, 101, 110, 116]⟩, .string ⟨#[100, 111, 110, 101]⟩, .string ⟨#[103, 111, 110, 101]⟩, .string ⟨#[102, 97, 105, 108]⟩, .string ⟨#[101, 110, 100]⟩, .string ⟨#[114, 101, 115, 101, 116]⟩] 9) _ (Array.getElem?_eq_some_iff.1 hr1.out).1).trans hr1.out)
    clear hcv hMB bB B1 hr1
    have hal' : (0 : Int) < (al : Int) := by have := hal1.out (by omega); omega
    clear hal0 hal1
    generalize hgB : w1.heap.size + 1 = gB at *
    clear hgB
    go_wp2_with fail
    refine wp_region_held_drew (S := (fun wx => wx.cell? ⟨w.heap.size, 1, none⟩ = some (.slice na al np))) (by kernel_rfl) g1 (fun hHeld => ?_)
    replace hY : Hid (BtsM wB.drew (w.heap.size + 1) _ ([105, 110, 116, 101, 110, 116])) := hY.out
    replace hX : Hid (wB.drew.heap[w.heap.size]? = _) := hX.out
    replace hb : Hid (Below w.heap.size w wB.drew) := hb.out.drew
    generalize wB.drew = V0 at *
    refine take_yes (i := 0) 17 (v := ?_) rfl rfl (by kernel_rfl) (by kernel_rfl) (by kernel_rfl) (fun _ _ _ h => h) (by kernel_rfl) hHeld ?_ ?_
    rotate_left
    focus (intro w hSw; (try dsimp only at hSw); go_simp; (try with_reducible rfl))
    simp only [Act.put, List.setIfInBounds_toArray, List.set_cons_zero, List.set_cons_succ]
    refine take_yes (i := 3) 20 (v := ?_) rfl rfl (by kernel_rfl) (by kernel_rfl) (by kernel_rfl) (fun _ _ _ h => h) (by kernel_rfl) hHeld ?_ ?_
    rotate_left
    focus (intro w hSw; (try dsimp only at hSw); go_simp; (try with_reducible rfl))
    simp only [Act.put, List.setIfInBounds_toArray, List.set_cons_zero, List.set_cons_succ]
    refine take_yes (i := 4) 21 (v := ?_) rfl rfl (by kernel_rfl) (by kernel_rfl) (by kernel_rfl) (fun _ _ _ h => h) (by kernel_rfl) hHeld ?_ ?_
    rotate_left
    focus (intro w hSw; (try dsimp only at hSw); go_simp; (try with_reducible rfl))
    simp only [Act.put, List.setIfInBounds_toArray, List.set_cons_zero, List.set_cons_succ]
    refine wpAnyH_ready (rs := [1]) (by kernel_rfl) (by simp) ?_
    refine AllReadyH.cons rfl (fun K hK => ?_) AllReadyH.nil
    go_simp
    have hL := hide' (Lit.seg (c := 32) (MapKept.heap_alloc V0 (.cells #[.int .u8 32] 5)).1 (by simp [Byt]))
    replace hY := hide' (hY.out.alloc (.cells #[.int .u8 32] 5))
    replace hX := hide' (kept_alloc V0 (.cells #[.int .u8 32] 5) _ _ _ _ hX.out (by decide))
    replace hb := hide' (hb.out.alloc hb.out.size (.cells #[.int .u8 32] 5))
    refine hK.out _ _ (ev_row hX.out).2.1 (fun hHeld => ?_)
    clear hK
    (try simp only [Act.put, List.setIfInBounds_toArray, List.set_cons_zero, List.set_cons_succ])
    generalize V0.alloc (.cells #[.int .u8 32] 5) = V1 at *
    generalize V0.heap.size = gL0 at *
    refine wpAnyH_ready (rs := [2]) (by kernel_rfl) (by simp) ?_
    refine AllReadyH.cons rfl (fun K hK => ?_) AllReadyH.nil
    refine stepM_seg (by rfl) (.tmp 17) (.tmp 18) (by rfl) (w.heap.size + 1) (.slice (some ⟨gB, 0, none⟩) 6 ck) ([105, 110, 116, 101, 110, 116]) [32] (by rfl) hY.out (some ⟨_, 0, none⟩) 1 1 rfl (by rfl) hL.out (by simp) (by (try simp only [List.length_append, List.length_cons, List.length_nil]); omega) (Array.getElem?_eq_some_iff.1 hX.out).1 ?_
    intro Vy2 V2 hY2 hg
    replace hX := hide' (hY.out.kept hg _ _ _ _ hX.out (by decide))
    replace hb := hide' (hb.out.grown hg hb.out.size (fun k hk => by have := hY.out.own k hk; omega))
    replace hY := hide' hY2
    clear hY2 hg hL
    show K (Act.put _ (some 19) Vy2) V2
    refine hK.out _ _ (ev_row hX.out).2.1 (fun hHeld => ?_)
    clear hK
    (try simp only [Act.put, List.setIfInBounds_toArray, List.set_cons_zero, List.set_cons_succ])
    refine wpAnyH_ready (rs := [5]) (by kernel_rfl) (by simp) ?_
    refine AllReadyH.cons rfl (fun K hK => ?_) AllReadyH.nil
    refine stepM_seg (by rfl) (.tmp 19) (.tmp 21) (by rfl) (w.heap.size + 1) Vy2 (([105, 110, 116, 101, 110, 116]) ++ [32]) ad (by rfl) hY.out na al np Hal.out (by rfl) (HSa.out _ hb.out) hna (by (try simp only [List.length_append, List.length_cons, List.length_nil]); omega) (Array.getElem?_eq_some_iff.1 hX.out).1 ?_
    intro Vy3 V3 hY2 hg
    replace hX := hide' (hY.out.kept hg _ _ _ _ hX.out (by decide))
    replace hb := hide' (hb.out.grown hg hb.out.size (fun k hk => by have := hY.out.own k hk; omega))
    replace hY := hide' hY2
    clear hY2 hg
    show K (Act.put _ (some 22) Vy3) V3
    refine hK.out _ _ (ev_row hX.out).2.1 (fun hHeld => ?_)
    clear hK
    (try simp only [Act.put, List.setIfInBounds_toArray, List.set_cons_zero, List.set_cons_succ])
    refine take_yes (i := 6) 3 (v := ?_) rfl rfl (by kernel_rfl) (by kernel_rfl) (by kernel_rfl) (fun _ _ _ h => h) (by kernel_rfl) hHeld ?_ ?_
    rotate_left
    focus (intro w hSw; (try dsimp only at hSw); go_simp; (try with_reducible rfl))
    simp only [Act.put, List.setIfInBounds_toArray, List.set_cons_zero, List.set_cons_succ]
    refine wpAnyH_done (by kernel_rfl) ?_ _
    clear hHeld
    clear g0 g1 g2 g3 g4 g5 g6 g7 g8
    obtain ⟨g0, g1, g2, g3, g4, g5, g6, g7, g8⟩ := ev_row hX.out
    obtain ⟨zs1, hz1⟩ : ∃ zs1, zs1 = (([105, 110, 116, 101, 110, 116]) ++ [32]) ++ ad := ⟨_, rfl⟩
    rw [← hz1] at hY HTxt
    have hz1l : zs1.length ≤ 1048600 := by rw [hz1]; simp only [List.length_append, List.length_cons, List.length_nil]; omega
    clear hz1
    go_wp2_with fail
    refine wp_region_held_drew (S := (fun wx => wx.cell? ⟨w.heap.size, 2, none⟩ = some (.int .i64 jj))) (by kernel_rfl) g2 (fun hHeld => ?_)
    replace hY : Hid (BtsM V3.drew (w.heap.size + 1) _ (zs1)) := hY.out
    replace hX : Hid (V3.drew.heap[w.heap.size]? = _) := hX.out
    replace hb : Hid (Below w.heap.size w V3.drew) := hb.out.drew
    generalize V3.drew = U0 at *
    refine take_yes (i := 0) 26 (v := ?_) rfl rfl (by kernel_rfl) (by kernel_rfl) (by kernel_rfl) (fun _ _ _ h => h) (by kernel_rfl) hHeld ?_ ?_
    rotate_left
    focus (intro w hSw; (try dsimp only at hSw); go_simp; (try with_reducible rfl))
    simp only [Act.put, List.setIfInBounds_toArray, List.set_cons_zero, List.set_cons_succ]
    refine take_yes (i := 3) 29 (v := ?_) rfl rfl (by kernel_rfl) (by kernel_rfl) (by kernel_rfl) (fun _ _ _ h => h) (by kernel_rfl) hHeld ?_ ?_
    rotate_left
    focus (intro w hSw; (try dsimp only at hSw); go_simp; (try with_reducible rfl))
    simp only [Act.put, List.setIfInBounds_toArray, List.set_cons_zero, List.set_cons_succ]
    refine take_yes (i := 4) 30 (v := ?_) rfl rfl (by kernel_rfl) (by kernel_rfl) (by kernel_rfl) (fun _ _ _ h => h) (by kernel_rfl) hHeld ?_ ?_
    rotate_left
    focus (intro w hSw; (try dsimp only at hSw); go_simp; (try with_reducible rfl))
    simp only [Act.put, List.setIfInBounds_toArray, List.set_cons_zero, List.set_cons_succ]
    refine wpAnyH_ready (rs := [1]) (by kernel_rfl) (by simp) ?_
    refine AllReadyH.cons rfl (fun K hK => ?_) AllReadyH.nil
    go_simp
    have hL := hide' (Lit.seg (c := 32) (MapKept.heap_alloc U0 (.cells #[.int .u8 32] 5)).1 (by simp [Byt]))
    replace hY := hide' (hY.out.alloc (.cells #[.int .u8 32] 5))
    replace hX := hide' (kept_alloc U0 (.cells #[.int .u8 32] 5) _ _ _ _ hX.out (by decide))
    replace hb := hide' (hb.out.alloc hb.out.size (.cells #[.int .u8 32] 5))
    refine hK.out _ _ (ev_row hX.out).2.2.1 (fun hHeld => ?_)
    clear hK
    (try simp only [Act.put, List.setIfInBounds_toArray, List.set_cons_zero, List.set_cons_succ])
    generalize U0.alloc (.cells #[.int .u8 32] 5) = U1 at *
    generalize U0.heap.size = gL0 at *
    refine wpAnyH_ready (rs := [2]) (by kernel_rfl) (by simp) ?_
    refine AllReadyH.cons rfl (fun K hK => ?_) AllReadyH.nil
    refine stepM_seg (by rfl) (.tmp 26) (.tmp 27) (by rfl) (w.heap.size + 1) Vy3 (zs1) [32] (by rfl) hY.out (some ⟨_, 0, none⟩) 1 1 rfl (by rfl) hL.out (by simp) (by (try simp only [List.length_append, List.length_cons, List.length_nil]); omega) (Array.getElem?_eq_some_iff.1 hX.out).1 ?_
    intro Uy2 U2 hY2 hg
    replace hX := hide' (hY.out.kept hg _ _ _ _ hX.out (by decide))
    replace hb := hide' (hb.out.grown hg hb.out.size (fun k hk => by have := hY.out.own k hk; omega))
    replace hY := hide' hY2
    clear hY2 hg hL
    show K (Act.put _ (some 28) Uy2) U2
    refine hK.out _ _ (ev_row hX.out).2.2.1 (fun hHeld => ?_)
    clear hK
    (try simp only [Act.put, List.setIfInBounds_toArray, List.set_cons_zero, List.set_cons_succ])
    refine wpAnyH_ready (rs := [5]) (by kernel_rfl) (by simp) ?_
    refine AllReadyH.cons rfl (fun K hK => ?_) AllReadyH.nil
    go_simp
    go_at_call 17
    refine (HNm.out _).mono ?_
    rintro e U3 ⟨rfl, hbn⟩
    replace hY := hide' (hY.out.grow hbn)
    replace hX := hide' (kept_below hbn _ _ _ _ hX.out (by decide))
    replace hb := hide' (Below.on hb.out hbn)
    clear hbn
    go_wp2_with fail
    refine hK.out _ _ (ev_row hX.out).2.2.1 (fun hHeld => ?_)
    clear hK
    (try simp only [Act.put, List.setIfInBounds_toArray, List.set_cons_zero, List.set_cons_succ])
    refine wpAnyH_ready (rs := [6]) (by kernel_rfl) (by simp) ?_
    refine AllReadyH.cons rfl (fun K hK => ?_) AllReadyH.nil
    refine stepM_text (by rfl) (.tmp 28) (.tmp 31) 9 (by rfl) Tryz.underlying9 (w.heap.size + 1) Uy2 ((zs1) ++ [32]) (nmT jj) (by rfl) hY.out (strOf (nmT jj)) rfl (nm_byt jj) (by rfl) (by (try simp only [List.length_append, List.length_cons, List.length_nil]); omega) (Array.getElem?_eq_some_iff.1 hX.out).1 ?_
    intro Uy4 U4 hY2 hg
    replace hX := hide' (hY.out.kept hg _ _ _ _ hX.out (by decide))
    replace hb := hide' (hb.out.grown hg hb.out.size (fun k hk => by have := hY.out.own k hk; omega))
    replace hY := hide' hY2
    clear hY2 hg
    show K (Act.put _ (some 32) Uy4) U4
    refine hK.out _ _ (ev_row hX.out).2.2.1 (fun hHeld => ?_)
    clear hK
    (try simp only [Act.put, List.setIfInBounds_toArray, List.set_cons_zero, List.set_cons_succ])
    refine take_yes (i := 7) 3 (v := ?_) rfl rfl (by kernel_rfl) (by kernel_rfl) (by kernel_rfl) (fun _ _ _ h => h) (by kernel_rfl) hHeld ?_ ?_
    rotate_left
    focus (intro w hSw; (try dsimp only at hSw); go_simp; (try with_reducible rfl))
    simp only [Act.put, List.setIfInBounds_toArray, List.set_cons_zero, List.set_cons_succ]
    refine wpAnyH_done (by kernel_rfl) ?_ _
    clear hHeld
    clear g0 g1 g2 g3 g4 g5 g6 g7 g8
    obtain ⟨g0, g1, g2, g3, g4, g5, g6, g7, g8⟩ := ev_row hX.out
    go_wp2
    go_ret
    rw [HTxt.out]
    exact sayEnd_M hY.out hb.out
  ·
    obtain ⟨gd, gp⟩ := hgd rfl
    have HSay := hide' (HSay0.out gd gp)
    have hsvl : (sayV d vv).length ≤ 2400 := by have := sayV_len d vv 1 gd; omega
    generalize sayV d vv = sv at *
    clear gd gp
    have HTxt : Hid (evtT d (2, ad, jj, vv, ds) = ((((([100, 111, 110, 101]) ++ [32]) ++ ad) ++ [32]) ++ sv)) := by show _ = _; rw [HT0.out]; simp [evW]
    clear HT0 HSay0 hgd hq3
    obtain ⟨ck, wB, hcv, hMB, bB⟩ := conv_M [100, 111, 110, 101] (by simp [Byt]) (by simp) (w1.alloc (.cells #[.string ⟨#[98, 101, 103, 105, 110]⟩, .string ⟨#[105, 110, 116, 101, 110, 116]⟩, .string ⟨#[100, 111, 110, 101]⟩, .string ⟨#[103, 111, 110, 101]⟩, .string ⟨#[102, 97, 105, 108]⟩, .string ⟨#[101, 110, 100]⟩, .string ⟨#[114, 101, 115, 101, 116]⟩] 9))
    have hcv' : (convert 9 22 (.string ⟨#[100, 111, 110, 101]⟩)).run Tryz.prog (w1.alloc (.cells #[.string ⟨#[98, 101, 103, 105, 110]⟩, .string ⟨#[105, 110, 116, 101, 110, 116]⟩, .string ⟨#[100, 111, 110, 101]⟩, .string ⟨#[103, 111, 110, 101]⟩, .string ⟨#[102, 97, 105, 108]⟩, .string ⟨#[101, 110, 100]⟩, .string ⟨#[114, 101, 115, 101, 116]⟩] 9)) = .ok (.slice (some ⟨(w1.alloc (.cells #[.string ⟨#[98, 101, 103, 105, 110]⟩, .string ⟨#[105, 110, 116, 101, 110, 116]⟩, .string ⟨#[100, 111, 110, 101]⟩, .string ⟨#[103, 111, 110, 101]⟩, .string ⟨#[102, 97, 105, 108]⟩, .string ⟨#[101, 110, 100]⟩, .string ⟨#[114, 101, 115, 101, 116]⟩] 9)).heap.size, 0, none⟩) 4 ck) wB := hcv
    have hX : Hid (wB.heap[w.heap.size]? = some (.cells #[.int .i64 2, .slice na al np, .int .i64 jj, .int .i64 bk, .int .i64 bn, .slice a2 l2 p2, .slice a3 l3 p3, .slice a4 l4 p4, .slice xa dl xp] 35 (0, 0))) := (bB.block _ (by have := (Array.getElem?_eq_some_iff.1 hr1.out).1; simp; omega)).trans ((Below.heap_alloc w1 _ _ (Array.getElem?_eq_some_iff.1 hr1.out).1).trans hr1.out)
    have hb : Hid (Below w.heap.size w wB) := Below.on (B1.out.alloc B1.out.size _) bB
    have hY : Hid (BtsM wB (w.heap.size + 1) (.slice (some ⟨(w1.alloc (.cells #[.string ⟨#[98, 101, 103, 105, 110]⟩, .string ⟨#[105, 110, 116, 101, 110, 116]⟩, .string ⟨#[100, 111, 110, 101]⟩, .string ⟨#[103, 111, 110, 101]⟩, .string ⟨#[102, 97, 105, 108]⟩, .string ⟨#[101, 110, 100]⟩, .string ⟨#[114, 101, 115, 101, 116]⟩] 9)).heap.size, 0, none⟩) 4 ck) [100, 111, 110, 101]) := hMB.mono (by have := (Array.getElem?_eq_some_iff.1 hr1.out).1; simp; omega)
    simp only [World.size_alloc] at hcv' hY
    obtain ⟨g0, g1, g2, g3, g4, g5, g6, g7, g8⟩ := ev_row hX.out
    obtain ⟨e0, e1, -, -, -, -, -, -, -⟩ := ev_row ((Below.heap_alloc w1 (.cells #[.string ⟨#[98, 101, 103, 105, 110]⟩, .string ⟨#[105, 110, 116, 101, 110, 116]⟩, .string ⟨#[100, 111, 110, 101]⟩, .string ⟨#[103, 111, 110, 101]⟩, .string ⟨#[102, 97, 105, 108]⟩, .string ⟨#[101, 110, 100]⟩, .string ⟨#[114, 101, 115, 101, 116]⟩] 9) _ (Array.getElem?_eq_some_iff.1 hr1.out).1).trans hr1.out)
    clear hcv hMB bB B1 hr1
    have hal' : (0 : Int) < (al : Int) := by have := hal1.out (by omega); omega
    clear hal0 hal1
    generalize hgB : w1.heap.size + 1 = gB at *
    clear hgB
    go_wp2_with fail
    refine wp_region_held_drew (S := (fun wx => wx.cell? ⟨w.heap.size, 1, none⟩ = some (.slice na al np))) (by kernel_rfl) g1 (fun hHeld => ?_)
    replace hY : Hid (BtsM wB.drew (w.heap.size + 1) _ ([100, 111, 110, 101])) := hY.out
    replace hX : Hid (wB.drew.heap[w.heap.size]? = _) := hX.out
    replace hb : Hid (Below w.heap.size w wB.drew) := hb.out.drew
    generalize wB.drew = V0 at *
    refine take_yes (i := 0) 17 (v := ?_) rfl rfl (by kernel_rfl) (by kernel_rfl) (by kernel_rfl) (fun _ _ _ h => h) (by kernel_rfl) hHeld ?_ ?_
    rotate_left
    focus (intro w hSw; (try dsimp only at hSw); go_simp; (try with_reducible rfl))
    simp only [Act.put, List.setIfInBounds_toArray, List.set_cons_zero, List.set_cons_succ]
    refine take_yes (i := 3) 20 (v := ?_) rfl rfl (by kernel_rfl) (by kernel_rfl) (by kernel_rfl) (fun _ _ _ h => h) (by kernel_rfl) hHeld ?_ ?_
    rotate_left
    focus (intro w hSw; (try dsimp only at hSw); go_simp; (try with_reducible rfl))
    simp only [Act.put, List.setIfInBounds_toArray, List.set_cons_zero, List.set_cons_succ]
    refine take_yes (i := 4) 21 (v := ?_) rfl rfl (by kernel_rfl) (by kernel_rfl) (by kernel_rfl) (fun _ _ _ h => h) (by kernel_rfl) hHeld ?_ ?_
    rotate_left
    focus (intro w hSw; (try dsimp only at hSw); go_simp; (try with_reducible rfl))
    simp only [Act.put, List.setIfInBounds_toArray, List.set_cons_zero, List.set_cons_succ]
    refine wpAnyH_ready (rs := [1]) (by kernel_rfl) (by simp) ?_
    refine AllReadyH.cons rfl (fun K hK => ?_) AllReadyH.nil
    go_simp
    have hL := hide' (Lit.seg (c := 32) (MapKept.heap_alloc V0 (.cells #[.int .u8 32] 5)).1 (by simp [Byt]))
    replace hY := hide' (hY.out.alloc (.cells #[.int .u8 32] 5))
    replace hX := hide' (kept_alloc V0 (.cells #[.int .u8 32] 5) _ _ _ _ hX.out (by decide))
    replace hb := hide' (hb.out.alloc hb.out.size (.cells #[.int .u8 32] 5))
    refine hK.out _ _ (ev_row hX.out).2.1 (fun hHeld => ?_)
    clear hK
    (try simp only [Act.put, List.setIfInBounds_toArray, List.set_cons_zero, List.set_cons_succ])
    generalize V0.alloc (.cells #[.int .u8 32] 5) = V1 at *
    generalize V0.heap.size = gL0 at *
    refine wpAnyH_ready (rs := [2]) (by kernel_rfl) (by simp) ?_
    refine AllReadyH.cons rfl (fun K hK => ?_) AllReadyH.nil
    refine stepM_seg (by rfl) (.tmp 17) (.tmp 18) (by rfl) (w.heap.size + 1) (.slice (some ⟨gB, 0, none⟩) 4 ck) ([100, 111, 110, 101]) [32] (by rfl) hY.out (some ⟨_, 0, none⟩) 1 1 rfl (by rfl) hL.out (by simp) (by (try simp only [List.length_append, List.length_cons, List.length_nil]); omega) (Array.getElem?_eq_some_iff.1 hX.out).1 ?_
    intro Vy2 V2 hY2 hg
    replace hX := hide' (hY.out.kept hg _ _ _ _ hX.out (by decide))
    replace hb := hide' (hb.out.grown hg hb.out.size (fun k hk => by have := hY.out.own k hk; omega))
    replace hY := hide' hY2
    clear hY2 hg hL
    show K (Act.put _ (some 19) Vy2) V2
    refine hK.out _ _ (ev_row hX.out).2.1 (fun hHeld => ?_)
    clear hK
    (try simp only [Act.put, List.setIfInBounds_toArray, List.set_cons_zero, List.set_cons_succ])
    refine wpAnyH_ready (rs := [5]) (by kernel_rfl) (by simp) ?_
    refine AllReadyH.cons rfl (fun K hK => ?_) AllReadyH.nil
    refine stepM_seg (by rfl) (.tmp 19) (.tmp 21) (by rfl) (w.heap.size + 1) Vy2 (([100, 111, 110, 101]) ++ [32]) ad (by rfl) hY.out na al np Hal.out (by rfl) (HSa.out _ hb.out) hna (by (try simp only [List.length_append, List.length_cons, List.length_nil]); omega) (Array.getElem?_eq_some_iff.1 hX.out).1 ?_
    intro Vy3 V3 hY2 hg
    replace hX := hide' (hY.out.kept hg _ _ _ _ hX.out (by decide))
    replace hb := hide' (hb.out.grown hg hb.out.size (fun k hk => by have := hY.out.own k hk; omega))
    replace hY := hide' hY2
    clear hY2 hg
    show K (Act.put _ (some 22) Vy3) V3
    refine hK.out _ _ (ev_row hX.out).2.1 (fun hHeld => ?_)
    clear hK
    (try simp only [Act.put, List.setIfInBounds_toArray, List.set_cons_zero, List.set_cons_succ])
    refine take_yes (i := 6) 3 (v := ?_) rfl rfl (by kernel_rfl) (by kernel_rfl) (by kernel_rfl) (fun _ _ _ h => h) (by kernel_rfl) hHeld ?_ ?_
    rotate_left
    focus (intro w hSw; (try dsimp only at hSw); go_simp; (try with_reducible rfl))
    simp only [Act.put, List.setIfInBounds_toArray, List.set_cons_zero, List.set_cons_succ]
    refine wpAnyH_done (by kernel_rfl) ?_ _
    clear hHeld
    clear g0 g1 g2 g3 g4 g5 g6 g7 g8
    obtain ⟨g0, g1, g2, g3, g4, g5, g6, g7, g8⟩ := ev_row hX.out
    obtain ⟨zs1, hz1⟩ : ∃ zs1, zs1 = (([100, 111, 110, 101]) ++ [32]) ++ ad := ⟨_, rfl⟩
    rw [← hz1] at hY HTxt
    have hz1l : zs1.length ≤ 1048600 := by rw [hz1]; simp only [List.length_append, List.length_cons, List.length_nil]; omega
    clear hz1
    go_wp2_with fail
    refine wp_region_held_drew (S := (fun wx => wx.cell? ⟨w.heap.size, 3, none⟩ = some (.int .i64 bk) ∧ wx.cell? ⟨w.heap.size, 4, none⟩ = some (.int .i64 bn) ∧ wx.cell? ⟨w.heap.size, 5, none⟩ = some (.slice a2 l2 p2) ∧ wx.cell? ⟨w.heap.size, 6, none⟩ = some (.slice a3 l3 p3) ∧ wx.cell? ⟨w.heap.size, 7, none⟩ = some (.slice a4 l4 p4))) (by kernel_rfl) ⟨g3, g4, g5, g6, g7⟩ (fun hHeld => ?_)
    replace hY : Hid (BtsM V3.drew (w.heap.size + 1) _ (zs1)) := hY.out
    replace hX : Hid (V3.drew.heap[w.heap.size]? = _) := hX.out
    replace hb : Hid (Below w.heap.size w V3.drew) := hb.out.drew
    generalize V3.drew = U0 at *
    refine take_yes (i := 0) 36 (v := ?_) rfl rfl (by kernel_rfl) (by kernel_rfl) (by kernel_rfl) (fun _ _ _ h => h) (by kernel_rfl) hHeld ?_ ?_
    rotate_left
    focus (intro w hSw; (try dsimp only at hSw); go_simp; (try with_reducible rfl))
    simp only [Act.put, List.setIfInBounds_toArray, List.set_cons_zero, List.set_cons_succ]
    refine take_yes (i := 3) 39 (v := ?_) rfl rfl (by kernel_rfl) (by kernel_rfl) (by kernel_rfl) (fun _ _ _ h => h) (by kernel_rfl) hHeld ?_ ?_
    rotate_left
    focus (intro w hSw; (try dsimp only at hSw); go_simp; (try with_reducible rfl))
    simp only [Act.put, List.setIfInBounds_toArray, List.set_cons_zero, List.set_cons_succ]
    refine take_yes (i := 4) 40 (v := ?_) rfl rfl (by kernel_rfl) (by kernel_rfl) (by kernel_rfl) (fun _ _ _ h => h) (by kernel_rfl) hHeld ?_ ?_
    rotate_left
    focus (intro w hSw; (try dsimp only at hSw); go_simp; (try with_reducible rfl))
    simp only [Act.put, List.setIfInBounds_toArray, List.set_cons_zero, List.set_cons_succ]
    refine wpAnyH_ready (rs := [1]) (by kernel_rfl) (by simp) ?_
    refine AllReadyH.cons rfl (fun K hK => ?_) AllReadyH.nil
    go_simp
    have hL := hide' (Lit.seg (c := 32) (MapKept.heap_alloc U0 (.cells #[.int .u8 32] 5)).1 (by simp [Byt]))
    replace hY := hide' (hY.out.alloc (.cells #[.int .u8 32] 5))
    replace hX := hide' (kept_alloc U0 (.cells #[.int .u8 32] 5) _ _ _ _ hX.out (by decide))
    replace hb := hide' (hb.out.alloc hb.out.size (.cells #[.int .u8 32] 5))
    refine hK.out _ _ ⟨(ev_row hX.out).2.2.2.1, (ev_row hX.out).2.2.2.2.1, (ev_row hX.out).2.2.2.2.2.1, (ev_row hX.out).2.2.2.2.2.2.1, (ev_row hX.out).2.2.2.2.2.2.2.1⟩ (fun hHeld => ?_)
    clear hK
    (try simp only [Act.put, List.setIfInBounds_toArray, List.set_cons_zero, List.set_cons_succ])
    generalize U0.alloc (.cells #[.int .u8 32] 5) = U1 at *
    generalize U0.heap.size = gL0 at *
    refine wpAnyH_ready (rs := [2]) (by kernel_rfl) (by simp) ?_
    refine AllReadyH.cons rfl (fun K hK => ?_) AllReadyH.nil
    refine stepM_seg (by rfl) (.tmp 36) (.tmp 37) (by rfl) (w.heap.size + 1) Vy3 (zs1) [32] (by rfl) hY.out (some ⟨_, 0, none⟩) 1 1 rfl (by rfl) hL.out (by simp) (by (try simp only [List.length_append, List.length_cons, List.length_nil]); omega) (Array.getElem?_eq_some_iff.1 hX.out).1 ?_
    intro Uy2 U2 hY2 hg
    replace hX := hide' (hY.out.kept hg _ _ _ _ hX.out (by decide))
    replace hb := hide' (hb.out.grown hg hb.out.size (fun k hk => by have := hY.out.own k hk; omega))
    replace hY := hide' hY2
    clear hY2 hg hL
    show K (Act.put _ (some 38) Uy2) U2
    refine hK.out _ _ ⟨(ev_row hX.out).2.2.2.1, (ev_row hX.out).2.2.2.2.1, (ev_row hX.out).2.2.2.2.2.1, (ev_row hX.out).2.2.2.2.2.2.1, (ev_row hX.out).2.2.2.2.2.2.2.1⟩ (fun hHeld => ?_)
    clear hK
    (try simp only [Act.put, List.setIfInBounds_toArray, List.set_cons_zero, List.set_cons_succ])
    refine wpAnyH_ready (rs := [5]) (by kernel_rfl) (by simp) ?_
    refine AllReadyH.cons rfl (fun K hK => ?_) AllReadyH.nil
    go_simp
    go_at_call 18
    refine (HSay.out _ hb.out).mono ?_
    rintro e U3 ⟨ra, rc, rfl, hRs, hrn, -, hbn⟩
    have hR := hide' hRs
    clear hRs
    replace hY := hide' (hY.out.grow hbn)
    replace hX := hide' (kept_below hbn _ _ _ _ hX.out (by decide))
    replace hb := hide' (Below.on hb.out hbn)
    clear hbn
    go_wp2_with fail
    refine hK.out _ _ ⟨(ev_row hX.out).2.2.2.1, (ev_row hX.out).2.2.2.2.1, (ev_row hX.out).2.2.2.2.2.1, (ev_row hX.out).2.2.2.2.2.2.1, (ev_row hX.out).2.2.2.2.2.2.2.1⟩ (fun hHeld => ?_)
    clear hK
    (try simp only [Act.put, List.setIfInBounds_toArray, List.set_cons_zero, List.set_cons_succ])
    refine wpAnyH_ready (rs := [6]) (by kernel_rfl) (by simp) ?_
    refine AllReadyH.cons rfl (fun K hK => ?_) AllReadyH.nil
    refine stepM_seg (by rfl) (.tmp 38) (.tmp 41) (by rfl) (w.heap.size + 1) Uy2 ((zs1) ++ [32]) sv (by rfl) hY.out ra sv.length rc rfl (by rfl) hR.out hrn (by (try simp only [List.length_append, List.length_cons, List.length_nil]); omega) (Array.getElem?_eq_some_iff.1 hX.out).1 ?_
    intro Uy4 U4 hY2 hg
    replace hX := hide' (hY.out.kept hg _ _ _ _ hX.out (by decide))
    replace hb := hide' (hb.out.grown hg hb.out.size (fun k hk => by have := hY.out.own k hk; omega))
    replace hY := hide' hY2
    clear hY2 hg
    show K (Act.put _ (some 42) Uy4) U4
    refine hK.out _ _ ⟨(ev_row hX.out).2.2.2.1, (ev_row hX.out).2.2.2.2.1, (ev_row hX.out).2.2.2.2.2.1, (ev_row hX.out).2.2.2.2.2.2.1, (ev_row hX.out).2.2.2.2.2.2.2.1⟩ (fun hHeld => ?_)
    clear hK
    (try simp only [Act.put, List.setIfInBounds_toArray, List.set_cons_zero, List.set_cons_succ])
    refine take_yes (i := 7) 3 (v := ?_) rfl rfl (by kernel_rfl) (by kernel_rfl) (by kernel_rfl) (fun _ _ _ h => h) (by kernel_rfl) hHeld ?_ ?_
    rotate_left
    focus (intro w hSw; (try dsimp only at hSw); go_simp; (try with_reducible rfl))
    simp only [Act.put, List.setIfInBounds_toArray, List.set_cons_zero, List.set_cons_succ]
    refine wpAnyH_done (by kernel_rfl) ?_ _
    clear hHeld
    go_wp2
    go_ret
    rw [HTxt.out]
    exact sayEnd_M hY.out hb.out
  ·
    have HTxt : Hid (evtT d (3, ad, jj, vv, ds) = ((([103, 111, 110, 101]) ++ [32]) ++ ad)) := by show _ = _; rw [HT0.out]; simp [evW]
    clear HT0 HSay0 hgd hq3
    obtain ⟨ck, wB, hcv, hMB, bB⟩ := conv_M [103, 111, 110, 101] (by simp [Byt]) (by simp) (w1.alloc (.cells #[.string ⟨#[98, 101, 103, 105, 110]⟩, .string ⟨#[105, 110, 116, 101, 110, 116]⟩, .string ⟨#[100, 111, 110, 101]⟩, .string ⟨#[103, 111, 110, 101]⟩, .string ⟨#[102, 97, 105, 108]⟩, .string ⟨#[101, 110, 100]⟩, .string ⟨#[114, 101, 115, 101, 116]⟩] 9))
    have hcv' : (convert 9 22 (.string ⟨#[103, 111, 110, 101]⟩)).run Tryz.prog (w1.alloc (.cells #[.string ⟨#[98, 101, 103, 105, 110]⟩, .string ⟨#[105, 110, 116, 101, 110, 116]⟩, .string ⟨#[100, 111, 110, 101]⟩, .string ⟨#[103, 111, 110, 101]⟩, .string ⟨#[102, 97, 105, 108]⟩, .string ⟨#[101, 110, 100]⟩, .string ⟨#[114, 101, 115, 101, 116]⟩] 9)) = .ok (.slice (some ⟨(w1.alloc (.cells #[.string ⟨#[98, 101, 103, 105, 110]⟩, .string ⟨#[105, 110, 116, 101, 110, 116]⟩, .string ⟨#[100, 111, 110, 101]⟩, .string ⟨#[103, 111, 110, 101]⟩, .string ⟨#[102, 97, 105, 108]⟩, .string ⟨#[101, 110, 100]⟩, .string ⟨#[114, 101, 115, 101, 116]⟩] 9)).heap.size, 0, none⟩) 4 ck) wB := hcv
    have hX : Hid (wB.heap[w.heap.size]? = some (.cells #[.int .i64 3, .slice na al np, .int .i64 jj, .int .i64 bk, .int .i64 bn, .slice a2 l2 p2, .slice a3 l3 p3, .slice a4 l4 p4, .slice xa dl xp] 35 (0, 0))) := (bB.block _ (by have := (Array.getElem?_eq_some_iff.1 hr1.out).1; simp; omega)).trans ((Below.heap_alloc w1 _ _ (Array.getElem?_eq_some_iff.1 hr1.out).1).trans hr1.out)
    have hb : Hid (Below w.heap.size w wB) := Below.on (B1.out.alloc B1.out.size _) bB
    have hY : Hid (BtsM wB (w.heap.size + 1) (.slice (some ⟨(w1.alloc (.cells #[.string ⟨#[98, 101, 103, 105, 110]⟩, .string ⟨#[105, 110, 116, 101, 110, 116]⟩, .string ⟨#[100, 111, 110, 101]⟩, .string ⟨#[103, 111, 110, 101]⟩, .string ⟨#[102, 97, 105, 108]⟩, .string ⟨#[101, 110, 100]⟩, .string ⟨#[114, 101, 115, 101, 116]⟩] 9)).heap.size, 0, none⟩) 4 ck) [103, 111, 110, 101]) := hMB.mono (by have := (Array.getElem?_eq_some_iff.1 hr1.out).1; simp; omega)
    simp only [World.size_alloc] at hcv' hY
    obtain ⟨g0, g1, g2, g3, g4, g5, g6, g7, g8⟩ := ev_row hX.out
    obtain ⟨e0, e1, -, -, -, -, -, -, -⟩ := ev_row ((Below.heap_alloc w1 (.cells #[.string ⟨#[98, 101, 103, 105, 110]⟩, .string ⟨#[105, 110, 116, 101, 110, 116]⟩, .string ⟨#[100, 111, 110, 101]⟩, .string ⟨#[103, 111, 110, 101]⟩, .string ⟨#[102, 97, 105, 108]⟩, .string ⟨#[101, 110, 100]⟩, .string ⟨#[114, 101, 115, 101, 116]⟩] 9) _ (Array.getElem?_eq_some_iff.1 hr1.out).1).trans hr1.out)
    clear hcv hMB bB B1 hr1
    have hal' : (0 : Int) < (al : Int) := by have := hal1.out (by omega); omega
    clear hal0 hal1
    generalize hgB : w1.heap.size + 1 = gB at *
    clear hgB
    go_wp2_with fail
    refine wp_region_held_drew (S := (fun wx => wx.cell? ⟨w.heap.size, 1, none⟩ = some (.slice na al np))) (by kernel_rfl) g1 (fun hHeld => ?_)
    replace hY : Hid (BtsM wB.drew (w.heap.size + 1) _ ([103, 111, 110, 101])) := hY.out
    replace hX : Hid (wB.drew.heap[w.heap.size]? = _) := hX.out
    replace hb : Hid (Below w.heap.size w wB.drew) := hb.out.drew
    generalize wB.drew = V0 at *
    refine take_yes (i := 0) 17 (v := ?_) rfl rfl (by kernel_rfl) (by kernel_rfl) (by kernel_rfl) (fun _ _ _ h => h) (by kernel_rfl) hHeld ?_ ?_
    rotate_left
    focus (intro w hSw; (try dsimp only at hSw); go_simp; (try with_reducible rfl))
    simp only [Act.put, List.setIfInBounds_toArray, List.set_cons_zero, List.set_cons_succ]
    refine take_yes (i := 3) 20 (v := ?_) rfl rfl (by kernel_rfl) (by kernel_rfl) (by kernel_rfl) (fun _ _ _ h => h) (by kernel_rfl) hHeld ?_ ?_
    rotate_left
    focus (intro w hSw; (try dsimp only at hSw); go_simp; (try with_reducible rfl))
    simp only [Act.put, List.setIfInBounds_toArray, List.set_cons_zero, List.set_cons_succ]
    refine take_yes (i := 4) 21 (v := ?_) rfl rfl (by kernel_rfl) (by kernel_rfl) (by kernel_rfl) (fun _ _ _ h => h) (by kernel_rfl) hHeld ?_ ?_
    rotate_left
    focus (intro w hSw; (try dsimp only at hSw); go_simp; (try with_reducible rfl))
    simp only [Act.put, List.setIfInBounds_toArray, List.set_cons_zero, List.set_cons_succ]
    refine wpAnyH_ready (rs := [1]) (by kernel_rfl) (by simp) ?_
    refine AllReadyH.cons rfl (fun K hK => ?_) AllReadyH.nil
    go_simp
    have hL := hide' (Lit.seg (c := 32) (MapKept.heap_alloc V0 (.cells #[.int .u8 32] 5)).1 (by simp [Byt]))
    replace hY := hide' (hY.out.alloc (.cells #[.int .u8 32] 5))
    replace hX := hide' (kept_alloc V0 (.cells #[.int .u8 32] 5) _ _ _ _ hX.out (by decide))
    replace hb := hide' (hb.out.alloc hb.out.size (.cells #[.int .u8 32] 5))
    refine hK.out _ _ (ev_row hX.out).2.1 (fun hHeld => ?_)
    clear hK
    (try simp only [Act.put, List.setIfInBounds_toArray, List.set_cons_zero, List.set_cons_succ])
    generalize V0.alloc (.cells #[.int .u8 32] 5) = V1 at *
    generalize V0.heap.size = gL0 at *
    refine wpAnyH_ready (rs := [2]) (by kernel_rfl) (by simp) ?_
    refine AllReadyH.cons rfl (fun K hK => ?_) AllReadyH.nil
    refine stepM_seg (by rfl) (.tmp 17) (.tmp 18) (by rfl) (w.heap.size + 1) (.slice (some ⟨gB, 0, none⟩) 4 ck) ([103, 111, 110, 101]) [32] (by rfl) hY.out (some ⟨_, 0, none⟩) 1 1 rfl (by rfl) hL.out (by simp) (by (try simp only [List.length_append, List.length_cons, List.length_nil]); omega) (Array.getElem?_eq_some_iff.1 hX.out).1 ?_
    intro Vy2 V2 hY2 hg
    replace hX := hide' (hY.out.kept hg _ _ _ _ hX.out (by decide))
    replace hb := hide' (hb.out.grown hg hb.out.size (fun k hk => by have := hY.out.own k hk; omega))
    replace hY := hide' hY2
    clear hY2 hg hL
    show K (Act.put _ (some 19) Vy2) V2
    refine hK.out _ _ (ev_row hX.out).2.1 (fun hHeld => ?_)
    clear hK
    (try simp only [Act.put, List.setIfInBounds_toArray, List.set_cons_zero, List.set_cons_succ])
    refine wpAnyH_ready (rs := [5]) (by kernel_rfl) (by simp) ?_
    refine AllReadyH.cons rfl (fun K hK => ?_) AllReadyH.nil
    refine stepM_seg (by rfl) (.tmp 19) (.tmp 21) (by rfl) (w.heap.size + 1) Vy2 (([103, 111, 110, 101]) ++ [32]) ad (by rfl) hY.out na al np Hal.out (by rfl) (HSa.out _ hb.out) hna (by (try simp only [List.length_append, List.length_cons, List.length_nil]); omega) (Array.getElem?_eq_some_iff.1 hX.out).1 ?_
    intro Vy3 V3 hY2 hg
    replace hX := hide' (hY.out.kept hg _ _ _ _ hX.out (by decide))
    replace hb := hide' (hb.out.grown hg hb.out.size (fun k hk => by have := hY.out.own k hk; omega))
    replace hY := hide' hY2
    clear hY2 hg
    show K (Act.put _ (some 22) Vy3) V3
    refine hK.out _ _ (ev_row hX.out).2.1 (fun hHeld => ?_)
    clear hK
    (try simp only [Act.put, List.setIfInBounds_toArray, List.set_cons_zero, List.set_cons_succ])
    refine take_yes (i := 6) 3 (v := ?_) rfl rfl (by kernel_rfl) (by kernel_rfl) (by kernel_rfl) (fun _ _ _ h => h) (by kernel_rfl) hHeld ?_ ?_
    rotate_left
    focus (intro w hSw; (try dsimp only at hSw); go_simp; (try with_reducible rfl))
    simp only [Act.put, List.setIfInBounds_toArray, List.set_cons_zero, List.set_cons_succ]
    refine wpAnyH_done (by kernel_rfl) ?_ _
    clear hHeld
    clear g0 g1 g2 g3 g4 g5 g6 g7 g8
    obtain ⟨g0, g1, g2, g3, g4, g5, g6, g7, g8⟩ := ev_row hX.out
    go_wp2
    go_ret
    rw [HTxt.out]
    exact sayEnd_M hY.out hb.out
  ·
    have HTxt : Hid (evtT d (4, ad, jj, vv, ds) = ((([102, 97, 105, 108]) ++ [32]) ++ ad)) := by show _ = _; rw [HT0.out]; simp [evW]
    clear HT0 HSay0 hgd hq3
    obtain ⟨ck, wB, hcv, hMB, bB⟩ := conv_M [102, 97, 105, 108] (by simp [Byt]) (by simp) (w1.alloc (.cells #[.string ⟨#[98, 101, 103, 105, 110]⟩, .string ⟨#[105, 110, 116, 101, 110, 116]⟩, .string ⟨#[100, 111, 110, 101]⟩, .string ⟨#[103, 111, 110, 101]⟩, .string ⟨#[102, 97, 105, 108]⟩, .string ⟨#[101, 110, 100]⟩, .string ⟨#[114, 101, 115, 101, 116]⟩] 9))
    have hcv' : (convert 9 22 (.string ⟨#[102, 97, 105, 108]⟩)).run Tryz.prog (w1.alloc (.cells #[.string ⟨#[98, 101, 103, 105, 110]⟩, .string ⟨#[105, 110, 116, 101, 110, 116]⟩, .string ⟨#[100, 111, 110, 101]⟩, .string ⟨#[103, 111, 110, 101]⟩, .string ⟨#[102, 97, 105, 108]⟩, .string ⟨#[101, 110, 100]⟩, .string ⟨#[114, 101, 115, 101, 116]⟩] 9)) = .ok (.slice (some ⟨(w1.alloc (.cells #[.string ⟨#[98, 101, 103, 105, 110]⟩, .string ⟨#[105, 110, 116, 101, 110, 116]⟩, .string ⟨#[100, 111, 110, 101]⟩, .string ⟨#[103, 111, 110, 101]⟩, .string ⟨#[102, 97, 105, 108]⟩, .string ⟨#[101, 110, 100]⟩, .string ⟨#[114, 101, 115, 101, 116]⟩] 9)).heap.size, 0, none⟩) 4 ck) wB := hcv
    have hX : Hid (wB.heap[w.heap.size]? = some (.cells #[.int .i64 4, .slice na al np, .int .i64 jj, .int .i64 bk, .int .i64 bn, .slice a2 l2 p2, .slice a3 l3 p3, .slice a4 l4 p4, .slice xa dl xp] 35 (0, 0))) := (bB.block _ (by have := (Array.getElem?_eq_some_iff.1 hr1.out).1; simp; omega)).trans ((Below.heap_alloc w1 _ _ (Array.getElem?_eq_some_iff.1 hr1.out).1).trans hr1.out)
    have hb : Hid (Below w.heap.size w wB) := Below.on (B1.out.alloc B1.out.size _) bB
    have hY : Hid (BtsM wB (w.heap.size + 1) (.slice (some ⟨(w1.alloc (.cells #[.string ⟨#[98, 101, 103, 105, 110]⟩, .string ⟨#[105, 110, 116, 101, 110, 116]⟩, .string ⟨#[100, 111, 110, 101]⟩, .string ⟨#[103, 111, 110, 101]⟩, .string ⟨#[102, 97, 105, 108]⟩, .string ⟨#[101, 110, 100]⟩, .string ⟨#[114, 101, 115, 101, 116]⟩] 9)).heap.size, 0, none⟩) 4 ck) [102, 97, 105, 108]) := hMB.mono (by have := (Array.getElem?_eq_some_iff.1 hr1.out).1; simp; omega)
    simp only [World.size_alloc] at hcv' hY
    obtain ⟨g0, g1, g2, g3, g4, g5, g6, g7, g8⟩ := ev_row hX.out
    obtain ⟨e0, e1, -, -, -, -, -, -, -⟩ := ev_row ((Below.heap_alloc w1 (.cells #[.string ⟨#[98, 101, 103, 105, 110]⟩, .string ⟨#[105, 110, 116, 101, 110, 116]⟩, .string ⟨#[100, 111, 110, 101]⟩, .string ⟨#[103, 111, 110, 101]⟩, .string ⟨#[102, 97, 105, 108]⟩, .string ⟨#[101, 110, 100]⟩, .string ⟨#[114, 101, 115, 101, 116]⟩] 9) _ (Array.getElem?_eq_some_iff.1 hr1.out).1).trans hr1.out)
    clear hcv hMB bB B1 hr1
    have hal' : (0 : Int) < (al : Int) := by have := hal1.out (by omega); omega
    clear hal0 hal1
    generalize hgB : w1.heap.size + 1 = gB at *
    clear hgB
    go_wp2_with fail
    refine wp_region_held_drew (S := (fun wx => wx.cell? ⟨w.heap.size, 1, none⟩ = some (.slice na al np))) (by kernel_rfl) g1 (fun hHeld => ?_)
    replace hY : Hid (BtsM wB.drew (w.heap.size + 1) _ ([102, 97, 105, 108])) := hY.out
    replace hX : Hid (wB.drew.heap[w.heap.size]? = _) := hX.out
    replace hb : Hid (Below w.heap.size w wB.drew) := hb.out.drew
    generalize wB.drew = V0 at *
    refine take_yes (i := 0) 17 (v := ?_) rfl rfl (by kernel_rfl) (by kernel_rfl) (by kernel_rfl) (fun _ _ _ h => h) (by kernel_rfl) hHeld ?_ ?_
    rotate_left
    focus (intro w hSw; (try dsimp only at hSw); go_simp; (try with_reducible rfl))
    simp only [Act.put, List.setIfInBounds_toArray, List.set_cons_zero, List.set_cons_succ]
    refine take_yes (i := 3) 20 (v := ?_) rfl rfl (by kernel_rfl) (by kernel_rfl) (by kernel_rfl) (fun _ _ _ h => h) (by kernel_rfl) hHeld ?_ ?_
    rotate_left
    focus (intro w hSw; (try dsimp only at hSw); go_simp; (try with_reducible rfl))
    simp only [Act.put, List.setIfInBounds_toArray, List.set_cons_zero, List.set_cons_succ]
    refine take_yes (i := 4) 21 (v := ?_) rfl rfl (by kernel_rfl) (by kernel_rfl) (by kernel_rfl) (fun _ _ _ h => h) (by kernel_rfl) hHeld ?_ ?_
    rotate_left
    focus (intro w hSw; (try dsimp only at hSw); go_simp; (try with_reducible rfl))
    simp only [Act.put, List.setIfInBounds_toArray, List.set_cons_zero, List.set_cons_succ]
    refine wpAnyH_ready (rs := [1]) (by kernel_rfl) (by simp) ?_
    refine AllReadyH.cons rfl (fun K hK => ?_) AllReadyH.nil
    go_simp
    have hL := hide' (Lit.seg (c := 32) (MapKept.heap_alloc V0 (.cells #[.int .u8 32] 5)).1 (by simp [Byt]))
    replace hY := hide' (hY.out.alloc (.cells #[.int .u8 32] 5))
    replace hX := hide' (kept_alloc V0 (.cells #[.int .u8 32] 5) _ _ _ _ hX.out (by decide))
    replace hb := hide' (hb.out.alloc hb.out.size (.cells #[.int .u8 32] 5))
    refine hK.out _ _ (ev_row hX.out).2.1 (fun hHeld => ?_)
    clear hK
    (try simp only [Act.put, List.setIfInBounds_toArray, List.set_cons_zero, List.set_cons_succ])
    generalize V0.alloc (.cells #[.int .u8 32] 5) = V1 at *
    generalize V0.heap.size = gL0 at *
    refine wpAnyH_ready (rs := [2]) (by kernel_rfl) (by simp) ?_
    refine AllReadyH.cons rfl (fun K hK => ?_) AllReadyH.nil
    refine stepM_seg (by rfl) (.tmp 17) (.tmp 18) (by rfl) (w.heap.size + 1) (.slice (some ⟨gB, 0, none⟩) 4 ck) ([102, 97, 105, 108]) [32] (by rfl) hY.out (some ⟨_, 0, none⟩) 1 1 rfl (by rfl) hL.out (by simp) (by (try simp only [List.length_append, List.length_cons, List.length_nil]); omega) (Array.getElem?_eq_some_iff.1 hX.out).1 ?_
    intro Vy2 V2 hY2 hg
    replace hX := hide' (hY.out.kept hg _ _ _ _ hX.out (by decide))
    replace hb := hide' (hb.out.grown hg hb.out.size (fun k hk => by have := hY.out.own k hk; omega))
    replace hY := hide' hY2
    clear hY2 hg hL
    show K (Act.put _ (some 19) Vy2) V2
    refine hK.out _ _ (ev_row hX.out).2.1 (fun hHeld => ?_)
    clear hK
    (try simp only [Act.put, List.setIfInBounds_toArray, List.set_cons_zero, List.set_cons_succ])
    refine wpAnyH_ready (rs := [5]) (by kernel_rfl) (by simp) ?_
    refine AllReadyH.cons rfl (fun K hK => ?_) AllReadyH.nil
    refine stepM_seg (by rfl) (.tmp 19) (.tmp 21) (by rfl) (w.heap.size + 1) Vy2 (([102, 97, 105, 108]) ++ [32]) ad (by rfl) hY.out na al np Hal.out (by rfl) (HSa.out _ hb.out) hna (by (try simp only [List.length_append, List.length_cons, List.length_nil]); omega) (Array.getElem?_eq_some_iff.1 hX.out).1 ?_
    intro Vy3 V3 hY2 hg
    replace hX := hide' (hY.out.kept hg _ _ _ _ hX.out (by decide))
    replace hb := hide' (hb.out.grown hg hb.out.size (fun k hk => by have := hY.out.own k hk; omega))
    replace hY := hide' hY2
    clear hY2 hg
    show K (Act.put _ (some 22) Vy3) V3
    refine hK.out _ _ (ev_row hX.out).2.1 (fun hHeld => ?_)
    clear hK
    (try simp only [Act.put, List.setIfInBounds_toArray, List.set_cons_zero, List.set_cons_succ])
    refine take_yes (i := 6) 3 (v := ?_) rfl rfl (by kernel_rfl) (by kernel_rfl) (by kernel_rfl) (fun _ _ _ h => h) (by kernel_rfl) hHeld ?_ ?_
    rotate_left
    focus (intro w hSw; (try dsimp only at hSw); go_simp; (try with_reducible rfl))
    simp only [Act.put, List.setIfInBounds_toArray, List.set_cons_zero, List.set_cons_succ]
    refine wpAnyH_done (by kernel_rfl) ?_ _
    clear hHeld
    clear g0 g1 g2 g3 g4 g5 g6 g7 g8
    obtain ⟨g0, g1, g2, g3, g4, g5, g6, g7, g8⟩ := ev_row hX.out
    go_wp2
    go_ret
    rw [HTxt.out]
    exact sayEnd_M hY.out hb.out
  ·
    have HTxt : Hid (evtT d (5, ad, jj, vv, ds) = [101, 110, 100]) := by show _ = _; rw [HT0.out]; simp [evW]
    clear HT0 HSay0 hgd hq3
    obtain ⟨ck, wB, hcv, hMB, bB⟩ := conv_M [101, 110, 100] (by simp [Byt]) (by simp) (w1.alloc (.cells #[.string ⟨#[98, 101, 103, 105, 110]⟩, .string ⟨#[105, 110, 116, 101, 110, 116]⟩, .string ⟨#[100, 111, 110, 101]⟩, .string ⟨#[103, 111, 110, 101]⟩, .string ⟨#[102, 97, 105, 108]⟩, .string ⟨#[101, 110, 100]⟩, .string ⟨#[114, 101, 115, 101, 116]⟩] 9))
    have hcv' : (convert 9 22 (.string ⟨#[101, 110, 100]⟩)).run Tryz.prog (w1.alloc (.cells #[.string ⟨#[98, 101, 103, 105, 110]⟩, .string ⟨#[105, 110, 116, 101, 110, 116]⟩, .string ⟨#[100, 111, 110, 101]⟩, .string ⟨#[103, 111, 110, 101]⟩, .string ⟨#[102, 97, 105, 108]⟩, .string ⟨#[101, 110, 100]⟩, .string ⟨#[114, 101, 115, 101, 116]⟩] 9)) = .ok (.slice (some ⟨(w1.alloc (.cells #[.string ⟨#[98, 101, 103, 105, 110]⟩, .string ⟨#[105, 110, 116, 101, 110, 116]⟩, .string ⟨#[100, 111, 110, 101]⟩, .string ⟨#[103, 111, 110, 101]⟩, .string ⟨#[102, 97, 105, 108]⟩, .string ⟨#[101, 110, 100]⟩, .string ⟨#[114, 101, 115, 101, 116]⟩] 9)).heap.size, 0, none⟩) 3 ck) wB := hcv
    have hX : Hid (wB.heap[w.heap.size]? = some (.cells #[.int .i64 5, .slice na al np, .int .i64 jj, .int .i64 bk, .int .i64 bn, .slice a2 l2 p2, .slice a3 l3 p3, .slice a4 l4 p4, .slice xa dl xp] 35 (0, 0))) := (bB.block _ (by have := (Array.getElem?_eq_some_iff.1 hr1.out).1; simp; omega)).trans ((Below.heap_alloc w1 _ _ (Array.getElem?_eq_some_iff.1 hr1.out).1).trans hr1.out)
    have hb : Hid (Below w.heap.size w wB) := Below.on (B1.out.alloc B1.out.size _) bB
    have hY : Hid (BtsM wB (w.heap.size + 1) (.slice (some ⟨(w1.alloc (.cells #[.string ⟨#[98, 101, 103, 105, 110]⟩, .string ⟨#[105, 110, 116, 101, 110, 116]⟩, .string ⟨#[100, 111, 110, 101]⟩, .string ⟨#[103, 111, 110, 101]⟩, .string ⟨#[102, 97, 105, 108]⟩, .string ⟨#[101, 110, 100]⟩, .string ⟨#[114, 101, 115, 101, 116]⟩] 9)).heap.size, 0, none⟩) 3 ck) [101, 110, 100]) := hMB.mono (by have := (Array.getElem?_eq_some_iff.1 hr1.out).1; simp; omega)
    simp only [World.size_alloc] at hcv' hY
    obtain ⟨g0, g1, g2, g3, g4, g5, g6, g7, g8⟩ := ev_row hX.out
    obtain ⟨e0, e1, -, -, -, -, -, -, -⟩ := ev_row ((Below.heap_alloc w1 (.cells #[.string ⟨#[98, 101, 103, 105, 110]⟩, .string ⟨#[105, 110, 116, 101, 110, 116]⟩, .string ⟨#[100, 111, 110, 101]⟩, .string ⟨#[103, 111, 110, 101]⟩, .string ⟨#[102, 97, 105, 108]⟩, .string ⟨#[101, 110, 100]⟩, .string ⟨#[114, 101, 115, 101, 116]⟩] 9) _ (Array.getElem?_eq_some_iff.1 hr1.out).1).trans hr1.out)
    clear hcv hMB bB B1 hr1
    obtain rfl : al = 0 := hal0.out (by omega)
    go_wp2
    go_ret
    rw [HTxt.out]
    exact sayEnd_M (xs := [101, 110, 100]) hY.out hb.out
  ·
    have HTxt : Hid (evtT d (6, ad, jj, vv, ds) = [114, 101, 115, 101, 116]) := by show _ = _; rw [HT0.out]; simp [evW]
    clear HT0 HSay0 hgd hq3
    obtain ⟨ck, wB, hcv, hMB, bB⟩ := conv_M [114, 101, 115, 101, 116] (by simp [Byt]) (by simp) (w1.alloc (.cells #[.string ⟨#[98, 101, 103, 105, 110]⟩, .string ⟨#[105, 110, 116, 101, 110, 116]⟩, .string ⟨#[100, 111, 110, 101]⟩, .string ⟨#[103, 111, 110, 101]⟩, .string ⟨#[102, 97, 105, 108]⟩, .string ⟨#[101, 110, 100]⟩, .string ⟨#[114, 101, 115, 101, 116]⟩] 9))
    have hcv' : (convert 9 22 (.string ⟨#[114, 101, 115, 101, 116]⟩)).run Tryz.prog (w1.alloc (.cells #[.string ⟨#[98, 101, 103, 105, 110]⟩, .string ⟨#[105, 110, 116, 101, 110, 116]⟩, .string ⟨#[100, 111, 110, 101]⟩, .string ⟨#[103, 111, 110, 101]⟩, .string ⟨#[102, 97, 105, 108]⟩, .string ⟨#[101, 110, 100]⟩, .string ⟨#[114, 101, 115, 101, 116]⟩] 9)) = .ok (.slice (some ⟨(w1.alloc (.cells #[.string ⟨#[98, 101, 103, 105, 110]⟩, .string ⟨#[105, 110, 116, 101, 110, 116]⟩, .string ⟨#[100, 111, 110, 101]⟩, .string ⟨#[103, 111, 110, 101]⟩, .string ⟨#[102, 97, 105, 108]⟩, .string ⟨#[101, 110, 100]⟩, .string ⟨#[114, 101, 115, 101, 116]⟩] 9)).heap.size, 0, none⟩) 5 ck) wB := hcv
    have hX : Hid (wB.heap[w.heap.size]? = some (.cells #[.int .i64 6, .slice na al np, .int .i64 jj, .int .i64 bk, .int .i64 bn, .slice a2 l2 p2, .slice a3 l3 p3, .slice a4 l4 p4, .slice xa dl xp] 35 (0, 0))) := (bB.block _ (by have := (Array.getElem?_eq_some_iff.1 hr1.out).1; simp; omega)).trans ((Below.heap_alloc w1 _ _ (Array.getElem?_eq_some_iff.1 hr1.out).1).trans hr1.out)
    have hb : Hid (Below w.heap.size w wB) := Below.on (B1.out.alloc B1.out.size _) bB
    have hY : Hid (BtsM wB (w.heap.size + 1) (.slice (some ⟨(w1.alloc (.cells #[.string ⟨#[98, 101, 103, 105, 110]⟩, .string ⟨#[105, 110, 116, 101, 110, 116]⟩, .string ⟨#[100, 111, 110, 101]⟩, .string ⟨#[103, 111, 110, 101]⟩, .string ⟨#[102, 97, 105, 108]⟩, .string ⟨#[101, 110, 100]⟩, .string ⟨#[114, 101, 115, 101, 116]⟩] 9)).heap.size, 0, none⟩) 5 ck) [114, 101, 115, 101, 116]) := hMB.mono (by have := (Array.getElem?_eq_some_iff.1 hr1.out).1; simp; omega)
    simp only [World.size_alloc] at hcv' hY
    obtain ⟨g0, g1, g2, g3, g4, g5, g6, g7, g8⟩ := ev_row hX.out
    obtain ⟨e0, e1, -, -, -, -, -, -, -⟩ := ev_row ((Below.heap_alloc w1 (.cells #[.string ⟨#[98, 101, 103, 105, 110]⟩, .string ⟨#[105, 110, 116, 101, 110, 116]⟩, .string ⟨#[100, 111, 110, 101]⟩, .string ⟨#[103, 111, 110, 101]⟩, .string ⟨#[102, 97, 105, 108]⟩, .string ⟨#[101, 110, 100]⟩, .string ⟨#[114, 101, 115, 101, 116]⟩] 9) _ (Array.getElem?_eq_some_iff.1 hr1.out).1).trans hr1.out)
    clear hcv hMB bB B1 hr1
    obtain rfl : al = 0 := hal0.out (by omega)
    go_wp2
    go_ret
    rw [HTxt.out]
    exact sayEnd_M (xs := [114, 101, 115, 101, 116]) hY.out hb.out
end Go.Proofs.YtfojpencmkmdfaaGreatDoor
