/-
  Texts that a law leans on, one behind the other; no statement is proved here.
-/
import Derived.Test.YtdhlmcgbgdljmaaGreatDoorPk12
import Derived.Test.YtdhlmcgbgdljmaaGreatDoorPk20
import Derived.Test.YtdhlmcgbgdljmaaGreatDoorPk3
import Derived.Test.YtdhlmcgbgdljmaaGreatDoorPk23
import Derived.Test.YtdhlmcgbgdljmaaGreatDoorPk10
import Derived.Test.YtdhlmcgbgdljmaaGreatDoorPk14
import Derived.Deep.MidRow
import Derived.Deep.RegionHeld3
/-
  ChangeText of the program.
-/
namespace Go.Proofs.YtdhlmcgbgdljmaaGreatDoor
open Go.RowKit
set_option linter.unusedVariables false
set_option linter.unusedSimpArgs false

theorem txEnd_on {w0 w w' : World} {u : Value} {xs : List Int} (h0 : Below w0.heap.size w0 w) (hb : Below w.heap.size w w') (hY : Bts w' (w.heap.size + 1) u xs) : TxEnd xs w0 (.returned u) w' := by
  have hz := h0.size
  have hB := hY.mono (base' := w0.heap.size) (by omega)
  obtain ⟨a, c, rfl, _⟩ := hY.shape
  exact ⟨a, c, rfl, hB, Below.on h0 hb⟩

set_option maxHeartbeats 12800000 in
set_option maxRecDepth 100000 in
theorem impl_ChangeText_any (d N : Nat) (cs : List Value) (x : Chg d) (w0 : World) (h : CSg (fun b => b < N) w0 d cs x) (hN : N ≤ w0.heap.size) (ht : Tab w0.heap.size w0) :
    Calls Tryz.prog 7 #[.agg cs.toArray] w0 (TxEnd (chgT d x) w0) := by
  have HA : Hid (∀ o : Obj, Below w0.heap.size w0 (w0.alloc o)) := fun o => (Below.refl _ _).alloc (Nat.le_refl _) o
  have HE : Hid (∀ o : Obj, Calls Tryz.prog 20 #[.agg cs.toArray] (w0.alloc o) (EdO d x (w0.alloc o))) := fun o => editO_any d N cs x _ (h.agree (agree_below ((HA.out o).mono hN))) (by have := (HA.out o).size; omega)
  unfold EdO at HE
  obtain ⟨pa, pc, ok, on, o2, ol2, op2, o3, ol3, op3, o4, ol4, op4, nk, nn, n2, nl2, np2, n3, nl3, np3, n4, nl4, np4, rfl, -, -, -⟩ := h.form
  obtain ⟨pth, had, old, has, new⟩ := x
  simp only at HE ⊢
  have HTab := hide' ht
  have hr := range_of_row (cs := [.slice pa pth.length pc, .bool had, .int .i64 ok, .int .i64 on, .slice o2 ol2 op2, .slice o3 ol3 op3, .slice o4 ol4 op4, .bool has, .int .i64 nk, .int .i64 nn, .slice n2 nl2 np2, .slice n3 nl3 np3, .slice n4 nl4 np4]) (MapKept.heap_alloc w0 (.cells #[.slice pa pth.length pc, .bool had, .int .i64 ok, .int .i64 on, .slice o2 ol2 op2, .slice o3 ol3 op3, .slice o4 ol4 op4, .bool has, .int .i64 nk, .int .i64 nn, .slice n2 nl2 np2, .slice n3 nl3 np3, .slice n4 nl4 np4] 37)).1
  have HXs : Hid (okC d (pth, had, old, has, new) = false → chgT d (pth, had, old, has, new) = []) := fun h => chgT_no h
  have HXy : Hid (okC d (pth, had, old, has, new) = true → (pathB pth = true ∧ okB d old = true ∧ okB d new = true) ∧ chgT d (pth, had, old, has, new) = (pathT pth ++ sidT had 45 (sayV d old)) ++ sidT has 43 (sayV d new)) := fun h => ⟨okC_parts h, chgT_yes h⟩
  generalize okC d (pth, had, old, has, new) = okb at *
  generalize hxs : chgT d (pth, had, old, has, new) = xs at *
  show Calls _ _ _ _ fun e w' => TxEnd xs w0 e w'
  clear h ht hxs
  generalize hpl : pth.length = pl at *
  go_enter Tryz.func7, Tryz.ntmps7
  go_wp2_with (refine wpList_load_mid rfl 37 (.tmp 1) (by rfl) w0.heap.size 0 (by rfl) [.slice pa pl pc, .bool had, .int .i64 ok, .int .i64 on, .slice o2 ol2 op2, .slice o3 ol3 op3, .slice o4 ol4 op4, .bool has, .int .i64 nk, .int .i64 nn, .slice n2 nl2 np2, .slice n3 nl3 np3, .slice n4 nl4 np4] _ hr Tryz.underlying37 rfl (by kernel_rfl) ?_)
  refine (HE.out _).mono ?_
  rintro e w (⟨hno, rfl, b1⟩ | ⟨hyes, ea, en, ec, p1, p2, rfl, ⟨B, hP, hBB⟩, hs1, hs2, b1⟩)
  · have B1 := hide' (Below.on (HA.out _) b1)
    have HF := hide' (HXs.out hno)
    clear b1 HE hr HXs HXy HTab hno
    go_wp2
    go_ret
    rw [HF.out]
    exact ⟨none, 0, rfl, bts_nil _ _, B1.out.alloc B1.out.size _⟩
  · obtain ⟨⟨hpB, hoB, hnB⟩, hTx⟩ := HXy.out hyes
    have B0 := hide' (Below.on (HA.out _) b1)
    have HPt : Hid (∀ wx, Below w.heap.size w wx → Calls Tryz.prog 21 #[.slice ea en ec] wx (PtEnd pth wx)) := fun wx hb => impl_PathText_any w.heap.size _ pth wx ((hP.seg.agree (fun b hb' => hb.block b (hBB b hb').2)).mono fun b hb' => (hBB b hb').2) hb.size
    have hsol := say_len hoB
    have hsnl := say_len hnB
    have hptl := pathT_len pth
    have HTx0 := hide' hTx
    unfold PtEnd at HPt
    generalize pathT pth = pt at *
    clear b1 HE hr HXs HXy hyes hTx hP hBB hpl HA
    cases had with
    | true =>
      cases has with
      | true =>
        have HTx := HTx0
        clear HTx0
        obtain ⟨hh, -⟩ | ⟨-, hp1⟩ := hs1
        · exact absurd hh (by decide)
        obtain ⟨hh, -⟩ | ⟨-, hp2⟩ := hs2
        · exact absurd hh (by decide)
        obtain ⟨t1, z1, rfl⟩ := hp1.shape
        have HPo : Hid (∀ (ya : Option Addr) (yc : Nat) (zs : List Int) wx, Below w.heap.size w wx → w.heap.size + 1 ≤ wx.heap.size → zs.length ≤ 10000 → Bts wx (w.heap.size + 1) (.slice ya zs.length yc) zs → Calls Tryz.prog 22 #[.slice ya zs.length yc, .iface t1 z1] wx fun e w' => ∃ u, e = .returned u ∧ Bts w' (w.heap.size + 1) u (zs ++ sayV d old) ∧ Below (w.heap.size + 1) wx w' ∧ Kept wx w') := fun ya yc zs wx hb hs hl hB => by
          refine (appendPart_any d w.heap.size (w.heap.size + 1) ya yc zs _ old 1 wx (PSeg.carry (fun b h => h.2) (fun q hq => hb.block q hq.2) d hp1) (by omega) hs hB (ok_says hoB).1 (ok_says hoB).2 (by have := (ok_says hoB).2; omega) (fun w' h' => HTab.out w' (B0.out.trans ((hb.trans (h'.mono (by omega))).mono B0.out.size)))).mono ?_
          rintro e w' ⟨qa, qc, rfl, h1, h2, h3⟩
          exact ⟨_, rfl, h1, h2, h3⟩
        clear hp1
        obtain ⟨t2, z2, rfl⟩ := hp2.shape
        have HPn : Hid (∀ (ya : Option Addr) (yc : Nat) (zs : List Int) wx, Below w.heap.size w wx → w.heap.size + 1 ≤ wx.heap.size → zs.length ≤ 10000 → Bts wx (w.heap.size + 1) (.slice ya zs.length yc) zs → Calls Tryz.prog 22 #[.slice ya zs.length yc, .iface t2 z2] wx fun e w' => ∃ u, e = .returned u ∧ Bts w' (w.heap.size + 1) u (zs ++ sayV d new) ∧ Below (w.heap.size + 1) wx w' ∧ Kept wx w') := fun ya yc zs wx hb hs hl hB => by
          refine (appendPart_any d w.heap.size (w.heap.size + 1) ya yc zs _ new 1 wx (PSeg.carry (fun b h => h.2) (fun q hq => hb.block q hq.2) d hp2) (by omega) hs hB (ok_says hnB).1 (ok_says hnB).2 (by have := (ok_says hnB).2; omega) (fun w' h' => HTab.out w' (B0.out.trans ((hb.trans (h'.mono (by omega))).mono B0.out.size)))).mono ?_
          rintro e w' ⟨qa, qc, rfl, h1, h2, h3⟩
          exact ⟨_, rfl, h1, h2, h3⟩
        clear hp2
        generalize sayV d old = so at *
        generalize sayV d new = sn at *
        have hA1 : Below w.heap.size w (w.alloc (.cells #[.slice ea en ec, (.iface t1 z1), (.iface t2 z2)] 55)) := (Below.refl _ _).alloc (Nat.le_refl _) _
        have hX1 := hide' (MapKept.heap_alloc w (.cells #[.slice ea en ec, (.iface t1 z1), (.iface t2 z2)] 55)).1
        have HB1 := hide' hA1
        have HT1 := hide' (HPt.out _ hA1)
        have hz1 : (w.alloc (.cells #[.slice ea en ec, (.iface t1 z1), (.iface t2 z2)] 55)).heap.size = w.heap.size + 1 := by simp
        have Hz1 := hide' hz1
        clear hA1 hz1 HPt HTab
        go_wp2_with fail
        refine HT1.out.mono ?_
        rintro e w2 ⟨pv, rfl, hPv, b2⟩
        have hb := hide' (Below.on HB1.out b2)
        have hX : Hid (w2.heap[w.heap.size]? = some (.cells #[.slice ea en ec, (.iface t1 z1), (.iface t2 z2)] 55 (0, 0))) := (b2.block _ (by rw [Hz1.out]; omega)).trans hX1.out
        have hY : Hid (Bts w2 (w.heap.size + 1) pv pt) := hPv.mono (by rw [Hz1.out]; omega)
        clear b2 hPv hX1 HT1 HB1 Hz1
        obtain ⟨g0, g1, g2, -⟩ := row3 hX.out
        go_wp2_with fail
        refine wp_region_held_drew (S := (fun wx => wx.cell? ⟨w.heap.size, 1, none⟩ = some (.iface t1 z1))) (by kernel_rfl) g1 (fun hHeld => ?_)
        replace hY : Hid (Bts w2.drew (w.heap.size + 1) _ (pt)) := hY.out
        replace hX : Hid (w2.drew.heap[w.heap.size]? = _) := hX.out
        replace hb : Hid (Below w.heap.size w w2.drew) := hb.out.drew
        generalize w2.drew = V0 at *
        refine take_yes (i := 0) 19 (v := ?_) rfl rfl (by kernel_rfl) (by kernel_rfl) (by kernel_rfl) (fun _ _ _ h => h) (by kernel_rfl) hHeld ?_ ?_
        rotate_left
        focus (intro w hSw; (try dsimp only at hSw); go_simp; (try with_reducible rfl))
        simp only [Act.put, List.setIfInBounds_toArray, List.set_cons_zero, List.set_cons_succ]
        refine take_yes (i := 2) 21 (v := ?_) rfl rfl (by kernel_rfl) (by kernel_rfl) (by kernel_rfl) (fun _ _ _ h => h) (by kernel_rfl) hHeld ?_ ?_
        rotate_left
        focus (intro w hSw; (try dsimp only at hSw); go_simp; (try with_reducible rfl))
        simp only [Act.put, List.setIfInBounds_toArray, List.set_cons_zero, List.set_cons_succ]
        refine take_yes (i := 3) 22 (v := ?_) rfl rfl (by kernel_rfl) (by kernel_rfl) (by kernel_rfl) (fun _ _ _ h => h) (by kernel_rfl) hHeld ?_ ?_
        rotate_left
        focus (intro w hSw; (try dsimp only at hSw); go_simp; (try with_reducible rfl))
        simp only [Act.put, List.setIfInBounds_toArray, List.set_cons_zero, List.set_cons_succ]
        refine wpAnyH_ready (rs := [1]) (by kernel_rfl) (by simp) ?_
        refine AllReadyH.cons rfl (fun K hK => ?_) AllReadyH.nil
        refine step_append_text (by rfl) (.tmp 19) (.const (.string ⟨#[32, 45, 32]⟩)) 9 (by rfl) Tryz.underlying9 (w.heap.size + 1) pv (pt) [32, 45, 32] (by rfl) hY.out ⟨#[32, 45, 32]⟩ (by rfl) (by simp [Byt]) (by rfl) (by (try simp only [List.length_append, List.length_cons, List.length_nil]); omega) (Array.getElem?_eq_some_iff.1 hX.out).1 ?_
        intro Vy1 V1 hY2 hg
        replace hX := hide' (kept_grown hY.out hg _ _ _ _ hX.out (by decide))
        replace hb := hide' (hb.out.grown hg hb.out.size (fun k hk => by have := hY.out.own k hk; omega))
        replace hY := hide' hY2
        clear hY2 hg
        show K (Act.put _ (some 20) Vy1) V1
        refine hK.out _ _ (row3 hX.out).2.1 (fun hHeld => ?_)
        clear hK
        (try simp only [Act.put, List.setIfInBounds_toArray, List.set_cons_zero, List.set_cons_succ])
        refine wpAnyH_ready (rs := [4]) (by kernel_rfl) (by simp) ?_
        refine AllReadyH.cons rfl (fun K hK => ?_) AllReadyH.nil
        go_simp
        obtain ⟨ya, yc, hyv, -⟩ := hY.out.shape
        subst hyv
        go_at_call 22
        refine (HPo.out _ _ _ _ hb.out (Array.getElem?_eq_some_iff.1 hX.out).1 (by simp; omega) hY.out).mono ?_
        rintro e V2 ⟨ou, rfl, hYn, hbn, hkn⟩
        replace hX := hide' (hkn _ _ _ _ hX.out (by decide))
        replace hb := hide' (hb.out.trans (hbn.mono (by omega)))
        replace hY := hide' hYn
        clear hYn hbn hkn
        go_wp2_with fail
        refine hK.out _ _ (row3 hX.out).2.1 (fun hHeld => ?_)
        clear hK
        (try simp only [Act.put, List.setIfInBounds_toArray, List.set_cons_zero, List.set_cons_succ])
        refine take_yes (i := 5) 5 (v := ?_) rfl rfl (by kernel_rfl) (by kernel_rfl) (by kernel_rfl) (fun _ _ _ h => h) (by kernel_rfl) hHeld ?_ ?_
        rotate_left
        focus (intro w hSw; (try dsimp only at hSw); go_simp; (try with_reducible rfl))
        simp only [Act.put, List.setIfInBounds_toArray, List.set_cons_zero, List.set_cons_succ]
        refine wpAnyH_done (by kernel_rfl) ?_ _
        clear hHeld
        clear g0 g1 g2
        obtain ⟨g0, g1, g2, -⟩ := row3 hX.out
        obtain ⟨zs1, hz1⟩ : ∃ zs1, zs1 = ((pt) ++ [32, 45, 32]) ++ so := ⟨_, rfl⟩
        rw [← hz1] at hY
        have hz1l : zs1.length ≤ 2600 := by rw [hz1]; simp only [List.length_append, List.length_cons, List.length_nil]; omega
        have HZ1 := hide' hz1
        clear hz1
        go_wp2_with fail
        refine wp_region_held_drew (S := (fun wx => wx.cell? ⟨w.heap.size, 2, none⟩ = some (.iface t2 z2))) (by kernel_rfl) g2 (fun hHeld => ?_)
        replace hY : Hid (Bts V2.drew (w.heap.size + 1) _ (zs1)) := hY.out
        replace hX : Hid (V2.drew.heap[w.heap.size]? = _) := hX.out
        replace hb : Hid (Below w.heap.size w V2.drew) := hb.out.drew
        generalize V2.drew = U0 at *
        refine take_yes (i := 0) 27 (v := ?_) rfl rfl (by kernel_rfl) (by kernel_rfl) (by kernel_rfl) (fun _ _ _ h => h) (by kernel_rfl) hHeld ?_ ?_
        rotate_left
        focus (intro w hSw; (try dsimp only at hSw); go_simp; (try with_reducible rfl))
        simp only [Act.put, List.setIfInBounds_toArray, List.set_cons_zero, List.set_cons_succ]
        refine take_yes (i := 2) 29 (v := ?_) rfl rfl (by kernel_rfl) (by kernel_rfl) (by kernel_rfl) (fun _ _ _ h => h) (by kernel_rfl) hHeld ?_ ?_
        rotate_left
        focus (intro w hSw; (try dsimp only at hSw); go_simp; (try with_reducible rfl))
        simp only [Act.put, List.setIfInBounds_toArray, List.set_cons_zero, List.set_cons_succ]
        refine take_yes (i := 3) 30 (v := ?_) rfl rfl (by kernel_rfl) (by kernel_rfl) (by kernel_rfl) (fun _ _ _ h => h) (by kernel_rfl) hHeld ?_ ?_
        rotate_left
        focus (intro w hSw; (try dsimp only at hSw); go_simp; (try with_reducible rfl))
        simp only [Act.put, List.setIfInBounds_toArray, List.set_cons_zero, List.set_cons_succ]
        refine wpAnyH_ready (rs := [1]) (by kernel_rfl) (by simp) ?_
        refine AllReadyH.cons rfl (fun K hK => ?_) AllReadyH.nil
        refine step_append_text (by rfl) (.tmp 27) (.const (.string ⟨#[32, 43, 32]⟩)) 9 (by rfl) Tryz.underlying9 (w.heap.size + 1) ou (zs1) [32, 43, 32] (by rfl) hY.out ⟨#[32, 43, 32]⟩ (by rfl) (by simp [Byt]) (by rfl) (by (try simp only [List.length_append, List.length_cons, List.length_nil]); omega) (Array.getElem?_eq_some_iff.1 hX.out).1 ?_
        intro Uy1 U1 hY2 hg
        replace hX := hide' (kept_grown hY.out hg _ _ _ _ hX.out (by decide))
        replace hb := hide' (hb.out.grown hg hb.out.size (fun k hk => by have := hY.out.own k hk; omega))
        replace hY := hide' hY2
        clear hY2 hg
        show K (Act.put _ (some 28) Uy1) U1
        refine hK.out _ _ (row3 hX.out).2.2.1 (fun hHeld => ?_)
        clear hK
        (try simp only [Act.put, List.setIfInBounds_toArray, List.set_cons_zero, List.set_cons_succ])
        refine wpAnyH_ready (rs := [4]) (by kernel_rfl) (by simp) ?_
        refine AllReadyH.cons rfl (fun K hK => ?_) AllReadyH.nil
        go_simp
        obtain ⟨ya, yc, hyv, -⟩ := hY.out.shape
        subst hyv
        go_at_call 22
        refine (HPn.out _ _ _ _ hb.out (Array.getElem?_eq_some_iff.1 hX.out).1 (by simp; omega) hY.out).mono ?_
        rintro e U2 ⟨nu, rfl, hYn, hbn, hkn⟩
        replace hX := hide' (hkn _ _ _ _ hX.out (by decide))
        replace hb := hide' (hb.out.trans (hbn.mono (by omega)))
        replace hY := hide' hYn
        clear hYn hbn hkn
        go_wp2_with fail
        refine hK.out _ _ (row3 hX.out).2.2.1 (fun hHeld => ?_)
        clear hK
        (try simp only [Act.put, List.setIfInBounds_toArray, List.set_cons_zero, List.set_cons_succ])
        refine take_yes (i := 5) 5 (v := ?_) rfl rfl (by kernel_rfl) (by kernel_rfl) (by kernel_rfl) (fun _ _ _ h => h) (by kernel_rfl) hHeld ?_ ?_
        rotate_left
        focus (intro w hSw; (try dsimp only at hSw); go_simp; (try with_reducible rfl))
        simp only [Act.put, List.setIfInBounds_toArray, List.set_cons_zero, List.set_cons_succ]
        refine wpAnyH_done (by kernel_rfl) ?_ _
        clear hHeld
        clear g0 g1 g2
        obtain ⟨g0, g1, g2, -⟩ := row3 hX.out
        go_wp2
        go_ret
        have hF : ((zs1) ++ [32, 43, 32]) ++ sn = xs := by rw [HTx.out, HZ1.out]; simp [sidT]
        rw [hF] at hY
        exact txEnd_on B0.out hb.out hY.out
      | false =>
        have HTx := HTx0
        clear HTx0
        obtain ⟨hh, -⟩ | ⟨-, hp1⟩ := hs1
        · exact absurd hh (by decide)
        obtain ⟨-, rfl⟩ | ⟨hh, -⟩ := hs2
        rotate_left
        · exact absurd hh (by decide)
        obtain ⟨t1, z1, rfl⟩ := hp1.shape
        have HPo : Hid (∀ (ya : Option Addr) (yc : Nat) (zs : List Int) wx, Below w.heap.size w wx → w.heap.size + 1 ≤ wx.heap.size → zs.length ≤ 10000 → Bts wx (w.heap.size + 1) (.slice ya zs.length yc) zs → Calls Tryz.prog 22 #[.slice ya zs.length yc, .iface t1 z1] wx fun e w' => ∃ u, e = .returned u ∧ Bts w' (w.heap.size + 1) u (zs ++ sayV d old) ∧ Below (w.heap.size + 1) wx w' ∧ Kept wx w') := fun ya yc zs wx hb hs hl hB => by
          refine (appendPart_any d w.heap.size (w.heap.size + 1) ya yc zs _ old 1 wx (PSeg.carry (fun b h => h.2) (fun q hq => hb.block q hq.2) d hp1) (by omega) hs hB (ok_says hoB).1 (ok_says hoB).2 (by have := (ok_says hoB).2; omega) (fun w' h' => HTab.out w' (B0.out.trans ((hb.trans (h'.mono (by omega))).mono B0.out.size)))).mono ?_
          rintro e w' ⟨qa, qc, rfl, h1, h2, h3⟩
          exact ⟨_, rfl, h1, h2, h3⟩
        clear hp1
        generalize sayV d old = so at *
        generalize sayV d new = sn at *
        have hA1 : Below w.heap.size w (w.alloc (.cells #[.slice ea en ec, (.iface t1 z1), .nilIface] 55)) := (Below.refl _ _).alloc (Nat.le_refl _) _
        have hX1 := hide' (MapKept.heap_alloc w (.cells #[.slice ea en ec, (.iface t1 z1), .nilIface] 55)).1
        have HB1 := hide' hA1
        have HT1 := hide' (HPt.out _ hA1)
        have hz1 : (w.alloc (.cells #[.slice ea en ec, (.iface t1 z1), .nilIface] 55)).heap.size = w.heap.size + 1 := by simp
        have Hz1 := hide' hz1
        clear hA1 hz1 HPt HTab
        go_wp2_with fail
        refine HT1.out.mono ?_
        rintro e w2 ⟨pv, rfl, hPv, b2⟩
        have hb := hide' (Below.on HB1.out b2)
        have hX : Hid (w2.heap[w.heap.size]? = some (.cells #[.slice ea en ec, (.iface t1 z1), .nilIface] 55 (0, 0))) := (b2.block _ (by rw [Hz1.out]; omega)).trans hX1.out
        have hY : Hid (Bts w2 (w.heap.size + 1) pv pt) := hPv.mono (by rw [Hz1.out]; omega)
        clear b2 hPv hX1 HT1 HB1 Hz1
        obtain ⟨g0, g1, g2, -⟩ := row3 hX.out
        go_wp2_with fail
        refine wp_region_held_drew (S := (fun wx => wx.cell? ⟨w.heap.size, 1, none⟩ = some (.iface t1 z1))) (by kernel_rfl) g1 (fun hHeld => ?_)
        replace hY : Hid (Bts w2.drew (w.heap.size + 1) _ (pt)) := hY.out
        replace hX : Hid (w2.drew.heap[w.heap.size]? = _) := hX.out
        replace hb : Hid (Below w.heap.size w w2.drew) := hb.out.drew
        generalize w2.drew = V0 at *
        refine take_yes (i := 0) 19 (v := ?_) rfl rfl (by kernel_rfl) (by kernel_rfl) (by kernel_rfl) (fun _ _ _ h => h) (by kernel_rfl) hHeld ?_ ?_
        rotate_left
        focus (intro w hSw; (try dsimp only at hSw); go_simp; (try with_reducible rfl))
        simp only [Act.put, List.setIfInBounds_toArray, List.set_cons_zero, List.set_cons_succ]
        refine take_yes (i := 2) 21 (v := ?_) rfl rfl (by kernel_rfl) (by kernel_rfl) (by kernel_rfl) (fun _ _ _ h => h) (by kernel_rfl) hHeld ?_ ?_
        rotate_left
        focus (intro w hSw; (try dsimp only at hSw); go_simp; (try with_reducible rfl))
        simp only [Act.put, List.setIfInBounds_toArray, List.set_cons_zero, List.set_cons_succ]
        refine take_yes (i := 3) 22 (v := ?_) rfl rfl (by kernel_rfl) (by kernel_rfl) (by kernel_rfl) (fun _ _ _ h => h) (by kernel_rfl) hHeld ?_ ?_
        rotate_left
        focus (intro w hSw; (try dsimp only at hSw); go_simp; (try with_reducible rfl))
        simp only [Act.put, List.setIfInBounds_toArray, List.set_cons_zero, List.set_cons_succ]
        refine wpAnyH_ready (rs := [1]) (by kernel_rfl) (by simp) ?_
        refine AllReadyH.cons rfl (fun K hK => ?_) AllReadyH.nil
        refine step_append_text (by rfl) (.tmp 19) (.const (.string ⟨#[32, 45, 32]⟩)) 9 (by rfl) Tryz.underlying9 (w.heap.size + 1) pv (pt) [32, 45, 32] (by rfl) hY.out ⟨#[32, 45, 32]⟩ (by rfl) (by simp [Byt]) (by rfl) (by (try simp only [List.length_append, List.length_cons, List.length_nil]); omega) (Array.getElem?_eq_some_iff.1 hX.out).1 ?_
        intro Vy1 V1 hY2 hg
        replace hX := hide' (kept_grown hY.out hg _ _ _ _ hX.out (by decide))
        replace hb := hide' (hb.out.grown hg hb.out.size (fun k hk => by have := hY.out.own k hk; omega))
        replace hY := hide' hY2
        clear hY2 hg
        show K (Act.put _ (some 20) Vy1) V1
        refine hK.out _ _ (row3 hX.out).2.1 (fun hHeld => ?_)
        clear hK
        (try simp only [Act.put, List.setIfInBounds_toArray, List.set_cons_zero, List.set_cons_succ])
        refine wpAnyH_ready (rs := [4]) (by kernel_rfl) (by simp) ?_
        refine AllReadyH.cons rfl (fun K hK => ?_) AllReadyH.nil
        go_simp
        obtain ⟨ya, yc, hyv, -⟩ := hY.out.shape
        subst hyv
        go_at_call 22
        refine (HPo.out _ _ _ _ hb.out (Array.getElem?_eq_some_iff.1 hX.out).1 (by simp; omega) hY.out).mono ?_
        rintro e V2 ⟨ou, rfl, hYn, hbn, hkn⟩
        replace hX := hide' (hkn _ _ _ _ hX.out (by decide))
        replace hb := hide' (hb.out.trans (hbn.mono (by omega)))
        replace hY := hide' hYn
        clear hYn hbn hkn
        go_wp2_with fail
        refine hK.out _ _ (row3 hX.out).2.1 (fun hHeld => ?_)
        clear hK
        (try simp only [Act.put, List.setIfInBounds_toArray, List.set_cons_zero, List.set_cons_succ])
        refine take_yes (i := 5) 5 (v := ?_) rfl rfl (by kernel_rfl) (by kernel_rfl) (by kernel_rfl) (fun _ _ _ h => h) (by kernel_rfl) hHeld ?_ ?_
        rotate_left
        focus (intro w hSw; (try dsimp only at hSw); go_simp; (try with_reducible rfl))
        simp only [Act.put, List.setIfInBounds_toArray, List.set_cons_zero, List.set_cons_succ]
        refine wpAnyH_done (by kernel_rfl) ?_ _
        clear hHeld
        clear g0 g1 g2
        obtain ⟨g0, g1, g2, -⟩ := row3 hX.out
        obtain ⟨zs1, hz1⟩ : ∃ zs1, zs1 = ((pt) ++ [32, 45, 32]) ++ so := ⟨_, rfl⟩
        rw [← hz1] at hY
        have hz1l : zs1.length ≤ 2600 := by rw [hz1]; simp only [List.length_append, List.length_cons, List.length_nil]; omega
        have HZ1 := hide' hz1
        clear hz1
        go_wp2_with fail
        go_wp2
        go_ret
        have hF : zs1 = xs := by rw [HTx.out, HZ1.out]; simp [sidT]
        rw [hF] at hY
        exact txEnd_on B0.out hb.out hY.out
    | false =>
      cases has with
      | true =>
        have HTx := HTx0
        clear HTx0
        obtain ⟨-, rfl⟩ | ⟨hh, -⟩ := hs1
        rotate_left
        · exact absurd hh (by decide)
        obtain ⟨hh, -⟩ | ⟨-, hp2⟩ := hs2
        · exact absurd hh (by decide)
        obtain ⟨t2, z2, rfl⟩ := hp2.shape
        have HPn : Hid (∀ (ya : Option Addr) (yc : Nat) (zs : List Int) wx, Below w.heap.size w wx → w.heap.size + 1 ≤ wx.heap.size → zs.length ≤ 10000 → Bts wx (w.heap.size + 1) (.slice ya zs.length yc) zs → Calls Tryz.prog 22 #[.slice ya zs.length yc, .iface t2 z2] wx fun e w' => ∃ u, e = .returned u ∧ Bts w' (w.heap.size + 1) u (zs ++ sayV d new) ∧ Below (w.heap.size + 1) wx w' ∧ Kept wx w') := fun ya yc zs wx hb hs hl hB => by
          refine (appendPart_any d w.heap.size (w.heap.size + 1) ya yc zs _ new 1 wx (PSeg.carry (fun b h => h.2) (fun q hq => hb.block q hq.2) d hp2) (by omega) hs hB (ok_says hnB).1 (ok_says hnB).2 (by have := (ok_says hnB).2; omega) (fun w' h' => HTab.out w' (B0.out.trans ((hb.trans (h'.mono (by omega))).mono B0.out.size)))).mono ?_
          rintro e w' ⟨qa, qc, rfl, h1, h2, h3⟩
          exact ⟨_, rfl, h1, h2, h3⟩
        clear hp2
        generalize sayV d old = so at *
        generalize sayV d new = sn at *
        have hA1 : Below w.heap.size w (w.alloc (.cells #[.slice ea en ec, .nilIface, (.iface t2 z2)] 55)) := (Below.refl _ _).alloc (Nat.le_refl _) _
        have hX1 := hide' (MapKept.heap_alloc w (.cells #[.slice ea en ec, .nilIface, (.iface t2 z2)] 55)).1
        have HB1 := hide' hA1
        have HT1 := hide' (HPt.out _ hA1)
        have hz1 : (w.alloc (.cells #[.slice ea en ec, .nilIface, (.iface t2 z2)] 55)).heap.size = w.heap.size + 1 := by simp
        have Hz1 := hide' hz1
        clear hA1 hz1 HPt HTab
        go_wp2_with fail
        refine HT1.out.mono ?_
        rintro e w2 ⟨pv, rfl, hPv, b2⟩
        have hb := hide' (Below.on HB1.out b2)
        have hX : Hid (w2.heap[w.heap.size]? = some (.cells #[.slice ea en ec, .nilIface, (.iface t2 z2)] 55 (0, 0))) := (b2.block _ (by rw [Hz1.out]; omega)).trans hX1.out
        have hY : Hid (Bts w2 (w.heap.size + 1) pv pt) := hPv.mono (by rw [Hz1.out]; omega)
        clear b2 hPv hX1 HT1 HB1 Hz1
        obtain ⟨g0, g1, g2, -⟩ := row3 hX.out
        go_wp2_with fail
        obtain ⟨zs1, hz1⟩ : ∃ zs1, zs1 = pt := ⟨_, rfl⟩
        rw [← hz1] at hY
        have hz1l : zs1.length ≤ 2600 := by rw [hz1]; omega
        have HZ1 := hide' hz1
        clear hz1
        refine wp_region_held_drew (S := (fun wx => wx.cell? ⟨w.heap.size, 2, none⟩ = some (.iface t2 z2))) (by kernel_rfl) g2 (fun hHeld => ?_)
        replace hY : Hid (Bts w2.drew (w.heap.size + 1) _ (zs1)) := hY.out
        replace hX : Hid (w2.drew.heap[w.heap.size]? = _) := hX.out
        replace hb : Hid (Below w.heap.size w w2.drew) := hb.out.drew
        generalize w2.drew = U0 at *
        refine take_yes (i := 0) 27 (v := ?_) rfl rfl (by kernel_rfl) (by kernel_rfl) (by kernel_rfl) (fun _ _ _ h => h) (by kernel_rfl) hHeld ?_ ?_
        rotate_left
        focus (intro w hSw; (try dsimp only at hSw); go_simp; (try with_reducible rfl))
        simp only [Act.put, List.setIfInBounds_toArray, List.set_cons_zero, List.set_cons_succ]
        refine take_yes (i := 2) 29 (v := ?_) rfl rfl (by kernel_rfl) (by kernel_rfl) (by kernel_rfl) (fun _ _ _ h => h) (by kernel_rfl) hHeld ?_ ?_
        rotate_left
        focus (intro w hSw; (try dsimp only at hSw); go_simp; (try with_reducible rfl))
        simp only [Act.put, List.setIfInBounds_toArray, List.set_cons_zero, List.set_cons_succ]
        refine take_yes (i := 3) 30 (v := ?_) rfl rfl (by kernel_rfl) (by kernel_rfl) (by kernel_rfl) (fun _ _ _ h => h) (by kernel_rfl) hHeld ?_ ?_
        rotate_left
        focus (intro w hSw; (try dsimp only at hSw); go_simp; (try with_reducible rfl))
        simp only [Act.put, List.setIfInBounds_toArray, List.set_cons_zero, List.set_cons_succ]
        refine wpAnyH_ready (rs := [1]) (by kernel_rfl) (by simp) ?_
        refine AllReadyH.cons rfl (fun K hK => ?_) AllReadyH.nil
        refine step_append_text (by rfl) (.tmp 27) (.const (.string ⟨#[32, 43, 32]⟩)) 9 (by rfl) Tryz.underlying9 (w.heap.size + 1) pv (zs1) [32, 43, 32] (by rfl) hY.out ⟨#[32, 43, 32]⟩ (by rfl) (by simp [Byt]) (by rfl) (by (try simp only [List.length_append, List.length_cons, List.length_nil]); omega) (Array.getElem?_eq_some_iff.1 hX.out).1 ?_
        intro Uy1 U1 hY2 hg
        replace hX := hide' (kept_grown hY.out hg _ _ _ _ hX.out (by decide))
        replace hb := hide' (hb.out.grown hg hb.out.size (fun k hk => by have := hY.out.own k hk; omega))
        replace hY := hide' hY2
        clear hY2 hg
        show K (Act.put _ (some 28) Uy1) U1
        refine hK.out _ _ (row3 hX.out).2.2.1 (fun hHeld => ?_)
        clear hK
        (try simp only [Act.put, List.setIfInBounds_toArray, List.set_cons_zero, List.set_cons_succ])
        refine wpAnyH_ready (rs := [4]) (by kernel_rfl) (by simp) ?_
        refine AllReadyH.cons rfl (fun K hK => ?_) AllReadyH.nil
        go_simp
        obtain ⟨ya, yc, hyv, -⟩ := hY.out.shape
        subst hyv
        go_at_call 22
        refine (HPn.out _ _ _ _ hb.out (Array.getElem?_eq_some_iff.1 hX.out).1 (by simp; omega) hY.out).mono ?_
        rintro e U2 ⟨nu, rfl, hYn, hbn, hkn⟩
        replace hX := hide' (hkn _ _ _ _ hX.out (by decide))
        replace hb := hide' (hb.out.trans (hbn.mono (by omega)))
        replace hY := hide' hYn
        clear hYn hbn hkn
        go_wp2_with fail
        refine hK.out _ _ (row3 hX.out).2.2.1 (fun hHeld => ?_)
        clear hK
        (try simp only [Act.put, List.setIfInBounds_toArray, List.set_cons_zero, List.set_cons_succ])
        refine take_yes (i := 5) 5 (v := ?_) rfl rfl (by kernel_rfl) (by kernel_rfl) (by kernel_rfl) (fun _ _ _ h => h) (by kernel_rfl) hHeld ?_ ?_
        rotate_left
        focus (intro w hSw; (try dsimp only at hSw); go_simp; (try with_reducible rfl))
        simp only [Act.put, List.setIfInBounds_toArray, List.set_cons_zero, List.set_cons_succ]
        refine wpAnyH_done (by kernel_rfl) ?_ _
        clear hHeld
        clear g0 g1 g2
        obtain ⟨g0, g1, g2, -⟩ := row3 hX.out
        go_wp2
        go_ret
        have hF : ((zs1) ++ [32, 43, 32]) ++ sn = xs := by rw [HTx.out, HZ1.out]; simp [sidT]
        rw [hF] at hY
        exact txEnd_on B0.out hb.out hY.out
      | false =>
        have HTx := HTx0
        clear HTx0
        obtain ⟨-, rfl⟩ | ⟨hh, -⟩ := hs1
        rotate_left
        · exact absurd hh (by decide)
        obtain ⟨-, rfl⟩ | ⟨hh, -⟩ := hs2
        rotate_left
        · exact absurd hh (by decide)
        generalize sayV d old = so at *
        generalize sayV d new = sn at *
        have hA1 : Below w.heap.size w (w.alloc (.cells #[.slice ea en ec, .nilIface, .nilIface] 55)) := (Below.refl _ _).alloc (Nat.le_refl _) _
        have hX1 := hide' (MapKept.heap_alloc w (.cells #[.slice ea en ec, .nilIface, .nilIface] 55)).1
        have HB1 := hide' hA1
        have HT1 := hide' (HPt.out _ hA1)
        have hz1 : (w.alloc (.cells #[.slice ea en ec, .nilIface, .nilIface] 55)).heap.size = w.heap.size + 1 := by simp
        have Hz1 := hide' hz1
        clear hA1 hz1 HPt HTab
        go_wp2_with fail
        refine HT1.out.mono ?_
        rintro e w2 ⟨pv, rfl, hPv, b2⟩
        have hb := hide' (Below.on HB1.out b2)
        have hX : Hid (w2.heap[w.heap.size]? = some (.cells #[.slice ea en ec, .nilIface, .nilIface] 55 (0, 0))) := (b2.block _ (by rw [Hz1.out]; omega)).trans hX1.out
        have hY : Hid (Bts w2 (w.heap.size + 1) pv pt) := hPv.mono (by rw [Hz1.out]; omega)
        clear b2 hPv hX1 HT1 HB1 Hz1
        obtain ⟨g0, g1, g2, -⟩ := row3 hX.out
        go_wp2_with fail
        obtain ⟨zs1, hz1⟩ : ∃ zs1, zs1 = pt := ⟨_, rfl⟩
        rw [← hz1] at hY
        have hz1l : zs1.length ≤ 2600 := by rw [hz1]; omega
        have HZ1 := hide' hz1
        clear hz1
        go_wp2
        go_ret
        have hF : zs1 = xs := by rw [HTx.out, HZ1.out]; simp [sidT]
        rw [hF] at hY
        exact txEnd_on B0.out hb.out hY.out
end Go.Proofs.YtdhlmcgbgdljmaaGreatDoor
