/-
  Texts that a law leans on, one behind the other; no statement is proved here.
-/
import Derived.Test.YtfokidhamjphfaaDoorPk24
import Derived.Test.YtfokidhamjphfaaDoorPk5
import Derived.Test.YtfokidhamjphfaaDoorPk17
import Derived.Deep.Cut
import Derived.Deep.CutRange
import Derived.Deep.AppendLies
import Derived.Deep.RegionLaw
import Derived.Deep.RegionWith
/-
  l6ownExpr of the specification: a copy of the call's own. No statement is proved here.
-/
namespace Go.Proofs.YtfokidhamjphfaaDoor
open Go.RowKit
set_option linter.unusedVariables false
set_option linter.unusedSimpArgs false

/-- The contract of l6ownExpr, at depth d. -/
def XAt (d : Nat) : Prop := ∀ (N : Nat) (c0 c1 c2 c3 c4 : Value) (v : Vl d) (w : World), VSeg (fun b => b < N) w d (c0, c1, c2, c3, c4) v → N ≤ w.heap.size → bndV d v → Calls Tryd.prog 36 #[.agg #[c0, c1, c2, c3, c4]] w (ValEnd d v w)

set_option maxHeartbeats 6400000 in
set_option maxRecDepth 100000 in
theorem ownX_walk (vk vn : Int) (vS : List Int) (vK : List (List Int)) (d : Nat) (vL : List (Vl d)) (a2 : Option Addr) (p2 : Nat) (a3 : Option Addr) (p3 : Nat) (a4 : Option Addr) (p4 : Nat) (N : Nat) (ih : XAt d) (w : World) (hS : Seg w a2 vS) (hSb : ∀ x, a2 = some x → vS ≠ [] → x.block < N) (hN : N ≤ w.heap.size) (hp2 : a2 = none → p2 = 0) (hl : vS.length ≤ 1048576)
    (hK : KSeg (fun b => b < N) w (.slice a3 vK.length p3) vK) (hL : LSeg (fun b => b < N) w d (.slice a4 vL.length p4) vL) (hkl : vK.length ≤ 1048576) (hke : ∀ i, i < vK.length → (vK.getD i []).length ≤ 1048576) (hll : vL.length ≤ 1048576) (hle : ∀ i (h : i < vL.length), bndV d vL[i]) :
    Calls Tryd.prog 36 #[.agg #[.int .i64 vk, .int .i64 vn, .slice a2 vS.length p2, .slice a3 vK.length p3, .slice a4 vL.length p4]] w (ValEnd (d + 1) (vk, vn, vS, vK, vL) w) := by
  obtain ⟨iV, hiV, hz0, hz1', hz2⟩ := info_parts info_valueT
  have HK := hide' hK
  have HL := hide' hL
  have HKe := hide' hke
  have HLe := hide' hle
  clear hK hL hke hle
  generalize hn3 : vK.length = n3 at *
  generalize hn4 : vL.length = n4 at hll HL ⊢
  have Hn3 : Hid (vK.length = n3) := hn3
  have Hn4 : Hid (vL.length = n4) := hn4
  clear hn3 hn4
  have HB1 : Hid (∀ o o' : Obj, Below w.heap.size w ((w.alloc o).alloc o') ∧ ((w.alloc o).alloc o').heap[w.heap.size]? = some o ∧ ((w.alloc o).alloc o').heap[w.heap.size + 1]? = some o' ∧ ((w.alloc o).alloc o').heap.size = w.heap.size + 2) := fun o o' => ⟨((Below.refl _ _).alloc (Nat.le_refl _) o).alloc (by simp) o', (Below.heap_alloc _ _ _ (by simp)).trans (heap_alloc_new w o), by have := heap_alloc_new (w.alloc o) o'; simpa using this, by simp⟩
  generalize hn : vS.length = n at *
  have Hn : Hid (n = vS.length) := hn.symm
  clear hn
  go_enter Tryd.func36, Tryd.ntmps36
  go_upto_region 1 with fail
  obtain ⟨hb1, hP, hR, hz1⟩ := HB1.out (.cells #[.int .i64 vk, .int .i64 vn, .slice a2 n p2, .slice a3 n3 p3, .slice a4 n4 p4] 26) (.cells #[.int .i64 0, .int .i64 0, .slice none 0 0, .slice none 0 0, .slice none 0 0] 26)
  generalize hw1 : ((w.alloc (.cells #[.int .i64 vk, .int .i64 vn, .slice a2 n p2, .slice a3 n3 p3, .slice a4 n4 p4] 26)).alloc (.cells #[.int .i64 0, .int .i64 0, .slice none 0 0, .slice none 0 0, .slice none 0 0] 26)) = w1 at *
  have Hz1 := hide' hz1
  clear hw1 HB1 hz1
  have hS1 : Seg w1 a2 vS := hS.below hb1 fun x hx he => by have := hSb x hx he; omega
  have HSg := hide' hS1
  have HlS : Hid (vS.length ≤ 1048576) := hide' (by have := Hn.out; omega)
  have HPs : Hid (∀ wx, Below w1.heap.size w1 wx → wx.heap[w.heap.size]? = some (.cells #[.int .i64 vk, .int .i64 vn, .slice a2 n p2, .slice a3 n3 p3, .slice a4 n4 p4] 26 (0, 0))) := hide' (fun wx hb => (hb.block _ (by have := Hz1.out; omega)).trans hP)
  have HKc : Hid (∀ wx, Below w1.heap.size w1 wx → Calls Tryd.prog 67 #[.slice a3 n3 p3] wx fun e w' => ∃ u, e = .returned u ∧ ∃ B, KOwn w' u vK B ∧ (∀ b ∈ B, wx.heap.size ≤ b ∧ b < w'.heap.size) ∧ Below wx.heap.size wx w') := hide' (fun wx hb => ownKeys_any N (.slice a3 n3 p3) vK wx (by have h := HK.out.agree (fun b (hb' : b < N) => (hb.block b (by have := Hz1.out; omega)).trans (hb1.block b (by omega))); exact h) (by have := hb.size; have := Hz1.out; omega) (by have := Hn3.out; omega) (fun i hi => HKe.out i (by have := Hn3.out; omega)))
  clear hS1 hS hl
  go_cut [3] from 5 to 16 (fun s3 wx => ∃ (O : Nat) (aS : Option Addr) (nS cS : Nat) (aK : Option Addr) (nK cK : Nat), s3 = .pointer (some ⟨O, 0, none⟩) ∧ Hid (XOut w1 vk vn vS vK O (.slice aS nS cS) (.slice aK nK cK) wx))
  case first =>
    refine wp_region_held_drew (S := (fun wx => Below w1.heap.size w1 wx)) (by kernel_rfl) (Below.refl w1.heap.size w1).drew (fun hHeld => ?_)
    have hR1 := hide' ((Rs.start w1 vS vK).step (V' := w1.drew) (Below.refl w1.heap.size w1).drew)
    generalize w1.drew = V0 at *
    refine take_yes (i := 0) 5 (v := ?_) rfl rfl (by kernel_rfl) (by kernel_rfl) (by kernel_rfl) (fun _ _ _ h => h) (by kernel_rfl) hHeld ?_ ?_
    rotate_left
    focus (intro w hSw; (try dsimp only at hSw); go_simp; (try with_reducible rfl))
    (try simp only [Act.put, List.setIfInBounds_toArray, List.set_cons_zero, List.set_cons_succ])
    refine take_yes (i := 1) 6 (v := ?_) rfl rfl (by kernel_rfl) (by kernel_rfl) (by kernel_rfl) (fun _ _ _ h => h) (by kernel_rfl) hHeld ?_ ?_
    rotate_left
    focus (intro w hSw; obtain ⟨z0, z1, z2, z3, z4, -⟩ := row5 (HPs.out w hSw); (try dsimp only at hSw); go_simp; (try with_reducible rfl))
    (try simp only [Act.put, List.setIfInBounds_toArray, List.set_cons_zero, List.set_cons_succ])
    refine take_yes (i := 2) 7 (v := ?_) rfl rfl (by kernel_rfl) (by kernel_rfl) (by kernel_rfl) (fun _ _ _ h => h) (by kernel_rfl) hHeld ?_ ?_
    rotate_left
    focus (intro w hSw; (try dsimp only at hSw); go_simp; (try with_reducible rfl))
    (try simp only [Act.put, List.setIfInBounds_toArray, List.set_cons_zero, List.set_cons_succ])
    refine take_yes (i := 3) 8 (v := ?_) rfl rfl (by kernel_rfl) (by kernel_rfl) (by kernel_rfl) (fun _ _ _ h => h) (by kernel_rfl) hHeld ?_ ?_
    rotate_left
    focus (intro w hSw; obtain ⟨z0, z1, z2, z3, z4, -⟩ := row5 (HPs.out w hSw); (try dsimp only at hSw); go_simp; (try with_reducible rfl))
    (try simp only [Act.put, List.setIfInBounds_toArray, List.set_cons_zero, List.set_cons_succ])
    refine take_yes (i := 5) 10 (v := ?_) rfl rfl (by kernel_rfl) (by kernel_rfl) (by kernel_rfl) (fun _ _ _ h => h) (by kernel_rfl) hHeld ?_ ?_
    rotate_left
    focus (intro w hSw; (try dsimp only at hSw); go_simp; (try with_reducible rfl))
    (try simp only [Act.put, List.setIfInBounds_toArray, List.set_cons_zero, List.set_cons_succ])
    refine take_yes (i := 6) 11 (v := ?_) rfl rfl (by kernel_rfl) (by kernel_rfl) (by kernel_rfl) (fun _ _ _ h => h) (by kernel_rfl) hHeld ?_ ?_
    rotate_left
    focus (intro w hSw; obtain ⟨z0, z1, z2, z3, z4, -⟩ := row5 (HPs.out w hSw); (try dsimp only at hSw); go_simp; (try with_reducible rfl))
    (try simp only [Act.put, List.setIfInBounds_toArray, List.set_cons_zero, List.set_cons_succ])
    refine take_yes (i := 8) 13 (v := ?_) rfl rfl (by kernel_rfl) (by kernel_rfl) (by kernel_rfl) (fun _ _ _ h => h) (by kernel_rfl) hHeld ?_ ?_
    rotate_left
    focus (intro w hSw; (try dsimp only at hSw); go_simp; (try with_reducible rfl))
    (try simp only [Act.put, List.setIfInBounds_toArray, List.set_cons_zero, List.set_cons_succ])
    refine take_yes (i := 9) 14 (v := ?_) rfl rfl (by kernel_rfl) (by kernel_rfl) (by kernel_rfl) (fun _ _ _ h => h) (by kernel_rfl) hHeld ?_ ?_
    rotate_left
    focus (intro w hSw; obtain ⟨z0, z1, z2, z3, z4, -⟩ := row5 (HPs.out w hSw); (try dsimp only at hSw); go_simp; (try with_reducible rfl))
    (try simp only [Act.put, List.setIfInBounds_toArray, List.set_cons_zero, List.set_cons_succ])
    refine wpAnyH_ready (rs := [4, 12]) (by kernel_rfl) (by simp) ?_
    refine AllReadyH.cons rfl (fun K hK => ?_) (AllReadyH.cons rfl (fun K hK => ?_) AllReadyH.nil)
    ·
      go_simp
      replace hR1 := hide' hR1.out.mkLit
      have hS2 := hR1.out.bel
      refine hK.out _ _ hS2 (fun hHeld => ?_)
      clear hK
      (try simp only [Act.put, List.setIfInBounds_toArray, List.set_cons_zero, List.set_cons_succ])
      clear hS2
      generalize V0.alloc (.cells #[] 5) = V1 at *
      generalize V0.heap.size = gL at *
      refine wpAnyH_ready (rs := [7, 12]) (by kernel_rfl) (by simp) ?_
      refine AllReadyH.cons rfl (fun K hK => ?_) (AllReadyH.cons rfl (fun K hK => ?_) AllReadyH.nil)
      ·
        refine step_rs_app (by rfl) (.tmp 9) (.tmp 11) (by rfl) hR1.out HSg.out Hn.out hp2 HlS.out (by rfl) (by rfl) ?_
        intro uS V2 hbn hR2
        replace hR1 := hide' hR2
        have hS2 := hR1.out.bel
        obtain ⟨uSa, uSn, uSc, rfl⟩ := rs_form hR2
        clear hbn hR2
        show K (Act.put _ (some 12) (.slice uSa uSn uSc)) V2
        refine hK.out _ _ hS2 (fun hHeld => ?_)
        clear hK
        (try simp only [Act.put, List.setIfInBounds_toArray, List.set_cons_zero, List.set_cons_succ])
        clear hS2
        refine wpAnyH_ready (rs := [10, 12]) (by kernel_rfl) (by simp) ?_
        refine AllReadyH.cons rfl (fun K hK => ?_) (AllReadyH.cons rfl (fun K hK => ?_) AllReadyH.nil)
        ·
          go_simp
          go_at_call 67
          refine (HKc.out V2 hR1.out.bel).mono ?_
          rintro e V3 ⟨uK, rfl, BK, hK2, hBK, hbn⟩
          have hS2 := hR1.out.bel.trans (hbn.mono hR1.out.bel.size)
          replace hR1 := hide' (hR1.out.keys hbn hK2 hBK (KOwn.nodup hK2))
          obtain ⟨uKa, uKn, uKc, rfl⟩ := kown_shape hK2
          clear hbn hK2 hBK
          go_wp2_with fail
          refine hK.out _ _ hS2 (fun hHeld => ?_)
          clear hK
          (try simp only [Act.put, List.setIfInBounds_toArray, List.set_cons_zero, List.set_cons_succ])
          clear hS2
          refine take_yes (i := 11) 16 (v := ?_) rfl rfl (by kernel_rfl) (by kernel_rfl) (by kernel_rfl) (fun _ _ _ h => h) (by kernel_rfl) hHeld ?_ ?_
          rotate_left
          focus (intro w hSw; (try dsimp only at hSw); go_simp; (try with_reducible rfl))
          (try simp only [Act.put, List.setIfInBounds_toArray, List.set_cons_zero, List.set_cons_succ])
          refine wpAnyH_ready (rs := [12]) (by kernel_rfl) (by simp) ?_
          refine AllReadyH.cons rfl (fun K hK => ?_) AllReadyH.nil
          go_simp
          replace hR1 := hide' hR1.out.mkBox
          have hS2 := hR1.out.bel
          refine hK.out _ _ hS2 (fun hHeld => ?_)
          clear hK
          (try simp only [Act.put, List.setIfInBounds_toArray, List.set_cons_zero, List.set_cons_succ])
          clear hS2
          generalize V3.alloc (.cells #[.int .i64 0, .int .i64 0, .slice none 0 0, .slice none 0 0, .slice none 0 0] 26) = V4 at *
          generalize V3.heap.size = gO at *
          refine wpAnyH_ready (rs := [13]) (by kernel_rfl) (by simp) ?_
          refine AllReadyH.cons rfl (fun K hK => ?_) AllReadyH.nil
          obtain ⟨b0, b1, b2, b3, b4, bf⟩ := row5 (hR1.out.box _ rfl).1
          have f0 := bf 0; have f1 := bf 1; have f2 := bf 2; have f3 := bf 3; have f4 := bf 4; clear bf
          have hX := hide' (hR1.out.out vk vn)
          have hS2 := hX.out.1
          simp only [set5, Nat.zero_add] at hS2
          go_simp
          refine hK.out _ _ (by with_reducible exact hS2) (fun hHeld => ?_)
          clear hK
          (try simp only [Act.put, List.setIfInBounds_toArray, List.set_cons_zero, List.set_cons_succ])
          clear hS2 hR1 b0 b1 b2 b3 b4 f0 f1 f2 f3 f4
          refine wpAnyH_done (by kernel_rfl) ?_ _
          clear hHeld
          go_wp2_with fail
          go_meet
          exact ⟨gO, uSa, uSn, uSc, uKa, uKn, uKc, rfl, by have h := hX.out; simp only [set5, Nat.zero_add] at h; exact hide' h⟩
        ·
          go_simp
          replace hR1 := hide' hR1.out.mkBox
          have hS2 := hR1.out.bel
          refine hK.out _ _ hS2 (fun hHeld => ?_)
          clear hK
          (try simp only [Act.put, List.setIfInBounds_toArray, List.set_cons_zero, List.set_cons_succ])
          clear hS2
          generalize V2.alloc (.cells #[.int .i64 0, .int .i64 0, .slice none 0 0, .slice none 0 0, .slice none 0 0] 26) = V3 at *
          generalize V2.heap.size = gO at *
          refine wpAnyH_ready (rs := [10]) (by kernel_rfl) (by simp) ?_
          refine AllReadyH.cons rfl (fun K hK => ?_) AllReadyH.nil
          go_simp
          go_at_call 67
          refine (HKc.out V3 hR1.out.bel).mono ?_
          rintro e V4 ⟨uK, rfl, BK, hK2, hBK, hbn⟩
          have hS2 := hR1.out.bel.trans (hbn.mono hR1.out.bel.size)
          replace hR1 := hide' (hR1.out.keys hbn hK2 hBK (KOwn.nodup hK2))
          obtain ⟨uKa, uKn, uKc, rfl⟩ := kown_shape hK2
          clear hbn hK2 hBK
          go_wp2_with fail
          refine hK.out _ _ hS2 (fun hHeld => ?_)
          clear hK
          (try simp only [Act.put, List.setIfInBounds_toArray, List.set_cons_zero, List.set_cons_succ])
          clear hS2
          refine take_yes (i := 11) 16 (v := ?_) rfl rfl (by kernel_rfl) (by kernel_rfl) (by kernel_rfl) (fun _ _ _ h => h) (by kernel_rfl) hHeld ?_ ?_
          rotate_left
          focus (intro w hSw; (try dsimp only at hSw); go_simp; (try with_reducible rfl))
          (try simp only [Act.put, List.setIfInBounds_toArray, List.set_cons_zero, List.set_cons_succ])
          refine wpAnyH_ready (rs := [13]) (by kernel_rfl) (by simp) ?_
          refine AllReadyH.cons rfl (fun K hK => ?_) AllReadyH.nil
          obtain ⟨b0, b1, b2, b3, b4, bf⟩ := row5 (hR1.out.box _ rfl).1
          have f0 := bf 0; have f1 := bf 1; have f2 := bf 2; have f3 := bf 3; have f4 := bf 4; clear bf
          have hX := hide' (hR1.out.out vk vn)
          have hS2 := hX.out.1
          simp only [set5, Nat.zero_add] at hS2
          go_simp
          refine hK.out _ _ (by with_reducible exact hS2) (fun hHeld => ?_)
          clear hK
          (try simp only [Act.put, List.setIfInBounds_toArray, List.set_cons_zero, List.set_cons_succ])
          clear hS2 hR1 b0 b1 b2 b3 b4 f0 f1 f2 f3 f4
          refine wpAnyH_done (by kernel_rfl) ?_ _
          clear hHeld
          go_wp2_with fail
          go_meet
          exact ⟨gO, uSa, uSn, uSc, uKa, uKn, uKc, rfl, by have h := hX.out; simp only [set5, Nat.zero_add] at h; exact hide' h⟩
      ·
        go_simp
        replace hR1 := hide' hR1.out.mkBox
        have hS2 := hR1.out.bel
        refine hK.out _ _ hS2 (fun hHeld => ?_)
        clear hK
        (try simp only [Act.put, List.setIfInBounds_toArray, List.set_cons_zero, List.set_cons_succ])
        clear hS2
        generalize V1.alloc (.cells #[.int .i64 0, .int .i64 0, .slice none 0 0, .slice none 0 0, .slice none 0 0] 26) = V2 at *
        generalize V1.heap.size = gO at *
        refine wpAnyH_ready (rs := [7]) (by kernel_rfl) (by simp) ?_
        refine AllReadyH.cons rfl (fun K hK => ?_) AllReadyH.nil
        refine step_rs_app (by rfl) (.tmp 9) (.tmp 11) (by rfl) hR1.out HSg.out Hn.out hp2 HlS.out (by rfl) (by rfl) ?_
        intro uS V3 hbn hR2
        replace hR1 := hide' hR2
        have hS2 := hR1.out.bel
        obtain ⟨uSa, uSn, uSc, rfl⟩ := rs_form hR2
        clear hbn hR2
        show K (Act.put _ (some 12) (.slice uSa uSn uSc)) V3
        refine hK.out _ _ hS2 (fun hHeld => ?_)
        clear hK
        (try simp only [Act.put, List.setIfInBounds_toArray, List.set_cons_zero, List.set_cons_succ])
        clear hS2
        refine wpAnyH_ready (rs := [10]) (by kernel_rfl) (by simp) ?_
        refine AllReadyH.cons rfl (fun K hK => ?_) AllReadyH.nil
        go_simp
        go_at_call 67
        refine (HKc.out V3 hR1.out.bel).mono ?_
        rintro e V4 ⟨uK, rfl, BK, hK2, hBK, hbn⟩
        have hS2 := hR1.out.bel.trans (hbn.mono hR1.out.bel.size)
        replace hR1 := hide' (hR1.out.keys hbn hK2 hBK (KOwn.nodup hK2))
        obtain ⟨uKa, uKn, uKc, rfl⟩ := kown_shape hK2
        clear hbn hK2 hBK
        go_wp2_with fail
        refine hK.out _ _ hS2 (fun hHeld => ?_)
        clear hK
        (try simp only [Act.put, List.setIfInBounds_toArray, List.set_cons_zero, List.set_cons_succ])
        clear hS2
        refine take_yes (i := 11) 16 (v := ?_) rfl rfl (by kernel_rfl) (by kernel_rfl) (by kernel_rfl) (fun _ _ _ h => h) (by kernel_rfl) hHeld ?_ ?_
        rotate_left
        focus (intro w hSw; (try dsimp only at hSw); go_simp; (try with_reducible rfl))
        (try simp only [Act.put, List.setIfInBounds_toArray, List.set_cons_zero, List.set_cons_succ])
        refine wpAnyH_ready (rs := [13]) (by kernel_rfl) (by simp) ?_
        refine AllReadyH.cons rfl (fun K hK => ?_) AllReadyH.nil
        obtain ⟨b0, b1, b2, b3, b4, bf⟩ := row5 (hR1.out.box _ rfl).1
        have f0 := bf 0; have f1 := bf 1; have f2 := bf 2; have f3 := bf 3; have f4 := bf 4; clear bf
        have hX := hide' (hR1.out.out vk vn)
        have hS2 := hX.out.1
        simp only [set5, Nat.zero_add] at hS2
        go_simp
        refine hK.out _ _ (by with_reducible exact hS2) (fun hHeld => ?_)
        clear hK
        (try simp only [Act.put, List.setIfInBounds_toArray, List.set_cons_zero, List.set_cons_succ])
        clear hS2 hR1 b0 b1 b2 b3 b4 f0 f1 f2 f3 f4
        refine wpAnyH_done (by kernel_rfl) ?_ _
        clear hHeld
        go_wp2_with fail
        go_meet
        exact ⟨gO, uSa, uSn, uSc, uKa, uKn, uKc, rfl, by have h := hX.out; simp only [set5, Nat.zero_add] at h; exact hide' h⟩
    ·
      go_simp
      replace hR1 := hide' hR1.out.mkBox
      have hS2 := hR1.out.bel
      refine hK.out _ _ hS2 (fun hHeld => ?_)
      clear hK
      (try simp only [Act.put, List.setIfInBounds_toArray, List.set_cons_zero, List.set_cons_succ])
      clear hS2
      generalize V0.alloc (.cells #[.int .i64 0, .int .i64 0, .slice none 0 0, .slice none 0 0, .slice none 0 0] 26) = V1 at *
      generalize V0.heap.size = gO at *
      refine wpAnyH_ready (rs := [4]) (by kernel_rfl) (by simp) ?_
      refine AllReadyH.cons rfl (fun K hK => ?_) AllReadyH.nil
      go_simp
      replace hR1 := hide' hR1.out.mkLit
      have hS2 := hR1.out.bel
      refine hK.out _ _ hS2 (fun hHeld => ?_)
      clear hK
      (try simp only [Act.put, List.setIfInBounds_toArray, List.set_cons_zero, List.set_cons_succ])
      clear hS2
      generalize V1.alloc (.cells #[] 5) = V2 at *
      generalize V1.heap.size = gL at *
      refine wpAnyH_ready (rs := [7]) (by kernel_rfl) (by simp) ?_
      refine AllReadyH.cons rfl (fun K hK => ?_) AllReadyH.nil
      refine step_rs_app (by rfl) (.tmp 9) (.tmp 11) (by rfl) hR1.out HSg.out Hn.out hp2 HlS.out (by rfl) (by rfl) ?_
      intro uS V3 hbn hR2
      replace hR1 := hide' hR2
      have hS2 := hR1.out.bel
      obtain ⟨uSa, uSn, uSc, rfl⟩ := rs_form hR2
      clear hbn hR2
      show K (Act.put _ (some 12) (.slice uSa uSn uSc)) V3
      refine hK.out _ _ hS2 (fun hHeld => ?_)
      clear hK
      (try simp only [Act.put, List.setIfInBounds_toArray, List.set_cons_zero, List.set_cons_succ])
      clear hS2
      refine wpAnyH_ready (rs := [10]) (by kernel_rfl) (by simp) ?_
      refine AllReadyH.cons rfl (fun K hK => ?_) AllReadyH.nil
      go_simp
      go_at_call 67
      refine (HKc.out V3 hR1.out.bel).mono ?_
      rintro e V4 ⟨uK, rfl, BK, hK2, hBK, hbn⟩
      have hS2 := hR1.out.bel.trans (hbn.mono hR1.out.bel.size)
      replace hR1 := hide' (hR1.out.keys hbn hK2 hBK (KOwn.nodup hK2))
      obtain ⟨uKa, uKn, uKc, rfl⟩ := kown_shape hK2
      clear hbn hK2 hBK
      go_wp2_with fail
      refine hK.out _ _ hS2 (fun hHeld => ?_)
      clear hK
      (try simp only [Act.put, List.setIfInBounds_toArray, List.set_cons_zero, List.set_cons_succ])
      clear hS2
      refine take_yes (i := 11) 16 (v := ?_) rfl rfl (by kernel_rfl) (by kernel_rfl) (by kernel_rfl) (fun _ _ _ h => h) (by kernel_rfl) hHeld ?_ ?_
      rotate_left
      focus (intro w hSw; (try dsimp only at hSw); go_simp; (try with_reducible rfl))
      (try simp only [Act.put, List.setIfInBounds_toArray, List.set_cons_zero, List.set_cons_succ])
      refine wpAnyH_ready (rs := [13]) (by kernel_rfl) (by simp) ?_
      refine AllReadyH.cons rfl (fun K hK => ?_) AllReadyH.nil
      obtain ⟨b0, b1, b2, b3, b4, bf⟩ := row5 (hR1.out.box _ rfl).1
      have f0 := bf 0; have f1 := bf 1; have f2 := bf 2; have f3 := bf 3; have f4 := bf 4; clear bf
      have hX := hide' (hR1.out.out vk vn)
      have hS2 := hX.out.1
      simp only [set5, Nat.zero_add] at hS2
      go_simp
      refine hK.out _ _ (by with_reducible exact hS2) (fun hHeld => ?_)
      clear hK
      (try simp only [Act.put, List.setIfInBounds_toArray, List.set_cons_zero, List.set_cons_succ])
      clear hS2 hR1 b0 b1 b2 b3 b4 f0 f1 f2 f3 f4
      refine wpAnyH_done (by kernel_rfl) ?_ _
      clear hHeld
      go_wp2_with fail
      go_meet
      exact ⟨gO, uSa, uSn, uSc, uKa, uKn, uKc, rfl, by have h := hX.out; simp only [set5, Nat.zero_add] at h; exact hide' h⟩
  case rest =>
  obtain ⟨O, aS, nS, cS, vp, vn3, vc, rfl, HX⟩ := hcut
  obtain ⟨hbx, hO, hOx, _⟩ := HX.out
  have hOw : O < wc.heap.size := (Array.getElem?_eq_some_iff.1 hOx).1
  have hPO : ¬ w.heap.size = O := by have := Hz1.out; omega
  have hOP : ¬ O = w.heap.size := by have := Hz1.out; omega
  have HPc : Hid (∀ wr, wc.grownBy wr (some O) → wr.heap[w.heap.size]? = some (.cells #[.int .i64 vk, .int .i64 vn, .slice a2 n p2, .slice a3 n3 p3, .slice a4 n4 p4] 26 (0, 0))) := by
    intro wr hg
    have hz := Hz1.out
    have hzc := hbx.size
    exact (hg.block w.heap.size (by omega) (by simpa using hPO)).trans ((hbx.block _ (by omega)).trans hP)
  have HBw : Hid (∀ wr, wc.grownBy wr (some O) → ∀ b, b < w.heap.size → wr.heap[b]? = w.heap[b]?) := by
    intro wr hg b hb
    have hz := Hz1.out
    have hzc := hbx.size
    exact (hg.block b (by omega) (by simp; omega)).trans ((hbx.block b (by omega)).trans (hb1.block b hb))
  have HRc : Hid (∀ wr, wc.grownBy wr (some O) → wr.heap[w.heap.size + 1]? = some (.cells #[.int .i64 0, .int .i64 0, .slice none 0 0, .slice none 0 0, .slice none 0 0] 26 (0, 0))) := by
    intro wr hg
    have hz := Hz1.out
    have hzc := hbx.size
    exact (hg.block (w.heap.size + 1) (by omega) (by simp; omega)).trans ((hbx.block _ (by omega)).trans hR)
  have HBb : Hid (∀ wr, wc.grownBy wr (some O) → Below w.heap.size w wr) := by
    intro wr hg
    have hz := Hz1.out
    have hzc := hbx.size
    exact (hb1.trans (hbx.mono (by omega))).grown hg (by omega) (by intro k hk; simp at hk; omega)
  have HOx := hide' hOx
  clear hbx hOx hP hR
  go_wp2_with fail
  go_loopw [4] (fun i wz => ∃ j : Nat, j ≤ n4 ∧ i = .int .i64 j ∧ ∃ y cs2 Bi2, LInv wc O (.int .i64 vk) (.int .i64 vn) (.slice aS nS cS) (.slice vp vn3 vc) d vL j wz y cs2 Bi2) (fun i _ => n4 - (intOf i).toNat)
  case atStart => exact ⟨0, Nat.zero_le _, rfl, _, _, _, HOx.out, RW.nil _ _ _ _ _, World.grownBy.refl _ _⟩
  case round =>
    obtain ⟨j, hj, rfl, y, cs2, Bi2, hJ⟩ := hrel
    have HJ := hide' hJ
    have hys : ∃ p c, y = .slice p j c := by
      rcases hJ.2.1.2.2.1.2 with ⟨rfl, h0⟩ | ⟨g, cap, cur, rfl, _⟩
      · exact ⟨none, 0, by rw [h0]⟩
      · exact ⟨_, _, rfl⟩
    obtain ⟨yp, yc, rfl⟩ := hys
    have HGz : Hid (wc.grownBy wr (some O)) := hide' hJ.2.2
    have hPz := HPc.out _ HGz.out
    obtain ⟨_, _, _, _, q4, _⟩ := row5 hPz
    obtain ⟨_, _, _, _, o4, of⟩ := row5 hJ.1
    have hzz := hJ.2.2.size
    have hBw := HBb.out _ HGz.out
    clear hJ
    by_cases hjl : j < n4
    · have hjl2 : (j : Int) < (n4 : Int) := by omega
      have hj0 : (0 : Int) ≤ (j : Int) := Int.natCast_nonneg _
      have hjv : j < vL.length := by have := Hn4.out; omega
      obtain ⟨b, off, c, rfl, h5', hv⟩ := HL.out.at hBw hN hjv
      obtain ⟨c0, c1, c2, c3, c4⟩ := c
      obtain ⟨ek, en, s2, e2, r2, s3, e3, r3, s4, e4, r4, rfl, rfl, rfl, rfl, rfl⟩ := VSeg.form d (hv wr hBw)
      obtain ⟨g0, g1, g2, g3, g4⟩ := h5'
      simp only at g0 g1 g2 g3 g4
      have HE : Hid (∀ wy, Below wr.heap.size wr wy → Calls Tryd.prog 36 #[.agg #[.int .i64 ek, .int .i64 en, .slice s2 e2 r2, .slice s3 e3 r3, .slice s4 e4 r4]] wy (LCall O wc.heap.size d vL j wr (.slice yp j yc) cs2.flatten)) := fun wy hy => (ih N _ _ _ _ _ _ wy (hv wy (Below.on hBw hy)) (by have := (Below.on hBw hy).size; omega) (HLe.out j hjv)).mono fun e w5 he => linv_call HJ.out (by omega) hjv hy he
      clear hv hBw hPz
      go_wp2_with fail
      have HCf := hide' of
      clear of
      go_region_law
        (first
          | (go_simp; go_at_call 36; refine (HE.out _ (by first | exact Below.refl _ _ | exact (Below.refl _ _).drew | exact (Below.refl _ _).drew.drew)).mono ?_; rintro e w5 ⟨uk, un, z2, n2, x2, z3, m3, x3, z4, m4, x4, rfl, Bv, hit, hbv, hbn, b5, hc5, ho5⟩; replace hit := hide' (And.intro hit (And.intro hbv (And.intro hbn (And.intro b5 ho5)))); have hz5 : O < w5.heap.size := (by have := b5.size; omega); have hc5o : ∀ o, (w5.alloc o).cell? ⟨O, 4, none⟩ = some (.slice yp j yc) := (fun o => (World.cell?_of_block (Below.heap_alloc w5 o O hz5)).trans hc5); clear hbv hbn b5 ho5)
          | (refine step_append_lies _ (by rfl) (.tmp 25) (.tmp 32) 24 (by rfl) wc.heap.size 26 iV _ 5 88 Tryd.underlying24 hiV hz0 hz1' hz2 rfl (by decide) (.slice yp j yc) j cs2.flatten (by rfl) (by first | exact hit.out.2.2.2.2.alloc _ | exact (hit.out.2.2.2.2.alloc _).drew) ⟨w5.heap.size, 0, none⟩ 1 1 [.int .i64 uk, .int .i64 un, .slice z2 n2 x2, .slice z3 m3 x3, .slice z4 m4 x4] (by rfl) (by rfl) (World.news_of_block (cs := #[.int .i64 uk, .int .i64 un, .slice z2 n2 x2, .slice z3 m3 x3, .slice z4 m4 x4]) (t := 26) (fr := (0, 0)) (heap_alloc_new w5 _)) (by simp [Value.oneCell']) (by omega) (by unfold maxLen; omega) (by omega) (by have := hit.out.2.2.2.1.size; simp; omega) (w5.heap.size + 1) (by simp) ?_; intro g cp w6 hown6 hg6 hat6 hlt6; obtain ⟨hV6, hJ6⟩ := linv_step HJ.out (by omega) hit.out.2.2.2.1 hit.out.1 hit.out.2.1 hit.out.2.2.1 hown6 hg6 hat6; obtain ⟨_, _, _, _, hc6, hf6⟩ := row5 hV6; replace hf6 := hf6 4; replace hJ6 := hide' hJ6; clear hown6 hg6 hat6 hlt6 hV6 hit hc5 hc5o))
      all_goals go_wp2
      all_goals exact ⟨⟨j + 1, by omega, by go_num, _, _, _, hJ6.out⟩, by simp [intOf]; omega⟩
    · obtain rfl : j = n4 := by omega
      have hjl2 : ¬ (j : Int) < (j : Int) := by omega
      have hRW : RW 26 5 (ItV d vL) wr wc.heap.size (.slice yp j yc) vL.length cs2 Bi2 := by rw [Hn4.out]; exact HJ.out.2.1
      have HLO := hide' (And.intro hRW.lown (And.intro hRW.2.2.2.2.1 hRW.2.2.2.2.2))
      generalize hBl : (Value.slice yp j yc).ownBlock.toList ++ Bi2.flatten = Bl at HLO
      have hRz := HRc.out _ HGz.out
      obtain ⟨r0, r1, r2, r3, r4, rf⟩ := row5 hRz
      have f0 := rf 0
      have f1 := rf 1
      have f2 := rf 2
      have f3 := rf 3
      have f4 := rf 4
      obtain ⟨oo0, oo1, oo2, oo3, oo4, _⟩ := row5 HJ.out.1
      have HRz := hide' hRz
      have HBw := hide' hBw
      clear hBl hRW of rf hPz hRz hBw o4
      go_wp2_with fail
      have hrow := set5_heap (j := 0) (.int .i64 vk) (.int .i64 vn) (.slice aS nS cS) (.slice vp vn3 vc) (.slice yp j yc) HRz.out
      have hfin := row5 hrow
      simp only [set5, Nat.zero_add] at hfin
      obtain ⟨y0, y1, y2, y3, y4, _⟩ := hfin
      refine bodyPost_ret (v := .agg #[.int .i64 vk, .int .i64 vn, .slice aS nS cS, .slice vp vn3 vc, .slice yp j yc]) (by simp [results, Tryd.results36, go_sem, y0, y1, y2, y3, y4]) rfl ?_
      have hB5 := set5_grown wr (w.heap.size + 1) 0 (.int .i64 vk) (.int .i64 vn) (.slice aS nS cS) (.slice vp vn3 vc) (.slice yp j yc)
      have hz := Hz1.out
      obtain ⟨Bf, hOw2, hbd⟩ := own_end2 HX.out HLO.out.1 HLO.out.2.2 HLO.out.2.1 HJ.out.2.2 hB5 (by omega)
      refine ⟨_, _, _, _, _, rfl, Bf, hOw2, fun b hb => ?_, HBw.out.grown hB5 (by have := HBw.out.size; omega) (by intro q hq; simp at hq; omega)⟩
      have := hbd b hb
      exact ⟨by omega, this.2⟩

theorem ownX_bnd (d : Nat) : XAt d := by
  induction d with
  | zero => intro N c0 c1 c2 c3 c4 v w hv; exact hv.elim
  | succ d ih =>
    intro N c0 c1 c2 c3 c4 v w hv hN hs
    obtain ⟨vk, vn, vS, vK, vL⟩ := v
    obtain ⟨e0, e1, hT, hK, hL⟩ := (VSeg_succ _ _ _ _ _).1 hv
    simp only at e0 e1 hT hK hL
    subst e0
    subst e1
    have hK' := hK
    have hL' := hL
    obtain ⟨a2, p2, rfl, hS, _, _, h5, h6⟩ := hT
    obtain ⟨a3, p3, rfl, _⟩ := hK'
    obtain ⟨a4, p4, rfl, _⟩ := hL'
    obtain ⟨b1, b2, b3, b4, b5⟩ := hs
    exact ownX_walk vk vn vS vK d vL a2 p2 a3 p3 a4 p4 N ih w hS h6 hN h5 b1 hK hL b2 b3 b4 b5
end Go.Proofs.YtfokidhamjphfaaDoor
