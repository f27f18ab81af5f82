/-
  Texts that a law leans on, one behind the other; no statement is proved here.
-/
import Derived.Test.YtfokidhamjphfaaDoorPk24
import Derived.Test.YtfokidhamjphfaaDoorPk29
import Derived.Test.YtfokidhamjphfaaDoorPk5
import Derived.Test.YtfokidhamjphfaaDoorPk8
import Derived.Deep.Cut
import Derived.Deep.CutRange
import Derived.Deep.AppendLies
import Derived.Deep.RegionLaw
import Derived.Deep.RegionWith
/-
  copied of the program, with the closure of renamed: a copy of the call's own, its kids changed. No statement is proved here.
-/
namespace Go.Proofs.YtfokidhamjphfaaDoor
open Go.RowKit
set_option linter.unusedVariables false
set_option linter.unusedSimpArgs false

theorem Rs.txt {w1 V V' : World} {vS : List Int} {vK : List (List Int)} {q : Option Nat} {k : Option Value} {o : Option Nat} (h : Rs w1 vS vK V q none k o) {u : Value} (hb : Below V.heap.size V V') (hT : Bts V' V.heap.size u vS) : Rs w1 vS vK V' q (some u) k o := by
  have h' := h.step hb
  have hz := h.bel.size
  have hz' := hb.size
  obtain ⟨B, hTO, hB, hn⟩ := tOwn_of hT
  obtain ⟨h1, h2, h3, _⟩ := h'
  obtain ⟨_, k2, k3, Bs0, Bk0, g4, g5, g6, g7, g8, g9⟩ := h
  obtain rfl : Bs0 = [] := g7 rfl
  refine ⟨h1, h2, h3, B, Bk0, ?_, fun b hb' => ?_, fun v hv => (Option.some.inj hv) ▸ hTO, by simp, fun v hv => (g8 v hv).agree fun b hb' => hb.block b (g5 b (by simpa using hb')).2.1, g9⟩
  · rw [List.nodup_append]
    refine ⟨hn, by simpa using g4, fun x hx y hy => ?_⟩
    have := hB x hx
    have := g5 y (by simpa using hy)
    omega
  · rcases List.mem_append.1 hb' with hb' | hb'
    · have := hB b hb'
      refine ⟨by omega, this.2, fun e => ?_, fun e => ?_⟩
      · have := (Array.getElem?_eq_some_iff.1 (k3 b e).1).1; omega
      · have := (Array.getElem?_eq_some_iff.1 (k2 b e).1).1; omega
    · have := g5 b (by simpa using hb')
      exact ⟨this.1, by omega, this.2.2⟩

theorem Rs.sout {w1 V : World} {vS : List Int} {vK : List (List Int)} {a : Option Addr} {n c : Nat} {O : Nat} (h : Rs w1 vS vK V none (some (.slice a n c)) none (some O)) (vk vn : Int) : SOut w1 vk vn vS (.pointer (some ⟨O, 0, none⟩)) (set5 V O 0 (.int .i64 vk) (.int .i64 vn) (.slice a n c) (.slice none 0 0) (.slice none 0 0)) := by
  obtain ⟨h1, h2, h3, Bs, Bk, h4, h5, h6, h7, h8, h9⟩ := h
  obtain rfl : Bk = [] := h9 rfl
  obtain ⟨k1, k2⟩ := h3 O rfl
  have hs := set5_grown V O 0 (.int .i64 vk) (.int .i64 vn) (.slice a n c) (.slice none 0 0) (.slice none 0 0)
  have hz := set5_size V O 0 (.int .i64 vk) (.int .i64 vn) (.slice a n c) (.slice none 0 0) (.slice none 0 0)
  have ho := set5_other V O 0 (.int .i64 vk) (.int .i64 vn) (.slice a n c) (.slice none 0 0) (.slice none 0 0)
  have hr := set5_heap (j := 0) (.int .i64 vk) (.int .i64 vn) (.slice a n c) (.slice none 0 0) (.slice none 0 0) k1
  have hne : ∀ b ∈ Bs, b ≠ O := fun b hb e => (h5 b (by simpa using hb)).2.2.1 (by rw [e])
  refine ⟨O, a, n, c, Bs, rfl, k2, hr, (h6 _ rfl).agree fun b hb => ho b (hne b hb), fun b hb => ?_, by simpa using h4, h1.grown hs h1.size (by intro j hj; simp at hj; omega)⟩
  have := h5 b (by simpa using hb)
  exact ⟨this.1, by omega, hne b hb⟩

set_option maxHeartbeats 6400000 in
set_option maxRecDepth 100000 in
theorem copied_walk (d : Nat) (g : Vl d → Vl d) (gF gT : Nat) (vk vn : Int) (vS : List Int) (vK : List (List Int)) (vL : List (Vl d)) (a2 : Option Addr) (p2 : Nat) (a3 : Option Addr) (p3 : Nat) (a4 : Option Addr) (p4 : Nat) (N : Nat) (w : World) (ih : ∀ (c0 c1 c2 c3 c4 : Value) (u : Vl d) (wx : World), Below w.heap.size w wx → VSeg (fun b => b < N) wx d (c0, c1, c2, c3, c4) u → bndV d u → Calls Tryd.prog 51 #[.agg #[c0, c1, c2, c3, c4], .pointer (some ⟨gF, 0, none⟩), .pointer (some ⟨gT, 0, none⟩)] wx (ValEnd d (g u) wx)) (hS : Seg w a2 vS) (hSb : ∀ x, a2 = some x → vS ≠ [] → x.block < N) (hN : N ≤ w.heap.size) (hp2 : a2 = none → p2 = 0) (hl : vS.length ≤ 1048576)
    (hK : KSeg (fun b => b < N) w (.slice a3 vK.length p3) vK) (hL : LSeg (fun b => b < N) w d (.slice a4 vL.length p4) vL) (hkl : vK.length ≤ 1048576) (hke : ∀ i, i < vK.length → (vK.getD i []).length ≤ 1048576) (hll : vL.length ≤ 1048576) (hle : ∀ i (h : i < vL.length), bndV d vL[i]) :
    Calls Tryd.prog 50 #[.agg #[.int .i64 vk, .int .i64 vn, .slice a2 vS.length p2, .slice a3 vK.length p3, .slice a4 vL.length p4], .func (.func 51) #[] #[.pointer (some ⟨gF, 0, none⟩), .pointer (some ⟨gT, 0, none⟩)]] w (ValEnd (d + 1) (vk, vn, vS, vK, vL.map g) w) := by
  obtain ⟨iT, hiT, hy0, hy1, hy2⟩ := info_parts infoT
  obtain ⟨iV, hiV, hz0, hz1', hz2⟩ := info_parts info_valueT
  have HK := hide' hK
  have HL := hide' hL
  have HKe := hide' hke
  have HLe := hide' hle
  clear hK hL hke hle
  generalize hn3 : vK.length = n3 at *
  generalize hn4 : vL.length = n4 at hll HL ⊢
  have Hn3 : Hid (vK.length = n3) := hn3
  have Hn4 : Hid (vL.length = n4) := hn4
  clear hn3 hn4
  have HB1 : Hid (∀ o o' : Obj, Below w.heap.size w ((w.alloc o).alloc o') ∧ ((w.alloc o).alloc o').heap[w.heap.size]? = some o ∧ ((w.alloc o).alloc o').heap[w.heap.size + 1]? = some o' ∧ ((w.alloc o).alloc o').heap.size = w.heap.size + 2) := fun o o' => ⟨((Below.refl _ _).alloc (Nat.le_refl _) o).alloc (by simp) o', (Below.heap_alloc _ _ _ (by simp)).trans (heap_alloc_new w o), by have := heap_alloc_new (w.alloc o) o'; simpa using this, by simp⟩
  generalize hn : vS.length = n at *
  have Hn : Hid (n = vS.length) := hn.symm
  clear hn
  go_enter Tryd.func50, Tryd.ntmps50
  go_upto_region 1 with fail
  obtain ⟨hb1, hP, hR, hz1⟩ := HB1.out (.cells #[.int .i64 vk, .int .i64 vn, .slice a2 n p2, .slice a3 n3 p3, .slice a4 n4 p4] 26) (.cells #[.int .i64 0, .int .i64 0, .slice none 0 0, .slice none 0 0, .slice none 0 0] 26)
  generalize hw1 : ((w.alloc (.cells #[.int .i64 vk, .int .i64 vn, .slice a2 n p2, .slice a3 n3 p3, .slice a4 n4 p4] 26)).alloc (.cells #[.int .i64 0, .int .i64 0, .slice none 0 0, .slice none 0 0, .slice none 0 0] 26)) = w1 at *
  have Hz1 := hide' hz1
  clear hw1 HB1 hz1
  have hS1 : Seg w1 a2 vS := hS.below hb1 fun x hx he => by have := hSb x hx he; omega
  have HPs : Hid (∀ wx, Below w1.heap.size w1 wx → wx.heap[w.heap.size]? = some (.cells #[.int .i64 vk, .int .i64 vn, .slice a2 n p2, .slice a3 n3 p3, .slice a4 n4 p4] 26 (0, 0))) := hide' (fun wx hb => (hb.block _ (by have := Hz1.out; omega)).trans hP)
  have HJn : Hid (∀ wx, Below w1.heap.size w1 wx → Calls Tryd.prog 53 #[.slice none 0 0, .slice a2 n p2] wx fun e w' => ∃ v, e = .returned v ∧ Bts w' wx.heap.size v vS ∧ Below wx.heap.size wx w') := hide' (fun wx hb => by
    have h := joined_any none a2 0 p2 [] vS wx ⟨by simp, .inl rfl⟩ (hS1.below hb fun x hx he => by have := hSb x hx he; have := Hz1.out; omega) (fun _ => rfl) hp2 (by simp) (by have := Hn.out; omega)
    rw [← Hn.out] at h
    simpa using h)
  clear hS
  go_cut [5] from 10 to 17 (fun s3 wx => SOut w1 vk vn vS s3 wx)
  case first =>
    refine wp_region_held_drew (S := (fun wx => Below w1.heap.size w1 wx)) (by kernel_rfl) (Below.refl w1.heap.size w1).drew (fun hHeld => ?_)
    have hR1 := hide' ((Rs.start w1 vS vK).step (V' := w1.drew) (Below.refl w1.heap.size w1).drew)
    generalize w1.drew = V0 at *
    refine take_yes (i := 0) 10 (v := ?_) rfl rfl (by kernel_rfl) (by kernel_rfl) (by kernel_rfl) (fun _ _ _ h => h) (by kernel_rfl) hHeld ?_ ?_
    rotate_left
    focus (intro w hSw; (try dsimp only at hSw); go_simp; (try with_reducible rfl))
    (try simp only [Act.put, List.setIfInBounds_toArray, List.set_cons_zero, List.set_cons_succ])
    refine take_yes (i := 1) 11 (v := ?_) rfl rfl (by kernel_rfl) (by kernel_rfl) (by kernel_rfl) (fun _ _ _ h => h) (by kernel_rfl) hHeld ?_ ?_
    rotate_left
    focus (intro w hSw; obtain ⟨z0, z1, z2, z3, z4, -⟩ := row5 (HPs.out w hSw); (try dsimp only at hSw); go_simp; (try with_reducible rfl))
    (try simp only [Act.put, List.setIfInBounds_toArray, List.set_cons_zero, List.set_cons_succ])
    refine take_yes (i := 2) 12 (v := ?_) rfl rfl (by kernel_rfl) (by kernel_rfl) (by kernel_rfl) (fun _ _ _ h => h) (by kernel_rfl) hHeld ?_ ?_
    rotate_left
    focus (intro w hSw; (try dsimp only at hSw); go_simp; (try with_reducible rfl))
    (try simp only [Act.put, List.setIfInBounds_toArray, List.set_cons_zero, List.set_cons_succ])
    refine take_yes (i := 3) 13 (v := ?_) rfl rfl (by kernel_rfl) (by kernel_rfl) (by kernel_rfl) (fun _ _ _ h => h) (by kernel_rfl) hHeld ?_ ?_
    rotate_left
    focus (intro w hSw; obtain ⟨z0, z1, z2, z3, z4, -⟩ := row5 (HPs.out w hSw); (try dsimp only at hSw); go_simp; (try with_reducible rfl))
    (try simp only [Act.put, List.setIfInBounds_toArray, List.set_cons_zero, List.set_cons_succ])
    refine take_yes (i := 4) 14 (v := ?_) rfl rfl (by kernel_rfl) (by kernel_rfl) (by kernel_rfl) (fun _ _ _ h => h) (by kernel_rfl) hHeld ?_ ?_
    rotate_left
    focus (intro w hSw; (try dsimp only at hSw); go_simp; (try with_reducible rfl))
    (try simp only [Act.put, List.setIfInBounds_toArray, List.set_cons_zero, List.set_cons_succ])
    refine take_yes (i := 5) 15 (v := ?_) rfl rfl (by kernel_rfl) (by kernel_rfl) (by kernel_rfl) (fun _ _ _ h => h) (by kernel_rfl) hHeld ?_ ?_
    rotate_left
    focus (intro w hSw; obtain ⟨z0, z1, z2, z3, z4, -⟩ := row5 (HPs.out w hSw); (try dsimp only at hSw); go_simp; (try with_reducible rfl))
    (try simp only [Act.put, List.setIfInBounds_toArray, List.set_cons_zero, List.set_cons_succ])
    refine wpAnyH_ready (rs := [6, 8]) (by kernel_rfl) (by simp) ?_
    refine AllReadyH.cons rfl (fun K hK => ?_) (AllReadyH.cons rfl (fun K hK => ?_) AllReadyH.nil)
    ·
      go_simp
      go_at_call 53
      refine (HJn.out V0 hR1.out.bel).mono ?_
      rintro e V1 ⟨uS, rfl, hT2, hbn⟩
      have hS2 := hR1.out.bel.trans (hbn.mono hR1.out.bel.size)
      replace hR1 := hide' (hR1.out.txt hbn hT2)
      obtain ⟨uSa, uSc, rfl, _⟩ := hT2.shape
      rw [← Hn.out] at hR1 ⊢
      clear hbn hT2
      go_wp2_with fail
      refine hK.out _ _ hS2 (fun hHeld => ?_)
      clear hK
      (try simp only [Act.put, List.setIfInBounds_toArray, List.set_cons_zero, List.set_cons_succ])
      clear hS2
      refine take_yes (i := 7) 17 (v := ?_) rfl rfl (by kernel_rfl) (by kernel_rfl) (by kernel_rfl) (fun _ _ _ h => h) (by kernel_rfl) hHeld ?_ ?_
      rotate_left
      focus (intro w hSw; (try dsimp only at hSw); go_simp; (try with_reducible rfl))
      (try simp only [Act.put, List.setIfInBounds_toArray, List.set_cons_zero, List.set_cons_succ])
      refine wpAnyH_ready (rs := [8]) (by kernel_rfl) (by simp) ?_
      refine AllReadyH.cons rfl (fun K hK => ?_) AllReadyH.nil
      go_simp
      replace hR1 := hide' hR1.out.mkBox
      have hS2 := hR1.out.bel
      refine hK.out _ _ hS2 (fun hHeld => ?_)
      clear hK
      (try simp only [Act.put, List.setIfInBounds_toArray, List.set_cons_zero, List.set_cons_succ])
      clear hS2
      generalize V1.alloc (.cells #[.int .i64 0, .int .i64 0, .slice none 0 0, .slice none 0 0, .slice none 0 0] 26) = V2 at *
      generalize V1.heap.size = gO at *
      refine wpAnyH_ready (rs := [9]) (by kernel_rfl) (by simp) ?_
      refine AllReadyH.cons rfl (fun K hK => ?_) AllReadyH.nil
      obtain ⟨b0, b1, b2, b3, b4, bf⟩ := row5 (hR1.out.box _ rfl).1
      have f0 := bf 0; have f1 := bf 1; have f2 := bf 2; have f3 := bf 3; have f4 := bf 4; clear bf
      have hX := hide' (hR1.out.sout vk vn)
      have hS2 : Below w1.heap.size w1 (set5 V2 gO 0 (.int .i64 vk) (.int .i64 vn) (.slice uSa n uSc) (.slice none 0 0) (.slice none 0 0)) := hR1.out.bel.grown (set5_grown _ _ _ _ _ _ _ _) hR1.out.bel.size (by intro j hj; have := (hR1.out.box _ rfl).2; simp at hj; omega)
      simp only [set5, Nat.zero_add] at hS2
      go_simp
      refine hK.out _ _ (by with_reducible exact hS2) (fun hHeld => ?_)
      clear hK
      (try simp only [Act.put, List.setIfInBounds_toArray, List.set_cons_zero, List.set_cons_succ])
      clear hS2 hR1 b0 b1 b2 b3 b4 f0 f1 f2 f3 f4
      refine wpAnyH_done (by kernel_rfl) ?_ _
      clear hHeld
      go_wp2_with fail
      go_meet
      have h := hX.out
      simp only [set5, Nat.zero_add] at h
      exact h
    ·
      go_simp
      replace hR1 := hide' hR1.out.mkBox
      have hS2 := hR1.out.bel
      refine hK.out _ _ hS2 (fun hHeld => ?_)
      clear hK
      (try simp only [Act.put, List.setIfInBounds_toArray, List.set_cons_zero, List.set_cons_succ])
      clear hS2
      generalize V0.alloc (.cells #[.int .i64 0, .int .i64 0, .slice none 0 0, .slice none 0 0, .slice none 0 0] 26) = V1 at *
      generalize V0.heap.size = gO at *
      refine wpAnyH_ready (rs := [6]) (by kernel_rfl) (by simp) ?_
      refine AllReadyH.cons rfl (fun K hK => ?_) AllReadyH.nil
      go_simp
      go_at_call 53
      refine (HJn.out V1 hR1.out.bel).mono ?_
      rintro e V2 ⟨uS, rfl, hT2, hbn⟩
      have hS2 := hR1.out.bel.trans (hbn.mono hR1.out.bel.size)
      replace hR1 := hide' (hR1.out.txt hbn hT2)
      obtain ⟨uSa, uSc, rfl, _⟩ := hT2.shape
      rw [← Hn.out] at hR1 ⊢
      clear hbn hT2
      go_wp2_with fail
      refine hK.out _ _ hS2 (fun hHeld => ?_)
      clear hK
      (try simp only [Act.put, List.setIfInBounds_toArray, List.set_cons_zero, List.set_cons_succ])
      clear hS2
      refine take_yes (i := 7) 17 (v := ?_) rfl rfl (by kernel_rfl) (by kernel_rfl) (by kernel_rfl) (fun _ _ _ h => h) (by kernel_rfl) hHeld ?_ ?_
      rotate_left
      focus (intro w hSw; (try dsimp only at hSw); go_simp; (try with_reducible rfl))
      (try simp only [Act.put, List.setIfInBounds_toArray, List.set_cons_zero, List.set_cons_succ])
      refine wpAnyH_ready (rs := [9]) (by kernel_rfl) (by simp) ?_
      refine AllReadyH.cons rfl (fun K hK => ?_) AllReadyH.nil
      obtain ⟨b0, b1, b2, b3, b4, bf⟩ := row5 (hR1.out.box _ rfl).1
      have f0 := bf 0; have f1 := bf 1; have f2 := bf 2; have f3 := bf 3; have f4 := bf 4; clear bf
      have hX := hide' (hR1.out.sout vk vn)
      have hS2 : Below w1.heap.size w1 (set5 V2 gO 0 (.int .i64 vk) (.int .i64 vn) (.slice uSa n uSc) (.slice none 0 0) (.slice none 0 0)) := hR1.out.bel.grown (set5_grown _ _ _ _ _ _ _ _) hR1.out.bel.size (by intro j hj; have := (hR1.out.box _ rfl).2; simp at hj; omega)
      simp only [set5, Nat.zero_add] at hS2
      go_simp
      refine hK.out _ _ (by with_reducible exact hS2) (fun hHeld => ?_)
      clear hK
      (try simp only [Act.put, List.setIfInBounds_toArray, List.set_cons_zero, List.set_cons_succ])
      clear hS2 hR1 b0 b1 b2 b3 b4 f0 f1 f2 f3 f4
      refine wpAnyH_done (by kernel_rfl) ?_ _
      clear hHeld
      go_wp2_with fail
      go_meet
      have h := hX.out
      simp only [set5, Nat.zero_add] at h
      exact h
  case rest =>
  obtain ⟨O, aS, nS, cS, Bs, rfl, hO, hOx, hTs, hBs, hBn, hbx⟩ := hcut
  have HC := hide' (And.intro hTs (And.intro hBs (And.intro hBn hbx)))
  have hOw : O < wc.heap.size := (Array.getElem?_eq_some_iff.1 hOx).1
  have hPO : ¬ w.heap.size = O := by have := Hz1.out; omega
  have hOP : ¬ O = w.heap.size := by have := Hz1.out; omega
  have HPc : Hid (∀ wr, wc.grownBy wr (some O) → wr.heap[w.heap.size]? = some (.cells #[.int .i64 vk, .int .i64 vn, .slice a2 n p2, .slice a3 n3 p3, .slice a4 n4 p4] 26 (0, 0))) := by
    intro wr hg
    have hz := Hz1.out
    have hzc := hbx.size
    exact (hg.block w.heap.size (by omega) (by simpa using hPO)).trans ((hbx.block _ (by omega)).trans hP)
  have HBw : Hid (∀ wr, wc.grownBy wr (some O) → ∀ b, b < w.heap.size → wr.heap[b]? = w.heap[b]?) := by
    intro wr hg b hb
    have hz := Hz1.out
    have hzc := hbx.size
    exact (hg.block b (by omega) (by simp; omega)).trans ((hbx.block b (by omega)).trans (hb1.block b hb))
  have HRc : Hid (∀ wr, wc.grownBy wr (some O) → wr.heap[w.heap.size + 1]? = some (.cells #[.int .i64 0, .int .i64 0, .slice none 0 0, .slice none 0 0, .slice none 0 0] 26 (0, 0))) := by
    intro wr hg
    have hz := Hz1.out
    have hzc := hbx.size
    exact (hg.block (w.heap.size + 1) (by omega) (by simp; omega)).trans ((hbx.block _ (by omega)).trans hR)
  have HBb : Hid (∀ wr, wc.grownBy wr (some O) → Below w.heap.size w wr) := by
    intro wr hg
    have hz := Hz1.out
    have hzc := hbx.size
    exact (hb1.trans (hbx.mono (by omega))).grown hg (by omega) (by intro k hk; simp at hk; omega)
  have HOx := hide' hOx
  obtain ⟨_, _, _, p3', _, _⟩ := row5 (HPc.out wc (World.grownBy.refl _ _))
  clear hTs hBs hBn hbx hOx hP hR hS1
  go_wp2_with fail
  go_loopw [21] (fun i wr => ∃ k : Nat, k ≤ n3 ∧ i = .int .i64 k ∧ ∃ x cs Bi, KInv wc O (.int .i64 vk) (.int .i64 vn) (.slice aS nS cS) vK k wr x cs Bi) (fun i _ => n3 - (intOf i).toNat)
  case atStart => exact ⟨0, Nat.zero_le _, rfl, _, _, _, HOx.out, RW.nil _ _ _ _ _, World.grownBy.refl _ _⟩
  case round =>
    obtain ⟨k, hk, rfl, x, cs, Bi, hI⟩ := hrel
    have HI := hide' hI
    have hvs : ∃ p c, x = .slice p k c := by
      rcases hI.2.1.2.2.1.2 with ⟨rfl, h0⟩ | ⟨g, cap, cur, rfl, _⟩
      · exact ⟨none, 0, by rw [h0]⟩
      · exact ⟨_, _, rfl⟩
    obtain ⟨vp, vc, rfl⟩ := hvs
    have hPr := HPc.out wr hI.2.2
    obtain ⟨_, _, _, q3, q4, _⟩ := row5 hPr
    obtain ⟨_, _, _, o3, o4, of⟩ := row5 hI.1
    have hzr := hI.2.2.size
    clear hI
    by_cases hkl' : k < n3
    · have hkl2 : (k : Int) < (n3 : Int) := by omega
      have hk0 : (0 : Int) ≤ (k : Int) := Int.natCast_nonneg _
      have hat : ∃ b off ua uc, a3 = some ⟨b, off, none⟩ ∧ b < N ∧ wr.cell? ⟨b, off + k, none⟩ = some (.slice ua (vK.getD k []).length uc) ∧ Seg wr ua (vK.getD k []) ∧ (ua = none → uc = 0) := by
        obtain ⟨a, cap, e, _, _, _, h0 | ⟨b, off, rfl, hb, hc⟩⟩ := HK.out
        · have := Hn3.out; rw [h0] at this; simp at this; omega
        · simp at e
          obtain ⟨u, hu, ua, uc, rfl, hs, _, _, hn, hR⟩ := hc k (by have := Hn3.out; omega)
          have hbw := fun b' (hb' : b' < N) => HBw.out wr HI.out.2.2 b' (by omega)
          refine ⟨b, off, ua, uc, e.1, hb, (World.cell?_of_block (hbw b hb)).trans hu, ⟨hs.1, ?_⟩, hn⟩
          rcases hs.2 with h0 | ⟨b2, o2, rfl, hc2⟩
          · exact .inl h0
          · by_cases he : vK.getD k [] = []
            · exact .inl he
            · exact .inr ⟨b2, o2, rfl, fun i hi => (World.cell?_of_block (hbw b2 (hR _ rfl he))).trans (hc2 i hi)⟩
      obtain ⟨b, off, ua, uc, rfl, hbN, hcu, hsu, hnu⟩ := hat
      have hlk := HKe.out k (by have := Hn3.out; omega)
      have hlt := hkl'
      have HJk : Hid (∀ wy, Below wr.heap.size wr wy → Calls Tryd.prog 53 #[.slice none 0 0, .slice ua (vK.getD k []).length uc] wy fun e w' => ∃ v, e = .returned v ∧ Bts w' wy.heap.size v (vK.getD k []) ∧ Below wy.heap.size wy w') := hide' (fun wy hb => by
        have h := joined_any none ua 0 uc [] (vK.getD k []) wy ⟨by simp, .inl rfl⟩ (hsu.grow hb) (fun _ => rfl) hnu (by simp) (by omega)
        simpa using h)
      have hPlr : w.heap.size < wr.heap.size := (Array.getElem?_eq_some_iff.1 hPr).1
      have hOlr : O < wr.heap.size := by omega
      obtain ⟨_, _, _, q3o, _, _⟩ := box_later hPr
      obtain ⟨_, _, _, o3o, _, _⟩ := box_later HI.out.1
      have hcuo : ∀ o, (wr.alloc o).cell? ⟨b, off + k, none⟩ = some (.slice ua (vK.getD k []).length uc) := fun o => (World.cell?_of_block (Below.heap_alloc wr o b (by omega))).trans hcu
      have Hv : Hid (∀ w5, Below wr.heap.size wr w5 → w5.ownsRow wc.heap.size 22 1 (.slice vp k vc) k cs.flatten ∧ w5.heap[O]? = some (.cells #[.int .i64 vk, .int .i64 vn, .slice aS nS cS, .slice vp k vc, .slice none 0 0] 26 (0, 0))) := fun w5 hb5 => ⟨HI.out.2.1.2.2.1.kept (row := none) ⟨hb5.os, hb5.tape, hb5.output, hb5.size, fun k hk _ => hb5.block k hk⟩ (by cases hv : (Value.slice vp k vc).ownBlock <;> simp), (hb5.block O hOlr).trans HI.out.1⟩
      generalize hks : vK.getD k [] = xs at *
      have Hks := hide' hks
      generalize hnk : xs.length = nk at *
      clear hks hPr of hsu
      go_wp2_with fail
      go_region_law (first
        | (go_simp; go_at_call 53; refine (HJk.out _ (by first | exact Below.refl _ _ | exact (Below.refl _ _).drew)).mono ?_; rintro e w5 ⟨v5, rfl, hv5, hbj⟩; have hb5 : Hid (Below wr.heap.size wr w5) := hide' (Below.on (by first | exact Below.refl _ _ | exact (Below.refl _ _).drew) hbj); obtain ⟨a5, c5, h5, _⟩ := hv5.shape; rw [hnk] at h5; subst h5; obtain ⟨_, _, _, t3, _, _⟩ := row5 (Hv.out w5 hb5.out).2; obtain ⟨_, _, _, t3o, _, _⟩ := box_later (Hv.out w5 hb5.out).2; replace hv5 : Hid (Bts w5 wr.heap.size (.slice a5 nk c5) xs) := hide' hv5; clear hbj)
        | (refine step_append_lies _ (by rfl) (.tmp 26) (.tmp 29) 23 (by rfl) wc.heap.size 22 iT (.slice none 0 0) 1 24 Tryd.underlying23 hiT hy0 hy1 hy2 rfl (by decide) (.slice vp k vc) k cs.flatten (by rfl) (by first | exact (Hv.out w5 hb5.out).1.alloc _ | exact ((Hv.out w5 hb5.out).1.alloc _).drew) ⟨w5.heap.size, 0, none⟩ 1 1 [.slice a5 nk c5] (by rfl) (by rfl) (World.news_of_block (cs := #[.slice a5 nk c5]) (t := 22) (fr := (0, 0)) (heap_alloc_new w5 _)) (by simp [Value.oneCell']) (by omega) (by unfold maxLen; omega) (by omega) (by have := hb5.out.size; simp; omega) (w5.heap.size + 1) (by simp) ?_; intro g6 cp6 w6 hown6 hg6 hat6 hlt6; obtain ⟨hV6, cs', Bi', hK6⟩ := kinv_step HI.out hOw hb5.out (by rw [Hks.out]; exact hv5.out) hown6 hg6 hat6; obtain ⟨_, _, _, u3, _, uf⟩ := row5 hV6; have uf3 := uf 3; replace hK6 := hide' hK6; clear hown6 hg6 hat6 hlt6 hV6 uf))
      all_goals go_wp2
      all_goals exact ⟨⟨k + 1, by omega, by go_num, _, _, _, hK6.out⟩, by simp [intOf]; omega⟩
    · obtain ⟨w3, hw3⟩ : ∃ w3, w3 = wr := ⟨_, rfl⟩
      subst hw3
      obtain rfl : k = n3 := by omega
      have hkl2 : ¬ (k : Int) < (k : Int) := by omega
      have hRW : RW 22 1 (ItK vK) w3 wc.heap.size (.slice vp k vc) vK.length cs Bi := by rw [Hn3.out]; exact HI.out.2.1
      have HKO := hide' (And.intro hRW.kown (And.intro hRW.2.2.2.2.1 hRW.2.2.2.2.2))
      generalize hBk : (Value.slice vp k vc).ownBlock.toList ++ Bi.flatten = Bk at HKO
      clear hBk hRW of o3 o4
      go_wp2_with fail
      go_loopw [36] (fun i wz => ∃ j : Nat, j ≤ n4 ∧ i = .int .i64 j ∧ ∃ y cs2 Bi2, LInv w3 O (.int .i64 vk) (.int .i64 vn) (.slice aS nS cS) (.slice vp k vc) d (vL.map g) j wz y cs2 Bi2) (fun i _ => n4 - (intOf i).toNat)
      case atStart => exact ⟨0, Nat.zero_le _, rfl, _, _, _, HI.out.1, RW.nil _ _ _ _ _, World.grownBy.refl _ _⟩
      case round =>
        obtain ⟨j, hj, rfl, y, cs2, Bi2, hJ⟩ := hrel
        have HJ := hide' hJ
        have hys : ∃ p c, y = .slice p j c := by
          rcases hJ.2.1.2.2.1.2 with ⟨rfl, h0⟩ | ⟨g, cap, cur, rfl, _⟩
          · exact ⟨none, 0, by rw [h0]⟩
          · exact ⟨_, _, rfl⟩
        obtain ⟨yp, yc, rfl⟩ := hys
        have HGz : Hid (wc.grownBy wr (some O)) := grownBy_trans HI.out.2.2 hJ.2.2
        have hPz := HPc.out _ HGz.out
        obtain ⟨_, _, _, _, q4, _⟩ := row5 hPz
        obtain ⟨_, _, _, _, o4, of⟩ := row5 hJ.1
        have hzz := hJ.2.2.size
        have hz3 := HI.out.2.2.size
        have hBw := HBb.out _ HGz.out
        clear hJ
        by_cases hjl : j < n4
        · have hjl2 : (j : Int) < (n4 : Int) := by omega
          have hj0 : (0 : Int) ≤ (j : Int) := Int.natCast_nonneg _
          have hjv : j < vL.length := by have := Hn4.out; omega
          obtain ⟨b, off, c, rfl, h5', hv⟩ := HL.out.at hBw hN hjv
          obtain ⟨c0, c1, c2, c3, c4⟩ := c
          obtain ⟨ek, en, s2, e2, r2, s3, e3, r3, s4, e4, r4, rfl, rfl, rfl, rfl, rfl⟩ := VSeg.form d (hv wr hBw)
          obtain ⟨g0, g1, g2, g3, g4⟩ := h5'
          simp only at g0 g1 g2 g3 g4
          have hjm : j < (vL.map g).length := by rw [List.length_map]; exact hjv
          have HE : Hid (∀ wy, Below wr.heap.size wr wy → Calls Tryd.prog 51 #[.agg #[.int .i64 ek, .int .i64 en, .slice s2 e2 r2, .slice s3 e3 r3, .slice s4 e4 r4], .pointer (some ⟨gF, 0, none⟩), .pointer (some ⟨gT, 0, none⟩)] wy (LCall O w3.heap.size d (vL.map g) j wr (.slice yp j yc) cs2.flatten)) := fun wy hy => (ih _ _ _ _ _ vL[j] wy (Below.on hBw hy) (hv wy (Below.on hBw hy)) (HLe.out j hjv)).mono fun e w5 he => linv_call HJ.out (by omega) hjm hy (by rw [List.getElem_map]; exact he)
          have HQ : Hid (∀ o : Obj, Below wr.heap.size wr (wr.alloc o)) := fun o => (Below.refl _ _).alloc (Nat.le_refl _) o
          have hOwr : O < wr.heap.size := (Array.getElem?_eq_some_iff.1 HJ.out.1).1
          obtain ⟨_, _, _, _, o4o, _⟩ := box_later HJ.out.1
          clear hv hBw hPz
          go_wp2_with fail
          have HCf := hide' of
          clear of
          go_region_law
            (first
              | (go_simp; go_at_call 51; refine (HE.out _ (by first | exact HQ.out _ | exact (HQ.out _).drew | exact Below.refl _ _ | exact (Below.refl _ _).drew)).mono ?_; rintro e w5 ⟨uk, un, z2, n2, x2, z3, m3, x3, z4, m4, x4, rfl, Bv, hit, hbv, hbn, b5, hc5, ho5⟩; replace hit := hide' (And.intro hit (And.intro hbv (And.intro hbn (And.intro b5 ho5)))); have hz5 : O < w5.heap.size := (by have := b5.size; omega); have hc5o : ∀ o, (w5.alloc o).cell? ⟨O, 4, none⟩ = some (.slice yp j yc) := (fun o => (World.cell?_of_block (Below.heap_alloc w5 o O hz5)).trans hc5); clear hbv hbn b5 ho5)
              | (refine step_append_lies _ (by rfl) (.tmp 41) (.tmp 45) 24 (by rfl) w3.heap.size 26 iV _ 5 88 Tryd.underlying24 hiV hz0 hz1' hz2 rfl (by decide) (.slice yp j yc) j cs2.flatten (by rfl) (by first | exact hit.out.2.2.2.2.alloc _ | exact (hit.out.2.2.2.2.alloc _).drew) ⟨w5.heap.size, 0, none⟩ 1 1 [.int .i64 uk, .int .i64 un, .slice z2 n2 x2, .slice z3 m3 x3, .slice z4 m4 x4] (by rfl) (by rfl) (World.news_of_block (cs := #[.int .i64 uk, .int .i64 un, .slice z2 n2 x2, .slice z3 m3 x3, .slice z4 m4 x4]) (t := 26) (fr := (0, 0)) (heap_alloc_new w5 _)) (by simp [Value.oneCell']) (by omega) (by unfold maxLen; omega) (by omega) (by have := hit.out.2.2.2.1.size; simp; omega) (w5.heap.size + 1) (by simp) ?_; intro g cp w6 hown6 hg6 hat6 hlt6; obtain ⟨hV6, hJ6⟩ := linv_step HJ.out (by omega) hit.out.2.2.2.1 hit.out.1 hit.out.2.1 hit.out.2.2.1 hown6 hg6 hat6; obtain ⟨_, _, _, _, hc6, hf6⟩ := row5 hV6; replace hf6 := hf6 4; replace hJ6 := hide' hJ6; clear hown6 hg6 hat6 hlt6 hV6 hit hc5 hc5o))
          all_goals go_wp2
          all_goals exact ⟨⟨j + 1, by omega, by go_num, _, _, _, hJ6.out⟩, by simp [intOf]; omega⟩
        · obtain rfl : j = n4 := by omega
          have hjl2 : ¬ (j : Int) < (j : Int) := by omega
          have hRW : RW 26 5 (ItV d (vL.map g)) wr w3.heap.size (.slice yp j yc) (vL.map g).length cs2 Bi2 := by rw [List.length_map, Hn4.out]; exact HJ.out.2.1
          have HLO := hide' (And.intro hRW.lown (And.intro hRW.2.2.2.2.1 hRW.2.2.2.2.2))
          generalize hBl : (Value.slice yp j yc).ownBlock.toList ++ Bi2.flatten = Bl at HLO
          have hRz := HRc.out _ HGz.out
          obtain ⟨r0, r1, r2, r3, r4, rf⟩ := row5 hRz
          have f0 := rf 0
          have f1 := rf 1
          have f2 := rf 2
          have f3 := rf 3
          have f4 := rf 4
          obtain ⟨oo0, oo1, oo2, oo3, oo4, _⟩ := row5 HJ.out.1
          have HRz := hide' hRz
          have HBw := hide' hBw
          clear hBl hRW of rf hPz hRz hBw o4
          go_wp2_with fail
          have hrow := set5_heap (j := 0) (.int .i64 vk) (.int .i64 vn) (.slice aS nS cS) (.slice vp k vc) (.slice yp j yc) HRz.out
          have hfin := row5 hrow
          simp only [set5, Nat.zero_add] at hfin
          obtain ⟨y0, y1, y2, y3, y4, _⟩ := hfin
          refine bodyPost_ret (v := .agg #[.int .i64 vk, .int .i64 vn, .slice aS nS cS, .slice vp k vc, .slice yp j yc]) (by simp [results, Tryd.results50, go_sem, y0, y1, y2, y3, y4]) rfl ?_
          have hB5 := set5_grown wr (w.heap.size + 1) 0 (.int .i64 vk) (.int .i64 vn) (.slice aS nS cS) (.slice vp k vc) (.slice yp j yc)
          have hz := Hz1.out
          obtain ⟨hOw2, hbd⟩ := own_end (vk := vk) (vn := vn) HC.out.1 HC.out.2.1 HC.out.2.2.1 HKO.out.1 HKO.out.2.2 HKO.out.2.1 HLO.out.1 HLO.out.2.2 HLO.out.2.1 HI.out.2.2 HJ.out.2.2 hB5 hOw (by omega) HC.out.2.2.2.size
          refine ⟨_, _, _, _, _, rfl, _, hOw2, fun b hb => ?_, HBw.out.grown hB5 (by have := HBw.out.size; omega) (by intro q hq; simp at hq; omega)⟩
          have := hbd b hb
          exact ⟨by omega, this.2⟩

end Go.Proofs.YtfokidhamjphfaaDoor
