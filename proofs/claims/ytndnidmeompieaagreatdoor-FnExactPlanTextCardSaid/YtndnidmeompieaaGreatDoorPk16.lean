/-
  Texts that a law leans on, one behind the other; no statement is proved here.
-/
import Derived.Test.YtndnidmeompieaaGreatDoorPk10
import Derived.Test.YtndnidmeompieaaGreatDoorPk5
import Derived.Test.YtndnidmeompieaaGreatDoorPk15
import Derived.Deep.RegionHeld3
/-
  PlanText of the specification.
-/
namespace Go.Proofs.YtndnidmeompieaaGreatDoor
open Go.RowKit
set_option linter.unusedVariables false
set_option linter.unusedSimpArgs false

set_option maxHeartbeats 1600000 in
theorem l10name_any (k : Int) (h1 : 1 ≤ k) (h4 : k ≤ 4) (w : World) : Calls Tryz.prog 16 #[.int .i64 k] w fun e w' => e = .returned (.string (strOf (nmT k))) ∧ Below w.heap.size w w' := by
  obtain rfl | rfl | rfl | rfl : k = 1 ∨ k = 2 ∨ k = 3 ∨ k = 4 := by omega
  all_goals
    go_enter Tryz.func16, Tryz.ntmps16
    go_wp2
    go_ret
    exact ⟨rfl, (Below.refl _ _).alloc (Nat.le_refl _) _⟩

/-- What PlanText leaves. -/
def PTxEnd (d : Nat) (l : List (Rcd d)) (s : Int) (w : World) (e : Ending) (w' : World) : Prop := ∃ v, e = .returned v ∧ Bts w' (w.heap.size + 1) v (planT d l s) ∧ Below w.heap.size w w'

/-- What stands behind k acts. -/
def PLs (w : World) (o : Obj) (d : Nat) (l : List (Rcd d)) (k : Nat) (y : Value) (wr : World) : Prop :=
  (∀ j (h : j < l.length), j < k → actB d l[j] = true) ∧ Bts wr (w.heap.size + 1) y (preA d l k) ∧ Below w.heap.size w wr ∧ wr.heap[w.heap.size]? = some o

set_option maxHeartbeats 12800000 in
set_option maxRecDepth 100000 in
theorem spec_PlanText_any (d N : Nat) (x : Value) (l : List (Rcd d)) (s : Int) (w : World) (hx : RLSg (fun b => b < N) w d x l) (hN : N ≤ w.heap.size) (hz : ∀ i (h : i < l.length), RSz d l[i]) :
    Calls Tryz.prog 5 #[.agg #[x, .int .i64 s]] w (PTxEnd d l s w) := by
  have HX := hide' hx
  have HZ : Hid (∀ i (h : i < l.length), (l[i]).2.1.length ≤ 1048576) := fun i h => (hz i h).1
  obtain ⟨a, cap, rfl, hlc, hcm, _, _⟩ := hx
  unfold maxLen at hcm
  clear hz
  have HA : Hid (∀ o : Obj, Below w.heap.size w (w.alloc o)) := fun o => (Below.refl _ _).alloc (Nat.le_refl _) o
  show Calls _ _ _ _ fun e w' => PTxEnd d l s w e w'
  by_cases hh : l.length ≤ 32 ∧ 0 ≤ s ∧ s ≤ 16
  rotate_left
  · have HF := hide' (planT_no (plan_no (d := d) (l := l) hh))
    have hcase : (32 : Int) < (l.length : Int) ∨ (¬ (32 : Int) < (l.length : Int) ∧ s < 0) ∨ (¬ (32 : Int) < (l.length : Int) ∧ ¬ s < 0 ∧ 16 < s) := by omega
    clear hh
    rcases hcase with h1 | ⟨h1, h2⟩ | ⟨h1, h2, h3⟩
    all_goals
      go_enter Tryz.func5, Tryz.ntmps5
      go_wp2
      go_ret
      exact ⟨_, rfl, by rw [HF.out]; exact bts_nil _ _, HA.out _⟩
  obtain ⟨hl32, hs0, hs16⟩ := hh
  have h1 : ¬ (32 : Int) < (l.length : Int) := by omega
  have h2 : ¬ s < 0 := by omega
  have h3 : ¬ 16 < s := by omega
  obtain ⟨u, rfl⟩ : ∃ u : Nat, s = (u : Int) := ⟨s.toNat, by omega⟩
  have H0 : Hid (∀ o, PLs w o d l 0 (.slice none 0 0) (w.alloc o)) := fun o => ⟨fun j h h' => by omega, by rw [preA_zero]; exact bts_nil _ _, HA.out o, (MapKept.heap_alloc w o).1⟩
  have HLen : Hid (∀ k, k ≤ l.length → (∀ j (h : j < l.length), j < k → actB d l[j] = true) → (preA d l k).length ≤ 34000000) := fun k hk h => by have := preA_len HZ.out k hk h; omega
  go_enter Tryz.func5, Tryz.ntmps5
  go_wp2
  go_loopw [3, 4, 5] (fun y i _ wr => ∃ k : Nat, k ≤ l.length ∧ i = .int .i64 k ∧ Hid (PLs w (.cells #[.slice a l.length cap, .int .i64 (u : Int)] 30) d l k y wr)) (fun _ i _ _ => l.length - (intOf i).toNat)
  case atStart => exact ⟨0, Nat.zero_le _, rfl, H0.out _⟩
  case round =>
    clear H0 h2 h3
    obtain ⟨k, hk, rfl, hS⟩ := hrel
    obtain ⟨hall, hYr, hbr, hXr⟩ := hS.out
    have hzs := HLen.out k hk hall
    have HAll := hide' hall
    have hX : Hid (wr.heap[w.heap.size]? = some (.cells #[.slice a l.length cap, .int .i64 (u : Int)] 30 (0, 0))) := hXr
    obtain ⟨g0, g1⟩ := two_row hXr
    have hz := hbr.size
    have hxl : w.heap.size < wr.heap.size := (Array.getElem?_eq_some_iff.1 hXr).1
    by_cases hlt : k < l.length
    rotate_left
    · have hkn : k = l.length := by omega
      have hlt' : ¬ (k : Int) < (l.length : Int) := by omega
      have HT : Hid (planT d l (u : Int) = ((preA d l k ++ [107, 101, 101, 112, 32]) ++ decI u) ++ [10]) := by
        show _ = _
        unfold planT
        rw [if_pos (plan_yes (by omega) (by omega) (by omega) (fun j h => hall j h (by omega))), ← hkn, Int.toNat_natCast]
      have HDg : Hid (∀ wx, Calls Tryz.prog 18 #[.int .i64 (u : Int)] wx fun e w' => ∃ v, e = .returned v ∧ Bts w' wx.heap.size v (decI u) ∧ Below wx.heap.size wx w') := fun wx => l2digits_nat u (by omega) wx
      have hdl := decI_two (u := u) (by omega)
      have hY := hide' hYr
      have hb := hide' hbr
      generalize preA d l k = zs at *
      obtain ⟨lo, hlo0⟩ : ∃ lo, lo = wr.heap.size := ⟨_, rfl⟩
      have hLt : Hid (∀ k, u3.ownBlock = some k → k < lo) := fun k hk => by have := (hYr.2.lt k hk).2; omega
      have hBlo : w.heap.size + 1 ≤ lo := by omega
      replace hlo0 : lo ≤ wr.heap.size := by omega
      clear hkn hS hall hYr hbr hXr HAll
      go_wp2_with fail
      refine wp_region_held_drew (S := (fun wx => wx.cell? ⟨w.heap.size, 1, none⟩ = some (.int .i64 (u : Int)))) (by kernel_rfl) g1 (fun hHeld => ?_)
      replace hY : Hid (Bts wr.drew (w.heap.size + 1) _ zs) := hY.out
      replace hX : Hid (wr.drew.heap[w.heap.size]? = _) := hX.out
      replace hb : Hid (Below w.heap.size w wr.drew) := hb.out.drew
      have hlo : lo ≤ wr.drew.heap.size := hlo0
      generalize wr.drew = V0 at *
      refine take_yes (i := 0) 75 (v := ?_) rfl rfl (by kernel_rfl) (by kernel_rfl) (by kernel_rfl) (fun _ _ _ h => h) (by kernel_rfl) hHeld ?_ ?_
      rotate_left
      focus (intro w hSw; (try dsimp only at hSw); go_simp; (try with_reducible rfl))
      simp only [Act.put, List.setIfInBounds_toArray, List.set_cons_zero, List.set_cons_succ]
      refine take_yes (i := 2) 77 (v := ?_) rfl rfl (by kernel_rfl) (by kernel_rfl) (by kernel_rfl) (fun _ _ _ h => h) (by kernel_rfl) hHeld ?_ ?_
      rotate_left
      focus (intro w hSw; (try dsimp only at hSw); go_simp; (try with_reducible rfl))
      simp only [Act.put, List.setIfInBounds_toArray, List.set_cons_zero, List.set_cons_succ]
      refine take_yes (i := 3) 78 (v := ?_) rfl rfl (by kernel_rfl) (by kernel_rfl) (by kernel_rfl) (fun _ _ _ h => h) (by kernel_rfl) hHeld ?_ ?_
      rotate_left
      focus (intro w hSw; (try dsimp only at hSw); go_simp; (try with_reducible rfl))
      simp only [Act.put, List.setIfInBounds_toArray, List.set_cons_zero, List.set_cons_succ]
      refine wpAnyH_ready (rs := [1, 6]) (by kernel_rfl) (by simp) ?_
      refine AllReadyH.cons rfl (fun K hK => ?_) (AllReadyH.cons rfl (fun K hK => ?_) AllReadyH.nil)
      ·
        refine step_append_text (by rfl) (.tmp 75) _ 9 (by rfl) Tryz.underlying9 (w.heap.size + 1) u3 zs [107, 101, 101, 112, 32] (by rfl) hY.out ⟨#[107, 101, 101, 112, 32]⟩ (by rfl) (by simp [Byt]) (by rfl) (by (try simp only [List.length_append, List.length_cons, List.length_nil]); omega) (by have := hb.out.size; omega) ?_
        intro y1 V1 hY2 hg
        replace hX := hide' (kept_grown hY.out hg _ _ _ _ hX.out (by decide))
        replace hb := hide' (hb.out.grown hg (by have := hb.out.size; omega) (fun k hk => by have := hY.out.own k hk; omega))
        replace hlo : lo ≤ V1.heap.size := by have := hg.size; omega
        replace hY := hide' hY2
        clear hY2 hg
        show K (Act.put _ (some 76) y1) V1
        refine hK.out _ _ (two_row hX.out).2 (fun hHeld => ?_)
        clear hK
        (try simp only [Act.put, List.setIfInBounds_toArray, List.set_cons_zero, List.set_cons_succ])
        refine wpAnyH_ready (rs := [4, 6]) (by kernel_rfl) (by simp) ?_
        refine AllReadyH.cons rfl (fun K hK => ?_) (AllReadyH.cons rfl (fun K hK => ?_) AllReadyH.nil)
        ·
          go_simp
          go_at_call 18
          refine (HDg.out _).mono ?_
          rintro e V2 ⟨vd, rfl, hD0, hbn⟩
          obtain ⟨da, dc, rfl, _, _, _, _, hdn⟩ := hD0.shape
          have hR := hide' (hD0.mono hlo)
          clear hD0
          replace hY := hide' (hY.out.grow hbn)
          replace hX := hide' (kept_below hbn _ _ _ _ hX.out (by decide))
          replace hb := hide' (Below.on hb.out hbn)
          replace hlo : lo ≤ V2.heap.size := by have := hbn.size; omega
          clear hbn
          go_wp2_with fail
          refine hK.out _ _ (two_row hX.out).2 (fun hHeld => ?_)
          clear hK
          (try simp only [Act.put, List.setIfInBounds_toArray, List.set_cons_zero, List.set_cons_succ])
          refine wpAnyH_ready (rs := [5, 6]) (by kernel_rfl) (by simp) ?_
          refine AllReadyH.cons rfl (fun K hK => ?_) (AllReadyH.cons rfl (fun K hK => ?_) AllReadyH.nil)
          ·
            refine step_append_seg (by rfl) (.tmp 76) (.tmp 79) (by rfl) (w.heap.size + 1) y1 (zs ++ [107, 101, 101, 112, 32]) (decI u) (by rfl) hY.out da (decI u).length dc rfl (by rfl) hR.out.seg hdn (by (try simp only [List.length_append, List.length_cons, List.length_nil]); omega) (by have := hb.out.size; omega) ?_
            intro y3 V3 hY2 hg
            replace hX := hide' (kept_grown hY.out hg _ _ _ _ hX.out (by decide))
            replace hb := hide' (hb.out.grown hg (by have := hb.out.size; omega) (fun k hk => by have := hY.out.own k hk; omega))
            replace hlo : lo ≤ V3.heap.size := by have := hg.size; omega
            replace hY := hide' hY2
            clear hY2 hg
            show K (Act.put _ (some 80) y3) V3
            refine hK.out _ _ (two_row hX.out).2 (fun hHeld => ?_)
            clear hK
            (try simp only [Act.put, List.setIfInBounds_toArray, List.set_cons_zero, List.set_cons_succ])
            clear hR
            refine wpAnyH_ready (rs := [6]) (by kernel_rfl) (by simp) ?_
            refine AllReadyH.cons rfl (fun K hK => ?_) AllReadyH.nil
            go_simp
            replace hY := hide' (hY.out.alloc (.cells #[.int .u8 10] 5))
            have hL := hide' (lit_new (lo := lo) (q := V3.heap.size) (c := 10) rfl hlo)
            replace hX := hide' (kept_alloc V3 (.cells #[.int .u8 10] 5) _ _ _ _ hX.out (by decide))
            replace hb := hide' (hb.out.alloc hb.out.size (.cells #[.int .u8 10] 5))
            replace hlo : lo ≤ (V3.alloc (.cells #[.int .u8 10] 5)).heap.size := by simp; omega
            refine hK.out _ _ (two_row hX.out).2 (fun hHeld => ?_)
            clear hK
            (try simp only [Act.put, List.setIfInBounds_toArray, List.set_cons_zero, List.set_cons_succ])
            generalize V3.alloc (.cells #[.int .u8 10] 5) = V4 at *
            generalize V3.heap.size = gL at *
            refine wpAnyH_ready (rs := [7]) (by kernel_rfl) (by simp) ?_
            refine AllReadyH.cons rfl (fun K hK => ?_) AllReadyH.nil
            refine step_append_seg (by rfl) (.tmp 80) (.tmp 81) (by rfl) (w.heap.size + 1) y3 ((zs ++ [107, 101, 101, 112, 32]) ++ decI u) [10] (by rfl) hY.out (some ⟨_, 0, none⟩) 1 1 rfl (by rfl) (hL.out.seg (by simp [Byt])) (by simp) (by (try simp only [List.length_append, List.length_cons, List.length_nil]); omega) (by have := hb.out.size; omega) ?_
            intro y5 V5 hY2 hg
            replace hX := hide' (kept_grown hY.out hg _ _ _ _ hX.out (by decide))
            replace hb := hide' (hb.out.grown hg (by have := hb.out.size; omega) (fun k hk => by have := hY.out.own k hk; omega))
            replace hlo : lo ≤ V5.heap.size := by have := hg.size; omega
            replace hY := hide' hY2
            clear hY2 hg
            show K (Act.put _ (some 82) y5) V5
            refine hK.out _ _ (two_row hX.out).2 (fun hHeld => ?_)
            clear hK
            (try simp only [Act.put, List.setIfInBounds_toArray, List.set_cons_zero, List.set_cons_succ])
            clear hL
            refine take_yes (i := 8) 2 (v := ?_) rfl rfl (by kernel_rfl) (by kernel_rfl) (by kernel_rfl) (fun _ _ _ h => h) (by kernel_rfl) hHeld ?_ ?_
            rotate_left
            focus (intro w hSw; (try dsimp only at hSw); go_simp; (try with_reducible rfl))
            simp only [Act.put, List.setIfInBounds_toArray, List.set_cons_zero, List.set_cons_succ]
            refine wpAnyH_done (by kernel_rfl) ?_ _
            clear hHeld
            rw [← HT.out] at hY
            have HFin := hide' hY.out
            clear hY
            go_wp2
            go_ret
            exact ⟨_, rfl, HFin.out, hb.out⟩
          ·
            go_simp
            replace hY := hide' (hY.out.alloc (.cells #[.int .u8 10] 5))
            have hL := hide' (lit_new (lo := lo) (q := V2.heap.size) (c := 10) rfl hlo)
            replace hR := hide' (hR.out.alloc (.cells #[.int .u8 10] 5))
            replace hX := hide' (kept_alloc V2 (.cells #[.int .u8 10] 5) _ _ _ _ hX.out (by decide))
            replace hb := hide' (hb.out.alloc hb.out.size (.cells #[.int .u8 10] 5))
            replace hlo : lo ≤ (V2.alloc (.cells #[.int .u8 10] 5)).heap.size := by simp; omega
            refine hK.out _ _ (two_row hX.out).2 (fun hHeld => ?_)
            clear hK
            (try simp only [Act.put, List.setIfInBounds_toArray, List.set_cons_zero, List.set_cons_succ])
            generalize V2.alloc (.cells #[.int .u8 10] 5) = V3 at *
            generalize V2.heap.size = gL at *
            refine wpAnyH_ready (rs := [5]) (by kernel_rfl) (by simp) ?_
            refine AllReadyH.cons rfl (fun K hK => ?_) AllReadyH.nil
            refine step_append_seg (by rfl) (.tmp 76) (.tmp 79) (by rfl) (w.heap.size + 1) y1 (zs ++ [107, 101, 101, 112, 32]) (decI u) (by rfl) hY.out da (decI u).length dc rfl (by rfl) hR.out.seg hdn (by (try simp only [List.length_append, List.length_cons, List.length_nil]); omega) (by have := hb.out.size; omega) ?_
            intro y4 V4 hY2 hg
            replace hL := hide' (hL.out.far (B := (w.heap.size + 1)) (xs := zs ++ [107, 101, 101, 112]) (x := 32) (by simpa using hY.out) (by decide) hg)
            replace hX := hide' (kept_grown hY.out hg _ _ _ _ hX.out (by decide))
            replace hb := hide' (hb.out.grown hg (by have := hb.out.size; omega) (fun k hk => by have := hY.out.own k hk; omega))
            replace hlo : lo ≤ V4.heap.size := by have := hg.size; omega
            replace hY := hide' hY2
            clear hY2 hg
            show K (Act.put _ (some 80) y4) V4
            refine hK.out _ _ (two_row hX.out).2 (fun hHeld => ?_)
            clear hK
            (try simp only [Act.put, List.setIfInBounds_toArray, List.set_cons_zero, List.set_cons_succ])
            clear hR
            refine wpAnyH_ready (rs := [7]) (by kernel_rfl) (by simp) ?_
            refine AllReadyH.cons rfl (fun K hK => ?_) AllReadyH.nil
            refine step_append_seg (by rfl) (.tmp 80) (.tmp 81) (by rfl) (w.heap.size + 1) y4 ((zs ++ [107, 101, 101, 112, 32]) ++ decI u) [10] (by rfl) hY.out (some ⟨_, 0, none⟩) 1 1 rfl (by rfl) (hL.out.seg (by simp [Byt])) (by simp) (by (try simp only [List.length_append, List.length_cons, List.length_nil]); omega) (by have := hb.out.size; omega) ?_
            intro y5 V5 hY2 hg
            replace hX := hide' (kept_grown hY.out hg _ _ _ _ hX.out (by decide))
            replace hb := hide' (hb.out.grown hg (by have := hb.out.size; omega) (fun k hk => by have := hY.out.own k hk; omega))
            replace hlo : lo ≤ V5.heap.size := by have := hg.size; omega
            replace hY := hide' hY2
            clear hY2 hg
            show K (Act.put _ (some 82) y5) V5
            refine hK.out _ _ (two_row hX.out).2 (fun hHeld => ?_)
            clear hK
            (try simp only [Act.put, List.setIfInBounds_toArray, List.set_cons_zero, List.set_cons_succ])
            clear hL
            refine take_yes (i := 8) 2 (v := ?_) rfl rfl (by kernel_rfl) (by kernel_rfl) (by kernel_rfl) (fun _ _ _ h => h) (by kernel_rfl) hHeld ?_ ?_
            rotate_left
            focus (intro w hSw; (try dsimp only at hSw); go_simp; (try with_reducible rfl))
            simp only [Act.put, List.setIfInBounds_toArray, List.set_cons_zero, List.set_cons_succ]
            refine wpAnyH_done (by kernel_rfl) ?_ _
            clear hHeld
            rw [← HT.out] at hY
            have HFin := hide' hY.out
            clear hY
            go_wp2
            go_ret
            exact ⟨_, rfl, HFin.out, hb.out⟩
        ·
          go_simp
          replace hY := hide' (hY.out.alloc (.cells #[.int .u8 10] 5))
          have hL := hide' (lit_new (lo := lo) (q := V1.heap.size) (c := 10) rfl hlo)
          replace hX := hide' (kept_alloc V1 (.cells #[.int .u8 10] 5) _ _ _ _ hX.out (by decide))
          replace hb := hide' (hb.out.alloc hb.out.size (.cells #[.int .u8 10] 5))
          replace hlo : lo ≤ (V1.alloc (.cells #[.int .u8 10] 5)).heap.size := by simp; omega
          refine hK.out _ _ (two_row hX.out).2 (fun hHeld => ?_)
          clear hK
          (try simp only [Act.put, List.setIfInBounds_toArray, List.set_cons_zero, List.set_cons_succ])
          generalize V1.alloc (.cells #[.int .u8 10] 5) = V2 at *
          generalize V1.heap.size = gL at *
          refine wpAnyH_ready (rs := [4]) (by kernel_rfl) (by simp) ?_
          refine AllReadyH.cons rfl (fun K hK => ?_) AllReadyH.nil
          go_simp
          go_at_call 18
          refine (HDg.out _).mono ?_
          rintro e V3 ⟨vd, rfl, hD0, hbn⟩
          obtain ⟨da, dc, rfl, _, _, _, _, hdn⟩ := hD0.shape
          have hR := hide' (hD0.mono hlo)
          clear hD0
          replace hY := hide' (hY.out.grow hbn)
          replace hL := hide' (hL.out.grow hbn)
          replace hX := hide' (kept_below hbn _ _ _ _ hX.out (by decide))
          replace hb := hide' (Below.on hb.out hbn)
          replace hlo : lo ≤ V3.heap.size := by have := hbn.size; omega
          clear hbn
          go_wp2_with fail
          refine hK.out _ _ (two_row hX.out).2 (fun hHeld => ?_)
          clear hK
          (try simp only [Act.put, List.setIfInBounds_toArray, List.set_cons_zero, List.set_cons_succ])
          refine wpAnyH_ready (rs := [5]) (by kernel_rfl) (by simp) ?_
          refine AllReadyH.cons rfl (fun K hK => ?_) AllReadyH.nil
          refine step_append_seg (by rfl) (.tmp 76) (.tmp 79) (by rfl) (w.heap.size + 1) y1 (zs ++ [107, 101, 101, 112, 32]) (decI u) (by rfl) hY.out da (decI u).length dc rfl (by rfl) hR.out.seg hdn (by (try simp only [List.length_append, List.length_cons, List.length_nil]); omega) (by have := hb.out.size; omega) ?_
          intro y4 V4 hY2 hg
          replace hL := hide' (hL.out.far (B := (w.heap.size + 1)) (xs := zs ++ [107, 101, 101, 112]) (x := 32) (by simpa using hY.out) (by decide) hg)
          replace hX := hide' (kept_grown hY.out hg _ _ _ _ hX.out (by decide))
          replace hb := hide' (hb.out.grown hg (by have := hb.out.size; omega) (fun k hk => by have := hY.out.own k hk; omega))
          replace hlo : lo ≤ V4.heap.size := by have := hg.size; omega
          replace hY := hide' hY2
          clear hY2 hg
          show K (Act.put _ (some 80) y4) V4
          refine hK.out _ _ (two_row hX.out).2 (fun hHeld => ?_)
          clear hK
          (try simp only [Act.put, List.setIfInBounds_toArray, List.set_cons_zero, List.set_cons_succ])
          clear hR
          refine wpAnyH_ready (rs := [7]) (by kernel_rfl) (by simp) ?_
          refine AllReadyH.cons rfl (fun K hK => ?_) AllReadyH.nil
          refine step_append_seg (by rfl) (.tmp 80) (.tmp 81) (by rfl) (w.heap.size + 1) y4 ((zs ++ [107, 101, 101, 112, 32]) ++ decI u) [10] (by rfl) hY.out (some ⟨_, 0, none⟩) 1 1 rfl (by rfl) (hL.out.seg (by simp [Byt])) (by simp) (by (try simp only [List.length_append, List.length_cons, List.length_nil]); omega) (by have := hb.out.size; omega) ?_
          intro y5 V5 hY2 hg
          replace hX := hide' (kept_grown hY.out hg _ _ _ _ hX.out (by decide))
          replace hb := hide' (hb.out.grown hg (by have := hb.out.size; omega) (fun k hk => by have := hY.out.own k hk; omega))
          replace hlo : lo ≤ V5.heap.size := by have := hg.size; omega
          replace hY := hide' hY2
          clear hY2 hg
          show K (Act.put _ (some 82) y5) V5
          refine hK.out _ _ (two_row hX.out).2 (fun hHeld => ?_)
          clear hK
          (try simp only [Act.put, List.setIfInBounds_toArray, List.set_cons_zero, List.set_cons_succ])
          clear hL
          refine take_yes (i := 8) 2 (v := ?_) rfl rfl (by kernel_rfl) (by kernel_rfl) (by kernel_rfl) (fun _ _ _ h => h) (by kernel_rfl) hHeld ?_ ?_
          rotate_left
          focus (intro w hSw; (try dsimp only at hSw); go_simp; (try with_reducible rfl))
          simp only [Act.put, List.setIfInBounds_toArray, List.set_cons_zero, List.set_cons_succ]
          refine wpAnyH_done (by kernel_rfl) ?_ _
          clear hHeld
          rw [← HT.out] at hY
          have HFin := hide' hY.out
          clear hY
          go_wp2
          go_ret
          exact ⟨_, rfl, HFin.out, hb.out⟩
      ·
        go_simp
        replace hY := hide' (hY.out.alloc (.cells #[.int .u8 10] 5))
        have hL := hide' (lit_new (lo := lo) (q := V0.heap.size) (c := 10) rfl hlo)
        replace hX := hide' (kept_alloc V0 (.cells #[.int .u8 10] 5) _ _ _ _ hX.out (by decide))
        replace hb := hide' (hb.out.alloc hb.out.size (.cells #[.int .u8 10] 5))
        replace hlo : lo ≤ (V0.alloc (.cells #[.int .u8 10] 5)).heap.size := by simp; omega
        refine hK.out _ _ (two_row hX.out).2 (fun hHeld => ?_)
        clear hK
        (try simp only [Act.put, List.setIfInBounds_toArray, List.set_cons_zero, List.set_cons_succ])
        generalize V0.alloc (.cells #[.int .u8 10] 5) = V1 at *
        generalize V0.heap.size = gL at *
        refine wpAnyH_ready (rs := [1]) (by kernel_rfl) (by simp) ?_
        refine AllReadyH.cons rfl (fun K hK => ?_) AllReadyH.nil
        refine step_append_text (by rfl) (.tmp 75) _ 9 (by rfl) Tryz.underlying9 (w.heap.size + 1) u3 zs [107, 101, 101, 112, 32] (by rfl) hY.out ⟨#[107, 101, 101, 112, 32]⟩ (by rfl) (by simp [Byt]) (by rfl) (by (try simp only [List.length_append, List.length_cons, List.length_nil]); omega) (by have := hb.out.size; omega) ?_
        intro y2 V2 hY2 hg
        replace hL := hide' (hL.out.old hg hLt.out)
        replace hX := hide' (kept_grown hY.out hg _ _ _ _ hX.out (by decide))
        replace hb := hide' (hb.out.grown hg (by have := hb.out.size; omega) (fun k hk => by have := hY.out.own k hk; omega))
        replace hlo : lo ≤ V2.heap.size := by have := hg.size; omega
        replace hY := hide' hY2
        clear hY2 hg
        show K (Act.put _ (some 76) y2) V2
        refine hK.out _ _ (two_row hX.out).2 (fun hHeld => ?_)
        clear hK
        (try simp only [Act.put, List.setIfInBounds_toArray, List.set_cons_zero, List.set_cons_succ])
        refine wpAnyH_ready (rs := [4]) (by kernel_rfl) (by simp) ?_
        refine AllReadyH.cons rfl (fun K hK => ?_) AllReadyH.nil
        go_simp
        go_at_call 18
        refine (HDg.out _).mono ?_
        rintro e V3 ⟨vd, rfl, hD0, hbn⟩
        obtain ⟨da, dc, rfl, _, _, _, _, hdn⟩ := hD0.shape
        have hR := hide' (hD0.mono hlo)
        clear hD0
        replace hY := hide' (hY.out.grow hbn)
        replace hL := hide' (hL.out.grow hbn)
        replace hX := hide' (kept_below hbn _ _ _ _ hX.out (by decide))
        replace hb := hide' (Below.on hb.out hbn)
        replace hlo : lo ≤ V3.heap.size := by have := hbn.size; omega
        clear hbn
        go_wp2_with fail
        refine hK.out _ _ (two_row hX.out).2 (fun hHeld => ?_)
        clear hK
        (try simp only [Act.put, List.setIfInBounds_toArray, List.set_cons_zero, List.set_cons_succ])
        refine wpAnyH_ready (rs := [5]) (by kernel_rfl) (by simp) ?_
        refine AllReadyH.cons rfl (fun K hK => ?_) AllReadyH.nil
        refine step_append_seg (by rfl) (.tmp 76) (.tmp 79) (by rfl) (w.heap.size + 1) y2 (zs ++ [107, 101, 101, 112, 32]) (decI u) (by rfl) hY.out da (decI u).length dc rfl (by rfl) hR.out.seg hdn (by (try simp only [List.length_append, List.length_cons, List.length_nil]); omega) (by have := hb.out.size; omega) ?_
        intro y4 V4 hY2 hg
        replace hL := hide' (hL.out.far (B := (w.heap.size + 1)) (xs := zs ++ [107, 101, 101, 112]) (x := 32) (by simpa using hY.out) (by decide) hg)
        replace hX := hide' (kept_grown hY.out hg _ _ _ _ hX.out (by decide))
        replace hb := hide' (hb.out.grown hg (by have := hb.out.size; omega) (fun k hk => by have := hY.out.own k hk; omega))
        replace hlo : lo ≤ V4.heap.size := by have := hg.size; omega
        replace hY := hide' hY2
        clear hY2 hg
        show K (Act.put _ (some 80) y4) V4
        refine hK.out _ _ (two_row hX.out).2 (fun hHeld => ?_)
        clear hK
        (try simp only [Act.put, List.setIfInBounds_toArray, List.set_cons_zero, List.set_cons_succ])
        clear hR
        refine wpAnyH_ready (rs := [7]) (by kernel_rfl) (by simp) ?_
        refine AllReadyH.cons rfl (fun K hK => ?_) AllReadyH.nil
        refine step_append_seg (by rfl) (.tmp 80) (.tmp 81) (by rfl) (w.heap.size + 1) y4 ((zs ++ [107, 101, 101, 112, 32]) ++ decI u) [10] (by rfl) hY.out (some ⟨_, 0, none⟩) 1 1 rfl (by rfl) (hL.out.seg (by simp [Byt])) (by simp) (by (try simp only [List.length_append, List.length_cons, List.length_nil]); omega) (by have := hb.out.size; omega) ?_
        intro y5 V5 hY2 hg
        replace hX := hide' (kept_grown hY.out hg _ _ _ _ hX.out (by decide))
        replace hb := hide' (hb.out.grown hg (by have := hb.out.size; omega) (fun k hk => by have := hY.out.own k hk; omega))
        replace hlo : lo ≤ V5.heap.size := by have := hg.size; omega
        replace hY := hide' hY2
        clear hY2 hg
        show K (Act.put _ (some 82) y5) V5
        refine hK.out _ _ (two_row hX.out).2 (fun hHeld => ?_)
        clear hK
        (try simp only [Act.put, List.setIfInBounds_toArray, List.set_cons_zero, List.set_cons_succ])
        clear hL
        refine take_yes (i := 8) 2 (v := ?_) rfl rfl (by kernel_rfl) (by kernel_rfl) (by kernel_rfl) (fun _ _ _ h => h) (by kernel_rfl) hHeld ?_ ?_
        rotate_left
        focus (intro w hSw; (try dsimp only at hSw); go_simp; (try with_reducible rfl))
        simp only [Act.put, List.setIfInBounds_toArray, List.set_cons_zero, List.set_cons_succ]
        refine wpAnyH_done (by kernel_rfl) ?_ _
        clear hHeld
        rw [← HT.out] at hY
        have HFin := hide' hY.out
        clear hY
        go_wp2
        go_ret
        exact ⟨_, rfl, HFin.out, hb.out⟩
    have hlt' : (k : Int) < (l.length : Int) := by omega
    obtain ⟨b, off, cs, rfl, hbN, hr, hsg⟩ := (HX.out.agree (agree_below (hbr.mono hN))).at hlt
    have hadl := HZ.out k hlt
    have HAt : Hid (actB d l[k] = false → planT d l (u : Int) = []) := fun h => planT_no (plan_at hlt h)
    have HNext : Hid (preA d l (k + 1) = preA d l k ++ actT d l[k]) := preA_succ d l k hlt
    have HAct : Hid (actB d l[k] = true → ∀ j (h : j < l.length), j < k + 1 → actB d l[j] = true) := fun hk1 j h hj => by
      by_cases e : j = k
      · subst e; exact hk1
      · exact HAll.out j h (by omega)
    obtain ⟨na, np, bk, bn, a2, l2, p2, a3, l3, p3, a4, l4, p4, xa, xp, rfl, ht, hv, _⟩ := hsg.form
    have u0 := hr 0 _ rfl
    have u1 := hr 1 _ rfl
    have u2 := hr 2 _ rfl
    have u3 := hr 3 _ rfl
    have u4 := hr 4 _ rfl
    have u5 := hr 5 _ rfl
    have u6 := hr 6 _ rfl
    have u7 := hr 7 _ rfl
    have u8 := hr 8 _ rfl
    simp only [Nat.add_zero] at u0
    generalize l[k] = it at *
    obtain ⟨kk, ad, jj, vv, ds⟩ := it
    simp only at ht hv hadl HAt HNext HAct u0 u1 u2 u3 u4 u5 u6 u7 u8
    obtain ⟨na', np', e1, hsa, hac, hac2, hna', hral⟩ := ht
    simp only [Value.slice.injEq, true_and] at e1
    obtain ⟨rfl, rfl⟩ := e1
    have HSa : Hid (∀ wx, Below w.heap.size w wx → Seg wx na ad) := fun wx hb => by
      refine ⟨hsa.1, ?_⟩
      rcases hsa.2 with h | ⟨b1, o1, rfl, hc⟩
      · exact .inl h
      · by_cases he : ad = []
        · exact .inl he
        · have hb1 : b1 < N := hral _ rfl he
          exact .inr ⟨b1, o1, rfl, fun i hi => (World.cell?_of_block ((hb.block b1 (by omega)).trans (hbr.block b1 (by omega)).symm)).trans (hc i hi)⟩
    have HVs : Hid (∀ wx, Below w.heap.size w wx → VSeg (fun b => b < N) wx d (.int .i64 bk, .int .i64 bn, .slice a2 l2 p2, .slice a3 l3 p3, .slice a4 l4 p4) vv) := fun wx hb => VSeg.agree (fun b1 hb1 => (hb.block b1 (by omega)).trans (hbr.block b1 (by omega)).symm) d hv
    have hBW : Hid (Below w.heap.size w (wr.alloc (.cells #[.int .i64 kk, .slice na ad.length np, .int .i64 jj, .int .i64 bk, .int .i64 bn, .slice a2 l2 p2, .slice a3 l3 p3, .slice a4 l4 p4, .slice xa ds.length xp] 43))) := hbr.alloc hz _
    have hEW : Hid ((wr.alloc (.cells #[.int .i64 kk, .slice na ad.length np, .int .i64 jj, .int .i64 bk, .int .i64 bn, .slice a2 l2 p2, .slice a3 l3 p3, .slice a4 l4 p4, .slice xa ds.length xp] 43)).heap[wr.heap.size]? = some (.cells #[.int .i64 kk, .slice na ad.length np, .int .i64 jj, .int .i64 bk, .int .i64 bn, .slice a2 l2 p2, .slice a3 l3 p3, .slice a4 l4 p4, .slice xa ds.length xp] 43 (0, 0))) := (MapKept.heap_alloc wr _).1
    have hXW := hide' (kept_alloc wr (.cells #[.int .i64 kk, .slice na ad.length np, .int .i64 jj, .int .i64 bk, .int .i64 bn, .slice a2 l2 p2, .slice a3 l3 p3, .slice a4 l4 p4, .slice xa ds.length xp] 43) _ _ _ _ hX.out (by decide))
    have hYW := hide' (hYr.alloc (.cells #[.int .i64 kk, .slice na ad.length np, .int .i64 jj, .int .i64 bk, .int .i64 bn, .slice a2 l2 p2, .slice a3 l3 p3, .slice a4 l4 p4, .slice xa ds.length xp] 43))
    obtain ⟨f0, f1, f3, f4, f5, f6, f7⟩ := act_row hEW.out
    have HAd : Hid (∀ wx, Below w.heap.size w wx → Calls Tryz.prog 14 #[.slice na ad.length np] wx fun e w' => e = .returned (.bool (addrB ad)) ∧ wx = w') := fun wx hb => spec_AddrOk_any na np ad wx (HSa.out wx hb) hac hac2 hna'
    have HOk : Hid (∀ wx, Below w.heap.size w wx → Calls Tryz.prog 15 #[.agg #[.int .i64 bk, .int .i64 bn, .slice a2 l2 p2, .slice a3 l3 p3, .slice a4 l4 p4]] wx fun e w' => e = .returned (.bool (okB d vv)) ∧ Below wx.heap.size wx w') := fun wx hb => spec_ValOk_any d N _ _ _ _ _ vv wx (HVs.out wx hb) (by have := hb.size; omega)
    have hna := hna'
    clear hsg hr hv hsa hral hS hall hXr hX
    by_cases hk1 : kk < 1
    · have HF := hide' (HAt.out (by unfold actB; simp only; rw [decide_eq_false (by omega)]; rfl))
      go_wp2
      go_ret
      exact ⟨_, rfl, by rw [HF.out]; exact bts_nil _ _, hBW.out⟩
    by_cases hk4 : 4 < kk
    · have HF := hide' (HAt.out (by unfold actB; simp only; rw [decide_eq_false (p := kk ≤ 4) (by omega)]; simp))
      go_wp2
      go_ret
      exact ⟨_, rfl, by rw [HF.out]; exact bts_nil _ _, hBW.out⟩
    cases hadb : addrB ad with
    | false =>
      have HF := hide' (HAt.out (by unfold actB; simp [hadb]))
      rw [hadb] at HAd
      go_wp2_with fail
      refine (HAd.out _ hBW.out).mono ?_
      rintro e w1 ⟨rfl, rfl⟩
      go_wp2
      go_ret
      exact ⟨_, rfl, by rw [HF.out]; exact bts_nil _ _, hBW.out⟩
    | true =>
    cases hokb : okB d vv with
    | false =>
      have HF := hide' (HAt.out (by unfold actB; simp [hadb, hokb]))
      rw [hadb] at HAd
      rw [hokb] at HOk
      go_wp2_with fail
      refine (HAd.out _ hBW.out).mono ?_
      rintro e w1 ⟨rfl, rfl⟩
      go_wp2_with fail
      refine (HOk.out _ hBW.out).mono ?_
      rintro e w2 ⟨rfl, b2⟩
      have B2 := hide' (Below.on hBW.out b2)
      clear b2
      go_wp2
      go_ret
      exact ⟨_, rfl, by rw [HF.out]; exact bts_nil _ _, B2.out⟩
    | true =>
    have HAl := hide' (HAct.out (by unfold actB; simp only [hadb, hokb, Bool.and_true, Bool.and_eq_true, decide_eq_true_eq]; omega))
    have hzs2 := HLen.out (k + 1) (by omega) HAl.out
    rw [hadb] at HAd
    rw [hokb] at HOk
    obtain ⟨gd, gp⟩ := ok_says hokb
    have HSay : Hid (∀ wx, Below w.heap.size w wx → Calls Tryz.prog 17 #[.agg #[.int .i64 bk, .int .i64 bn, .slice a2 l2 p2, .slice a3 l3 p3, .slice a4 l4 p4]] wx (SayEnd (sayV d vv) wx)) := fun wx hb => l2say_any d N (.int .i64 bk, .int .i64 bn, .slice a2 l2 p2, .slice a3 l3 p3, .slice a4 l4 p4) vv 1 wx (HVs.out wx hb) (by have := hb.size; omega) gd gp
    have hsvl := sayV_len d vv 1 gd
    have HNm : Hid (∀ wx, Calls Tryz.prog 16 #[.int .i64 kk] wx fun e w' => e = .returned (.string (strOf (nmT kk))) ∧ Below wx.heap.size wx w') := fun wx => l10name_any kk (by omega) (by omega) wx
    have hnl := nm_len kk
    unfold actT at HNext
    simp only at HNext
    clear hadb hokb HAt HAct
    generalize sayV d vv = sv at *
    go_wp2_with fail
    refine (HAd.out _ hBW.out).mono ?_
    rintro e w1 ⟨rfl, rfl⟩
    go_wp2_with fail
    refine (HOk.out _ hBW.out).mono ?_
    rintro e w2 ⟨rfl, b2⟩
    have hb := hide' (Below.on hBW.out b2)
    have hE := hide' (kept_below b2 _ _ _ _ hEW.out (by decide))
    have hX := hide' (kept_below b2 _ _ _ _ hXW.out (by decide))
    have hY := hide' (hYW.out.grow b2)
    have hzb : wr.heap.size < w2.heap.size := by have := b2.size; simp at this; omega
    clear f0 f1 f3 f4 f5 f6 f7 b2 hBW hEW hXW hYW HAd HOk HVs u0 u1 u2 u3 u4 u5 u6 u7 u8
    obtain ⟨f0, f1, f3, f4, f5, f6, f7⟩ := act_row hE.out
    generalize hPd : preA d l k = zs at *
    generalize hebd : wr.heap.size = eb at *
    obtain ⟨lo, hlo0⟩ : ∃ lo, lo = w2.heap.size := ⟨_, rfl⟩
    have hLt : Hid (∀ k, u3.ownBlock = some k → k < lo) := fun k hk => by have := (hY.out.2.lt k hk).2; omega
    have hBlo : w.heap.size + 1 ≤ lo := by omega
    replace hlo0 : lo ≤ w2.heap.size := by omega
    go_wp2_with fail
    refine wp_region_held_drew (S := (fun wx => wx.cell? ⟨eb, 0, none⟩ = some (.int .i64 kk) ∧ wx.cell? ⟨eb, 1, none⟩ = some (.slice na ad.length np))) (by kernel_rfl) ⟨f0, f1⟩ (fun hHeld => ?_)
    replace hY : Hid (Bts w2.drew (w.heap.size + 1) _ zs) := hY.out
    replace hE : Hid (w2.drew.heap[eb]? = _) := hE.out
    replace hX : Hid (w2.drew.heap[w.heap.size]? = _) := hX.out
    replace hb : Hid (Below w.heap.size w w2.drew) := hb.out.drew
    have hlo : lo ≤ w2.drew.heap.size := hlo0
    generalize w2.drew = V0 at *
    refine take_yes (i := 0) 52 (v := ?_) rfl rfl (by kernel_rfl) (by kernel_rfl) (by kernel_rfl) (fun _ _ _ h => h) (by kernel_rfl) hHeld ?_ ?_
    rotate_left
    focus (intro w hSw; (try dsimp only at hSw); go_simp; (try with_reducible rfl))
    simp only [Act.put, List.setIfInBounds_toArray, List.set_cons_zero, List.set_cons_succ]
    refine take_yes (i := 1) 53 (v := ?_) rfl rfl (by kernel_rfl) (by kernel_rfl) (by kernel_rfl) (fun _ _ _ h => h) (by kernel_rfl) hHeld ?_ ?_
    rotate_left
    focus (intro w hSw; (try dsimp only at hSw); go_simp; (try with_reducible rfl))
    simp only [Act.put, List.setIfInBounds_toArray, List.set_cons_zero, List.set_cons_succ]
    refine take_yes (i := 2) 54 (v := ?_) rfl rfl (by kernel_rfl) (by kernel_rfl) (by kernel_rfl) (fun _ _ _ h => h) (by kernel_rfl) hHeld ?_ ?_
    rotate_left
    focus (intro w hSw; (try dsimp only at hSw); go_simp; (try with_reducible rfl))
    simp only [Act.put, List.setIfInBounds_toArray, List.set_cons_zero, List.set_cons_succ]
    refine take_yes (i := 7) 59 (v := ?_) rfl rfl (by kernel_rfl) (by kernel_rfl) (by kernel_rfl) (fun _ _ _ h => h) (by kernel_rfl) hHeld ?_ ?_
    rotate_left
    focus (intro w hSw; (try dsimp only at hSw); go_simp; (try with_reducible rfl))
    simp only [Act.put, List.setIfInBounds_toArray, List.set_cons_zero, List.set_cons_succ]
    refine take_yes (i := 8) 60 (v := ?_) rfl rfl (by kernel_rfl) (by kernel_rfl) (by kernel_rfl) (fun _ _ _ h => h) (by kernel_rfl) hHeld ?_ ?_
    rotate_left
    focus (intro w hSw; (try dsimp only at hSw); go_simp; (try with_reducible rfl))
    simp only [Act.put, List.setIfInBounds_toArray, List.set_cons_zero, List.set_cons_succ]
    refine wpAnyH_ready (rs := [3, 5]) (by kernel_rfl) (by simp) ?_
    refine AllReadyH.cons rfl (fun K hK => ?_) (AllReadyH.cons rfl (fun K hK => ?_) AllReadyH.nil)
    ·
      go_simp
      go_at_call 16
      refine (HNm.out _).mono ?_
      rintro e V1 ⟨rfl, hbn⟩
      replace hY := hide' (hY.out.grow hbn)
      replace hE := hide' (kept_below hbn _ _ _ _ hE.out (by decide))
      replace hX := hide' (kept_below hbn _ _ _ _ hX.out (by decide))
      replace hb := hide' (Below.on hb.out hbn)
      replace hlo : lo ≤ V1.heap.size := by have := hbn.size; omega
      clear hbn
      go_wp2_with fail
      refine hK.out _ _ ⟨(act_row hE.out).1, (act_row hE.out).2.1⟩ (fun hHeld => ?_)
      clear hK
      (try simp only [Act.put, List.setIfInBounds_toArray, List.set_cons_zero, List.set_cons_succ])
      refine wpAnyH_ready (rs := [4, 5]) (by kernel_rfl) (by simp) ?_
      refine AllReadyH.cons rfl (fun K hK => ?_) (AllReadyH.cons rfl (fun K hK => ?_) AllReadyH.nil)
      ·
        refine step_append_text (by rfl) (.tmp 52) (.tmp 55) 9 (by rfl) Tryz.underlying9 (w.heap.size + 1) u3 zs (nmT kk) (by rfl) hY.out (strOf (nmT kk)) rfl (nm_byt kk) (by rfl) (by (try simp only [List.length_append, List.length_cons, List.length_nil]); omega) (by have := hlo; omega) ?_
        intro y2 V2 hY2 hg
        replace hE := hide' (kept_grown hY.out hg _ _ _ _ hE.out (by decide))
        replace hX := hide' (kept_grown hY.out hg _ _ _ _ hX.out (by decide))
        replace hb := hide' (hb.out.grown hg (by have := hb.out.size; omega) (fun k hk => by have := hY.out.own k hk; omega))
        replace hlo : lo ≤ V2.heap.size := by have := hg.size; omega
        replace hY := hide' hY2
        clear hY2 hg
        show K (Act.put _ (some 56) y2) V2
        refine hK.out _ _ ⟨(act_row hE.out).1, (act_row hE.out).2.1⟩ (fun hHeld => ?_)
        clear hK
        (try simp only [Act.put, List.setIfInBounds_toArray, List.set_cons_zero, List.set_cons_succ])
        refine wpAnyH_ready (rs := [5]) (by kernel_rfl) (by simp) ?_
        refine AllReadyH.cons rfl (fun K hK => ?_) AllReadyH.nil
        go_simp
        replace hY := hide' (hY.out.alloc (.cells #[.int .u8 32] 5))
        have hL := hide' (lit_new (lo := lo) (q := V2.heap.size) (c := 32) rfl hlo)
        replace hE := hide' (kept_alloc V2 (.cells #[.int .u8 32] 5) _ _ _ _ hE.out (by decide))
        replace hX := hide' (kept_alloc V2 (.cells #[.int .u8 32] 5) _ _ _ _ hX.out (by decide))
        replace hb := hide' (hb.out.alloc hb.out.size (.cells #[.int .u8 32] 5))
        replace hlo : lo ≤ (V2.alloc (.cells #[.int .u8 32] 5)).heap.size := by simp; omega
        refine hK.out _ _ ⟨(act_row hE.out).1, (act_row hE.out).2.1⟩ (fun hHeld => ?_)
        clear hK
        (try simp only [Act.put, List.setIfInBounds_toArray, List.set_cons_zero, List.set_cons_succ])
        generalize V2.alloc (.cells #[.int .u8 32] 5) = V3 at *
        generalize V2.heap.size = gL at *
        refine wpAnyH_ready (rs := [6]) (by kernel_rfl) (by simp) ?_
        refine AllReadyH.cons rfl (fun K hK => ?_) AllReadyH.nil
        refine step_append_seg (by rfl) (.tmp 56) (.tmp 57) (by rfl) (w.heap.size + 1) y2 (zs ++ nmT kk) [32] (by rfl) hY.out (some ⟨_, 0, none⟩) 1 1 rfl (by rfl) (hL.out.seg (by simp [Byt])) (by simp) (by (try simp only [List.length_append, List.length_cons, List.length_nil]); omega) (by have := hb.out.size; omega) ?_
        intro y4 V4 hY2 hg
        replace hE := hide' (kept_grown hY.out hg _ _ _ _ hE.out (by decide))
        replace hX := hide' (kept_grown hY.out hg _ _ _ _ hX.out (by decide))
        replace hb := hide' (hb.out.grown hg (by have := hb.out.size; omega) (fun k hk => by have := hY.out.own k hk; omega))
        replace hlo : lo ≤ V4.heap.size := by have := hg.size; omega
        replace hY := hide' hY2
        clear hY2 hg
        show K (Act.put _ (some 58) y4) V4
        refine hK.out _ _ ⟨(act_row hE.out).1, (act_row hE.out).2.1⟩ (fun hHeld => ?_)
        clear hK
        (try simp only [Act.put, List.setIfInBounds_toArray, List.set_cons_zero, List.set_cons_succ])
        clear hL
        refine wpAnyH_ready (rs := [9]) (by kernel_rfl) (by simp) ?_
        refine AllReadyH.cons rfl (fun K hK => ?_) AllReadyH.nil
        refine step_append_seg (by rfl) (.tmp 58) (.tmp 60) (by rfl) (w.heap.size + 1) y4 ((zs ++ nmT kk) ++ [32]) ad (by rfl) hY.out na ad.length np rfl (by rfl) (HSa.out _ hb.out) hna (by (try simp only [List.length_append, List.length_cons, List.length_nil]); omega) (by have := hb.out.size; omega) ?_
        intro y5 V5 hY2 hg
        replace hE := hide' (kept_grown hY.out hg _ _ _ _ hE.out (by decide))
        replace hX := hide' (kept_grown hY.out hg _ _ _ _ hX.out (by decide))
        replace hb := hide' (hb.out.grown hg (by have := hb.out.size; omega) (fun k hk => by have := hY.out.own k hk; omega))
        replace hlo : lo ≤ V5.heap.size := by have := hg.size; omega
        replace hY := hide' hY2
        clear hY2 hg
        show K (Act.put _ (some 61) y5) V5
        refine hK.out _ _ ⟨(act_row hE.out).1, (act_row hE.out).2.1⟩ (fun hHeld => ?_)
        clear hK
        (try simp only [Act.put, List.setIfInBounds_toArray, List.set_cons_zero, List.set_cons_succ])
        refine take_yes (i := 10) 3 (v := ?_) rfl rfl (by kernel_rfl) (by kernel_rfl) (by kernel_rfl) (fun _ _ _ h => h) (by kernel_rfl) hHeld ?_ ?_
        rotate_left
        focus (intro w hSw; (try dsimp only at hSw); go_simp; (try with_reducible rfl))
        simp only [Act.put, List.setIfInBounds_toArray, List.set_cons_zero, List.set_cons_succ]
        refine wpAnyH_done (by kernel_rfl) ?_ _
        clear hHeld
        clear f0 f1 f3 f4 f5 f6 f7 hLt hlo hlo0
        obtain ⟨f0, f1, f3, f4, f5, f6, f7⟩ := act_row hE.out
        obtain ⟨zs1, hz1⟩ : ∃ zs1, zs1 = ((zs ++ nmT kk) ++ [32]) ++ ad := ⟨_, rfl⟩
        rw [← hz1] at hY
        have Hz1 := hide' hz1
        have hz1l : zs1.length ≤ 36000000 := by rw [hz1]; simp only [List.length_append, List.length_cons, List.length_nil]; omega
        clear hz1
        by_cases h4 : kk = 4
        · subst h4
          have HNx : Hid (preA d l (k + 1) = zs1 ++ [10]) := by show _ = _; rw [HNext.out, if_pos rfl]; simp [List.append_assoc, Hz1.out]
          have hzV : w.heap.size + 1 ≤ V5.heap.size := (Array.getElem?_eq_some_iff.1 hX.out).1
          go_wp2_with (at_builtin; refine wpList_append_seg rfl (.tmp 72) (.tmp 73) (by rfl) (w.heap.size + 1) y5 (zs1) [10] (by rfl) (hY.out.alloc (.cells #[.int .u8 10] 5)) (some ⟨V5.heap.size, 0, none⟩) 1 1 rfl (by rfl) (LitB.seg (c := 10) (MapKept.heap_alloc V5 (.cells #[.int .u8 10] 5)).1 (by simp [Byt])) (by simp) (by (try simp only [List.length_append, List.length_cons, List.length_nil]); omega) (by simp; omega) ?_; intro yz Vz hYz hgz; have HPL : Hid (PLs w (.cells #[.slice (some ⟨b, off, none⟩) l.length cap, .int .i64 (u : Int)] 30) d l (k + 1) yz Vz) := ⟨HAl.out, (by rw [HNx.out]; exact hYz), (hb.out.alloc hb.out.size (.cells #[.int .u8 10] 5)).grown hgz (by have := hb.out.size; simp; omega) (fun k hk => by have := hY.out.own k hk; omega), kept_app (Kept.refl V5) (hY.out.alloc (.cells #[.int .u8 10] 5)) hgz _ _ _ _ hX.out (by decide)⟩; clear hYz hgz)
          go_roundw
          case rel => exact ⟨k + 1, by omega, by go_num, HPL⟩
          case measure => simp [intOf]; omega
        · have h4' : (kk == 4) = false := by simp; exact h4
          clear hBlo
          obtain ⟨lo, hlo0⟩ : ∃ lo, lo = V5.heap.size := ⟨_, rfl⟩
          have hLt : Hid (∀ k, y5.ownBlock = some k → k < lo) := fun k hk => by have := (hY.out.2.lt k hk).2; omega
          have hBlo : w.heap.size + 1 ≤ lo := by have h1 := (Array.getElem?_eq_some_iff.1 hX.out).1; omega
          replace hlo0 : lo ≤ V5.heap.size := by omega
          go_wp2_with fail
          refine wp_region_held_drew (S := (fun wx => wx.cell? ⟨eb, 3, none⟩ = some (.int .i64 bk) ∧ wx.cell? ⟨eb, 4, none⟩ = some (.int .i64 bn) ∧ wx.cell? ⟨eb, 5, none⟩ = some (.slice a2 l2 p2) ∧ wx.cell? ⟨eb, 6, none⟩ = some (.slice a3 l3 p3) ∧ wx.cell? ⟨eb, 7, none⟩ = some (.slice a4 l4 p4))) (by kernel_rfl) ⟨f3, f4, f5, f6, f7⟩ (fun hHeld => ?_)
          replace hY : Hid (Bts V5.drew (w.heap.size + 1) _ zs1) := hY.out
          replace hE : Hid (V5.drew.heap[eb]? = _) := hE.out
          replace hX : Hid (V5.drew.heap[w.heap.size]? = _) := hX.out
          replace hb : Hid (Below w.heap.size w V5.drew) := hb.out.drew
          have hlo : lo ≤ V5.drew.heap.size := hlo0
          generalize V5.drew = V0 at *
          refine take_yes (i := 0) 65 (v := ?_) rfl rfl (by kernel_rfl) (by kernel_rfl) (by kernel_rfl) (fun _ _ _ h => h) (by kernel_rfl) hHeld ?_ ?_
          rotate_left
          focus (intro w hSw; (try dsimp only at hSw); go_simp; (try with_reducible rfl))
          simp only [Act.put, List.setIfInBounds_toArray, List.set_cons_zero, List.set_cons_succ]
          refine take_yes (i := 3) 68 (v := ?_) rfl rfl (by kernel_rfl) (by kernel_rfl) (by kernel_rfl) (fun _ _ _ h => h) (by kernel_rfl) hHeld ?_ ?_
          rotate_left
          focus (intro w hSw; (try dsimp only at hSw); go_simp; (try with_reducible rfl))
          simp only [Act.put, List.setIfInBounds_toArray, List.set_cons_zero, List.set_cons_succ]
          refine take_yes (i := 4) 69 (v := ?_) rfl rfl (by kernel_rfl) (by kernel_rfl) (by kernel_rfl) (fun _ _ _ h => h) (by kernel_rfl) hHeld ?_ ?_
          rotate_left
          focus (intro w hSw; (try dsimp only at hSw); go_simp; (try with_reducible rfl))
          simp only [Act.put, List.setIfInBounds_toArray, List.set_cons_zero, List.set_cons_succ]
          refine wpAnyH_ready (rs := [1]) (by kernel_rfl) (by simp) ?_
          refine AllReadyH.cons rfl (fun K hK => ?_) AllReadyH.nil
          go_simp
          replace hY := hide' (hY.out.alloc (.cells #[.int .u8 32] 5))
          have hL := hide' (lit_new (lo := lo) (q := V0.heap.size) (c := 32) rfl hlo)
          replace hE := hide' (kept_alloc V0 (.cells #[.int .u8 32] 5) _ _ _ _ hE.out (by decide))
          replace hX := hide' (kept_alloc V0 (.cells #[.int .u8 32] 5) _ _ _ _ hX.out (by decide))
          replace hb := hide' (hb.out.alloc hb.out.size (.cells #[.int .u8 32] 5))
          replace hlo : lo ≤ (V0.alloc (.cells #[.int .u8 32] 5)).heap.size := by simp; omega
          refine hK.out _ _ ⟨(act_row hE.out).2.2.1, (act_row hE.out).2.2.2.1, (act_row hE.out).2.2.2.2.1, (act_row hE.out).2.2.2.2.2.1, (act_row hE.out).2.2.2.2.2.2⟩ (fun hHeld => ?_)
          clear hK
          (try simp only [Act.put, List.setIfInBounds_toArray, List.set_cons_zero, List.set_cons_succ])
          generalize V0.alloc (.cells #[.int .u8 32] 5) = V1 at *
          generalize V0.heap.size = gL at *
          refine wpAnyH_ready (rs := [2]) (by kernel_rfl) (by simp) ?_
          refine AllReadyH.cons rfl (fun K hK => ?_) AllReadyH.nil
          refine step_append_seg (by rfl) (.tmp 65) (.tmp 66) (by rfl) (w.heap.size + 1) y5 zs1 [32] (by rfl) hY.out (some ⟨_, 0, none⟩) 1 1 rfl (by rfl) (hL.out.seg (by simp [Byt])) (by simp) (by (try simp only [List.length_append, List.length_cons, List.length_nil]); omega) (by have := hb.out.size; omega) ?_
          intro y2 V2 hY2 hg
          replace hE := hide' (kept_grown hY.out hg _ _ _ _ hE.out (by decide))
          replace hX := hide' (kept_grown hY.out hg _ _ _ _ hX.out (by decide))
          replace hb := hide' (hb.out.grown hg (by have := hb.out.size; omega) (fun k hk => by have := hY.out.own k hk; omega))
          replace hlo : lo ≤ V2.heap.size := by have := hg.size; omega
          replace hY := hide' hY2
          clear hY2 hg
          show K (Act.put _ (some 67) y2) V2
          refine hK.out _ _ ⟨(act_row hE.out).2.2.1, (act_row hE.out).2.2.2.1, (act_row hE.out).2.2.2.2.1, (act_row hE.out).2.2.2.2.2.1, (act_row hE.out).2.2.2.2.2.2⟩ (fun hHeld => ?_)
          clear hK
          (try simp only [Act.put, List.setIfInBounds_toArray, List.set_cons_zero, List.set_cons_succ])
          clear hL
          refine wpAnyH_ready (rs := [5]) (by kernel_rfl) (by simp) ?_
          refine AllReadyH.cons rfl (fun K hK => ?_) AllReadyH.nil
          go_simp
          go_at_call 17
          refine (HSay.out _ hb.out).mono ?_
          rintro e V3 ⟨ra, rc, rfl, hRs, hrn, hrb0, hbn⟩
          have hrb : ∀ x, ra = some x → lo ≤ x.block := fun x hx => by have := (hrb0 x hx).1; omega
          have hR := hide' hRs
          clear hRs hrb0
          replace hY := hide' (hY.out.grow hbn)
          replace hE := hide' (kept_below hbn _ _ _ _ hE.out (by decide))
          replace hX := hide' (kept_below hbn _ _ _ _ hX.out (by decide))
          replace hb := hide' (Below.on hb.out hbn)
          replace hlo : lo ≤ V3.heap.size := by have := hbn.size; omega
          clear hbn
          go_wp2_with fail
          refine hK.out _ _ ⟨(act_row hE.out).2.2.1, (act_row hE.out).2.2.2.1, (act_row hE.out).2.2.2.2.1, (act_row hE.out).2.2.2.2.2.1, (act_row hE.out).2.2.2.2.2.2⟩ (fun hHeld => ?_)
          clear hK
          (try simp only [Act.put, List.setIfInBounds_toArray, List.set_cons_zero, List.set_cons_succ])
          refine wpAnyH_ready (rs := [6]) (by kernel_rfl) (by simp) ?_
          refine AllReadyH.cons rfl (fun K hK => ?_) AllReadyH.nil
          refine step_append_seg (by rfl) (.tmp 67) (.tmp 70) (by rfl) (w.heap.size + 1) y2 (zs1 ++ [32]) sv (by rfl) hY.out ra sv.length rc rfl (by rfl) hR.out hrn (by (try simp only [List.length_append, List.length_cons, List.length_nil]); omega) (by have := hb.out.size; omega) ?_
          intro y4 V4 hY2 hg
          replace hE := hide' (kept_grown hY.out hg _ _ _ _ hE.out (by decide))
          replace hX := hide' (kept_grown hY.out hg _ _ _ _ hX.out (by decide))
          replace hb := hide' (hb.out.grown hg (by have := hb.out.size; omega) (fun k hk => by have := hY.out.own k hk; omega))
          replace hlo : lo ≤ V4.heap.size := by have := hg.size; omega
          replace hY := hide' hY2
          clear hY2 hg
          show K (Act.put _ (some 71) y4) V4
          refine hK.out _ _ ⟨(act_row hE.out).2.2.1, (act_row hE.out).2.2.2.1, (act_row hE.out).2.2.2.2.1, (act_row hE.out).2.2.2.2.2.1, (act_row hE.out).2.2.2.2.2.2⟩ (fun hHeld => ?_)
          clear hK
          (try simp only [Act.put, List.setIfInBounds_toArray, List.set_cons_zero, List.set_cons_succ])
          clear hR
          refine take_yes (i := 7) 3 (v := ?_) rfl rfl (by kernel_rfl) (by kernel_rfl) (by kernel_rfl) (fun _ _ _ h => h) (by kernel_rfl) hHeld ?_ ?_
          rotate_left
          focus (intro w hSw; (try dsimp only at hSw); go_simp; (try with_reducible rfl))
          simp only [Act.put, List.setIfInBounds_toArray, List.set_cons_zero, List.set_cons_succ]
          refine wpAnyH_done (by kernel_rfl) ?_ _
          clear hHeld
          have HNx : Hid (preA d l (k + 1) = (zs1 ++ [32]) ++ sv ++ [10]) := by show _ = _; rw [HNext.out, if_neg h4]; simp [List.append_assoc, Hz1.out]
          have hzV : w.heap.size + 1 ≤ V4.heap.size := (Array.getElem?_eq_some_iff.1 hX.out).1
          go_wp2_with (at_builtin; refine wpList_append_seg rfl (.tmp 72) (.tmp 73) (by rfl) (w.heap.size + 1) y4 ((zs1 ++ [32]) ++ sv) [10] (by rfl) (hY.out.alloc (.cells #[.int .u8 10] 5)) (some ⟨V4.heap.size, 0, none⟩) 1 1 rfl (by rfl) (LitB.seg (c := 10) (MapKept.heap_alloc V4 (.cells #[.int .u8 10] 5)).1 (by simp [Byt])) (by simp) (by (try simp only [List.length_append, List.length_cons, List.length_nil]); omega) (by simp; omega) ?_; intro yz Vz hYz hgz; have HPL : Hid (PLs w (.cells #[.slice (some ⟨b, off, none⟩) l.length cap, .int .i64 (u : Int)] 30) d l (k + 1) yz Vz) := ⟨HAl.out, (by rw [HNx.out]; exact hYz), (hb.out.alloc hb.out.size (.cells #[.int .u8 10] 5)).grown hgz (by have := hb.out.size; simp; omega) (fun k hk => by have := hY.out.own k hk; omega), kept_app (Kept.refl V4) (hY.out.alloc (.cells #[.int .u8 10] 5)) hgz _ _ _ _ hX.out (by decide)⟩; clear hYz hgz)
          go_roundw
          case rel => exact ⟨k + 1, by omega, by go_num, HPL⟩
          case measure => simp [intOf]; omega
      ·
        go_simp
        replace hY := hide' (hY.out.alloc (.cells #[.int .u8 32] 5))
        have hL := hide' (lit_new (lo := lo) (q := V1.heap.size) (c := 32) rfl hlo)
        replace hE := hide' (kept_alloc V1 (.cells #[.int .u8 32] 5) _ _ _ _ hE.out (by decide))
        replace hX := hide' (kept_alloc V1 (.cells #[.int .u8 32] 5) _ _ _ _ hX.out (by decide))
        replace hb := hide' (hb.out.alloc hb.out.size (.cells #[.int .u8 32] 5))
        replace hlo : lo ≤ (V1.alloc (.cells #[.int .u8 32] 5)).heap.size := by simp; omega
        refine hK.out _ _ ⟨(act_row hE.out).1, (act_row hE.out).2.1⟩ (fun hHeld => ?_)
        clear hK
        (try simp only [Act.put, List.setIfInBounds_toArray, List.set_cons_zero, List.set_cons_succ])
        generalize V1.alloc (.cells #[.int .u8 32] 5) = V2 at *
        generalize V1.heap.size = gL at *
        refine wpAnyH_ready (rs := [4]) (by kernel_rfl) (by simp) ?_
        refine AllReadyH.cons rfl (fun K hK => ?_) AllReadyH.nil
        refine step_append_text (by rfl) (.tmp 52) (.tmp 55) 9 (by rfl) Tryz.underlying9 (w.heap.size + 1) u3 zs (nmT kk) (by rfl) hY.out (strOf (nmT kk)) rfl (nm_byt kk) (by rfl) (by (try simp only [List.length_append, List.length_cons, List.length_nil]); omega) (by have := hlo; omega) ?_
        intro y3 V3 hY2 hg
        replace hL := hide' (hL.out.old hg hLt.out)
        replace hE := hide' (kept_grown hY.out hg _ _ _ _ hE.out (by decide))
        replace hX := hide' (kept_grown hY.out hg _ _ _ _ hX.out (by decide))
        replace hb := hide' (hb.out.grown hg (by have := hb.out.size; omega) (fun k hk => by have := hY.out.own k hk; omega))
        replace hlo : lo ≤ V3.heap.size := by have := hg.size; omega
        replace hY := hide' hY2
        clear hY2 hg
        show K (Act.put _ (some 56) y3) V3
        refine hK.out _ _ ⟨(act_row hE.out).1, (act_row hE.out).2.1⟩ (fun hHeld => ?_)
        clear hK
        (try simp only [Act.put, List.setIfInBounds_toArray, List.set_cons_zero, List.set_cons_succ])
        refine wpAnyH_ready (rs := [6]) (by kernel_rfl) (by simp) ?_
        refine AllReadyH.cons rfl (fun K hK => ?_) AllReadyH.nil
        refine step_append_seg (by rfl) (.tmp 56) (.tmp 57) (by rfl) (w.heap.size + 1) y3 (zs ++ nmT kk) [32] (by rfl) hY.out (some ⟨_, 0, none⟩) 1 1 rfl (by rfl) (hL.out.seg (by simp [Byt])) (by simp) (by (try simp only [List.length_append, List.length_cons, List.length_nil]); omega) (by have := hb.out.size; omega) ?_
        intro y4 V4 hY2 hg
        replace hE := hide' (kept_grown hY.out hg _ _ _ _ hE.out (by decide))
        replace hX := hide' (kept_grown hY.out hg _ _ _ _ hX.out (by decide))
        replace hb := hide' (hb.out.grown hg (by have := hb.out.size; omega) (fun k hk => by have := hY.out.own k hk; omega))
        replace hlo : lo ≤ V4.heap.size := by have := hg.size; omega
        replace hY := hide' hY2
        clear hY2 hg
        show K (Act.put _ (some 58) y4) V4
        refine hK.out _ _ ⟨(act_row hE.out).1, (act_row hE.out).2.1⟩ (fun hHeld => ?_)
        clear hK
        (try simp only [Act.put, List.setIfInBounds_toArray, List.set_cons_zero, List.set_cons_succ])
        clear hL
        refine wpAnyH_ready (rs := [9]) (by kernel_rfl) (by simp) ?_
        refine AllReadyH.cons rfl (fun K hK => ?_) AllReadyH.nil
        refine step_append_seg (by rfl) (.tmp 58) (.tmp 60) (by rfl) (w.heap.size + 1) y4 ((zs ++ nmT kk) ++ [32]) ad (by rfl) hY.out na ad.length np rfl (by rfl) (HSa.out _ hb.out) hna (by (try simp only [List.length_append, List.length_cons, List.length_nil]); omega) (by have := hb.out.size; omega) ?_
        intro y5 V5 hY2 hg
        replace hE := hide' (kept_grown hY.out hg _ _ _ _ hE.out (by decide))
        replace hX := hide' (kept_grown hY.out hg _ _ _ _ hX.out (by decide))
        replace hb := hide' (hb.out.grown hg (by have := hb.out.size; omega) (fun k hk => by have := hY.out.own k hk; omega))
        replace hlo : lo ≤ V5.heap.size := by have := hg.size; omega
        replace hY := hide' hY2
        clear hY2 hg
        show K (Act.put _ (some 61) y5) V5
        refine hK.out _ _ ⟨(act_row hE.out).1, (act_row hE.out).2.1⟩ (fun hHeld => ?_)
        clear hK
        (try simp only [Act.put, List.setIfInBounds_toArray, List.set_cons_zero, List.set_cons_succ])
        refine take_yes (i := 10) 3 (v := ?_) rfl rfl (by kernel_rfl) (by kernel_rfl) (by kernel_rfl) (fun _ _ _ h => h) (by kernel_rfl) hHeld ?_ ?_
        rotate_left
        focus (intro w hSw; (try dsimp only at hSw); go_simp; (try with_reducible rfl))
        simp only [Act.put, List.setIfInBounds_toArray, List.set_cons_zero, List.set_cons_succ]
        refine wpAnyH_done (by kernel_rfl) ?_ _
        clear hHeld
        clear f0 f1 f3 f4 f5 f6 f7 hLt hlo hlo0
        obtain ⟨f0, f1, f3, f4, f5, f6, f7⟩ := act_row hE.out
        obtain ⟨zs1, hz1⟩ : ∃ zs1, zs1 = ((zs ++ nmT kk) ++ [32]) ++ ad := ⟨_, rfl⟩
        rw [← hz1] at hY
        have Hz1 := hide' hz1
        have hz1l : zs1.length ≤ 36000000 := by rw [hz1]; simp only [List.length_append, List.length_cons, List.length_nil]; omega
        clear hz1
        by_cases h4 : kk = 4
        · subst h4
          have HNx : Hid (preA d l (k + 1) = zs1 ++ [10]) := by show _ = _; rw [HNext.out, if_pos rfl]; simp [List.append_assoc, Hz1.out]
          have hzV : w.heap.size + 1 ≤ V5.heap.size := (Array.getElem?_eq_some_iff.1 hX.out).1
          go_wp2_with (at_builtin; refine wpList_append_seg rfl (.tmp 72) (.tmp 73) (by rfl) (w.heap.size + 1) y5 (zs1) [10] (by rfl) (hY.out.alloc (.cells #[.int .u8 10] 5)) (some ⟨V5.heap.size, 0, none⟩) 1 1 rfl (by rfl) (LitB.seg (c := 10) (MapKept.heap_alloc V5 (.cells #[.int .u8 10] 5)).1 (by simp [Byt])) (by simp) (by (try simp only [List.length_append, List.length_cons, List.length_nil]); omega) (by simp; omega) ?_; intro yz Vz hYz hgz; have HPL : Hid (PLs w (.cells #[.slice (some ⟨b, off, none⟩) l.length cap, .int .i64 (u : Int)] 30) d l (k + 1) yz Vz) := ⟨HAl.out, (by rw [HNx.out]; exact hYz), (hb.out.alloc hb.out.size (.cells #[.int .u8 10] 5)).grown hgz (by have := hb.out.size; simp; omega) (fun k hk => by have := hY.out.own k hk; omega), kept_app (Kept.refl V5) (hY.out.alloc (.cells #[.int .u8 10] 5)) hgz _ _ _ _ hX.out (by decide)⟩; clear hYz hgz)
          go_roundw
          case rel => exact ⟨k + 1, by omega, by go_num, HPL⟩
          case measure => simp [intOf]; omega
        · have h4' : (kk == 4) = false := by simp; exact h4
          clear hBlo
          obtain ⟨lo, hlo0⟩ : ∃ lo, lo = V5.heap.size := ⟨_, rfl⟩
          have hLt : Hid (∀ k, y5.ownBlock = some k → k < lo) := fun k hk => by have := (hY.out.2.lt k hk).2; omega
          have hBlo : w.heap.size + 1 ≤ lo := by have h1 := (Array.getElem?_eq_some_iff.1 hX.out).1; omega
          replace hlo0 : lo ≤ V5.heap.size := by omega
          go_wp2_with fail
          refine wp_region_held_drew (S := (fun wx => wx.cell? ⟨eb, 3, none⟩ = some (.int .i64 bk) ∧ wx.cell? ⟨eb, 4, none⟩ = some (.int .i64 bn) ∧ wx.cell? ⟨eb, 5, none⟩ = some (.slice a2 l2 p2) ∧ wx.cell? ⟨eb, 6, none⟩ = some (.slice a3 l3 p3) ∧ wx.cell? ⟨eb, 7, none⟩ = some (.slice a4 l4 p4))) (by kernel_rfl) ⟨f3, f4, f5, f6, f7⟩ (fun hHeld => ?_)
          replace hY : Hid (Bts V5.drew (w.heap.size + 1) _ zs1) := hY.out
          replace hE : Hid (V5.drew.heap[eb]? = _) := hE.out
          replace hX : Hid (V5.drew.heap[w.heap.size]? = _) := hX.out
          replace hb : Hid (Below w.heap.size w V5.drew) := hb.out.drew
          have hlo : lo ≤ V5.drew.heap.size := hlo0
          generalize V5.drew = V0 at *
          refine take_yes (i := 0) 65 (v := ?_) rfl rfl (by kernel_rfl) (by kernel_rfl) (by kernel_rfl) (fun _ _ _ h => h) (by kernel_rfl) hHeld ?_ ?_
          rotate_left
          focus (intro w hSw; (try dsimp only at hSw); go_simp; (try with_reducible rfl))
          simp only [Act.put, List.setIfInBounds_toArray, List.set_cons_zero, List.set_cons_succ]
          refine take_yes (i := 3) 68 (v := ?_) rfl rfl (by kernel_rfl) (by kernel_rfl) (by kernel_rfl) (fun _ _ _ h => h) (by kernel_rfl) hHeld ?_ ?_
          rotate_left
          focus (intro w hSw; (try dsimp only at hSw); go_simp; (try with_reducible rfl))
          simp only [Act.put, List.setIfInBounds_toArray, List.set_cons_zero, List.set_cons_succ]
          refine take_yes (i := 4) 69 (v := ?_) rfl rfl (by kernel_rfl) (by kernel_rfl) (by kernel_rfl) (fun _ _ _ h => h) (by kernel_rfl) hHeld ?_ ?_
          rotate_left
          focus (intro w hSw; (try dsimp only at hSw); go_simp; (try with_reducible rfl))
          simp only [Act.put, List.setIfInBounds_toArray, List.set_cons_zero, List.set_cons_succ]
          refine wpAnyH_ready (rs := [1]) (by kernel_rfl) (by simp) ?_
          refine AllReadyH.cons rfl (fun K hK => ?_) AllReadyH.nil
          go_simp
          replace hY := hide' (hY.out.alloc (.cells #[.int .u8 32] 5))
          have hL := hide' (lit_new (lo := lo) (q := V0.heap.size) (c := 32) rfl hlo)
          replace hE := hide' (kept_alloc V0 (.cells #[.int .u8 32] 5) _ _ _ _ hE.out (by decide))
          replace hX := hide' (kept_alloc V0 (.cells #[.int .u8 32] 5) _ _ _ _ hX.out (by decide))
          replace hb := hide' (hb.out.alloc hb.out.size (.cells #[.int .u8 32] 5))
          replace hlo : lo ≤ (V0.alloc (.cells #[.int .u8 32] 5)).heap.size := by simp; omega
          refine hK.out _ _ ⟨(act_row hE.out).2.2.1, (act_row hE.out).2.2.2.1, (act_row hE.out).2.2.2.2.1, (act_row hE.out).2.2.2.2.2.1, (act_row hE.out).2.2.2.2.2.2⟩ (fun hHeld => ?_)
          clear hK
          (try simp only [Act.put, List.setIfInBounds_toArray, List.set_cons_zero, List.set_cons_succ])
          generalize V0.alloc (.cells #[.int .u8 32] 5) = V1 at *
          generalize V0.heap.size = gL at *
          refine wpAnyH_ready (rs := [2]) (by kernel_rfl) (by simp) ?_
          refine AllReadyH.cons rfl (fun K hK => ?_) AllReadyH.nil
          refine step_append_seg (by rfl) (.tmp 65) (.tmp 66) (by rfl) (w.heap.size + 1) y5 zs1 [32] (by rfl) hY.out (some ⟨_, 0, none⟩) 1 1 rfl (by rfl) (hL.out.seg (by simp [Byt])) (by simp) (by (try simp only [List.length_append, List.length_cons, List.length_nil]); omega) (by have := hb.out.size; omega) ?_
          intro y2 V2 hY2 hg
          replace hE := hide' (kept_grown hY.out hg _ _ _ _ hE.out (by decide))
          replace hX := hide' (kept_grown hY.out hg _ _ _ _ hX.out (by decide))
          replace hb := hide' (hb.out.grown hg (by have := hb.out.size; omega) (fun k hk => by have := hY.out.own k hk; omega))
          replace hlo : lo ≤ V2.heap.size := by have := hg.size; omega
          replace hY := hide' hY2
          clear hY2 hg
          show K (Act.put _ (some 67) y2) V2
          refine hK.out _ _ ⟨(act_row hE.out).2.2.1, (act_row hE.out).2.2.2.1, (act_row hE.out).2.2.2.2.1, (act_row hE.out).2.2.2.2.2.1, (act_row hE.out).2.2.2.2.2.2⟩ (fun hHeld => ?_)
          clear hK
          (try simp only [Act.put, List.setIfInBounds_toArray, List.set_cons_zero, List.set_cons_succ])
          clear hL
          refine wpAnyH_ready (rs := [5]) (by kernel_rfl) (by simp) ?_
          refine AllReadyH.cons rfl (fun K hK => ?_) AllReadyH.nil
          go_simp
          go_at_call 17
          refine (HSay.out _ hb.out).mono ?_
          rintro e V3 ⟨ra, rc, rfl, hRs, hrn, hrb0, hbn⟩
          have hrb : ∀ x, ra = some x → lo ≤ x.block := fun x hx => by have := (hrb0 x hx).1; omega
          have hR := hide' hRs
          clear hRs hrb0
          replace hY := hide' (hY.out.grow hbn)
          replace hE := hide' (kept_below hbn _ _ _ _ hE.out (by decide))
          replace hX := hide' (kept_below hbn _ _ _ _ hX.out (by decide))
          replace hb := hide' (Below.on hb.out hbn)
          replace hlo : lo ≤ V3.heap.size := by have := hbn.size; omega
          clear hbn
          go_wp2_with fail
          refine hK.out _ _ ⟨(act_row hE.out).2.2.1, (act_row hE.out).2.2.2.1, (act_row hE.out).2.2.2.2.1, (act_row hE.out).2.2.2.2.2.1, (act_row hE.out).2.2.2.2.2.2⟩ (fun hHeld => ?_)
          clear hK
          (try simp only [Act.put, List.setIfInBounds_toArray, List.set_cons_zero, List.set_cons_succ])
          refine wpAnyH_ready (rs := [6]) (by kernel_rfl) (by simp) ?_
          refine AllReadyH.cons rfl (fun K hK => ?_) AllReadyH.nil
          refine step_append_seg (by rfl) (.tmp 67) (.tmp 70) (by rfl) (w.heap.size + 1) y2 (zs1 ++ [32]) sv (by rfl) hY.out ra sv.length rc rfl (by rfl) hR.out hrn (by (try simp only [List.length_append, List.length_cons, List.length_nil]); omega) (by have := hb.out.size; omega) ?_
          intro y4 V4 hY2 hg
          replace hE := hide' (kept_grown hY.out hg _ _ _ _ hE.out (by decide))
          replace hX := hide' (kept_grown hY.out hg _ _ _ _ hX.out (by decide))
          replace hb := hide' (hb.out.grown hg (by have := hb.out.size; omega) (fun k hk => by have := hY.out.own k hk; omega))
          replace hlo : lo ≤ V4.heap.size := by have := hg.size; omega
          replace hY := hide' hY2
          clear hY2 hg
          show K (Act.put _ (some 71) y4) V4
          refine hK.out _ _ ⟨(act_row hE.out).2.2.1, (act_row hE.out).2.2.2.1, (act_row hE.out).2.2.2.2.1, (act_row hE.out).2.2.2.2.2.1, (act_row hE.out).2.2.2.2.2.2⟩ (fun hHeld => ?_)
          clear hK
          (try simp only [Act.put, List.setIfInBounds_toArray, List.set_cons_zero, List.set_cons_succ])
          clear hR
          refine take_yes (i := 7) 3 (v := ?_) rfl rfl (by kernel_rfl) (by kernel_rfl) (by kernel_rfl) (fun _ _ _ h => h) (by kernel_rfl) hHeld ?_ ?_
          rotate_left
          focus (intro w hSw; (try dsimp only at hSw); go_simp; (try with_reducible rfl))
          simp only [Act.put, List.setIfInBounds_toArray, List.set_cons_zero, List.set_cons_succ]
          refine wpAnyH_done (by kernel_rfl) ?_ _
          clear hHeld
          have HNx : Hid (preA d l (k + 1) = (zs1 ++ [32]) ++ sv ++ [10]) := by show _ = _; rw [HNext.out, if_neg h4]; simp [List.append_assoc, Hz1.out]
          have hzV : w.heap.size + 1 ≤ V4.heap.size := (Array.getElem?_eq_some_iff.1 hX.out).1
          go_wp2_with (at_builtin; refine wpList_append_seg rfl (.tmp 72) (.tmp 73) (by rfl) (w.heap.size + 1) y4 ((zs1 ++ [32]) ++ sv) [10] (by rfl) (hY.out.alloc (.cells #[.int .u8 10] 5)) (some ⟨V4.heap.size, 0, none⟩) 1 1 rfl (by rfl) (LitB.seg (c := 10) (MapKept.heap_alloc V4 (.cells #[.int .u8 10] 5)).1 (by simp [Byt])) (by simp) (by (try simp only [List.length_append, List.length_cons, List.length_nil]); omega) (by simp; omega) ?_; intro yz Vz hYz hgz; have HPL : Hid (PLs w (.cells #[.slice (some ⟨b, off, none⟩) l.length cap, .int .i64 (u : Int)] 30) d l (k + 1) yz Vz) := ⟨HAl.out, (by rw [HNx.out]; exact hYz), (hb.out.alloc hb.out.size (.cells #[.int .u8 10] 5)).grown hgz (by have := hb.out.size; simp; omega) (fun k hk => by have := hY.out.own k hk; omega), kept_app (Kept.refl V4) (hY.out.alloc (.cells #[.int .u8 10] 5)) hgz _ _ _ _ hX.out (by decide)⟩; clear hYz hgz)
          go_roundw
          case rel => exact ⟨k + 1, by omega, by go_num, HPL⟩
          case measure => simp [intOf]; omega
    ·
      go_simp
      replace hY := hide' (hY.out.alloc (.cells #[.int .u8 32] 5))
      have hL := hide' (lit_new (lo := lo) (q := V0.heap.size) (c := 32) rfl hlo)
      replace hE := hide' (kept_alloc V0 (.cells #[.int .u8 32] 5) _ _ _ _ hE.out (by decide))
      replace hX := hide' (kept_alloc V0 (.cells #[.int .u8 32] 5) _ _ _ _ hX.out (by decide))
      replace hb := hide' (hb.out.alloc hb.out.size (.cells #[.int .u8 32] 5))
      replace hlo : lo ≤ (V0.alloc (.cells #[.int .u8 32] 5)).heap.size := by simp; omega
      refine hK.out _ _ ⟨(act_row hE.out).1, (act_row hE.out).2.1⟩ (fun hHeld => ?_)
      clear hK
      (try simp only [Act.put, List.setIfInBounds_toArray, List.set_cons_zero, List.set_cons_succ])
      generalize V0.alloc (.cells #[.int .u8 32] 5) = V1 at *
      generalize V0.heap.size = gL at *
      refine wpAnyH_ready (rs := [3]) (by kernel_rfl) (by simp) ?_
      refine AllReadyH.cons rfl (fun K hK => ?_) AllReadyH.nil
      go_simp
      go_at_call 16
      refine (HNm.out _).mono ?_
      rintro e V2 ⟨rfl, hbn⟩
      replace hY := hide' (hY.out.grow hbn)
      replace hL := hide' (hL.out.grow hbn)
      replace hE := hide' (kept_below hbn _ _ _ _ hE.out (by decide))
      replace hX := hide' (kept_below hbn _ _ _ _ hX.out (by decide))
      replace hb := hide' (Below.on hb.out hbn)
      replace hlo : lo ≤ V2.heap.size := by have := hbn.size; omega
      clear hbn
      go_wp2_with fail
      refine hK.out _ _ ⟨(act_row hE.out).1, (act_row hE.out).2.1⟩ (fun hHeld => ?_)
      clear hK
      (try simp only [Act.put, List.setIfInBounds_toArray, List.set_cons_zero, List.set_cons_succ])
      refine wpAnyH_ready (rs := [4]) (by kernel_rfl) (by simp) ?_
      refine AllReadyH.cons rfl (fun K hK => ?_) AllReadyH.nil
      refine step_append_text (by rfl) (.tmp 52) (.tmp 55) 9 (by rfl) Tryz.underlying9 (w.heap.size + 1) u3 zs (nmT kk) (by rfl) hY.out (strOf (nmT kk)) rfl (nm_byt kk) (by rfl) (by (try simp only [List.length_append, List.length_cons, List.length_nil]); omega) (by have := hlo; omega) ?_
      intro y3 V3 hY2 hg
      replace hL := hide' (hL.out.old hg hLt.out)
      replace hE := hide' (kept_grown hY.out hg _ _ _ _ hE.out (by decide))
      replace hX := hide' (kept_grown hY.out hg _ _ _ _ hX.out (by decide))
      replace hb := hide' (hb.out.grown hg (by have := hb.out.size; omega) (fun k hk => by have := hY.out.own k hk; omega))
      replace hlo : lo ≤ V3.heap.size := by have := hg.size; omega
      replace hY := hide' hY2
      clear hY2 hg
      show K (Act.put _ (some 56) y3) V3
      refine hK.out _ _ ⟨(act_row hE.out).1, (act_row hE.out).2.1⟩ (fun hHeld => ?_)
      clear hK
      (try simp only [Act.put, List.setIfInBounds_toArray, List.set_cons_zero, List.set_cons_succ])
      refine wpAnyH_ready (rs := [6]) (by kernel_rfl) (by simp) ?_
      refine AllReadyH.cons rfl (fun K hK => ?_) AllReadyH.nil
      refine step_append_seg (by rfl) (.tmp 56) (.tmp 57) (by rfl) (w.heap.size + 1) y3 (zs ++ nmT kk) [32] (by rfl) hY.out (some ⟨_, 0, none⟩) 1 1 rfl (by rfl) (hL.out.seg (by simp [Byt])) (by simp) (by (try simp only [List.length_append, List.length_cons, List.length_nil]); omega) (by have := hb.out.size; omega) ?_
      intro y4 V4 hY2 hg
      replace hE := hide' (kept_grown hY.out hg _ _ _ _ hE.out (by decide))
      replace hX := hide' (kept_grown hY.out hg _ _ _ _ hX.out (by decide))
      replace hb := hide' (hb.out.grown hg (by have := hb.out.size; omega) (fun k hk => by have := hY.out.own k hk; omega))
      replace hlo : lo ≤ V4.heap.size := by have := hg.size; omega
      replace hY := hide' hY2
      clear hY2 hg
      show K (Act.put _ (some 58) y4) V4
      refine hK.out _ _ ⟨(act_row hE.out).1, (act_row hE.out).2.1⟩ (fun hHeld => ?_)
      clear hK
      (try simp only [Act.put, List.setIfInBounds_toArray, List.set_cons_zero, List.set_cons_succ])
      clear hL
      refine wpAnyH_ready (rs := [9]) (by kernel_rfl) (by simp) ?_
      refine AllReadyH.cons rfl (fun K hK => ?_) AllReadyH.nil
      refine step_append_seg (by rfl) (.tmp 58) (.tmp 60) (by rfl) (w.heap.size + 1) y4 ((zs ++ nmT kk) ++ [32]) ad (by rfl) hY.out na ad.length np rfl (by rfl) (HSa.out _ hb.out) hna (by (try simp only [List.length_append, List.length_cons, List.length_nil]); omega) (by have := hb.out.size; omega) ?_
      intro y5 V5 hY2 hg
      replace hE := hide' (kept_grown hY.out hg _ _ _ _ hE.out (by decide))
      replace hX := hide' (kept_grown hY.out hg _ _ _ _ hX.out (by decide))
      replace hb := hide' (hb.out.grown hg (by have := hb.out.size; omega) (fun k hk => by have := hY.out.own k hk; omega))
      replace hlo : lo ≤ V5.heap.size := by have := hg.size; omega
      replace hY := hide' hY2
      clear hY2 hg
      show K (Act.put _ (some 61) y5) V5
      refine hK.out _ _ ⟨(act_row hE.out).1, (act_row hE.out).2.1⟩ (fun hHeld => ?_)
      clear hK
      (try simp only [Act.put, List.setIfInBounds_toArray, List.set_cons_zero, List.set_cons_succ])
      refine take_yes (i := 10) 3 (v := ?_) rfl rfl (by kernel_rfl) (by kernel_rfl) (by kernel_rfl) (fun _ _ _ h => h) (by kernel_rfl) hHeld ?_ ?_
      rotate_left
      focus (intro w hSw; (try dsimp only at hSw); go_simp; (try with_reducible rfl))
      simp only [Act.put, List.setIfInBounds_toArray, List.set_cons_zero, List.set_cons_succ]
      refine wpAnyH_done (by kernel_rfl) ?_ _
      clear hHeld
      clear f0 f1 f3 f4 f5 f6 f7 hLt hlo hlo0
      obtain ⟨f0, f1, f3, f4, f5, f6, f7⟩ := act_row hE.out
      obtain ⟨zs1, hz1⟩ : ∃ zs1, zs1 = ((zs ++ nmT kk) ++ [32]) ++ ad := ⟨_, rfl⟩
      rw [← hz1] at hY
      have Hz1 := hide' hz1
      have hz1l : zs1.length ≤ 36000000 := by rw [hz1]; simp only [List.length_append, List.length_cons, List.length_nil]; omega
      clear hz1
      by_cases h4 : kk = 4
      · subst h4
        have HNx : Hid (preA d l (k + 1) = zs1 ++ [10]) := by show _ = _; rw [HNext.out, if_pos rfl]; simp [List.append_assoc, Hz1.out]
        have hzV : w.heap.size + 1 ≤ V5.heap.size := (Array.getElem?_eq_some_iff.1 hX.out).1
        go_wp2_with (at_builtin; refine wpList_append_seg rfl (.tmp 72) (.tmp 73) (by rfl) (w.heap.size + 1) y5 (zs1) [10] (by rfl) (hY.out.alloc (.cells #[.int .u8 10] 5)) (some ⟨V5.heap.size, 0, none⟩) 1 1 rfl (by rfl) (LitB.seg (c := 10) (MapKept.heap_alloc V5 (.cells #[.int .u8 10] 5)).1 (by simp [Byt])) (by simp) (by (try simp only [List.length_append, List.length_cons, List.length_nil]); omega) (by simp; omega) ?_; intro yz Vz hYz hgz; have HPL : Hid (PLs w (.cells #[.slice (some ⟨b, off, none⟩) l.length cap, .int .i64 (u : Int)] 30) d l (k + 1) yz Vz) := ⟨HAl.out, (by rw [HNx.out]; exact hYz), (hb.out.alloc hb.out.size (.cells #[.int .u8 10] 5)).grown hgz (by have := hb.out.size; simp; omega) (fun k hk => by have := hY.out.own k hk; omega), kept_app (Kept.refl V5) (hY.out.alloc (.cells #[.int .u8 10] 5)) hgz _ _ _ _ hX.out (by decide)⟩; clear hYz hgz)
        go_roundw
        case rel => exact ⟨k + 1, by omega, by go_num, HPL⟩
        case measure => simp [intOf]; omega
      · have h4' : (kk == 4) = false := by simp; exact h4
        clear hBlo
        obtain ⟨lo, hlo0⟩ : ∃ lo, lo = V5.heap.size := ⟨_, rfl⟩
        have hLt : Hid (∀ k, y5.ownBlock = some k → k < lo) := fun k hk => by have := (hY.out.2.lt k hk).2; omega
        have hBlo : w.heap.size + 1 ≤ lo := by have h1 := (Array.getElem?_eq_some_iff.1 hX.out).1; omega
        replace hlo0 : lo ≤ V5.heap.size := by omega
        go_wp2_with fail
        refine wp_region_held_drew (S := (fun wx => wx.cell? ⟨eb, 3, none⟩ = some (.int .i64 bk) ∧ wx.cell? ⟨eb, 4, none⟩ = some (.int .i64 bn) ∧ wx.cell? ⟨eb, 5, none⟩ = some (.slice a2 l2 p2) ∧ wx.cell? ⟨eb, 6, none⟩ = some (.slice a3 l3 p3) ∧ wx.cell? ⟨eb, 7, none⟩ = some (.slice a4 l4 p4))) (by kernel_rfl) ⟨f3, f4, f5, f6, f7⟩ (fun hHeld => ?_)
        replace hY : Hid (Bts V5.drew (w.heap.size + 1) _ zs1) := hY.out
        replace hE : Hid (V5.drew.heap[eb]? = _) := hE.out
        replace hX : Hid (V5.drew.heap[w.heap.size]? = _) := hX.out
        replace hb : Hid (Below w.heap.size w V5.drew) := hb.out.drew
        have hlo : lo ≤ V5.drew.heap.size := hlo0
        generalize V5.drew = V0 at *
        refine take_yes (i := 0) 65 (v := ?_) rfl rfl (by kernel_rfl) (by kernel_rfl) (by kernel_rfl) (fun _ _ _ h => h) (by kernel_rfl) hHeld ?_ ?_
        rotate_left
        focus (intro w hSw; (try dsimp only at hSw); go_simp; (try with_reducible rfl))
        simp only [Act.put, List.setIfInBounds_toArray, List.set_cons_zero, List.set_cons_succ]
        refine take_yes (i := 3) 68 (v := ?_) rfl rfl (by kernel_rfl) (by kernel_rfl) (by kernel_rfl) (fun _ _ _ h => h) (by kernel_rfl) hHeld ?_ ?_
        rotate_left
        focus (intro w hSw; (try dsimp only at hSw); go_simp; (try with_reducible rfl))
        simp only [Act.put, List.setIfInBounds_toArray, List.set_cons_zero, List.set_cons_succ]
        refine take_yes (i := 4) 69 (v := ?_) rfl rfl (by kernel_rfl) (by kernel_rfl) (by kernel_rfl) (fun _ _ _ h => h) (by kernel_rfl) hHeld ?_ ?_
        rotate_left
        focus (intro w hSw; (try dsimp only at hSw); go_simp; (try with_reducible rfl))
        simp only [Act.put, List.setIfInBounds_toArray, List.set_cons_zero, List.set_cons_succ]
        refine wpAnyH_ready (rs := [1]) (by kernel_rfl) (by simp) ?_
        refine AllReadyH.cons rfl (fun K hK => ?_) AllReadyH.nil
        go_simp
        replace hY := hide' (hY.out.alloc (.cells #[.int .u8 32] 5))
        have hL := hide' (lit_new (lo := lo) (q := V0.heap.size) (c := 32) rfl hlo)
        replace hE := hide' (kept_alloc V0 (.cells #[.int .u8 32] 5) _ _ _ _ hE.out (by decide))
        replace hX := hide' (kept_alloc V0 (.cells #[.int .u8 32] 5) _ _ _ _ hX.out (by decide))
        replace hb := hide' (hb.out.alloc hb.out.size (.cells #[.int .u8 32] 5))
        replace hlo : lo ≤ (V0.alloc (.cells #[.int .u8 32] 5)).heap.size := by simp; omega
        refine hK.out _ _ ⟨(act_row hE.out).2.2.1, (act_row hE.out).2.2.2.1, (act_row hE.out).2.2.2.2.1, (act_row hE.out).2.2.2.2.2.1, (act_row hE.out).2.2.2.2.2.2⟩ (fun hHeld => ?_)
        clear hK
        (try simp only [Act.put, List.setIfInBounds_toArray, List.set_cons_zero, List.set_cons_succ])
        generalize V0.alloc (.cells #[.int .u8 32] 5) = V1 at *
        generalize V0.heap.size = gL at *
        refine wpAnyH_ready (rs := [2]) (by kernel_rfl) (by simp) ?_
        refine AllReadyH.cons rfl (fun K hK => ?_) AllReadyH.nil
        refine step_append_seg (by rfl) (.tmp 65) (.tmp 66) (by rfl) (w.heap.size + 1) y5 zs1 [32] (by rfl) hY.out (some ⟨_, 0, none⟩) 1 1 rfl (by rfl) (hL.out.seg (by simp [Byt])) (by simp) (by (try simp only [List.length_append, List.length_cons, List.length_nil]); omega) (by have := hb.out.size; omega) ?_
        intro y2 V2 hY2 hg
        replace hE := hide' (kept_grown hY.out hg _ _ _ _ hE.out (by decide))
        replace hX := hide' (kept_grown hY.out hg _ _ _ _ hX.out (by decide))
        replace hb := hide' (hb.out.grown hg (by have := hb.out.size; omega) (fun k hk => by have := hY.out.own k hk; omega))
        replace hlo : lo ≤ V2.heap.size := by have := hg.size; omega
        replace hY := hide' hY2
        clear hY2 hg
        show K (Act.put _ (some 67) y2) V2
        refine hK.out _ _ ⟨(act_row hE.out).2.2.1, (act_row hE.out).2.2.2.1, (act_row hE.out).2.2.2.2.1, (act_row hE.out).2.2.2.2.2.1, (act_row hE.out).2.2.2.2.2.2⟩ (fun hHeld => ?_)
        clear hK
        (try simp only [Act.put, List.setIfInBounds_toArray, List.set_cons_zero, List.set_cons_succ])
        clear hL
        refine wpAnyH_ready (rs := [5]) (by kernel_rfl) (by simp) ?_
        refine AllReadyH.cons rfl (fun K hK => ?_) AllReadyH.nil
        go_simp
        go_at_call 17
        refine (HSay.out _ hb.out).mono ?_
        rintro e V3 ⟨ra, rc, rfl, hRs, hrn, hrb0, hbn⟩
        have hrb : ∀ x, ra = some x → lo ≤ x.block := fun x hx => by have := (hrb0 x hx).1; omega
        have hR := hide' hRs
        clear hRs hrb0
        replace hY := hide' (hY.out.grow hbn)
        replace hE := hide' (kept_below hbn _ _ _ _ hE.out (by decide))
        replace hX := hide' (kept_below hbn _ _ _ _ hX.out (by decide))
        replace hb := hide' (Below.on hb.out hbn)
        replace hlo : lo ≤ V3.heap.size := by have := hbn.size; omega
        clear hbn
        go_wp2_with fail
        refine hK.out _ _ ⟨(act_row hE.out).2.2.1, (act_row hE.out).2.2.2.1, (act_row hE.out).2.2.2.2.1, (act_row hE.out).2.2.2.2.2.1, (act_row hE.out).2.2.2.2.2.2⟩ (fun hHeld => ?_)
        clear hK
        (try simp only [Act.put, List.setIfInBounds_toArray, List.set_cons_zero, List.set_cons_succ])
        refine wpAnyH_ready (rs := [6]) (by kernel_rfl) (by simp) ?_
        refine AllReadyH.cons rfl (fun K hK => ?_) AllReadyH.nil
        refine step_append_seg (by rfl) (.tmp 67) (.tmp 70) (by rfl) (w.heap.size + 1) y2 (zs1 ++ [32]) sv (by rfl) hY.out ra sv.length rc rfl (by rfl) hR.out hrn (by (try simp only [List.length_append, List.length_cons, List.length_nil]); omega) (by have := hb.out.size; omega) ?_
        intro y4 V4 hY2 hg
        replace hE := hide' (kept_grown hY.out hg _ _ _ _ hE.out (by decide))
        replace hX := hide' (kept_grown hY.out hg _ _ _ _ hX.out (by decide))
        replace hb := hide' (hb.out.grown hg (by have := hb.out.size; omega) (fun k hk => by have := hY.out.own k hk; omega))
        replace hlo : lo ≤ V4.heap.size := by have := hg.size; omega
        replace hY := hide' hY2
        clear hY2 hg
        show K (Act.put _ (some 71) y4) V4
        refine hK.out _ _ ⟨(act_row hE.out).2.2.1, (act_row hE.out).2.2.2.1, (act_row hE.out).2.2.2.2.1, (act_row hE.out).2.2.2.2.2.1, (act_row hE.out).2.2.2.2.2.2⟩ (fun hHeld => ?_)
        clear hK
        (try simp only [Act.put, List.setIfInBounds_toArray, List.set_cons_zero, List.set_cons_succ])
        clear hR
        refine take_yes (i := 7) 3 (v := ?_) rfl rfl (by kernel_rfl) (by kernel_rfl) (by kernel_rfl) (fun _ _ _ h => h) (by kernel_rfl) hHeld ?_ ?_
        rotate_left
        focus (intro w hSw; (try dsimp only at hSw); go_simp; (try with_reducible rfl))
        simp only [Act.put, List.setIfInBounds_toArray, List.set_cons_zero, List.set_cons_succ]
        refine wpAnyH_done (by kernel_rfl) ?_ _
        clear hHeld
        have HNx : Hid (preA d l (k + 1) = (zs1 ++ [32]) ++ sv ++ [10]) := by show _ = _; rw [HNext.out, if_neg h4]; simp [List.append_assoc, Hz1.out]
        have hzV : w.heap.size + 1 ≤ V4.heap.size := (Array.getElem?_eq_some_iff.1 hX.out).1
        go_wp2_with (at_builtin; refine wpList_append_seg rfl (.tmp 72) (.tmp 73) (by rfl) (w.heap.size + 1) y4 ((zs1 ++ [32]) ++ sv) [10] (by rfl) (hY.out.alloc (.cells #[.int .u8 10] 5)) (some ⟨V4.heap.size, 0, none⟩) 1 1 rfl (by rfl) (LitB.seg (c := 10) (MapKept.heap_alloc V4 (.cells #[.int .u8 10] 5)).1 (by simp [Byt])) (by simp) (by (try simp only [List.length_append, List.length_cons, List.length_nil]); omega) (by simp; omega) ?_; intro yz Vz hYz hgz; have HPL : Hid (PLs w (.cells #[.slice (some ⟨b, off, none⟩) l.length cap, .int .i64 (u : Int)] 30) d l (k + 1) yz Vz) := ⟨HAl.out, (by rw [HNx.out]; exact hYz), (hb.out.alloc hb.out.size (.cells #[.int .u8 10] 5)).grown hgz (by have := hb.out.size; simp; omega) (fun k hk => by have := hY.out.own k hk; omega), kept_app (Kept.refl V4) (hY.out.alloc (.cells #[.int .u8 10] 5)) hgz _ _ _ _ hX.out (by decide)⟩; clear hYz hgz)
        go_roundw
        case rel => exact ⟨k + 1, by omega, by go_num, HPL⟩
        case measure => simp [intOf]; omega
end Go.Proofs.YtndnidmeompieaaGreatDoor
