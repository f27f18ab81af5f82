/-
  Texts that a law leans on, one behind the other; no statement is proved here.
-/
import Derived.Test.YtndnidmeompieaaGreatDoorPk17
import Derived.Test.YtndnidmeompieaaGreatDoorPk19
import Derived.Test.YtndnidmeompieaaGreatDoorPk9
import Derived.Test.YtndnidmeompieaaGreatDoorPk15
import Derived.Deep.RegionHeld3
/-
  PlanText of the program.
-/
namespace Go.Proofs.YtndnidmeompieaaGreatDoor
open Go.RowKit Go.Shelf
set_option linter.unusedVariables false
set_option linter.unusedSimpArgs false

/-- The words of acts lie as they were laid. -/
def WrdA (w : World) : Prop := ∀ k : Nat, 1 ≤ k → k ≤ 4 → w.cell? ⟨0, k, none⟩ = some (.string (strOf (nmT (k : Int))))
theorem WrdA.lt {w : World} (h : WrdA w) : 0 < w.heap.size := World.block_lt_of_cell? w _ (h 1 (by omega) (by omega))
theorem WrdA.below {B : Nat} {w w' : World} (h : WrdA w) (hB : 0 < B) (hb : Below B w w') : WrdA w' := fun k h1 h4 => (hb.cell (p := ⟨0, k, none⟩) hB).trans (h k h1 h4)

/-- An act's line. -/
def lineA (d : Nat) (a : Rcd d) : List Int := ((nmT a.1 ++ [32]) ++ a.2.1) ++ (if a.1 = 4 then [] else [32] ++ sayV d a.2.2.2.1)
theorem actT_line (d : Nat) (a : Rcd d) : actT d a = lineA d a ++ [10] := rfl
theorem line_len {d : Nat} {a : Rcd d} (h : actB d a = true) : (lineA d a).length ≤ 2499 := by
  obtain ⟨_, _, h3, h4⟩ := act_of h
  have h5 := addr_short h3
  have h6 := nm_len a.1
  obtain ⟨g, p⟩ := ok_says h4
  have h7 := sayV_len d a.2.2.2.1 1 g
  unfold lineA
  split <;> simp only [List.length_append, List.length_cons, List.length_nil] <;> omega
theorem preA_short {d : Nat} {l : List (Rcd d)} : ∀ k, k ≤ l.length → (∀ j (h : j < l.length), j < k → actB d l[j] = true) → (preA d l k).length ≤ k * 2500
  | 0, _, _ => by simp [preA_zero]
  | k + 1, hk, h => by
    have h1 := preA_short k (by omega) (fun j hj hjk => h j hj (by omega))
    have h2 := line_len (h k (by omega) (by omega))
    rw [preA_succ d l k (by omega), List.length_append, actT_line, List.length_append]
    simp only [List.length_cons, List.length_nil]
    omega

set_option maxHeartbeats 12800000 in
set_option maxRecDepth 100000 in
theorem appendAct_any (d N B : Nat) (a : Option Addr) (c : Nat) (xs : List Int) (cs : List Value) (it : Rcd d) (w : World) (hsg : RSg (fun b => b < N) w d cs it) (hNB : N ≤ B) (hBw : B ≤ w.heap.size) (hB : Bts w B (.slice a xs.length c) xs) (hact : actB d it = true) (hxl : xs.length ≤ 800000) (hWr : WrdA w) (ht : Tab B w) :
    Calls Tryz.prog 21 #[.slice a xs.length c, .agg cs.toArray] w (ApEnd B (xs ++ lineA d it) w) := by
  have HB := hide' hB
  have HWr := hide' hWr
  obtain ⟨na, np, bk, bn, a2, l2, p2, a3, l3, p3, a4, l4, p4, xa, xp, rfl, hta, hv, _⟩ := hsg.form
  obtain ⟨kk, ad, jj, vv, ds⟩ := it
  simp only at hta hv ⊢
  obtain ⟨h1, h4, had, hok⟩ := act_of hact
  simp only at h1 h4 had hok
  have hadl := addr_short had
  obtain ⟨gd, gp⟩ := ok_says hok
  have hsvl : (sayV d vv).length ≤ 2400 := by have := sayV_len d vv 1 gd; omega
  have hA : ∀ wx, Below B w wx → Agree (fun b => b < N) w wx := fun wx hb => agree_below (hb.mono hNB)
  have HSa : Hid (∀ wx, Below B w wx → Seg wx na ad) := fun wx hb => by
    obtain ⟨_, _, e1, s1, _⟩ := hta.agree (hA wx hb)
    simp only [Value.slice.injEq, true_and] at e1
    obtain ⟨rfl, _⟩ := e1
    exact s1
  have hna : na = none → np = 0 := by
    obtain ⟨_, _, e1, _, _, _, e2, _⟩ := hta
    simp only [Value.slice.injEq, true_and] at e1
    obtain ⟨rfl, rfl⟩ := e1
    exact e2
  have HVt : Hid (∀ wx, Below B w wx → Calls Tryz.prog 33 #[.agg #[.int .i64 bk, .int .i64 bn, .slice a2 l2 p2, .slice a3 l3 p3, .slice a4 l4 p4]] wx (TxEnd (sayV d vv) wx)) := fun wx hb => by
    have h := impl_ValText_any d N _ _ _ _ _ vv wx (VSeg.agree (hA wx hb) d hv) (by have := hb.size; omega) (fun w' h' => ht w' (hb.trans (h'.mono (by have := hb.size; omega))))
    rw [valText, if_pos hok] at h
    exact h
  clear hB hWr ht hsg hta hv had hok hA gd gp
  show Calls _ _ _ _ fun e w' => ApEnd B (xs ++ lineA d (kk, ad, jj, vv, ds)) w e w'
  obtain rfl | rfl | rfl | rfl : kk = 1 ∨ kk = 2 ∨ kk = 3 ∨ kk = 4 := by omega
  ·
    clear h1 h4
    have hew : (w.alloc (.cells #[.int .i64 1, .slice na ad.length np, .int .i64 jj, .int .i64 bk, .int .i64 bn, .slice a2 l2 p2, .slice a3 l3 p3, .slice a4 l4 p4, .slice xa ds.length xp] 43)).cell? ⟨0, 1, none⟩ = some (.string ⟨#[99, 114, 101, 97, 116, 101]⟩) := (World.cell?_of_block (Below.heap_alloc w (.cells #[.int .i64 1, .slice na ad.length np, .int .i64 jj, .int .i64 bk, .int .i64 bn, .slice a2 l2 p2, .slice a3 l3 p3, .slice a4 l4 p4, .slice xa ds.length xp] 43) 0 HWr.out.lt)).trans (HWr.out 1 (by decide) (by decide))
    have HTxt : Hid (lineA d (1, ad, jj, vv, ds) = ((([99, 114, 101, 97, 116, 101]) ++ [32]) ++ ad) ++ ([32] ++ sayV d vv)) := by show _ = _; simp [lineA, nmT]
    clear hact HWr
    generalize sayV d vv = sv at *
    go_enter Tryz.func21, Tryz.ntmps21
    go_wp2_with (at_builtin; refine wpList_append_text rfl (.tmp 5) (.tmp 9) 9 (by rfl) Tryz.underlying9 B (.slice a xs.length c) xs [99, 114, 101, 97, 116, 101] (by rfl) (HB.out.alloc (.cells #[.int .i64 1, .slice na ad.length np, .int .i64 jj, .int .i64 bk, .int .i64 bn, .slice a2 l2 p2, .slice a3 l3 p3, .slice a4 l4 p4, .slice xa ds.length xp] 43)) ⟨#[99, 114, 101, 97, 116, 101]⟩ (by rfl) (by simp [Byt]) (by rfl) (by simp; omega) (by simp; omega) ?_; intro y1 W1 hY0 hg0; have hY := hide' hY0; have hb : Hid (Below B w W1) := ((Below.refl _ _).alloc hBw (.cells #[.int .i64 1, .slice na ad.length np, .int .i64 jj, .int .i64 bk, .int .i64 bn, .slice a2 l2 p2, .slice a3 l3 p3, .slice a4 l4 p4, .slice xa ds.length xp] 43)).grown hg0 (by simp; omega) (fun k hk => HB.out.own k hk); have hk : Hid (Kept w W1) := (kept_alloc w (.cells #[.int .i64 1, .slice na ad.length np, .int .i64 jj, .int .i64 bk, .int .i64 bn, .slice a2 l2 p2, .slice a3 l3 p3, .slice a4 l4 p4, .slice xa ds.length xp] 43)).trans (kept_grown (HB.out.alloc (.cells #[.int .i64 1, .slice na ad.length np, .int .i64 jj, .int .i64 bk, .int .i64 bn, .slice a2 l2 p2, .slice a3 l3 p3, .slice a4 l4 p4, .slice xa ds.length xp] 43)) hg0); have hX : Hid (W1.heap[w.heap.size]? = some (.cells #[.int .i64 1, .slice na ad.length np, .int .i64 jj, .int .i64 bk, .int .i64 bn, .slice a2 l2 p2, .slice a3 l3 p3, .slice a4 l4 p4, .slice xa ds.length xp] 43 (0, 0))) := kept_grown (HB.out.alloc (.cells #[.int .i64 1, .slice na ad.length np, .int .i64 jj, .int .i64 bk, .int .i64 bn, .slice a2 l2 p2, .slice a3 l3 p3, .slice a4 l4 p4, .slice xa ds.length xp] 43)) hg0 _ _ _ _ (MapKept.heap_alloc w (.cells #[.int .i64 1, .slice na ad.length np, .int .i64 jj, .int .i64 bk, .int .i64 bn, .slice a2 l2 p2, .slice a3 l3 p3, .slice a4 l4 p4, .slice xa ds.length xp] 43)).1 (by decide); clear hY0 hg0 hew; obtain ⟨x0, x1, x3, x4, x5, x6, x7⟩ := act_row hX.out)
    go_wp2_with fail
    refine wp_region_held_drew (S := (fun wx => wx.cell? ⟨w.heap.size, 1, none⟩ = some (.slice na ad.length np))) (by kernel_rfl) x1 (fun hHeld => ?_)
    replace hY : Hid (Bts W1.drew B _ (xs ++ [99, 114, 101, 97, 116, 101])) := hY.out
    replace hX : Hid (W1.drew.heap[w.heap.size]? = _) := hX.out
    replace hb : Hid (Below B w W1.drew) := hb.out.drew
    replace hk : Hid (Kept w W1.drew) := hk.out
    generalize W1.drew = V0 at *
    refine take_yes (i := 0) 11 (v := ?_) rfl rfl (by kernel_rfl) (by kernel_rfl) (by kernel_rfl) (fun _ _ _ h => h) (by kernel_rfl) hHeld ?_ ?_
    rotate_left
    focus (intro w hSw; (try dsimp only at hSw); go_simp; (try with_reducible rfl))
    simp only [Act.put, List.setIfInBounds_toArray, List.set_cons_zero, List.set_cons_succ]
    refine take_yes (i := 3) 14 (v := ?_) rfl rfl (by kernel_rfl) (by kernel_rfl) (by kernel_rfl) (fun _ _ _ h => h) (by kernel_rfl) hHeld ?_ ?_
    rotate_left
    focus (intro w hSw; (try dsimp only at hSw); go_simp; (try with_reducible rfl))
    simp only [Act.put, List.setIfInBounds_toArray, List.set_cons_zero, List.set_cons_succ]
    refine take_yes (i := 4) 15 (v := ?_) rfl rfl (by kernel_rfl) (by kernel_rfl) (by kernel_rfl) (fun _ _ _ h => h) (by kernel_rfl) hHeld ?_ ?_
    rotate_left
    focus (intro w hSw; (try dsimp only at hSw); go_simp; (try with_reducible rfl))
    simp only [Act.put, List.setIfInBounds_toArray, List.set_cons_zero, List.set_cons_succ]
    refine wpAnyH_ready (rs := [1]) (by kernel_rfl) (by simp) ?_
    refine AllReadyH.cons rfl (fun K hK => ?_) AllReadyH.nil
    go_simp
    have hL := hide' (LitB.seg (c := 32) (MapKept.heap_alloc V0 (.cells #[.int .u8 32] 5)).1 (by simp [Byt]))
    replace hY := hide' (hY.out.alloc (.cells #[.int .u8 32] 5))
    replace hX := hide' (kept_alloc V0 (.cells #[.int .u8 32] 5) _ _ _ _ hX.out (by decide))
    replace hb := hide' (hb.out.alloc (Nat.le_trans hBw hb.out.size) (.cells #[.int .u8 32] 5))
    replace hk := hide' (hk.out.trans (kept_alloc V0 (.cells #[.int .u8 32] 5)))
    refine hK.out _ _ (act_row hX.out).2.1 (fun hHeld => ?_)
    clear hK
    (try simp only [Act.put, List.setIfInBounds_toArray, List.set_cons_zero, List.set_cons_succ])
    generalize V0.alloc (.cells #[.int .u8 32] 5) = V1 at *
    generalize V0.heap.size = gL0 at *
    refine wpAnyH_ready (rs := [2]) (by kernel_rfl) (by simp) ?_
    refine AllReadyH.cons rfl (fun K hK => ?_) AllReadyH.nil
    refine step_append_seg (by rfl) (.tmp 11) (.tmp 12) (by rfl) B y1 (xs ++ [99, 114, 101, 97, 116, 101]) [32] (by rfl) hY.out (some ⟨_, 0, none⟩) 1 1 rfl (by rfl) hL.out (by simp) (by (try simp only [List.length_append, List.length_cons, List.length_nil]); omega) (Nat.le_trans hBw hb.out.size) ?_
    intro Vy2 V2 hY2 hg
    replace hX := hide' (kept_grown hY.out hg _ _ _ _ hX.out (by decide))
    replace hk := hide' (hk.out.trans (kept_grown hY.out hg))
    replace hb := hide' (hb.out.grown hg (Nat.le_trans hBw hb.out.size) (fun k hk => hY.out.own k hk))
    replace hY := hide' hY2
    clear hY2 hg hL
    show K (Act.put _ (some 13) Vy2) V2
    refine hK.out _ _ (act_row hX.out).2.1 (fun hHeld => ?_)
    clear hK
    (try simp only [Act.put, List.setIfInBounds_toArray, List.set_cons_zero, List.set_cons_succ])
    refine wpAnyH_ready (rs := [5]) (by kernel_rfl) (by simp) ?_
    refine AllReadyH.cons rfl (fun K hK => ?_) AllReadyH.nil
    refine step_append_seg (by rfl) (.tmp 13) (.tmp 15) (by rfl) B Vy2 ((xs ++ [99, 114, 101, 97, 116, 101]) ++ [32]) ad (by rfl) hY.out na ad.length np rfl (by rfl) (HSa.out _ hb.out) hna (by (try simp only [List.length_append, List.length_cons, List.length_nil]); omega) (Nat.le_trans hBw hb.out.size) ?_
    intro Vy3 V3 hY2 hg
    replace hX := hide' (kept_grown hY.out hg _ _ _ _ hX.out (by decide))
    replace hk := hide' (hk.out.trans (kept_grown hY.out hg))
    replace hb := hide' (hb.out.grown hg (Nat.le_trans hBw hb.out.size) (fun k hk => hY.out.own k hk))
    replace hY := hide' hY2
    clear hY2 hg
    show K (Act.put _ (some 16) Vy3) V3
    refine hK.out _ _ (act_row hX.out).2.1 (fun hHeld => ?_)
    clear hK
    (try simp only [Act.put, List.setIfInBounds_toArray, List.set_cons_zero, List.set_cons_succ])
    refine take_yes (i := 6) 0 (v := ?_) rfl rfl (by kernel_rfl) (by kernel_rfl) (by kernel_rfl) (fun _ _ _ h => h) (by kernel_rfl) hHeld ?_ ?_
    rotate_left
    focus (intro w hSw; (try dsimp only at hSw); go_simp; (try with_reducible rfl))
    simp only [Act.put, List.setIfInBounds_toArray, List.set_cons_zero, List.set_cons_succ]
    refine wpAnyH_done (by kernel_rfl) ?_ _
    clear hHeld
    clear x0 x1 x3 x4 x5 x6 x7
    obtain ⟨x0, x1, x3, x4, x5, x6, x7⟩ := act_row hX.out
    obtain ⟨zs1, hz1⟩ : ∃ zs1, zs1 = ((xs ++ [99, 114, 101, 97, 116, 101]) ++ [32]) ++ ad := ⟨_, rfl⟩
    rw [← hz1] at hY
    have hz1l : zs1.length ≤ 900000 := by rw [hz1]; simp only [List.length_append, List.length_cons, List.length_nil]; omega
    have Hz1 := hide' hz1
    clear hz1
    go_wp2_with fail
    refine wp_region_held_drew (S := (fun wx => wx.cell? ⟨w.heap.size, 3, none⟩ = some (.int .i64 bk) ∧ wx.cell? ⟨w.heap.size, 4, none⟩ = some (.int .i64 bn) ∧ wx.cell? ⟨w.heap.size, 5, none⟩ = some (.slice a2 l2 p2) ∧ wx.cell? ⟨w.heap.size, 6, none⟩ = some (.slice a3 l3 p3) ∧ wx.cell? ⟨w.heap.size, 7, none⟩ = some (.slice a4 l4 p4))) (by kernel_rfl) ⟨x3, x4, x5, x6, x7⟩ (fun hHeld => ?_)
    replace hY : Hid (Bts V3.drew B _ (zs1)) := hY.out
    replace hX : Hid (V3.drew.heap[w.heap.size]? = _) := hX.out
    replace hb : Hid (Below B w V3.drew) := hb.out.drew
    replace hk : Hid (Kept w V3.drew) := hk.out
    generalize V3.drew = U0 at *
    refine take_yes (i := 0) 21 (v := ?_) rfl rfl (by kernel_rfl) (by kernel_rfl) (by kernel_rfl) (fun _ _ _ h => h) (by kernel_rfl) hHeld ?_ ?_
    rotate_left
    focus (intro w hSw; (try dsimp only at hSw); go_simp; (try with_reducible rfl))
    simp only [Act.put, List.setIfInBounds_toArray, List.set_cons_zero, List.set_cons_succ]
    refine take_yes (i := 3) 24 (v := ?_) rfl rfl (by kernel_rfl) (by kernel_rfl) (by kernel_rfl) (fun _ _ _ h => h) (by kernel_rfl) hHeld ?_ ?_
    rotate_left
    focus (intro w hSw; (try dsimp only at hSw); go_simp; (try with_reducible rfl))
    simp only [Act.put, List.setIfInBounds_toArray, List.set_cons_zero, List.set_cons_succ]
    refine take_yes (i := 4) 25 (v := ?_) rfl rfl (by kernel_rfl) (by kernel_rfl) (by kernel_rfl) (fun _ _ _ h => h) (by kernel_rfl) hHeld ?_ ?_
    rotate_left
    focus (intro w hSw; (try dsimp only at hSw); go_simp; (try with_reducible rfl))
    simp only [Act.put, List.setIfInBounds_toArray, List.set_cons_zero, List.set_cons_succ]
    refine wpAnyH_ready (rs := [1]) (by kernel_rfl) (by simp) ?_
    refine AllReadyH.cons rfl (fun K hK => ?_) AllReadyH.nil
    go_simp
    have hL := hide' (LitB.seg (c := 32) (MapKept.heap_alloc U0 (.cells #[.int .u8 32] 5)).1 (by simp [Byt]))
    replace hY := hide' (hY.out.alloc (.cells #[.int .u8 32] 5))
    replace hX := hide' (kept_alloc U0 (.cells #[.int .u8 32] 5) _ _ _ _ hX.out (by decide))
    replace hb := hide' (hb.out.alloc (Nat.le_trans hBw hb.out.size) (.cells #[.int .u8 32] 5))
    replace hk := hide' (hk.out.trans (kept_alloc U0 (.cells #[.int .u8 32] 5)))
    refine hK.out _ _ ⟨(act_row hX.out).2.2.1, (act_row hX.out).2.2.2.1, (act_row hX.out).2.2.2.2.1, (act_row hX.out).2.2.2.2.2.1, (act_row hX.out).2.2.2.2.2.2⟩ (fun hHeld => ?_)
    clear hK
    (try simp only [Act.put, List.setIfInBounds_toArray, List.set_cons_zero, List.set_cons_succ])
    generalize U0.alloc (.cells #[.int .u8 32] 5) = U1 at *
    generalize U0.heap.size = gL0 at *
    refine wpAnyH_ready (rs := [2]) (by kernel_rfl) (by simp) ?_
    refine AllReadyH.cons rfl (fun K hK => ?_) AllReadyH.nil
    refine step_append_seg (by rfl) (.tmp 21) (.tmp 22) (by rfl) B Vy3 (zs1) [32] (by rfl) hY.out (some ⟨_, 0, none⟩) 1 1 rfl (by rfl) hL.out (by simp) (by (try simp only [List.length_append, List.length_cons, List.length_nil]); omega) (Nat.le_trans hBw hb.out.size) ?_
    intro Uy2 U2 hY2 hg
    replace hX := hide' (kept_grown hY.out hg _ _ _ _ hX.out (by decide))
    replace hk := hide' (hk.out.trans (kept_grown hY.out hg))
    replace hb := hide' (hb.out.grown hg (Nat.le_trans hBw hb.out.size) (fun k hk => hY.out.own k hk))
    replace hY := hide' hY2
    clear hY2 hg hL
    show K (Act.put _ (some 23) Uy2) U2
    refine hK.out _ _ ⟨(act_row hX.out).2.2.1, (act_row hX.out).2.2.2.1, (act_row hX.out).2.2.2.2.1, (act_row hX.out).2.2.2.2.2.1, (act_row hX.out).2.2.2.2.2.2⟩ (fun hHeld => ?_)
    clear hK
    (try simp only [Act.put, List.setIfInBounds_toArray, List.set_cons_zero, List.set_cons_succ])
    refine wpAnyH_ready (rs := [5]) (by kernel_rfl) (by simp) ?_
    refine AllReadyH.cons rfl (fun K hK => ?_) AllReadyH.nil
    go_simp
    go_at_call 33
    refine (HVt.out _ hb.out).mono ?_
    rintro e U3 ⟨ra, rc, rfl, hRs, hbn⟩
    have hrn : ra = none → rc = 0 := by
      obtain ⟨_, _, e1, _, _, _, _, e2⟩ := hRs.shape
      simp only [Value.slice.injEq] at e1
      obtain ⟨rfl, _, rfl⟩ := e1
      exact e2
    have hR := hide' hRs
    clear hRs
    replace hY := hide' (hY.out.grow hbn)
    replace hX := hide' (kept_below hbn _ _ _ _ hX.out (by decide))
    replace hk := hide' (hk.out.trans (kept_below hbn))
    replace hb := hide' (hb.out.trans (hbn.mono (Nat.le_trans hBw hb.out.size)))
    clear hbn
    go_wp2_with fail
    refine hK.out _ _ ⟨(act_row hX.out).2.2.1, (act_row hX.out).2.2.2.1, (act_row hX.out).2.2.2.2.1, (act_row hX.out).2.2.2.2.2.1, (act_row hX.out).2.2.2.2.2.2⟩ (fun hHeld => ?_)
    clear hK
    (try simp only [Act.put, List.setIfInBounds_toArray, List.set_cons_zero, List.set_cons_succ])
    refine wpAnyH_ready (rs := [6]) (by kernel_rfl) (by simp) ?_
    refine AllReadyH.cons rfl (fun K hK => ?_) AllReadyH.nil
    refine step_append_seg (by rfl) (.tmp 23) (.tmp 26) (by rfl) B Uy2 ((zs1) ++ [32]) sv (by rfl) hY.out ra sv.length rc rfl (by rfl) hR.out.seg hrn (by (try simp only [List.length_append, List.length_cons, List.length_nil]); omega) (Nat.le_trans hBw hb.out.size) ?_
    intro Uy4 U4 hY2 hg
    replace hX := hide' (kept_grown hY.out hg _ _ _ _ hX.out (by decide))
    replace hk := hide' (hk.out.trans (kept_grown hY.out hg))
    replace hb := hide' (hb.out.grown hg (Nat.le_trans hBw hb.out.size) (fun k hk => hY.out.own k hk))
    replace hY := hide' hY2
    clear hY2 hg
    show K (Act.put _ (some 27) Uy4) U4
    refine hK.out _ _ ⟨(act_row hX.out).2.2.1, (act_row hX.out).2.2.2.1, (act_row hX.out).2.2.2.2.1, (act_row hX.out).2.2.2.2.2.1, (act_row hX.out).2.2.2.2.2.2⟩ (fun hHeld => ?_)
    clear hK
    (try simp only [Act.put, List.setIfInBounds_toArray, List.set_cons_zero, List.set_cons_succ])
    refine take_yes (i := 7) 4 (v := ?_) rfl rfl (by kernel_rfl) (by kernel_rfl) (by kernel_rfl) (fun _ _ _ h => h) (by kernel_rfl) hHeld ?_ ?_
    rotate_left
    focus (intro w hSw; (try dsimp only at hSw); go_simp; (try with_reducible rfl))
    simp only [Act.put, List.setIfInBounds_toArray, List.set_cons_zero, List.set_cons_succ]
    refine wpAnyH_done (by kernel_rfl) ?_ _
    clear hHeld
    have e1 : ((zs1) ++ [32]) ++ sv = xs ++ lineA d (1, ad, jj, vv, ds) := by rw [HTxt.out, Hz1.out]; simp only [List.append_assoc]
    rw [e1] at hY
    clear e1
    go_wp2
    go_ret
    exact apEnd_of hY.out hb.out hk.out
  ·
    clear h1 h4
    have hew : (w.alloc (.cells #[.int .i64 2, .slice na ad.length np, .int .i64 jj, .int .i64 bk, .int .i64 bn, .slice a2 l2 p2, .slice a3 l3 p3, .slice a4 l4 p4, .slice xa ds.length xp] 43)).cell? ⟨0, 2, none⟩ = some (.string ⟨#[117, 112, 100, 97, 116, 101]⟩) := (World.cell?_of_block (Below.heap_alloc w (.cells #[.int .i64 2, .slice na ad.length np, .int .i64 jj, .int .i64 bk, .int .i64 bn, .slice a2 l2 p2, .slice a3 l3 p3, .slice a4 l4 p4, .slice xa ds.length xp] 43) 0 HWr.out.lt)).trans (HWr.out 2 (by decide) (by decide))
    have HTxt : Hid (lineA d (2, ad, jj, vv, ds) = ((([117, 112, 100, 97, 116, 101]) ++ [32]) ++ ad) ++ ([32] ++ sayV d vv)) := by show _ = _; simp [lineA, nmT]
    clear hact HWr
    generalize sayV d vv = sv at *
    go_enter Tryz.func21, Tryz.ntmps21
    go_wp2_with (at_builtin; refine wpList_append_text rfl (.tmp 5) (.tmp 9) 9 (by rfl) Tryz.underlying9 B (.slice a xs.length c) xs [117, 112, 100, 97, 116, 101] (by rfl) (HB.out.alloc (.cells #[.int .i64 2, .slice na ad.length np, .int .i64 jj, .int .i64 bk, .int .i64 bn, .slice a2 l2 p2, .slice a3 l3 p3, .slice a4 l4 p4, .slice xa ds.length xp] 43)) ⟨#[117, 112, 100, 97, 116, 101]⟩ (by rfl) (by simp [Byt]) (by rfl) (by simp; omega) (by simp; omega) ?_; intro y1 W1 hY0 hg0; have hY := hide' hY0; have hb : Hid (Below B w W1) := ((Below.refl _ _).alloc hBw (.cells #[.int .i64 2, .slice na ad.length np, .int .i64 jj, .int .i64 bk, .int .i64 bn, .slice a2 l2 p2, .slice a3 l3 p3, .slice a4 l4 p4, .slice xa ds.length xp] 43)).grown hg0 (by simp; omega) (fun k hk => HB.out.own k hk); have hk : Hid (Kept w W1) := (kept_alloc w (.cells #[.int .i64 2, .slice na ad.length np, .int .i64 jj, .int .i64 bk, .int .i64 bn, .slice a2 l2 p2, .slice a3 l3 p3, .slice a4 l4 p4, .slice xa ds.length xp] 43)).trans (kept_grown (HB.out.alloc (.cells #[.int .i64 2, .slice na ad.length np, .int .i64 jj, .int .i64 bk, .int .i64 bn, .slice a2 l2 p2, .slice a3 l3 p3, .slice a4 l4 p4, .slice xa ds.length xp] 43)) hg0); have hX : Hid (W1.heap[w.heap.size]? = some (.cells #[.int .i64 2, .slice na ad.length np, .int .i64 jj, .int .i64 bk, .int .i64 bn, .slice a2 l2 p2, .slice a3 l3 p3, .slice a4 l4 p4, .slice xa ds.length xp] 43 (0, 0))) := kept_grown (HB.out.alloc (.cells #[.int .i64 2, .slice na ad.length np, .int .i64 jj, .int .i64 bk, .int .i64 bn, .slice a2 l2 p2, .slice a3 l3 p3, .slice a4 l4 p4, .slice xa ds.length xp] 43)) hg0 _ _ _ _ (MapKept.heap_alloc w (.cells #[.int .i64 2, .slice na ad.length np, .int .i64 jj, .int .i64 bk, .int .i64 bn, .slice a2 l2 p2, .slice a3 l3 p3, .slice a4 l4 p4, .slice xa ds.length xp] 43)).1 (by decide); clear hY0 hg0 hew; obtain ⟨x0, x1, x3, x4, x5, x6, x7⟩ := act_row hX.out)
    go_wp2_with fail
    refine wp_region_held_drew (S := (fun wx => wx.cell? ⟨w.heap.size, 1, none⟩ = some (.slice na ad.length np))) (by kernel_rfl) x1 (fun hHeld => ?_)
    replace hY : Hid (Bts W1.drew B _ (xs ++ [117, 112, 100, 97, 116, 101])) := hY.out
    replace hX : Hid (W1.drew.heap[w.heap.size]? = _) := hX.out
    replace hb : Hid (Below B w W1.drew) := hb.out.drew
    replace hk : Hid (Kept w W1.drew) := hk.out
    generalize W1.drew = V0 at *
    refine take_yes (i := 0) 11 (v := ?_) rfl rfl (by kernel_rfl) (by kernel_rfl) (by kernel_rfl) (fun _ _ _ h => h) (by kernel_rfl) hHeld ?_ ?_
    rotate_left
    focus (intro w hSw; (try dsimp only at hSw); go_simp; (try with_reducible rfl))
    simp only [Act.put, List.setIfInBounds_toArray, List.set_cons_zero, List.set_cons_succ]
    refine take_yes (i := 3) 14 (v := ?_) rfl rfl (by kernel_rfl) (by kernel_rfl) (by kernel_rfl) (fun _ _ _ h => h) (by kernel_rfl) hHeld ?_ ?_
    rotate_left
    focus (intro w hSw; (try dsimp only at hSw); go_simp; (try with_reducible rfl))
    simp only [Act.put, List.setIfInBounds_toArray, List.set_cons_zero, List.set_cons_succ]
    refine take_yes (i := 4) 15 (v := ?_) rfl rfl (by kernel_rfl) (by kernel_rfl) (by kernel_rfl) (fun _ _ _ h => h) (by kernel_rfl) hHeld ?_ ?_
    rotate_left
    focus (intro w hSw; (try dsimp only at hSw); go_simp; (try with_reducible rfl))
    simp only [Act.put, List.setIfInBounds_toArray, List.set_cons_zero, List.set_cons_succ]
    refine wpAnyH_ready (rs := [1]) (by kernel_rfl) (by simp) ?_
    refine AllReadyH.cons rfl (fun K hK => ?_) AllReadyH.nil
    go_simp
    have hL := hide' (LitB.seg (c := 32) (MapKept.heap_alloc V0 (.cells #[.int .u8 32] 5)).1 (by simp [Byt]))
    replace hY := hide' (hY.out.alloc (.cells #[.int .u8 32] 5))
    replace hX := hide' (kept_alloc V0 (.cells #[.int .u8 32] 5) _ _ _ _ hX.out (by decide))
    replace hb := hide' (hb.out.alloc (Nat.le_trans hBw hb.out.size) (.cells #[.int .u8 32] 5))
    replace hk := hide' (hk.out.trans (kept_alloc V0 (.cells #[.int .u8 32] 5)))
    refine hK.out _ _ (act_row hX.out).2.1 (fun hHeld => ?_)
    clear hK
    (try simp only [Act.put, List.setIfInBounds_toArray, List.set_cons_zero, List.set_cons_succ])
    generalize V0.alloc (.cells #[.int .u8 32] 5) = V1 at *
    generalize V0.heap.size = gL0 at *
    refine wpAnyH_ready (rs := [2]) (by kernel_rfl) (by simp) ?_
    refine AllReadyH.cons rfl (fun K hK => ?_) AllReadyH.nil
    refine step_append_seg (by rfl) (.tmp 11) (.tmp 12) (by rfl) B y1 (xs ++ [117, 112, 100, 97, 116, 101]) [32] (by rfl) hY.out (some ⟨_, 0, none⟩) 1 1 rfl (by rfl) hL.out (by simp) (by (try simp only [List.length_append, List.length_cons, List.length_nil]); omega) (Nat.le_trans hBw hb.out.size) ?_
    intro Vy2 V2 hY2 hg
    replace hX := hide' (kept_grown hY.out hg _ _ _ _ hX.out (by decide))
    replace hk := hide' (hk.out.trans (kept_grown hY.out hg))
    replace hb := hide' (hb.out.grown hg (Nat.le_trans hBw hb.out.size) (fun k hk => hY.out.own k hk))
    replace hY := hide' hY2
    clear hY2 hg hL
    show K (Act.put _ (some 13) Vy2) V2
    refine hK.out _ _ (act_row hX.out).2.1 (fun hHeld => ?_)
    clear hK
    (try simp only [Act.put, List.setIfInBounds_toArray, List.set_cons_zero, List.set_cons_succ])
    refine wpAnyH_ready (rs := [5]) (by kernel_rfl) (by simp) ?_
    refine AllReadyH.cons rfl (fun K hK => ?_) AllReadyH.nil
    refine step_append_seg (by rfl) (.tmp 13) (.tmp 15) (by rfl) B Vy2 ((xs ++ [117, 112, 100, 97, 116, 101]) ++ [32]) ad (by rfl) hY.out na ad.length np rfl (by rfl) (HSa.out _ hb.out) hna (by (try simp only [List.length_append, List.length_cons, List.length_nil]); omega) (Nat.le_trans hBw hb.out.size) ?_
    intro Vy3 V3 hY2 hg
    replace hX := hide' (kept_grown hY.out hg _ _ _ _ hX.out (by decide))
    replace hk := hide' (hk.out.trans (kept_grown hY.out hg))
    replace hb := hide' (hb.out.grown hg (Nat.le_trans hBw hb.out.size) (fun k hk => hY.out.own k hk))
    replace hY := hide' hY2
    clear hY2 hg
    show K (Act.put _ (some 16) Vy3) V3
    refine hK.out _ _ (act_row hX.out).2.1 (fun hHeld => ?_)
    clear hK
    (try simp only [Act.put, List.setIfInBounds_toArray, List.set_cons_zero, List.set_cons_succ])
    refine take_yes (i := 6) 0 (v := ?_) rfl rfl (by kernel_rfl) (by kernel_rfl) (by kernel_rfl) (fun _ _ _ h => h) (by kernel_rfl) hHeld ?_ ?_
    rotate_left
    focus (intro w hSw; (try dsimp only at hSw); go_simp; (try with_reducible rfl))
    simp only [Act.put, List.setIfInBounds_toArray, List.set_cons_zero, List.set_cons_succ]
    refine wpAnyH_done (by kernel_rfl) ?_ _
    clear hHeld
    clear x0 x1 x3 x4 x5 x6 x7
    obtain ⟨x0, x1, x3, x4, x5, x6, x7⟩ := act_row hX.out
    obtain ⟨zs1, hz1⟩ : ∃ zs1, zs1 = ((xs ++ [117, 112, 100, 97, 116, 101]) ++ [32]) ++ ad := ⟨_, rfl⟩
    rw [← hz1] at hY
    have hz1l : zs1.length ≤ 900000 := by rw [hz1]; simp only [List.length_append, List.length_cons, List.length_nil]; omega
    have Hz1 := hide' hz1
    clear hz1
    go_wp2_with fail
    refine wp_region_held_drew (S := (fun wx => wx.cell? ⟨w.heap.size, 3, none⟩ = some (.int .i64 bk) ∧ wx.cell? ⟨w.heap.size, 4, none⟩ = some (.int .i64 bn) ∧ wx.cell? ⟨w.heap.size, 5, none⟩ = some (.slice a2 l2 p2) ∧ wx.cell? ⟨w.heap.size, 6, none⟩ = some (.slice a3 l3 p3) ∧ wx.cell? ⟨w.heap.size, 7, none⟩ = some (.slice a4 l4 p4))) (by kernel_rfl) ⟨x3, x4, x5, x6, x7⟩ (fun hHeld => ?_)
    replace hY : Hid (Bts V3.drew B _ (zs1)) := hY.out
    replace hX : Hid (V3.drew.heap[w.heap.size]? = _) := hX.out
    replace hb : Hid (Below B w V3.drew) := hb.out.drew
    replace hk : Hid (Kept w V3.drew) := hk.out
    generalize V3.drew = U0 at *
    refine take_yes (i := 0) 21 (v := ?_) rfl rfl (by kernel_rfl) (by kernel_rfl) (by kernel_rfl) (fun _ _ _ h => h) (by kernel_rfl) hHeld ?_ ?_
    rotate_left
    focus (intro w hSw; (try dsimp only at hSw); go_simp; (try with_reducible rfl))
    simp only [Act.put, List.setIfInBounds_toArray, List.set_cons_zero, List.set_cons_succ]
    refine take_yes (i := 3) 24 (v := ?_) rfl rfl (by kernel_rfl) (by kernel_rfl) (by kernel_rfl) (fun _ _ _ h => h) (by kernel_rfl) hHeld ?_ ?_
    rotate_left
    focus (intro w hSw; (try dsimp only at hSw); go_simp; (try with_reducible rfl))
    simp only [Act.put, List.setIfInBounds_toArray, List.set_cons_zero, List.set_cons_succ]
    refine take_yes (i := 4) 25 (v := ?_) rfl rfl (by kernel_rfl) (by kernel_rfl) (by kernel_rfl) (fun _ _ _ h => h) (by kernel_rfl) hHeld ?_ ?_
    rotate_left
    focus (intro w hSw; (try dsimp only at hSw); go_simp; (try with_reducible rfl))
    simp only [Act.put, List.setIfInBounds_toArray, List.set_cons_zero, List.set_cons_succ]
    refine wpAnyH_ready (rs := [1]) (by kernel_rfl) (by simp) ?_
    refine AllReadyH.cons rfl (fun K hK => ?_) AllReadyH.nil
    go_simp
    have hL := hide' (LitB.seg (c := 32) (MapKept.heap_alloc U0 (.cells #[.int .u8 32] 5)).1 (by simp [Byt]))
    replace hY := hide' (hY.out.alloc (.cells #[.int .u8 32] 5))
    replace hX := hide' (kept_alloc U0 (.cells #[.int .u8 32] 5) _ _ _ _ hX.out (by decide))
    replace hb := hide' (hb.out.alloc (Nat.le_trans hBw hb.out.size) (.cells #[.int .u8 32] 5))
    replace hk := hide' (hk.out.trans (kept_alloc U0 (.cells #[.int .u8 32] 5)))
    refine hK.out _ _ ⟨(act_row hX.out).2.2.1, (act_row hX.out).2.2.2.1, (act_row hX.out).2.2.2.2.1, (act_row hX.out).2.2.2.2.2.1, (act_row hX.out).2.2.2.2.2.2⟩ (fun hHeld => ?_)
    clear hK
    (try simp only [Act.put, List.setIfInBounds_toArray, List.set_cons_zero, List.set_cons_succ])
    generalize U0.alloc (.cells #[.int .u8 32] 5) = U1 at *
    generalize U0.heap.size = gL0 at *
    refine wpAnyH_ready (rs := [2]) (by kernel_rfl) (by simp) ?_
    refine AllReadyH.cons rfl (fun K hK => ?_) AllReadyH.nil
    refine step_append_seg (by rfl) (.tmp 21) (.tmp 22) (by rfl) B Vy3 (zs1) [32] (by rfl) hY.out (some ⟨_, 0, none⟩) 1 1 rfl (by rfl) hL.out (by simp) (by (try simp only [List.length_append, List.length_cons, List.length_nil]); omega) (Nat.le_trans hBw hb.out.size) ?_
    intro Uy2 U2 hY2 hg
    replace hX := hide' (kept_grown hY.out hg _ _ _ _ hX.out (by decide))
    replace hk := hide' (hk.out.trans (kept_grown hY.out hg))
    replace hb := hide' (hb.out.grown hg (Nat.le_trans hBw hb.out.size) (fun k hk => hY.out.own k hk))
    replace hY := hide' hY2
    clear hY2 hg hL
    show K (Act.put _ (some 23) Uy2) U2
    refine hK.out _ _ ⟨(act_row hX.out).2.2.1, (act_row hX.out).2.2.2.1, (act_row hX.out).2.2.2.2.1, (act_row hX.out).2.2.2.2.2.1, (act_row hX.out).2.2.2.2.2.2⟩ (fun hHeld => ?_)
    clear hK
    (try simp only [Act.put, List.setIfInBounds_toArray, List.set_cons_zero, List.set_cons_succ])
    refine wpAnyH_ready (rs := [5]) (by kernel_rfl) (by simp) ?_
    refine AllReadyH.cons rfl (fun K hK => ?_) AllReadyH.nil
    go_simp
    go_at_call 33
    refine (HVt.out _ hb.out).mono ?_
    rintro e U3 ⟨ra, rc, rfl, hRs, hbn⟩
    have hrn : ra = none → rc = 0 := by
      obtain ⟨_, _, e1, _, _, _, _, e2⟩ := hRs.shape
      simp only [Value.slice.injEq] at e1
      obtain ⟨rfl, _, rfl⟩ := e1
      exact e2
    have hR := hide' hRs
    clear hRs
    replace hY := hide' (hY.out.grow hbn)
    replace hX := hide' (kept_below hbn _ _ _ _ hX.out (by decide))
    replace hk := hide' (hk.out.trans (kept_below hbn))
    replace hb := hide' (hb.out.trans (hbn.mono (Nat.le_trans hBw hb.out.size)))
    clear hbn
    go_wp2_with fail
    refine hK.out _ _ ⟨(act_row hX.out).2.2.1, (act_row hX.out).2.2.2.1, (act_row hX.out).2.2.2.2.1, (act_row hX.out).2.2.2.2.2.1, (act_row hX.out).2.2.2.2.2.2⟩ (fun hHeld => ?_)
    clear hK
    (try simp only [Act.put, List.setIfInBounds_toArray, List.set_cons_zero, List.set_cons_succ])
    refine wpAnyH_ready (rs := [6]) (by kernel_rfl) (by simp) ?_
    refine AllReadyH.cons rfl (fun K hK => ?_) AllReadyH.nil
    refine step_append_seg (by rfl) (.tmp 23) (.tmp 26) (by rfl) B Uy2 ((zs1) ++ [32]) sv (by rfl) hY.out ra sv.length rc rfl (by rfl) hR.out.seg hrn (by (try simp only [List.length_append, List.length_cons, List.length_nil]); omega) (Nat.le_trans hBw hb.out.size) ?_
    intro Uy4 U4 hY2 hg
    replace hX := hide' (kept_grown hY.out hg _ _ _ _ hX.out (by decide))
    replace hk := hide' (hk.out.trans (kept_grown hY.out hg))
    replace hb := hide' (hb.out.grown hg (Nat.le_trans hBw hb.out.size) (fun k hk => hY.out.own k hk))
    replace hY := hide' hY2
    clear hY2 hg
    show K (Act.put _ (some 27) Uy4) U4
    refine hK.out _ _ ⟨(act_row hX.out).2.2.1, (act_row hX.out).2.2.2.1, (act_row hX.out).2.2.2.2.1, (act_row hX.out).2.2.2.2.2.1, (act_row hX.out).2.2.2.2.2.2⟩ (fun hHeld => ?_)
    clear hK
    (try simp only [Act.put, List.setIfInBounds_toArray, List.set_cons_zero, List.set_cons_succ])
    refine take_yes (i := 7) 4 (v := ?_) rfl rfl (by kernel_rfl) (by kernel_rfl) (by kernel_rfl) (fun _ _ _ h => h) (by kernel_rfl) hHeld ?_ ?_
    rotate_left
    focus (intro w hSw; (try dsimp only at hSw); go_simp; (try with_reducible rfl))
    simp only [Act.put, List.setIfInBounds_toArray, List.set_cons_zero, List.set_cons_succ]
    refine wpAnyH_done (by kernel_rfl) ?_ _
    clear hHeld
    have e1 : ((zs1) ++ [32]) ++ sv = xs ++ lineA d (2, ad, jj, vv, ds) := by rw [HTxt.out, Hz1.out]; simp only [List.append_assoc]
    rw [e1] at hY
    clear e1
    go_wp2
    go_ret
    exact apEnd_of hY.out hb.out hk.out
  ·
    clear h1 h4
    have hew : (w.alloc (.cells #[.int .i64 3, .slice na ad.length np, .int .i64 jj, .int .i64 bk, .int .i64 bn, .slice a2 l2 p2, .slice a3 l3 p3, .slice a4 l4 p4, .slice xa ds.length xp] 43)).cell? ⟨0, 3, none⟩ = some (.string ⟨#[114, 101, 112, 108, 97, 99, 101]⟩) := (World.cell?_of_block (Below.heap_alloc w (.cells #[.int .i64 3, .slice na ad.length np, .int .i64 jj, .int .i64 bk, .int .i64 bn, .slice a2 l2 p2, .slice a3 l3 p3, .slice a4 l4 p4, .slice xa ds.length xp] 43) 0 HWr.out.lt)).trans (HWr.out 3 (by decide) (by decide))
    have HTxt : Hid (lineA d (3, ad, jj, vv, ds) = ((([114, 101, 112, 108, 97, 99, 101]) ++ [32]) ++ ad) ++ ([32] ++ sayV d vv)) := by show _ = _; simp [lineA, nmT]
    clear hact HWr
    generalize sayV d vv = sv at *
    go_enter Tryz.func21, Tryz.ntmps21
    go_wp2_with (at_builtin; refine wpList_append_text rfl (.tmp 5) (.tmp 9) 9 (by rfl) Tryz.underlying9 B (.slice a xs.length c) xs [114, 101, 112, 108, 97, 99, 101] (by rfl) (HB.out.alloc (.cells #[.int .i64 3, .slice na ad.length np, .int .i64 jj, .int .i64 bk, .int .i64 bn, .slice a2 l2 p2, .slice a3 l3 p3, .slice a4 l4 p4, .slice xa ds.length xp] 43)) ⟨#[114, 101, 112, 108, 97, 99, 101]⟩ (by rfl) (by simp [Byt]) (by rfl) (by simp; omega) (by simp; omega) ?_; intro y1 W1 hY0 hg0; have hY := hide' hY0; have hb : Hid (Below B w W1) := ((Below.refl _ _).alloc hBw (.cells #[.int .i64 3, .slice na ad.length np, .int .i64 jj, .int .i64 bk, .int .i64 bn, .slice a2 l2 p2, .slice a3 l3 p3, .slice a4 l4 p4, .slice xa ds.length xp] 43)).grown hg0 (by simp; omega) (fun k hk => HB.out.own k hk); have hk : Hid (Kept w W1) := (kept_alloc w (.cells #[.int .i64 3, .slice na ad.length np, .int .i64 jj, .int .i64 bk, .int .i64 bn, .slice a2 l2 p2, .slice a3 l3 p3, .slice a4 l4 p4, .slice xa ds.length xp] 43)).trans (kept_grown (HB.out.alloc (.cells #[.int .i64 3, .slice na ad.length np, .int .i64 jj, .int .i64 bk, .int .i64 bn, .slice a2 l2 p2, .slice a3 l3 p3, .slice a4 l4 p4, .slice xa ds.length xp] 43)) hg0); have hX : Hid (W1.heap[w.heap.size]? = some (.cells #[.int .i64 3, .slice na ad.length np, .int .i64 jj, .int .i64 bk, .int .i64 bn, .slice a2 l2 p2, .slice a3 l3 p3, .slice a4 l4 p4, .slice xa ds.length xp] 43 (0, 0))) := kept_grown (HB.out.alloc (.cells #[.int .i64 3, .slice na ad.length np, .int .i64 jj, .int .i64 bk, .int .i64 bn, .slice a2 l2 p2, .slice a3 l3 p3, .slice a4 l4 p4, .slice xa ds.length xp] 43)) hg0 _ _ _ _ (MapKept.heap_alloc w (.cells #[.int .i64 3, .slice na ad.length np, .int .i64 jj, .int .i64 bk, .int .i64 bn, .slice a2 l2 p2, .slice a3 l3 p3, .slice a4 l4 p4, .slice xa ds.length xp] 43)).1 (by decide); clear hY0 hg0 hew; obtain ⟨x0, x1, x3, x4, x5, x6, x7⟩ := act_row hX.out)
    go_wp2_with fail
    refine wp_region_held_drew (S := (fun wx => wx.cell? ⟨w.heap.size, 1, none⟩ = some (.slice na ad.length np))) (by kernel_rfl) x1 (fun hHeld => ?_)
    replace hY : Hid (Bts W1.drew B _ (xs ++ [114, 101, 112, 108, 97, 99, 101])) := hY.out
    replace hX : Hid (W1.drew.heap[w.heap.size]? = _) := hX.out
    replace hb : Hid (Below B w W1.drew) := hb.out.drew
    replace hk : Hid (Kept w W1.drew) := hk.out
    generalize W1.drew = V0 at *
    refine take_yes (i := 0) 11 (v := ?_) rfl rfl (by kernel_rfl) (by kernel_rfl) (by kernel_rfl) (fun _ _ _ h => h) (by kernel_rfl) hHeld ?_ ?_
    rotate_left
    focus (intro w hSw; (try dsimp only at hSw); go_simp; (try with_reducible rfl))
    simp only [Act.put, List.setIfInBounds_toArray, List.set_cons_zero, List.set_cons_succ]
    refine take_yes (i := 3) 14 (v := ?_) rfl rfl (by kernel_rfl) (by kernel_rfl) (by kernel_rfl) (fun _ _ _ h => h) (by kernel_rfl) hHeld ?_ ?_
    rotate_left
    focus (intro w hSw; (try dsimp only at hSw); go_simp; (try with_reducible rfl))
    simp only [Act.put, List.setIfInBounds_toArray, List.set_cons_zero, List.set_cons_succ]
    refine take_yes (i := 4) 15 (v := ?_) rfl rfl (by kernel_rfl) (by kernel_rfl) (by kernel_rfl) (fun _ _ _ h => h) (by kernel_rfl) hHeld ?_ ?_
    rotate_left
    focus (intro w hSw; (try dsimp only at hSw); go_simp; (try with_reducible rfl))
    simp only [Act.put, List.setIfInBounds_toArray, List.set_cons_zero, List.set_cons_succ]
    refine wpAnyH_ready (rs := [1]) (by kernel_rfl) (by simp) ?_
    refine AllReadyH.cons rfl (fun K hK => ?_) AllReadyH.nil
    go_simp
    have hL := hide' (LitB.seg (c := 32) (MapKept.heap_alloc V0 (.cells #[.int .u8 32] 5)).1 (by simp [Byt]))
    replace hY := hide' (hY.out.alloc (.cells #[.int .u8 32] 5))
    replace hX := hide' (kept_alloc V0 (.cells #[.int .u8 32] 5) _ _ _ _ hX.out (by decide))
    replace hb := hide' (hb.out.alloc (Nat.le_trans hBw hb.out.size) (.cells #[.int .u8 32] 5))
    replace hk := hide' (hk.out.trans (kept_alloc V0 (.cells #[.int .u8 32] 5)))
    refine hK.out _ _ (act_row hX.out).2.1 (fun hHeld => ?_)
    clear hK
    (try simp only [Act.put, List.setIfInBounds_toArray, List.set_cons_zero, List.set_cons_succ])
    generalize V0.alloc (.cells #[.int .u8 32] 5) = V1 at *
    generalize V0.heap.size = gL0 at *
    refine wpAnyH_ready (rs := [2]) (by kernel_rfl) (by simp) ?_
    refine AllReadyH.cons rfl (fun K hK => ?_) AllReadyH.nil
    refine step_append_seg (by rfl) (.tmp 11) (.tmp 12) (by rfl) B y1 (xs ++ [114, 101, 112, 108, 97, 99, 101]) [32] (by rfl) hY.out (some ⟨_, 0, none⟩) 1 1 rfl (by rfl) hL.out (by simp) (by (try simp only [List.length_append, List.length_cons, List.length_nil]); omega) (Nat.le_trans hBw hb.out.size) ?_
    intro Vy2 V2 hY2 hg
    replace hX := hide' (kept_grown hY.out hg _ _ _ _ hX.out (by decide))
    replace hk := hide' (hk.out.trans (kept_grown hY.out hg))
    replace hb := hide' (hb.out.grown hg (Nat.le_trans hBw hb.out.size) (fun k hk => hY.out.own k hk))
    replace hY := hide' hY2
    clear hY2 hg hL
    show K (Act.put _ (some 13) Vy2) V2
    refine hK.out _ _ (act_row hX.out).2.1 (fun hHeld => ?_)
    clear hK
    (try simp only [Act.put, List.setIfInBounds_toArray, List.set_cons_zero, List.set_cons_succ])
    refine wpAnyH_ready (rs := [5]) (by kernel_rfl) (by simp) ?_
    refine AllReadyH.cons rfl (fun K hK => ?_) AllReadyH.nil
    refine step_append_seg (by rfl) (.tmp 13) (.tmp 15) (by rfl) B Vy2 ((xs ++ [114, 101, 112, 108, 97, 99, 101]) ++ [32]) ad (by rfl) hY.out na ad.length np rfl (by rfl) (HSa.out _ hb.out) hna (by (try simp only [List.length_append, List.length_cons, List.length_nil]); omega) (Nat.le_trans hBw hb.out.size) ?_
    intro Vy3 V3 hY2 hg
    replace hX := hide' (kept_grown hY.out hg _ _ _ _ hX.out (by decide))
    replace hk := hide' (hk.out.trans (kept_grown hY.out hg))
    replace hb := hide' (hb.out.grown hg (Nat.le_trans hBw hb.out.size) (fun k hk => hY.out.own k hk))
    replace hY := hide' hY2
    clear hY2 hg
    show K (Act.put _ (some 16) Vy3) V3
    refine hK.out _ _ (act_row hX.out).2.1 (fun hHeld => ?_)
    clear hK
    (try simp only [Act.put, List.setIfInBounds_toArray, List.set_cons_zero, List.set_cons_succ])
    refine take_yes (i := 6) 0 (v := ?_) rfl rfl (by kernel_rfl) (by kernel_rfl) (by kernel_rfl) (fun _ _ _ h => h) (by kernel_rfl) hHeld ?_ ?_
    rotate_left
    focus (intro w hSw; (try dsimp only at hSw); go_simp; (try with_reducible rfl))
    simp only [Act.put, List.setIfInBounds_toArray, List.set_cons_zero, List.set_cons_succ]
    refine wpAnyH_done (by kernel_rfl) ?_ _
    clear hHeld
    clear x0 x1 x3 x4 x5 x6 x7
    obtain ⟨x0, x1, x3, x4, x5, x6, x7⟩ := act_row hX.out
    obtain ⟨zs1, hz1⟩ : ∃ zs1, zs1 = ((xs ++ [114, 101, 112, 108, 97, 99, 101]) ++ [32]) ++ ad := ⟨_, rfl⟩
    rw [← hz1] at hY
    have hz1l : zs1.length ≤ 900000 := by rw [hz1]; simp only [List.length_append, List.length_cons, List.length_nil]; omega
    have Hz1 := hide' hz1
    clear hz1
    go_wp2_with fail
    refine wp_region_held_drew (S := (fun wx => wx.cell? ⟨w.heap.size, 3, none⟩ = some (.int .i64 bk) ∧ wx.cell? ⟨w.heap.size, 4, none⟩ = some (.int .i64 bn) ∧ wx.cell? ⟨w.heap.size, 5, none⟩ = some (.slice a2 l2 p2) ∧ wx.cell? ⟨w.heap.size, 6, none⟩ = some (.slice a3 l3 p3) ∧ wx.cell? ⟨w.heap.size, 7, none⟩ = some (.slice a4 l4 p4))) (by kernel_rfl) ⟨x3, x4, x5, x6, x7⟩ (fun hHeld => ?_)
    replace hY : Hid (Bts V3.drew B _ (zs1)) := hY.out
    replace hX : Hid (V3.drew.heap[w.heap.size]? = _) := hX.out
    replace hb : Hid (Below B w V3.drew) := hb.out.drew
    replace hk : Hid (Kept w V3.drew) := hk.out
    generalize V3.drew = U0 at *
    refine take_yes (i := 0) 21 (v := ?_) rfl rfl (by kernel_rfl) (by kernel_rfl) (by kernel_rfl) (fun _ _ _ h => h) (by kernel_rfl) hHeld ?_ ?_
    rotate_left
    focus (intro w hSw; (try dsimp only at hSw); go_simp; (try with_reducible rfl))
    simp only [Act.put, List.setIfInBounds_toArray, List.set_cons_zero, List.set_cons_succ]
    refine take_yes (i := 3) 24 (v := ?_) rfl rfl (by kernel_rfl) (by kernel_rfl) (by kernel_rfl) (fun _ _ _ h => h) (by kernel_rfl) hHeld ?_ ?_
    rotate_left
    focus (intro w hSw; (try dsimp only at hSw); go_simp; (try with_reducible rfl))
    simp only [Act.put, List.setIfInBounds_toArray, List.set_cons_zero, List.set_cons_succ]
    refine take_yes (i := 4) 25 (v := ?_) rfl rfl (by kernel_rfl) (by kernel_rfl) (by kernel_rfl) (fun _ _ _ h => h) (by kernel_rfl) hHeld ?_ ?_
    rotate_left
    focus (intro w hSw; (try dsimp only at hSw); go_simp; (try with_reducible rfl))
    simp only [Act.put, List.setIfInBounds_toArray, List.set_cons_zero, List.set_cons_succ]
    refine wpAnyH_ready (rs := [1]) (by kernel_rfl) (by simp) ?_
    refine AllReadyH.cons rfl (fun K hK => ?_) AllReadyH.nil
    go_simp
    have hL := hide' (LitB.seg (c := 32) (MapKept.heap_alloc U0 (.cells #[.int .u8 32] 5)).1 (by simp [Byt]))
    replace hY := hide' (hY.out.alloc (.cells #[.int .u8 32] 5))
    replace hX := hide' (kept_alloc U0 (.cells #[.int .u8 32] 5) _ _ _ _ hX.out (by decide))
    replace hb := hide' (hb.out.alloc (Nat.le_trans hBw hb.out.size) (.cells #[.int .u8 32] 5))
    replace hk := hide' (hk.out.trans (kept_alloc U0 (.cells #[.int .u8 32] 5)))
    refine hK.out _ _ ⟨(act_row hX.out).2.2.1, (act_row hX.out).2.2.2.1, (act_row hX.out).2.2.2.2.1, (act_row hX.out).2.2.2.2.2.1, (act_row hX.out).2.2.2.2.2.2⟩ (fun hHeld => ?_)
    clear hK
    (try simp only [Act.put, List.setIfInBounds_toArray, List.set_cons_zero, List.set_cons_succ])
    generalize U0.alloc (.cells #[.int .u8 32] 5) = U1 at *
    generalize U0.heap.size = gL0 at *
    refine wpAnyH_ready (rs := [2]) (by kernel_rfl) (by simp) ?_
    refine AllReadyH.cons rfl (fun K hK => ?_) AllReadyH.nil
    refine step_append_seg (by rfl) (.tmp 21) (.tmp 22) (by rfl) B Vy3 (zs1) [32] (by rfl) hY.out (some ⟨_, 0, none⟩) 1 1 rfl (by rfl) hL.out (by simp) (by (try simp only [List.length_append, List.length_cons, List.length_nil]); omega) (Nat.le_trans hBw hb.out.size) ?_
    intro Uy2 U2 hY2 hg
    replace hX := hide' (kept_grown hY.out hg _ _ _ _ hX.out (by decide))
    replace hk := hide' (hk.out.trans (kept_grown hY.out hg))
    replace hb := hide' (hb.out.grown hg (Nat.le_trans hBw hb.out.size) (fun k hk => hY.out.own k hk))
    replace hY := hide' hY2
    clear hY2 hg hL
    show K (Act.put _ (some 23) Uy2) U2
    refine hK.out _ _ ⟨(act_row hX.out).2.2.1, (act_row hX.out).2.2.2.1, (act_row hX.out).2.2.2.2.1, (act_row hX.out).2.2.2.2.2.1, (act_row hX.out).2.2.2.2.2.2⟩ (fun hHeld => ?_)
    clear hK
    (try simp only [Act.put, List.setIfInBounds_toArray, List.set_cons_zero, List.set_cons_succ])
    refine wpAnyH_ready (rs := [5]) (by kernel_rfl) (by simp) ?_
    refine AllReadyH.cons rfl (fun K hK => ?_) AllReadyH.nil
    go_simp
    go_at_call 33
    refine (HVt.out _ hb.out).mono ?_
    rintro e U3 ⟨ra, rc, rfl, hRs, hbn⟩
    have hrn : ra = none → rc = 0 := by
      obtain ⟨_, _, e1, _, _, _, _, e2⟩ := hRs.shape
      simp only [Value.slice.injEq] at e1
      obtain ⟨rfl, _, rfl⟩ := e1
      exact e2
    have hR := hide' hRs
    clear hRs
    replace hY := hide' (hY.out.grow hbn)
    replace hX := hide' (kept_below hbn _ _ _ _ hX.out (by decide))
    replace hk := hide' (hk.out.trans (kept_below hbn))
    replace hb := hide' (hb.out.trans (hbn.mono (Nat.le_trans hBw hb.out.size)))
    clear hbn
    go_wp2_with fail
    refine hK.out _ _ ⟨(act_row hX.out).2.2.1, (act_row hX.out).2.2.2.1, (act_row hX.out).2.2.2.2.1, (act_row hX.out).2.2.2.2.2.1, (act_row hX.out).2.2.2.2.2.2⟩ (fun hHeld => ?_)
    clear hK
    (try simp only [Act.put, List.setIfInBounds_toArray, List.set_cons_zero, List.set_cons_succ])
    refine wpAnyH_ready (rs := [6]) (by kernel_rfl) (by simp) ?_
    refine AllReadyH.cons rfl (fun K hK => ?_) AllReadyH.nil
    refine step_append_seg (by rfl) (.tmp 23) (.tmp 26) (by rfl) B Uy2 ((zs1) ++ [32]) sv (by rfl) hY.out ra sv.length rc rfl (by rfl) hR.out.seg hrn (by (try simp only [List.length_append, List.length_cons, List.length_nil]); omega) (Nat.le_trans hBw hb.out.size) ?_
    intro Uy4 U4 hY2 hg
    replace hX := hide' (kept_grown hY.out hg _ _ _ _ hX.out (by decide))
    replace hk := hide' (hk.out.trans (kept_grown hY.out hg))
    replace hb := hide' (hb.out.grown hg (Nat.le_trans hBw hb.out.size) (fun k hk => hY.out.own k hk))
    replace hY := hide' hY2
    clear hY2 hg
    show K (Act.put _ (some 27) Uy4) U4
    refine hK.out _ _ ⟨(act_row hX.out).2.2.1, (act_row hX.out).2.2.2.1, (act_row hX.out).2.2.2.2.1, (act_row hX.out).2.2.2.2.2.1, (act_row hX.out).2.2.2.2.2.2⟩ (fun hHeld => ?_)
    clear hK
    (try simp only [Act.put, List.setIfInBounds_toArray, List.set_cons_zero, List.set_cons_succ])
    refine take_yes (i := 7) 4 (v := ?_) rfl rfl (by kernel_rfl) (by kernel_rfl) (by kernel_rfl) (fun _ _ _ h => h) (by kernel_rfl) hHeld ?_ ?_
    rotate_left
    focus (intro w hSw; (try dsimp only at hSw); go_simp; (try with_reducible rfl))
    simp only [Act.put, List.setIfInBounds_toArray, List.set_cons_zero, List.set_cons_succ]
    refine wpAnyH_done (by kernel_rfl) ?_ _
    clear hHeld
    have e1 : ((zs1) ++ [32]) ++ sv = xs ++ lineA d (3, ad, jj, vv, ds) := by rw [HTxt.out, Hz1.out]; simp only [List.append_assoc]
    rw [e1] at hY
    clear e1
    go_wp2
    go_ret
    exact apEnd_of hY.out hb.out hk.out
  ·
    clear h1 h4
    have hew : (w.alloc (.cells #[.int .i64 4, .slice na ad.length np, .int .i64 jj, .int .i64 bk, .int .i64 bn, .slice a2 l2 p2, .slice a3 l3 p3, .slice a4 l4 p4, .slice xa ds.length xp] 43)).cell? ⟨0, 4, none⟩ = some (.string ⟨#[100, 101, 108, 101, 116, 101]⟩) := (World.cell?_of_block (Below.heap_alloc w (.cells #[.int .i64 4, .slice na ad.length np, .int .i64 jj, .int .i64 bk, .int .i64 bn, .slice a2 l2 p2, .slice a3 l3 p3, .slice a4 l4 p4, .slice xa ds.length xp] 43) 0 HWr.out.lt)).trans (HWr.out 4 (by decide) (by decide))
    have HTxt : Hid (lineA d (4, ad, jj, vv, ds) = (([100, 101, 108, 101, 116, 101]) ++ [32]) ++ ad) := by show _ = _; simp [lineA, nmT]
    clear hact HWr
    go_enter Tryz.func21, Tryz.ntmps21
    go_wp2_with (at_builtin; refine wpList_append_text rfl (.tmp 5) (.tmp 9) 9 (by rfl) Tryz.underlying9 B (.slice a xs.length c) xs [100, 101, 108, 101, 116, 101] (by rfl) (HB.out.alloc (.cells #[.int .i64 4, .slice na ad.length np, .int .i64 jj, .int .i64 bk, .int .i64 bn, .slice a2 l2 p2, .slice a3 l3 p3, .slice a4 l4 p4, .slice xa ds.length xp] 43)) ⟨#[100, 101, 108, 101, 116, 101]⟩ (by rfl) (by simp [Byt]) (by rfl) (by simp; omega) (by simp; omega) ?_; intro y1 W1 hY0 hg0; have hY := hide' hY0; have hb : Hid (Below B w W1) := ((Below.refl _ _).alloc hBw (.cells #[.int .i64 4, .slice na ad.length np, .int .i64 jj, .int .i64 bk, .int .i64 bn, .slice a2 l2 p2, .slice a3 l3 p3, .slice a4 l4 p4, .slice xa ds.length xp] 43)).grown hg0 (by simp; omega) (fun k hk => HB.out.own k hk); have hk : Hid (Kept w W1) := (kept_alloc w (.cells #[.int .i64 4, .slice na ad.length np, .int .i64 jj, .int .i64 bk, .int .i64 bn, .slice a2 l2 p2, .slice a3 l3 p3, .slice a4 l4 p4, .slice xa ds.length xp] 43)).trans (kept_grown (HB.out.alloc (.cells #[.int .i64 4, .slice na ad.length np, .int .i64 jj, .int .i64 bk, .int .i64 bn, .slice a2 l2 p2, .slice a3 l3 p3, .slice a4 l4 p4, .slice xa ds.length xp] 43)) hg0); have hX : Hid (W1.heap[w.heap.size]? = some (.cells #[.int .i64 4, .slice na ad.length np, .int .i64 jj, .int .i64 bk, .int .i64 bn, .slice a2 l2 p2, .slice a3 l3 p3, .slice a4 l4 p4, .slice xa ds.length xp] 43 (0, 0))) := kept_grown (HB.out.alloc (.cells #[.int .i64 4, .slice na ad.length np, .int .i64 jj, .int .i64 bk, .int .i64 bn, .slice a2 l2 p2, .slice a3 l3 p3, .slice a4 l4 p4, .slice xa ds.length xp] 43)) hg0 _ _ _ _ (MapKept.heap_alloc w (.cells #[.int .i64 4, .slice na ad.length np, .int .i64 jj, .int .i64 bk, .int .i64 bn, .slice a2 l2 p2, .slice a3 l3 p3, .slice a4 l4 p4, .slice xa ds.length xp] 43)).1 (by decide); clear hY0 hg0 hew; obtain ⟨x0, x1, x3, x4, x5, x6, x7⟩ := act_row hX.out)
    go_wp2_with fail
    refine wp_region_held_drew (S := (fun wx => wx.cell? ⟨w.heap.size, 1, none⟩ = some (.slice na ad.length np))) (by kernel_rfl) x1 (fun hHeld => ?_)
    replace hY : Hid (Bts W1.drew B _ (xs ++ [100, 101, 108, 101, 116, 101])) := hY.out
    replace hX : Hid (W1.drew.heap[w.heap.size]? = _) := hX.out
    replace hb : Hid (Below B w W1.drew) := hb.out.drew
    replace hk : Hid (Kept w W1.drew) := hk.out
    generalize W1.drew = V0 at *
    refine take_yes (i := 0) 11 (v := ?_) rfl rfl (by kernel_rfl) (by kernel_rfl) (by kernel_rfl) (fun _ _ _ h => h) (by kernel_rfl) hHeld ?_ ?_
    rotate_left
    focus (intro w hSw; (try dsimp only at hSw); go_simp; (try with_reducible rfl))
    simp only [Act.put, List.setIfInBounds_toArray, List.set_cons_zero, List.set_cons_succ]
    refine take_yes (i := 3) 14 (v := ?_) rfl rfl (by kernel_rfl) (by kernel_rfl) (by kernel_rfl) (fun _ _ _ h => h) (by kernel_rfl) hHeld ?_ ?_
    rotate_left
    focus (intro w hSw; (try dsimp only at hSw); go_simp; (try with_reducible rfl))
    simp only [Act.put, List.setIfInBounds_toArray, List.set_cons_zero, List.set_cons_succ]
    refine take_yes (i := 4) 15 (v := ?_) rfl rfl (by kernel_rfl) (by kernel_rfl) (by kernel_rfl) (fun _ _ _ h => h) (by kernel_rfl) hHeld ?_ ?_
    rotate_left
    focus (intro w hSw; (try dsimp only at hSw); go_simp; (try with_reducible rfl))
    simp only [Act.put, List.setIfInBounds_toArray, List.set_cons_zero, List.set_cons_succ]
    refine wpAnyH_ready (rs := [1]) (by kernel_rfl) (by simp) ?_
    refine AllReadyH.cons rfl (fun K hK => ?_) AllReadyH.nil
    go_simp
    have hL := hide' (LitB.seg (c := 32) (MapKept.heap_alloc V0 (.cells #[.int .u8 32] 5)).1 (by simp [Byt]))
    replace hY := hide' (hY.out.alloc (.cells #[.int .u8 32] 5))
    replace hX := hide' (kept_alloc V0 (.cells #[.int .u8 32] 5) _ _ _ _ hX.out (by decide))
    replace hb := hide' (hb.out.alloc (Nat.le_trans hBw hb.out.size) (.cells #[.int .u8 32] 5))
    replace hk := hide' (hk.out.trans (kept_alloc V0 (.cells #[.int .u8 32] 5)))
    refine hK.out _ _ (act_row hX.out).2.1 (fun hHeld => ?_)
    clear hK
    (try simp only [Act.put, List.setIfInBounds_toArray, List.set_cons_zero, List.set_cons_succ])
    generalize V0.alloc (.cells #[.int .u8 32] 5) = V1 at *
    generalize V0.heap.size = gL0 at *
    refine wpAnyH_ready (rs := [2]) (by kernel_rfl) (by simp) ?_
    refine AllReadyH.cons rfl (fun K hK => ?_) AllReadyH.nil
    refine step_append_seg (by rfl) (.tmp 11) (.tmp 12) (by rfl) B y1 (xs ++ [100, 101, 108, 101, 116, 101]) [32] (by rfl) hY.out (some ⟨_, 0, none⟩) 1 1 rfl (by rfl) hL.out (by simp) (by (try simp only [List.length_append, List.length_cons, List.length_nil]); omega) (Nat.le_trans hBw hb.out.size) ?_
    intro Vy2 V2 hY2 hg
    replace hX := hide' (kept_grown hY.out hg _ _ _ _ hX.out (by decide))
    replace hk := hide' (hk.out.trans (kept_grown hY.out hg))
    replace hb := hide' (hb.out.grown hg (Nat.le_trans hBw hb.out.size) (fun k hk => hY.out.own k hk))
    replace hY := hide' hY2
    clear hY2 hg hL
    show K (Act.put _ (some 13) Vy2) V2
    refine hK.out _ _ (act_row hX.out).2.1 (fun hHeld => ?_)
    clear hK
    (try simp only [Act.put, List.setIfInBounds_toArray, List.set_cons_zero, List.set_cons_succ])
    refine wpAnyH_ready (rs := [5]) (by kernel_rfl) (by simp) ?_
    refine AllReadyH.cons rfl (fun K hK => ?_) AllReadyH.nil
    refine step_append_seg (by rfl) (.tmp 13) (.tmp 15) (by rfl) B Vy2 ((xs ++ [100, 101, 108, 101, 116, 101]) ++ [32]) ad (by rfl) hY.out na ad.length np rfl (by rfl) (HSa.out _ hb.out) hna (by (try simp only [List.length_append, List.length_cons, List.length_nil]); omega) (Nat.le_trans hBw hb.out.size) ?_
    intro Vy3 V3 hY2 hg
    replace hX := hide' (kept_grown hY.out hg _ _ _ _ hX.out (by decide))
    replace hk := hide' (hk.out.trans (kept_grown hY.out hg))
    replace hb := hide' (hb.out.grown hg (Nat.le_trans hBw hb.out.size) (fun k hk => hY.out.own k hk))
    replace hY := hide' hY2
    clear hY2 hg
    show K (Act.put _ (some 16) Vy3) V3
    refine hK.out _ _ (act_row hX.out).2.1 (fun hHeld => ?_)
    clear hK
    (try simp only [Act.put, List.setIfInBounds_toArray, List.set_cons_zero, List.set_cons_succ])
    refine take_yes (i := 6) 0 (v := ?_) rfl rfl (by kernel_rfl) (by kernel_rfl) (by kernel_rfl) (fun _ _ _ h => h) (by kernel_rfl) hHeld ?_ ?_
    rotate_left
    focus (intro w hSw; (try dsimp only at hSw); go_simp; (try with_reducible rfl))
    simp only [Act.put, List.setIfInBounds_toArray, List.set_cons_zero, List.set_cons_succ]
    refine wpAnyH_done (by kernel_rfl) ?_ _
    clear hHeld
    clear x0 x1 x3 x4 x5 x6 x7
    obtain ⟨x0, x1, x3, x4, x5, x6, x7⟩ := act_row hX.out
    have e1 : ((xs ++ [100, 101, 108, 101, 116, 101]) ++ [32]) ++ ad = xs ++ lineA d (4, ad, jj, vv, ds) := by rw [HTxt.out]; simp only [List.append_assoc]
    rw [e1] at hY
    clear e1
    go_wp2
    go_ret
    exact apEnd_of hY.out hb.out hk.out

/-- What PlanText of the program has left behind k acts. -/
def PLi (w : World) (o : Obj) (d : Nat) (l : List (Rcd d)) (k : Nat) (y : Value) (wr : World) : Prop := Bts wr (w.heap.size + 1) y (preA d l k) ∧ Below w.heap.size w wr ∧ wr.heap[w.heap.size]? = some o

set_option maxHeartbeats 12800000 in
set_option maxRecDepth 100000 in
theorem impl_PlanText_any (d N : Nat) (x : Value) (l : List (Rcd d)) (s : Int) (w : World) (hx : RLSg (fun b => b < N) w d x l) (hN : N ≤ w.heap.size) (hz : ∀ i (h : i < l.length), RSz d l[i]) (hE : Errs w) (hWr : WrdA w) (ht : Tab w.heap.size w) :
    Calls Tryz.prog 7 #[.agg #[x, .int .i64 s]] w (TxEnd (planT d l s) w) := by
  have HX := hide' hx
  have HWr := hide' hWr
  have HTab := hide' ht
  have HA : Hid (∀ o : Obj, Below w.heap.size w (w.alloc o)) := fun o => (Below.refl _ _).alloc (Nat.le_refl _) o
  have Hbox : Hid (∀ o wx, Below (w.alloc o).heap.size (w.alloc o) wx → wx.heap[w.heap.size]? = some o) := fun o wx h => box_row h
  have HC : Hid (∀ o : Obj, Calls Tryz.prog 20 #[.agg #[x, .int .i64 s]] (w.alloc o) fun e w' => e = .returned (.bool (planB d l s)) ∧ Below (w.alloc o).heap.size (w.alloc o) w') := fun o => impl_planOk_any d N x l s (w.alloc o) (hx.agree (agree_below ((HA.out o).mono hN))) (by have := (HA.out o).size; omega) hz (hE.grow (HA.out o))
  obtain ⟨a, cap, rfl, hlc, hcm, _, _⟩ := hx
  unfold maxLen at hcm
  clear hz hE hWr ht
  show Calls _ _ _ _ fun e w' => TxEnd (planT d l s) w e w'
  cases hp : planB d l s with
  | false =>
    have HF := hide' (planT_no hp)
    rw [hp] at HC
    clear hp
    go_enter Tryz.func7, Tryz.ntmps7
    go_wp2_with fail
    refine (HC.out _).mono ?_
    rintro e w1 ⟨rfl, b1⟩
    have B1 := hide' (Below.on (HA.out _) b1)
    clear b1
    go_wp2
    go_ret
    rw [HF.out]
    exact ⟨none, 0, rfl, bts_nil _ _, B1.out⟩
  | true =>
  rw [hp] at HC
  have hpp := hp
  unfold planB at hpp
  simp only [Bool.and_eq_true, decide_eq_true_eq, List.all_eq_true] at hpp
  obtain ⟨hl32, hs0, hs16, hall⟩ := hpp
  have HAll : Hid (∀ j (h : j < l.length), actB d l[j] = true) := fun j h => hall _ (List.getElem_mem h)
  have HSh : Hid (∀ k, k ≤ l.length → (preA d l k).length ≤ 80000) := fun k hk => by have := preA_short k hk (fun j hj _ => HAll.out j hj); omega
  have HT : Hid (planT d l s = ((preA d l l.length ++ [107, 101, 101, 112, 32]) ++ intT s) ++ [10]) := by
    show _ = _
    unfold planT intT
    rw [if_pos hp, if_neg (by omega)]
  clear hp hall
  go_enter Tryz.func7, Tryz.ntmps7
  go_wp2_with fail
  refine (HC.out _).mono ?_
  rintro e w1 ⟨rfl, b1⟩
  have hX1 := Hbox.out _ _ b1
  have H0 : Hid (PLi w (.cells #[.slice a l.length cap, .int .i64 s] 30) d l 0 (.slice none 0 0) w1) := ⟨by rw [preA_zero]; exact bts_nil _ _, Below.on (HA.out _) b1, hX1⟩
  obtain ⟨q0, q1⟩ := two_row hX1
  clear b1 HC Hbox hX1
  go_wp2_with fail
  go_loopw [3, 12, 5] (fun y i _ wr => ∃ k : Nat, k ≤ l.length ∧ i = .int .i64 k ∧ Hid (PLi w (.cells #[.slice a l.length cap, .int .i64 s] 30) d l k y wr)) (fun _ i _ _ => l.length - (intOf i).toNat)
  case atStart => exact ⟨0, Nat.zero_le _, rfl, H0⟩
  case round =>
    clear H0 q0 q1
    obtain ⟨k, hk, rfl, hS⟩ := hrel
    obtain ⟨hYr, hbr, hXr⟩ := hS.out
    have hzs := HSh.out k hk
    have hX : Hid (wr.heap[w.heap.size]? = some (.cells #[.slice a l.length cap, .int .i64 s] 30 (0, 0))) := hXr
    obtain ⟨g0, g1⟩ := two_row hXr
    have hz := hbr.size
    have hxl : w.heap.size < wr.heap.size := (Array.getElem?_eq_some_iff.1 hXr).1
    by_cases hlt : k < l.length
    rotate_left
    · have hkn : k = l.length := by omega
      have hlt' : ¬ (k : Int) < (l.length : Int) := by omega
      have HT2 : Hid (planT d l s = ((preA d l k ++ [107, 101, 101, 112, 32]) ++ intT s) ++ [10]) := by show _ = _; rw [HT.out, hkn]
      have hY := hide' hYr
      have hb := hide' hbr
      have hil := intT_len s (by omega) (by omega)
      generalize preA d l k = zs at *
      clear hkn hS hYr hbr hXr HT
      go_wp2_with fail
      refine wp_region_held_drew (S := (fun wx => wx.cell? ⟨w.heap.size, 1, none⟩ = some (.int .i64 s))) (by kernel_rfl) g1 (fun hHeld => ?_)
      replace hY : Hid (Bts wr.drew (w.heap.size + 1) _ (zs)) := hY.out
      replace hX : Hid (wr.drew.heap[w.heap.size]? = _) := hX.out
      replace hb : Hid (Below w.heap.size w wr.drew) := hb.out.drew
      generalize wr.drew = V0 at *
      refine take_yes (i := 0) 22 (v := ?_) rfl rfl (by kernel_rfl) (by kernel_rfl) (by kernel_rfl) (fun _ _ _ h => h) (by kernel_rfl) hHeld ?_ ?_
      rotate_left
      focus (intro w hSw; (try dsimp only at hSw); go_simp; (try with_reducible rfl))
      simp only [Act.put, List.setIfInBounds_toArray, List.set_cons_zero, List.set_cons_succ]
      refine take_yes (i := 2) 24 (v := ?_) rfl rfl (by kernel_rfl) (by kernel_rfl) (by kernel_rfl) (fun _ _ _ h => h) (by kernel_rfl) hHeld ?_ ?_
      rotate_left
      focus (intro w hSw; (try dsimp only at hSw); go_simp; (try with_reducible rfl))
      simp only [Act.put, List.setIfInBounds_toArray, List.set_cons_zero, List.set_cons_succ]
      refine take_yes (i := 3) 25 (v := ?_) rfl rfl (by kernel_rfl) (by kernel_rfl) (by kernel_rfl) (fun _ _ _ h => h) (by kernel_rfl) hHeld ?_ ?_
      rotate_left
      focus (intro w hSw; (try dsimp only at hSw); go_simp; (try with_reducible rfl))
      simp only [Act.put, List.setIfInBounds_toArray, List.set_cons_zero, List.set_cons_succ]
      refine wpAnyH_ready (rs := [1]) (by kernel_rfl) (by simp) ?_
      refine AllReadyH.cons rfl (fun K hK => ?_) AllReadyH.nil
      refine step_append_text (by rfl) (.tmp 22) _ 9 (by rfl) Tryz.underlying9 (w.heap.size + 1) u3 (zs) [107, 101, 101, 112, 32] (by rfl) hY.out ⟨#[107, 101, 101, 112, 32]⟩ (by rfl) (by simp [Byt]) (by rfl) (by (try simp only [List.length_append, List.length_cons, List.length_nil]); omega) (Array.getElem?_eq_some_iff.1 hX.out).1 ?_
      intro Vy1 V1 hY2 hg
      replace hX := hide' (kept_grown hY.out hg _ _ _ _ hX.out (by decide))
      replace hb := hide' (hb.out.grown hg hb.out.size (fun k hk => by have := hY.out.own k hk; omega))
      replace hY := hide' hY2
      clear hY2 hg
      show K (Act.put _ (some 23) Vy1) V1
      refine hK.out _ _ (two_row hX.out).2 (fun hHeld => ?_)
      clear hK
      (try simp only [Act.put, List.setIfInBounds_toArray, List.set_cons_zero, List.set_cons_succ])
      refine wpAnyH_ready (rs := [4]) (by kernel_rfl) (by simp) ?_
      refine AllReadyH.cons rfl (fun K hK => ?_) AllReadyH.nil
      go_simp
      go_at_call 22
      refine (AppendInt_any (w.heap.size + 1) s _ _ _ (by omega) (by omega) hY.out (Array.getElem?_eq_some_iff.1 hX.out).1 (by simp; omega) (fun w' h' => HTab.out w' (hb.out.trans (h'.mono (by omega))))).mono ?_
      rintro e V2 ⟨pa, pc, rfl, hYn, hbn, hkn⟩
      replace hX := hide' (hkn _ _ _ _ hX.out (by decide))
      replace hb := hide' (hb.out.trans (hbn.mono (by omega)))
      replace hY := hide' hYn
      clear hYn hbn hkn
      go_wp2_with fail
      refine hK.out _ _ (two_row hX.out).2 (fun hHeld => ?_)
      clear hK
      (try simp only [Act.put, List.setIfInBounds_toArray, List.set_cons_zero, List.set_cons_succ])
      refine take_yes (i := 5) 3 (v := ?_) rfl rfl (by kernel_rfl) (by kernel_rfl) (by kernel_rfl) (fun _ _ _ h => h) (by kernel_rfl) hHeld ?_ ?_
      rotate_left
      focus (intro w hSw; (try dsimp only at hSw); go_simp; (try with_reducible rfl))
      simp only [Act.put, List.setIfInBounds_toArray, List.set_cons_zero, List.set_cons_succ]
      refine wpAnyH_done (by kernel_rfl) ?_ _
      clear hHeld
      have e1 : ((zs) ++ [107, 101, 101, 112, 32]) ++ intT s = (zs ++ [107, 101, 101, 112, 32]) ++ intT s := rfl
      rw [e1] at hY
      clear e1
      obtain ⟨zs2, hz2⟩ : ∃ zs2, zs2 = (zs ++ [107, 101, 101, 112, 32]) ++ intT s := ⟨_, rfl⟩
      have hz2l : zs2.length ≤ 90000 := by rw [hz2]; simp only [List.length_append, List.length_cons, List.length_nil]; omega
      have hYL : Hid (Bts V2 (w.heap.size + 1) (.slice pa zs2.length pc) zs2) := by rw [hz2]; exact hY.out
      have HT3 : Hid (planT d l s = zs2 ++ [10]) := by rw [hz2]; exact HT2.out
      have hLn : Hid (zs2.length = ((zs ++ [107, 101, 101, 112, 32]) ++ intT s).length) := by rw [hz2]; rfl
      clear hY HT2 hz2
      rw [show zs.length + ((intT s).length + 1 + 1 + 1 + 1 + 1) = zs2.length by rw [hLn.out]; simp only [List.length_append, List.length_cons, List.length_nil]; omega]
      have hxV := (Array.getElem?_eq_some_iff.1 hX.out).1
      go_wp2_with (at_builtin; refine wpList_append_seg rfl (.tmp 27) (.tmp 28) (by rfl) (w.heap.size + 1) (.slice pa zs2.length pc) zs2 [10] (by rfl) (hYL.out.alloc (.cells #[.int .u8 10] 5)) (some ⟨V2.heap.size, 0, none⟩) 1 1 rfl (by rfl) (LitB.seg (c := 10) (MapKept.heap_alloc V2 (.cells #[.int .u8 10] 5)).1 (by simp [Byt])) (by simp) (by (try simp only [List.length_append, List.length_cons, List.length_nil]); omega) (by simp; omega) ?_; intro yz Vz hYz hgz; have HFb : Hid (Below w.heap.size w Vz) := (hb.out.alloc hb.out.size (.cells #[.int .u8 10] 5)).grown hgz (by have := hb.out.size; simp; omega) (fun k hk => by have := hYL.out.own k hk; omega); have HFy := hide' hYz; clear hYz hgz)
      obtain ⟨fa, fc, hfe, -⟩ := HFy.out.shape
      subst hfe
      go_ret
      rw [HT3.out]
      exact ⟨fa, fc, rfl, HFy.out.mono (by omega), HFb.out⟩
    have hlt' : (k : Int) < (l.length : Int) := by omega
    obtain ⟨b, off, cs, rfl, hbN, hr, hsg⟩ := (HX.out.agree (agree_below (hbr.mono hN))).at hlt
    have HPre : Hid (preA d l (k + 1) = (preA d l k ++ lineA d l[k]) ++ [10]) := by show _ = _; rw [preA_succ d l k hlt, actT_line, List.append_assoc]
    have hll := line_len (HAll.out k hlt)
    obtain ⟨na, np, bk, bn, a2, l2, p2, a3, l3, p3, a4, l4, p4, xa, xp, hcs, -, -, -⟩ := hsg.form
    obtain ⟨ya, yc, hye, -, -, -, -, -⟩ := hYr.shape
    subst hye
    have HAp : Hid (∀ o : Obj, Calls Tryz.prog 21 #[.slice ya (preA d l k).length yc, .agg cs.toArray] (wr.alloc o) (ApEnd (w.heap.size + 1) (preA d l k ++ lineA d l[k]) (wr.alloc o))) := fun o => appendAct_any d w.heap.size (w.heap.size + 1) ya yc (preA d l k) cs l[k] (wr.alloc o) ((hsg.mono (fun b hb => by omega)).agree (fun b hb => Below.heap_alloc wr o b (by omega))) (by omega) (by simp; omega) (hYr.alloc o) (HAll.out k hlt) (by omega) ((HWr.out.below HWr.out.lt hbr).below (by have := HWr.out.lt; omega) ((Below.refl wr.heap.size wr).alloc (Nat.le_refl _) o)) (fun w' h' => HTab.out w' ((hbr.alloc hz o).trans (h'.mono (by omega))))
    have hbA : Hid (∀ o : Obj, Below w.heap.size w (wr.alloc o)) := fun o => hbr.alloc hz o
    have hXA : Hid (∀ o : Obj, (wr.alloc o).heap[w.heap.size]? = some (.cells #[.slice (some ⟨b, off, none⟩) l.length cap, .int .i64 s] 30 (0, 0))) := fun o => (Below.heap_alloc wr o _ hxl).trans hXr
    subst hcs
    have u0 := hr 0 _ rfl
    have u1 := hr 1 _ rfl
    have u2 := hr 2 _ rfl
    have u3 := hr 3 _ rfl
    have u4 := hr 4 _ rfl
    have u5 := hr 5 _ rfl
    have u6 := hr 6 _ rfl
    have u7 := hr 7 _ rfl
    have u8 := hr 8 _ rfl
    simp only [Nat.add_zero] at u0
    generalize hzz : preA d l k = zs at *
    generalize lineA d l[k] = ln at *
    generalize l[k] = it at *
    obtain ⟨kk, ad, jj, vv, ds⟩ := it
    simp only at u0 u1 u2 u3 u4 u5 u6 u7 u8 HAp
    clear hsg hr hS hYr hbr hXr hX hzz
    go_wp2_with fail
    refine (HAp.out _).mono ?_
    rintro e w2 ⟨ra, rc, rfl, hY2, hb2, hk2⟩
    have hX2 := hide' (hk2 _ _ _ _ (hXA.out _) (by decide))
    have hB2 := hide' ((hbA.out _).trans (hb2.mono (by omega)))
    have hY2' := hide' hY2
    have hx2 := (Array.getElem?_eq_some_iff.1 hX2.out).1
    clear hY2 hb2 hk2 HAp hbA hXA u0 u1 u2 u3 u4 u5 u6 u7 u8
    generalize hzl : zs ++ ln = zl at *
    have hzll : zl.length ≤ 90000 := by rw [← hzl]; simp only [List.length_append]; omega
    clear hzl
    go_wp2_with (at_builtin; refine wpList_append_seg rfl (.tmp 18) (.tmp 19) (by rfl) (w.heap.size + 1) (.slice ra zl.length rc) zl [10] (by rfl) (hY2'.out.alloc (.cells #[.int .u8 10] 5)) (some ⟨w2.heap.size, 0, none⟩) 1 1 rfl (by rfl) (LitB.seg (c := 10) (MapKept.heap_alloc w2 (.cells #[.int .u8 10] 5)).1 (by simp [Byt])) (by simp) (by (try simp only [List.length_append, List.length_cons, List.length_nil]); omega) (by simp; omega) ?_; intro yz Vz hYz hgz; have HPL : Hid (PLi w (.cells #[.slice (some ⟨b, off, none⟩) l.length cap, .int .i64 s] 30) d l (k + 1) yz Vz) := ⟨(by rw [HPre.out]; exact hYz), (hB2.out.alloc hB2.out.size (.cells #[.int .u8 10] 5)).grown hgz (by have := hB2.out.size; simp; omega) (fun k hk => by have := hY2'.out.own k hk; omega), kept_app (Kept.refl w2) (hY2'.out.alloc (.cells #[.int .u8 10] 5)) hgz _ _ _ _ hX2.out (by decide)⟩; clear hYz hgz)
    go_roundw
    case rel => exact ⟨k + 1, by omega, by go_num, HPL⟩
    case measure => simp [intOf]; omega
end Go.Proofs.YtndnidmeompieaaGreatDoor
