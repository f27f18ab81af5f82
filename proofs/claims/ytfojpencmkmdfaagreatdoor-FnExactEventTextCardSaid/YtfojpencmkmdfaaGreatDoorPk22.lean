/-
  Texts that a law leans on, one behind the other; no statement is proved here.
-/
import Derived.Test.YtfojpencmkmdfaaGreatDoorPk13
import Derived.Test.YtfojpencmkmdfaaGreatDoorPk19
import Derived.Test.YtfojpencmkmdfaaGreatDoorPk16
import Derived.Test.YtfojpencmkmdfaaGreatDoorPk21
import Derived.Test.YtfojpencmkmdfaaGreatDoorPk12
import Derived.Test.YtfojpencmkmdfaaGreatDoorPk14
import Derived.Deep.RegionHeld3
/-
  EventText of the program.
-/
namespace Go.Proofs.YtfojpencmkmdfaaGreatDoor
open Go.RowKit Go.Shelf
set_option linter.unusedVariables false
set_option linter.unusedSimpArgs false

theorem addr_short {xs : List Int} (h : addrB xs = true) : xs.length ≤ 60 := by
  unfold addrB at h
  rw [Bool.and_eq_true, Bool.or_eq_true, decide_eq_true_eq] at h
  obtain ⟨hn, hr⟩ := h
  have h1 : (xs.take (cutI xs)).length ≤ 8 := by
    simp only [nameB, Bool.and_eq_true, decide_eq_true_eq] at hn
    exact hn.1.2
  have h2 := cutI_le xs
  rw [List.length_take, Nat.min_eq_left h2] at h1
  rcases hr with hr | hr
  · omega
  · have h3 : (xs.drop (cutI xs + 1)).length ≤ 30 := by
      rcases (innR_iff _).1 hr with ⟨u, hu, e⟩ | ⟨k, hk, e⟩
      · rw [e]
        have := decI_len u (by omega)
        simp
        omega
      · rw [e]
        simp only [nameB, Bool.and_eq_true, decide_eq_true_eq] at hk
        have := hk.1.2
        simp
        omega
    rw [List.length_drop] at h3
    omega

/-- The words of events and of acts lie as they were laid. -/
def WrdT (w : World) : Prop := (∀ k : Nat, k < 7 → w.cell? ⟨0, k, none⟩ = some (.string (strOf (evW (k : Int))))) ∧ ∀ k : Nat, 1 ≤ k → k ≤ 4 → w.cell? ⟨1, k, none⟩ = some (.string (strOf (nmT (k : Int))))
theorem WrdT.lt {w : World} (h : WrdT w) : 0 < w.heap.size := World.block_lt_of_cell? w _ (h.1 0 (by omega))
theorem WrdT.lt2 {w : World} (h : WrdT w) : 1 < w.heap.size := World.block_lt_of_cell? w _ (h.2 1 (by omega) (by omega))
theorem WrdT.below {w w' : World} (h : WrdT w) (hb : Below w.heap.size w w') : WrdT w' := ⟨fun k hk => (hb.cell (p := ⟨0, k, none⟩) h.lt).trans (h.1 k hk), fun k h1 h4 => (hb.cell (p := ⟨1, k, none⟩) h.lt2).trans (h.2 k h1 h4)⟩

def txtE (kk : Int) (ad : List Int) (jj : Int) (sv : List Int) : List Int := (evW kk ++ (if 1 ≤ kk ∧ kk ≤ 4 then [32] ++ ad else [])) ++ (if kk = 1 then [32] ++ nmT jj else if kk = 2 then [32] ++ sv else [])

set_option maxHeartbeats 12800000 in
set_option maxRecDepth 100000 in
theorem appendDeed_any (d : Nat) (kk : Int) (ad : List Int) (jj : Int) (m : Option Nat) (a : Option Addr) (n c : Nat) (v : Vl d) (w : World) (hWr : WrdT w) (ht : Tab w.heap.size w) (h0 : 0 ≤ kk) (h6 : kk ≤ 6) (hj : kk = 1 → 1 ≤ jj ∧ jj ≤ 4) (hby : ∀ x ∈ ad, Byt x) (hadl : ad.length ≤ 1048576)
    (hpg : kk = 2 → PSeg (fun q => q < w.heap.size) w d (.iface 53 (.agg #[.map m])) v ∧ goodB d v 1 = true ∧ partsV d v ≤ 40 ∧ ad.length ≤ 60) :
    Calls Tryz.prog 23 #[.slice none 0 0, .agg #[.int .i64 kk, .string (strOf ad), .int .i64 jj, .map m, .slice a n c, .bool false, .int .i64 0]] w (TxEnd (txtE kk ad jj (sayV d v)) w) := by
  have HA : Hid (∀ o : Obj, Below w.heap.size w (w.alloc o)) := fun o => (Below.refl _ _).alloc (Nat.le_refl _) o
  have HWr := hide' hWr
  have HTab := hide' ht
  clear hWr ht
  show Calls _ _ _ _ fun e w' => TxEnd (txtE kk ad jj (sayV d v)) w e w'
  obtain rfl | rfl | rfl | rfl | rfl | rfl | rfl : kk = 0 ∨ kk = 1 ∨ kk = 2 ∨ kk = 3 ∨ kk = 4 ∨ kk = 5 ∨ kk = 6 := by omega
  ·
    clear h0 h6 hj
    have HEw : Hid ((w.alloc (.cells #[.int .i64 0, .string (strOf ad), .int .i64 jj, .map m, .slice a n c, .bool false, .int .i64 0] 57)).cell? ⟨0, 0, none⟩ = some (.string ⟨#[98, 101, 103, 105, 110]⟩)) := ((HA.out (.cells #[.int .i64 0, .string (strOf ad), .int .i64 jj, .map m, .slice a n c, .bool false, .int .i64 0] 57)).cell (p := ⟨0, 0, none⟩) HWr.out.lt).trans (HWr.out.1 0 (by decide))
    have hew := HEw.out
    have HAd : Hid (∀ wx, Calls Tryz.prog 40 #[.int .i64 0] wx fun e w' => e = .returned (.bool false) ∧ wx = w') := fun wx => hasAddr_any 0 wx
    have HTxt : Hid (txtE 0 ad jj (sayV d v) = [98, 101, 103, 105, 110]) := by show _ = _; simp [txtE, evW, nmT]
    clear hpg HWr HEw
    go_enter Tryz.func23, Tryz.ntmps23
    go_wp2_with (at_builtin; refine wpList_append_text rfl (.tmp 5) (.tmp 9) 9 (by rfl) Tryz.underlying9 (w.heap.size + 1) (.slice none 0 0) [] [98, 101, 103, 105, 110] (by rfl) (bts_nil _ _) ⟨#[98, 101, 103, 105, 110]⟩ (by rfl) (by simp [Byt]) (by rfl) (by simp) (by simp) ?_; intro y1 W1 hY0 hg0; have hY := hide' hY0; have hb : Hid (Below w.heap.size w W1) := (HA.out (.cells #[.int .i64 0, .string (strOf ad), .int .i64 jj, .map m, .slice a n c, .bool false, .int .i64 0] 57)).grown hg0 (by simp) (by simp [Value.ownBlock]); have hX : Hid (W1.heap[w.heap.size]? = some (.cells #[.int .i64 0, .string (strOf ad), .int .i64 jj, .map m, .slice a n c, .bool false, .int .i64 0] 57 (0, 0))) := (hg0.block _ (by simp) (by simp [Value.ownBlock])).trans (MapKept.heap_alloc w (.cells #[.int .i64 0, .string (strOf ad), .int .i64 jj, .map m, .slice a n c, .bool false, .int .i64 0] 57)).1; clear hY0 hg0 hew; obtain ⟨x0, x1, x2, x3, -, -, -⟩ := seven_row hX.out)
    simp only [List.nil_append] at hY
    go_wp2_with fail
    refine (HAd.out _).mono ?_
    rintro e w2 ⟨rfl, rfl⟩
    clear x1 x2 x3 HAd
    obtain ⟨ya, yc, hyv, -⟩ := hY.out.shape
    subst hyv
    go_wp2
    go_ret
    rw [HTxt.out]
    exact ⟨_, _, rfl, hY.out.mono (by omega), hb.out⟩
  ·
    obtain ⟨hj1, hj4⟩ := hj rfl
    obtain rfl | rfl | rfl | rfl : jj = 1 ∨ jj = 2 ∨ jj = 3 ∨ jj = 4 := by omega
    ·
      clear h0 h6 hj hj1 hj4
      have HEw : Hid ((w.alloc (.cells #[.int .i64 1, .string (strOf ad), .int .i64 1, .map m, .slice a n c, .bool false, .int .i64 0] 57)).cell? ⟨0, 1, none⟩ = some (.string ⟨#[105, 110, 116, 101, 110, 116]⟩)) := ((HA.out (.cells #[.int .i64 1, .string (strOf ad), .int .i64 1, .map m, .slice a n c, .bool false, .int .i64 0] 57)).cell (p := ⟨0, 1, none⟩) HWr.out.lt).trans (HWr.out.1 1 (by decide))
      have hew := HEw.out
      have HAd : Hid (∀ wx, Calls Tryz.prog 40 #[.int .i64 1] wx fun e w' => e = .returned (.bool true) ∧ wx = w') := fun wx => hasAddr_any 1 wx
      have HAc : Hid (∀ wx, Below w.heap.size w wx → wx.cell? ⟨1, 1, none⟩ = some (.string ⟨#[99, 114, 101, 97, 116, 101]⟩)) := fun wx hb => (hb.cell (p := ⟨1, 1, none⟩) HWr.out.lt2).trans (HWr.out.2 1 (by decide) (by decide))
      have HTxt : Hid (txtE 1 ad 1 (sayV d v) = ((((([105, 110, 116, 101, 110, 116]) ++ [32]) ++ ad) ++ [32]) ++ [99, 114, 101, 97, 116, 101])) := by show _ = _; simp [txtE, evW, nmT]
      clear hpg HEw
      go_enter Tryz.func23, Tryz.ntmps23
      go_wp2_with (at_builtin; refine wpList_append_text rfl (.tmp 5) (.tmp 9) 9 (by rfl) Tryz.underlying9 (w.heap.size + 1) (.slice none 0 0) [] [105, 110, 116, 101, 110, 116] (by rfl) (bts_nil _ _) ⟨#[105, 110, 116, 101, 110, 116]⟩ (by rfl) (by simp [Byt]) (by rfl) (by simp) (by simp) ?_; intro y1 W1 hY0 hg0; have hY := hide' hY0; have hb : Hid (Below w.heap.size w W1) := (HA.out (.cells #[.int .i64 1, .string (strOf ad), .int .i64 1, .map m, .slice a n c, .bool false, .int .i64 0] 57)).grown hg0 (by simp) (by simp [Value.ownBlock]); have hX : Hid (W1.heap[w.heap.size]? = some (.cells #[.int .i64 1, .string (strOf ad), .int .i64 1, .map m, .slice a n c, .bool false, .int .i64 0] 57 (0, 0))) := (hg0.block _ (by simp) (by simp [Value.ownBlock])).trans (MapKept.heap_alloc w (.cells #[.int .i64 1, .string (strOf ad), .int .i64 1, .map m, .slice a n c, .bool false, .int .i64 0] 57)).1; clear hY0 hg0 hew; obtain ⟨x0, x1, x2, x3, -, -, -⟩ := seven_row hX.out)
      simp only [List.nil_append] at hY
      go_wp2_with fail
      refine (HAd.out _).mono ?_
      rintro e w2 ⟨rfl, rfl⟩
      go_wp2_with fail
      refine wp_region_held_drew (S := (fun wx => wx.cell? ⟨w.heap.size, 1, none⟩ = some (.string (strOf ad)))) (by kernel_rfl) x1 (fun hHeld => ?_)
      replace hY : Hid (Bts W1.drew (w.heap.size + 1) _ ([105, 110, 116, 101, 110, 116])) := hY.out
      replace hX : Hid (W1.drew.heap[w.heap.size]? = _) := hX.out
      replace hb : Hid (Below w.heap.size w W1.drew) := hb.out.drew
      generalize W1.drew = V0 at *
      refine take_yes (i := 0) 14 (v := ?_) rfl rfl (by kernel_rfl) (by kernel_rfl) (by kernel_rfl) (fun _ _ _ h => h) (by kernel_rfl) hHeld ?_ ?_
      rotate_left
      focus (intro w hSw; (try dsimp only at hSw); go_simp; (try with_reducible rfl))
      simp only [Act.put, List.setIfInBounds_toArray, List.set_cons_zero, List.set_cons_succ]
      refine take_yes (i := 3) 17 (v := ?_) rfl rfl (by kernel_rfl) (by kernel_rfl) (by kernel_rfl) (fun _ _ _ h => h) (by kernel_rfl) hHeld ?_ ?_
      rotate_left
      focus (intro w hSw; (try dsimp only at hSw); go_simp; (try with_reducible rfl))
      simp only [Act.put, List.setIfInBounds_toArray, List.set_cons_zero, List.set_cons_succ]
      refine take_yes (i := 4) 18 (v := ?_) rfl rfl (by kernel_rfl) (by kernel_rfl) (by kernel_rfl) (fun _ _ _ h => h) (by kernel_rfl) hHeld ?_ ?_
      rotate_left
      focus (intro w hSw; (try dsimp only at hSw); go_simp; (try with_reducible rfl))
      simp only [Act.put, List.setIfInBounds_toArray, List.set_cons_zero, List.set_cons_succ]
      refine wpAnyH_ready (rs := [1]) (by kernel_rfl) (by simp) ?_
      refine AllReadyH.cons rfl (fun K hK => ?_) AllReadyH.nil
      go_simp
      have hL := hide' (Lit.seg (c := 32) (MapKept.heap_alloc V0 (.cells #[.int .u8 32] 5)).1 (by simp [Byt]))
      replace hY := hide' (hY.out.alloc (.cells #[.int .u8 32] 5))
      replace hX := hide' (kept_alloc V0 (.cells #[.int .u8 32] 5) _ _ _ _ hX.out (by decide))
      replace hb := hide' (hb.out.alloc hb.out.size (.cells #[.int .u8 32] 5))
      refine hK.out _ _ (seven_row hX.out).2.1 (fun hHeld => ?_)
      clear hK
      (try simp only [Act.put, List.setIfInBounds_toArray, List.set_cons_zero, List.set_cons_succ])
      generalize V0.alloc (.cells #[.int .u8 32] 5) = V1 at *
      generalize V0.heap.size = gL0 at *
      refine wpAnyH_ready (rs := [2]) (by kernel_rfl) (by simp) ?_
      refine AllReadyH.cons rfl (fun K hK => ?_) AllReadyH.nil
      refine step_append_seg (by rfl) (.tmp 14) (.tmp 15) (by rfl) (w.heap.size + 1) y1 ([105, 110, 116, 101, 110, 116]) [32] (by rfl) hY.out (some ⟨_, 0, none⟩) 1 1 rfl (by rfl) hL.out (by simp) (by (try simp only [List.length_append, List.length_cons, List.length_nil]); omega) (Array.getElem?_eq_some_iff.1 hX.out).1 ?_
      intro Vy2 V2 hY2 hg
      replace hX := hide' (kept_grown hY.out hg _ _ _ _ hX.out (by decide))
      replace hb := hide' (hb.out.grown hg hb.out.size (fun k hk => by have := hY.out.own k hk; omega))
      replace hY := hide' hY2
      clear hY2 hg hL
      show K (Act.put _ (some 16) Vy2) V2
      refine hK.out _ _ (seven_row hX.out).2.1 (fun hHeld => ?_)
      clear hK
      (try simp only [Act.put, List.setIfInBounds_toArray, List.set_cons_zero, List.set_cons_succ])
      refine wpAnyH_ready (rs := [5]) (by kernel_rfl) (by simp) ?_
      refine AllReadyH.cons rfl (fun K hK => ?_) AllReadyH.nil
      refine step_append_text (by rfl) (.tmp 16) (.tmp 18) 9 (by rfl) Tryz.underlying9 (w.heap.size + 1) Vy2 (([105, 110, 116, 101, 110, 116]) ++ [32]) ad (by rfl) hY.out (strOf ad) rfl hby (by rfl) (by (try simp only [List.length_append, List.length_cons, List.length_nil]); omega) (Array.getElem?_eq_some_iff.1 hX.out).1 ?_
      intro Vy3 V3 hY2 hg
      replace hX := hide' (kept_grown hY.out hg _ _ _ _ hX.out (by decide))
      replace hb := hide' (hb.out.grown hg hb.out.size (fun k hk => by have := hY.out.own k hk; omega))
      replace hY := hide' hY2
      clear hY2 hg
      show K (Act.put _ (some 19) Vy3) V3
      refine hK.out _ _ (seven_row hX.out).2.1 (fun hHeld => ?_)
      clear hK
      (try simp only [Act.put, List.setIfInBounds_toArray, List.set_cons_zero, List.set_cons_succ])
      refine take_yes (i := 6) 0 (v := ?_) rfl rfl (by kernel_rfl) (by kernel_rfl) (by kernel_rfl) (fun _ _ _ h => h) (by kernel_rfl) hHeld ?_ ?_
      rotate_left
      focus (intro w hSw; (try dsimp only at hSw); go_simp; (try with_reducible rfl))
      simp only [Act.put, List.setIfInBounds_toArray, List.set_cons_zero, List.set_cons_succ]
      refine wpAnyH_done (by kernel_rfl) ?_ _
      clear hHeld
      clear x0 x1 x2 x3
      obtain ⟨x0, x1, x2, x3, -, -, -⟩ := seven_row hX.out
      obtain ⟨zs1, hz1⟩ : ∃ zs1, zs1 = (([105, 110, 116, 101, 110, 116]) ++ [32]) ++ ad := ⟨_, rfl⟩
      rw [← hz1] at hY HTxt
      have hz1l : zs1.length ≤ 1048600 := by rw [hz1]; simp only [List.length_append, List.length_cons, List.length_nil]; omega
      clear hz1
      go_wp2_with fail
      refine wp_region_held_drew (S := (fun wx => wx.cell? ⟨w.heap.size, 2, none⟩ = some (.int .i64 1) ∧ wx.cell? ⟨1, 1, none⟩ = some (.string ⟨#[99, 114, 101, 97, 116, 101]⟩))) (by kernel_rfl) ⟨x2, HAc.out _ hb.out.drew⟩ (fun hHeld => ?_)
      replace hY : Hid (Bts V3.drew (w.heap.size + 1) _ (zs1)) := hY.out
      replace hX : Hid (V3.drew.heap[w.heap.size]? = _) := hX.out
      replace hb : Hid (Below w.heap.size w V3.drew) := hb.out.drew
      generalize V3.drew = U0 at *
      refine take_yes (i := 0) 24 (v := ?_) rfl rfl (by kernel_rfl) (by kernel_rfl) (by kernel_rfl) (fun _ _ _ h => h) (by kernel_rfl) hHeld ?_ ?_
      rotate_left
      focus (intro w hSw; (try dsimp only at hSw); go_simp; (try with_reducible rfl))
      simp only [Act.put, List.setIfInBounds_toArray, List.set_cons_zero, List.set_cons_succ]
      refine take_yes (i := 3) 27 (v := ?_) rfl rfl (by kernel_rfl) (by kernel_rfl) (by kernel_rfl) (fun _ _ _ h => h) (by kernel_rfl) hHeld ?_ ?_
      rotate_left
      focus (intro w hSw; (try dsimp only at hSw); go_simp; (try with_reducible rfl))
      simp only [Act.put, List.setIfInBounds_toArray, List.set_cons_zero, List.set_cons_succ]
      refine take_yes (i := 4) 28 (v := ?_) rfl rfl (by kernel_rfl) (by kernel_rfl) (by kernel_rfl) (fun _ _ _ h => h) (by kernel_rfl) hHeld ?_ ?_
      rotate_left
      focus (intro w hSw; (try dsimp only at hSw); go_simp; (try with_reducible rfl))
      simp only [Act.put, List.setIfInBounds_toArray, List.set_cons_zero, List.set_cons_succ]
      refine take_yes (i := 5) 29 (v := ?_) rfl rfl (by kernel_rfl) (by kernel_rfl) (by kernel_rfl) (fun _ _ _ h => h) (by kernel_rfl) hHeld ?_ ?_
      rotate_left
      focus (intro w hSw; (try dsimp only at hSw); go_simp; (try with_reducible rfl))
      simp only [Act.put, List.setIfInBounds_toArray, List.set_cons_zero, List.set_cons_succ]
      refine take_yes (i := 6) 30 (v := ?_) rfl rfl (by kernel_rfl) (by kernel_rfl) (by kernel_rfl) (fun _ _ _ h => h) (by kernel_rfl) hHeld ?_ ?_
      rotate_left
      focus (intro w hSw; (try dsimp only at hSw); go_simp; (try with_reducible rfl))
      simp only [Act.put, List.setIfInBounds_toArray, List.set_cons_zero, List.set_cons_succ]
      refine wpAnyH_ready (rs := [1]) (by kernel_rfl) (by simp) ?_
      refine AllReadyH.cons rfl (fun K hK => ?_) AllReadyH.nil
      go_simp
      have hL := hide' (Lit.seg (c := 32) (MapKept.heap_alloc U0 (.cells #[.int .u8 32] 5)).1 (by simp [Byt]))
      replace hY := hide' (hY.out.alloc (.cells #[.int .u8 32] 5))
      replace hX := hide' (kept_alloc U0 (.cells #[.int .u8 32] 5) _ _ _ _ hX.out (by decide))
      replace hb := hide' (hb.out.alloc hb.out.size (.cells #[.int .u8 32] 5))
      refine hK.out _ _ ⟨(seven_row hX.out).2.2.1, HAc.out _ hb.out⟩ (fun hHeld => ?_)
      clear hK
      (try simp only [Act.put, List.setIfInBounds_toArray, List.set_cons_zero, List.set_cons_succ])
      generalize U0.alloc (.cells #[.int .u8 32] 5) = U1 at *
      generalize U0.heap.size = gL0 at *
      refine wpAnyH_ready (rs := [2]) (by kernel_rfl) (by simp) ?_
      refine AllReadyH.cons rfl (fun K hK => ?_) AllReadyH.nil
      refine step_append_seg (by rfl) (.tmp 24) (.tmp 25) (by rfl) (w.heap.size + 1) Vy3 (zs1) [32] (by rfl) hY.out (some ⟨_, 0, none⟩) 1 1 rfl (by rfl) hL.out (by simp) (by (try simp only [List.length_append, List.length_cons, List.length_nil]); omega) (Array.getElem?_eq_some_iff.1 hX.out).1 ?_
      intro Uy2 U2 hY2 hg
      replace hX := hide' (kept_grown hY.out hg _ _ _ _ hX.out (by decide))
      replace hb := hide' (hb.out.grown hg hb.out.size (fun k hk => by have := hY.out.own k hk; omega))
      replace hY := hide' hY2
      clear hY2 hg hL
      show K (Act.put _ (some 26) Uy2) U2
      refine hK.out _ _ ⟨(seven_row hX.out).2.2.1, HAc.out _ hb.out⟩ (fun hHeld => ?_)
      clear hK
      (try simp only [Act.put, List.setIfInBounds_toArray, List.set_cons_zero, List.set_cons_succ])
      refine wpAnyH_ready (rs := [7]) (by kernel_rfl) (by simp) ?_
      refine AllReadyH.cons rfl (fun K hK => ?_) AllReadyH.nil
      refine step_append_text (by rfl) (.tmp 26) (.tmp 30) 9 (by rfl) Tryz.underlying9 (w.heap.size + 1) Uy2 ((zs1) ++ [32]) [99, 114, 101, 97, 116, 101] (by rfl) hY.out ⟨#[99, 114, 101, 97, 116, 101]⟩ (by rfl) (by simp [Byt]) (by rfl) (by (try simp only [List.length_append, List.length_cons, List.length_nil]); omega) (Array.getElem?_eq_some_iff.1 hX.out).1 ?_
      intro Uy3 U3 hY2 hg
      replace hX := hide' (kept_grown hY.out hg _ _ _ _ hX.out (by decide))
      replace hb := hide' (hb.out.grown hg hb.out.size (fun k hk => by have := hY.out.own k hk; omega))
      replace hY := hide' hY2
      clear hY2 hg
      show K (Act.put _ (some 31) Uy3) U3
      refine hK.out _ _ ⟨(seven_row hX.out).2.2.1, HAc.out _ hb.out⟩ (fun hHeld => ?_)
      clear hK
      (try simp only [Act.put, List.setIfInBounds_toArray, List.set_cons_zero, List.set_cons_succ])
      refine take_yes (i := 8) 0 (v := ?_) rfl rfl (by kernel_rfl) (by kernel_rfl) (by kernel_rfl) (fun _ _ _ h => h) (by kernel_rfl) hHeld ?_ ?_
      rotate_left
      focus (intro w hSw; (try dsimp only at hSw); go_simp; (try with_reducible rfl))
      simp only [Act.put, List.setIfInBounds_toArray, List.set_cons_zero, List.set_cons_succ]
      refine wpAnyH_done (by kernel_rfl) ?_ _
      clear hHeld
      obtain ⟨ya, yc, hyv, -⟩ := hY.out.shape
      subst hyv
      go_wp2
      go_ret
      rw [HTxt.out]
      exact ⟨_, _, rfl, hY.out.mono (by omega), hb.out⟩
    ·
      clear h0 h6 hj hj1 hj4
      have HEw : Hid ((w.alloc (.cells #[.int .i64 1, .string (strOf ad), .int .i64 2, .map m, .slice a n c, .bool false, .int .i64 0] 57)).cell? ⟨0, 1, none⟩ = some (.string ⟨#[105, 110, 116, 101, 110, 116]⟩)) := ((HA.out (.cells #[.int .i64 1, .string (strOf ad), .int .i64 2, .map m, .slice a n c, .bool false, .int .i64 0] 57)).cell (p := ⟨0, 1, none⟩) HWr.out.lt).trans (HWr.out.1 1 (by decide))
      have hew := HEw.out
      have HAd : Hid (∀ wx, Calls Tryz.prog 40 #[.int .i64 1] wx fun e w' => e = .returned (.bool true) ∧ wx = w') := fun wx => hasAddr_any 1 wx
      have HAc : Hid (∀ wx, Below w.heap.size w wx → wx.cell? ⟨1, 2, none⟩ = some (.string ⟨#[117, 112, 100, 97, 116, 101]⟩)) := fun wx hb => (hb.cell (p := ⟨1, 2, none⟩) HWr.out.lt2).trans (HWr.out.2 2 (by decide) (by decide))
      have HTxt : Hid (txtE 1 ad 2 (sayV d v) = ((((([105, 110, 116, 101, 110, 116]) ++ [32]) ++ ad) ++ [32]) ++ [117, 112, 100, 97, 116, 101])) := by show _ = _; simp [txtE, evW, nmT]
      clear hpg HEw
      go_enter Tryz.func23, Tryz.ntmps23
      go_wp2_with (at_builtin; refine wpList_append_text rfl (.tmp 5) (.tmp 9) 9 (by rfl) Tryz.underlying9 (w.heap.size + 1) (.slice none 0 0) [] [105, 110, 116, 101, 110, 116] (by rfl) (bts_nil _ _) ⟨#[105, 110, 116, 101, 110, 116]⟩ (by rfl) (by simp [Byt]) (by rfl) (by simp) (by simp) ?_; intro y1 W1 hY0 hg0; have hY := hide' hY0; have hb : Hid (Below w.heap.size w W1) := (HA.out (.cells #[.int .i64 1, .string (strOf ad), .int .i64 2, .map m, .slice a n c, .bool false, .int .i64 0] 57)).grown hg0 (by simp) (by simp [Value.ownBlock]); have hX : Hid (W1.heap[w.heap.size]? = some (.cells #[.int .i64 1, .string (strOf ad), .int .i64 2, .map m, .slice a n c, .bool false, .int .i64 0] 57 (0, 0))) := (hg0.block _ (by simp) (by simp [Value.ownBlock])).trans (MapKept.heap_alloc w (.cells #[.int .i64 1, .string (strOf ad), .int .i64 2, .map m, .slice a n c, .bool false, .int .i64 0] 57)).1; clear hY0 hg0 hew; obtain ⟨x0, x1, x2, x3, -, -, -⟩ := seven_row hX.out)
      simp only [List.nil_append] at hY
      go_wp2_with fail
      refine (HAd.out _).mono ?_
      rintro e w2 ⟨rfl, rfl⟩
      go_wp2_with fail
      refine wp_region_held_drew (S := (fun wx => wx.cell? ⟨w.heap.size, 1, none⟩ = some (.string (strOf ad)))) (by kernel_rfl) x1 (fun hHeld => ?_)
      replace hY : Hid (Bts W1.drew (w.heap.size + 1) _ ([105, 110, 116, 101, 110, 116])) := hY.out
      replace hX : Hid (W1.drew.heap[w.heap.size]? = _) := hX.out
      replace hb : Hid (Below w.heap.size w W1.drew) := hb.out.drew
      generalize W1.drew = V0 at *
      refine take_yes (i := 0) 14 (v := ?_) rfl rfl (by kernel_rfl) (by kernel_rfl) (by kernel_rfl) (fun _ _ _ h => h) (by kernel_rfl) hHeld ?_ ?_
      rotate_left
      focus (intro w hSw; (try dsimp only at hSw); go_simp; (try with_reducible rfl))
      simp only [Act.put, List.setIfInBounds_toArray, List.set_cons_zero, List.set_cons_succ]
      refine take_yes (i := 3) 17 (v := ?_) rfl rfl (by kernel_rfl) (by kernel_rfl) (by kernel_rfl) (fun _ _ _ h => h) (by kernel_rfl) hHeld ?_ ?_
      rotate_left
      focus (intro w hSw; (try dsimp only at hSw); go_simp; (try with_reducible rfl))
      simp only [Act.put, List.setIfInBounds_toArray, List.set_cons_zero, List.set_cons_succ]
      refine take_yes (i := 4) 18 (v := ?_) rfl rfl (by kernel_rfl) (by kernel_rfl) (by kernel_rfl) (fun _ _ _ h => h) (by kernel_rfl) hHeld ?_ ?_
      rotate_left
      focus (intro w hSw; (try dsimp only at hSw); go_simp; (try with_reducible rfl))
      simp only [Act.put, List.setIfInBounds_toArray, List.set_cons_zero, List.set_cons_succ]
      refine wpAnyH_ready (rs := [1]) (by kernel_rfl) (by simp) ?_
      refine AllReadyH.cons rfl (fun K hK => ?_) AllReadyH.nil
      go_simp
      have hL := hide' (Lit.seg (c := 32) (MapKept.heap_alloc V0 (.cells #[.int .u8 32] 5)).1 (by simp [Byt]))
      replace hY := hide' (hY.out.alloc (.cells #[.int .u8 32] 5))
      replace hX := hide' (kept_alloc V0 (.cells #[.int .u8 32] 5) _ _ _ _ hX.out (by decide))
      replace hb := hide' (hb.out.alloc hb.out.size (.cells #[.int .u8 32] 5))
      refine hK.out _ _ (seven_row hX.out).2.1 (fun hHeld => ?_)
      clear hK
      (try simp only [Act.put, List.setIfInBounds_toArray, List.set_cons_zero, List.set_cons_succ])
      generalize V0.alloc (.cells #[.int .u8 32] 5) = V1 at *
      generalize V0.heap.size = gL0 at *
      refine wpAnyH_ready (rs := [2]) (by kernel_rfl) (by simp) ?_
      refine AllReadyH.cons rfl (fun K hK => ?_) AllReadyH.nil
      refine step_append_seg (by rfl) (.tmp 14) (.tmp 15) (by rfl) (w.heap.size + 1) y1 ([105, 110, 116, 101, 110, 116]) [32] (by rfl) hY.out (some ⟨_, 0, none⟩) 1 1 rfl (by rfl) hL.out (by simp) (by (try simp only [List.length_append, List.length_cons, List.length_nil]); omega) (Array.getElem?_eq_some_iff.1 hX.out).1 ?_
      intro Vy2 V2 hY2 hg
      replace hX := hide' (kept_grown hY.out hg _ _ _ _ hX.out (by decide))
      replace hb := hide' (hb.out.grown hg hb.out.size (fun k hk => by have := hY.out.own k hk; omega))
      replace hY := hide' hY2
      clear hY2 hg hL
      show K (Act.put _ (some 16) Vy2) V2
      refine hK.out _ _ (seven_row hX.out).2.1 (fun hHeld => ?_)
      clear hK
      (try simp only [Act.put, List.setIfInBounds_toArray, List.set_cons_zero, List.set_cons_succ])
      refine wpAnyH_ready (rs := [5]) (by kernel_rfl) (by simp) ?_
      refine AllReadyH.cons rfl (fun K hK => ?_) AllReadyH.nil
      refine step_append_text (by rfl) (.tmp 16) (.tmp 18) 9 (by rfl) Tryz.underlying9 (w.heap.size + 1) Vy2 (([105, 110, 116, 101, 110, 116]) ++ [32]) ad (by rfl) hY.out (strOf ad) rfl hby (by rfl) (by (try simp only [List.length_append, List.length_cons, List.length_nil]); omega) (Array.getElem?_eq_some_iff.1 hX.out).1 ?_
      intro Vy3 V3 hY2 hg
      replace hX := hide' (kept_grown hY.out hg _ _ _ _ hX.out (by decide))
      replace hb := hide' (hb.out.grown hg hb.out.size (fun k hk => by have := hY.out.own k hk; omega))
      replace hY := hide' hY2
      clear hY2 hg
      show K (Act.put _ (some 19) Vy3) V3
      refine hK.out _ _ (seven_row hX.out).2.1 (fun hHeld => ?_)
      clear hK
      (try simp only [Act.put, List.setIfInBounds_toArray, List.set_cons_zero, List.set_cons_succ])
      refine take_yes (i := 6) 0 (v := ?_) rfl rfl (by kernel_rfl) (by kernel_rfl) (by kernel_rfl) (fun _ _ _ h => h) (by kernel_rfl) hHeld ?_ ?_
      rotate_left
      focus (intro w hSw; (try dsimp only at hSw); go_simp; (try with_reducible rfl))
      simp only [Act.put, List.setIfInBounds_toArray, List.set_cons_zero, List.set_cons_succ]
      refine wpAnyH_done (by kernel_rfl) ?_ _
      clear hHeld
      clear x0 x1 x2 x3
      obtain ⟨x0, x1, x2, x3, -, -, -⟩ := seven_row hX.out
      obtain ⟨zs1, hz1⟩ : ∃ zs1, zs1 = (([105, 110, 116, 101, 110, 116]) ++ [32]) ++ ad := ⟨_, rfl⟩
      rw [← hz1] at hY HTxt
      have hz1l : zs1.length ≤ 1048600 := by rw [hz1]; simp only [List.length_append, List.length_cons, List.length_nil]; omega
      clear hz1
      go_wp2_with fail
      refine wp_region_held_drew (S := (fun wx => wx.cell? ⟨w.heap.size, 2, none⟩ = some (.int .i64 2) ∧ wx.cell? ⟨1, 2, none⟩ = some (.string ⟨#[117, 112, 100, 97, 116, 101]⟩))) (by kernel_rfl) ⟨x2, HAc.out _ hb.out.drew⟩ (fun hHeld => ?_)
      replace hY : Hid (Bts V3.drew (w.heap.size + 1) _ (zs1)) := hY.out
      replace hX : Hid (V3.drew.heap[w.heap.size]? = _) := hX.out
      replace hb : Hid (Below w.heap.size w V3.drew) := hb.out.drew
      generalize V3.drew = U0 at *
      refine take_yes (i := 0) 24 (v := ?_) rfl rfl (by kernel_rfl) (by kernel_rfl) (by kernel_rfl) (fun _ _ _ h => h) (by kernel_rfl) hHeld ?_ ?_
      rotate_left
      focus (intro w hSw; (try dsimp only at hSw); go_simp; (try with_reducible rfl))
      simp only [Act.put, List.setIfInBounds_toArray, List.set_cons_zero, List.set_cons_succ]
      refine take_yes (i := 3) 27 (v := ?_) rfl rfl (by kernel_rfl) (by kernel_rfl) (by kernel_rfl) (fun _ _ _ h => h) (by kernel_rfl) hHeld ?_ ?_
      rotate_left
      focus (intro w hSw; (try dsimp only at hSw); go_simp; (try with_reducible rfl))
      simp only [Act.put, List.setIfInBounds_toArray, List.set_cons_zero, List.set_cons_succ]
      refine take_yes (i := 4) 28 (v := ?_) rfl rfl (by kernel_rfl) (by kernel_rfl) (by kernel_rfl) (fun _ _ _ h => h) (by kernel_rfl) hHeld ?_ ?_
      rotate_left
      focus (intro w hSw; (try dsimp only at hSw); go_simp; (try with_reducible rfl))
      simp only [Act.put, List.setIfInBounds_toArray, List.set_cons_zero, List.set_cons_succ]
      refine take_yes (i := 5) 29 (v := ?_) rfl rfl (by kernel_rfl) (by kernel_rfl) (by kernel_rfl) (fun _ _ _ h => h) (by kernel_rfl) hHeld ?_ ?_
      rotate_left
      focus (intro w hSw; (try dsimp only at hSw); go_simp; (try with_reducible rfl))
      simp only [Act.put, List.setIfInBounds_toArray, List.set_cons_zero, List.set_cons_succ]
      refine take_yes (i := 6) 30 (v := ?_) rfl rfl (by kernel_rfl) (by kernel_rfl) (by kernel_rfl) (fun _ _ _ h => h) (by kernel_rfl) hHeld ?_ ?_
      rotate_left
      focus (intro w hSw; (try dsimp only at hSw); go_simp; (try with_reducible rfl))
      simp only [Act.put, List.setIfInBounds_toArray, List.set_cons_zero, List.set_cons_succ]
      refine wpAnyH_ready (rs := [1]) (by kernel_rfl) (by simp) ?_
      refine AllReadyH.cons rfl (fun K hK => ?_) AllReadyH.nil
      go_simp
      have hL := hide' (Lit.seg (c := 32) (MapKept.heap_alloc U0 (.cells #[.int .u8 32] 5)).1 (by simp [Byt]))
      replace hY := hide' (hY.out.alloc (.cells #[.int .u8 32] 5))
      replace hX := hide' (kept_alloc U0 (.cells #[.int .u8 32] 5) _ _ _ _ hX.out (by decide))
      replace hb := hide' (hb.out.alloc hb.out.size (.cells #[.int .u8 32] 5))
      refine hK.out _ _ ⟨(seven_row hX.out).2.2.1, HAc.out _ hb.out⟩ (fun hHeld => ?_)
      clear hK
      (try simp only [Act.put, List.setIfInBounds_toArray, List.set_cons_zero, List.set_cons_succ])
      generalize U0.alloc (.cells #[.int .u8 32] 5) = U1 at *
      generalize U0.heap.size = gL0 at *
      refine wpAnyH_ready (rs := [2]) (by kernel_rfl) (by simp) ?_
      refine AllReadyH.cons rfl (fun K hK => ?_) AllReadyH.nil
      refine step_append_seg (by rfl) (.tmp 24) (.tmp 25) (by rfl) (w.heap.size + 1) Vy3 (zs1) [32] (by rfl) hY.out (some ⟨_, 0, none⟩) 1 1 rfl (by rfl) hL.out (by simp) (by (try simp only [List.length_append, List.length_cons, List.length_nil]); omega) (Array.getElem?_eq_some_iff.1 hX.out).1 ?_
      intro Uy2 U2 hY2 hg
      replace hX := hide' (kept_grown hY.out hg _ _ _ _ hX.out (by decide))
      replace hb := hide' (hb.out.grown hg hb.out.size (fun k hk => by have := hY.out.own k hk; omega))
      replace hY := hide' hY2
      clear hY2 hg hL
      show K (Act.put _ (some 26) Uy2) U2
      refine hK.out _ _ ⟨(seven_row hX.out).2.2.1, HAc.out _ hb.out⟩ (fun hHeld => ?_)
      clear hK
      (try simp only [Act.put, List.setIfInBounds_toArray, List.set_cons_zero, List.set_cons_succ])
      refine wpAnyH_ready (rs := [7]) (by kernel_rfl) (by simp) ?_
      refine AllReadyH.cons rfl (fun K hK => ?_) AllReadyH.nil
      refine step_append_text (by rfl) (.tmp 26) (.tmp 30) 9 (by rfl) Tryz.underlying9 (w.heap.size + 1) Uy2 ((zs1) ++ [32]) [117, 112, 100, 97, 116, 101] (by rfl) hY.out ⟨#[117, 112, 100, 97, 116, 101]⟩ (by rfl) (by simp [Byt]) (by rfl) (by (try simp only [List.length_append, List.length_cons, List.length_nil]); omega) (Array.getElem?_eq_some_iff.1 hX.out).1 ?_
      intro Uy3 U3 hY2 hg
      replace hX := hide' (kept_grown hY.out hg _ _ _ _ hX.out (by decide))
      replace hb := hide' (hb.out.grown hg hb.out.size (fun k hk => by have := hY.out.own k hk; omega))
      replace hY := hide' hY2
      clear hY2 hg
      show K (Act.put _ (some 31) Uy3) U3
      refine hK.out _ _ ⟨(seven_row hX.out).2.2.1, HAc.out _ hb.out⟩ (fun hHeld => ?_)
      clear hK
      (try simp only [Act.put, List.setIfInBounds_toArray, List.set_cons_zero, List.set_cons_succ])
      refine take_yes (i := 8) 0 (v := ?_) rfl rfl (by kernel_rfl) (by kernel_rfl) (by kernel_rfl) (fun _ _ _ h => h) (by kernel_rfl) hHeld ?_ ?_
      rotate_left
      focus (intro w hSw; (try dsimp only at hSw); go_simp; (try with_reducible rfl))
      simp only [Act.put, List.setIfInBounds_toArray, List.set_cons_zero, List.set_cons_succ]
      refine wpAnyH_done (by kernel_rfl) ?_ _
      clear hHeld
      obtain ⟨ya, yc, hyv, -⟩ := hY.out.shape
      subst hyv
      go_wp2
      go_ret
      rw [HTxt.out]
      exact ⟨_, _, rfl, hY.out.mono (by omega), hb.out⟩
    ·
      clear h0 h6 hj hj1 hj4
      have HEw : Hid ((w.alloc (.cells #[.int .i64 1, .string (strOf ad), .int .i64 3, .map m, .slice a n c, .bool false, .int .i64 0] 57)).cell? ⟨0, 1, none⟩ = some (.string ⟨#[105, 110, 116, 101, 110, 116]⟩)) := ((HA.out (.cells #[.int .i64 1, .string (strOf ad), .int .i64 3, .map m, .slice a n c, .bool false, .int .i64 0] 57)).cell (p := ⟨0, 1, none⟩) HWr.out.lt).trans (HWr.out.1 1 (by decide))
      have hew := HEw.out
      have HAd : Hid (∀ wx, Calls Tryz.prog 40 #[.int .i64 1] wx fun e w' => e = .returned (.bool true) ∧ wx = w') := fun wx => hasAddr_any 1 wx
      have HAc : Hid (∀ wx, Below w.heap.size w wx → wx.cell? ⟨1, 3, none⟩ = some (.string ⟨#[114, 101, 112, 108, 97, 99, 101]⟩)) := fun wx hb => (hb.cell (p := ⟨1, 3, none⟩) HWr.out.lt2).trans (HWr.out.2 3 (by decide) (by decide))
      have HTxt : Hid (txtE 1 ad 3 (sayV d v) = ((((([105, 110, 116, 101, 110, 116]) ++ [32]) ++ ad) ++ [32]) ++ [114, 101, 112, 108, 97, 99, 101])) := by show _ = _; simp [txtE, evW, nmT]
      clear hpg HEw
      go_enter Tryz.func23, Tryz.ntmps23
      go_wp2_with (at_builtin; refine wpList_append_text rfl (.tmp 5) (.tmp 9) 9 (by rfl) Tryz.underlying9 (w.heap.size + 1) (.slice none 0 0) [] [105, 110, 116, 101, 110, 116] (by rfl) (bts_nil _ _) ⟨#[105, 110, 116, 101, 110, 116]⟩ (by rfl) (by simp [Byt]) (by rfl) (by simp) (by simp) ?_; intro y1 W1 hY0 hg0; have hY := hide' hY0; have hb : Hid (Below w.heap.size w W1) := (HA.out (.cells #[.int .i64 1, .string (strOf ad), .int .i64 3, .map m, .slice a n c, .bool false, .int .i64 0] 57)).grown hg0 (by simp) (by simp [Value.ownBlock]); have hX : Hid (W1.heap[w.heap.size]? = some (.cells #[.int .i64 1, .string (strOf ad), .int .i64 3, .map m, .slice a n c, .bool false, .int .i64 0] 57 (0, 0))) := (hg0.block _ (by simp) (by simp [Value.ownBlock])).trans (MapKept.heap_alloc w (.cells #[.int .i64 1, .string (strOf ad), .int .i64 3, .map m, .slice a n c, .bool false, .int .i64 0] 57)).1; clear hY0 hg0 hew; obtain ⟨x0, x1, x2, x3, -, -, -⟩ := seven_row hX.out)
      simp only [List.nil_append] at hY
      go_wp2_with fail
      refine (HAd.out _).mono ?_
      rintro e w2 ⟨rfl, rfl⟩
      go_wp2_with fail
      refine wp_region_held_drew (S := (fun wx => wx.cell? ⟨w.heap.size, 1, none⟩ = some (.string (strOf ad)))) (by kernel_rfl) x1 (fun hHeld => ?_)
      replace hY : Hid (Bts W1.drew (w.heap.size + 1) _ ([105, 110, 116, 101, 110, 116])) := hY.out
      replace hX : Hid (W1.drew.heap[w.heap.size]? = _) := hX.out
      replace hb : Hid (Below w.heap.size w W1.drew) := hb.out.drew
      generalize W1.drew = V0 at *
      refine take_yes (i := 0) 14 (v := ?_) rfl rfl (by kernel_rfl) (by kernel_rfl) (by kernel_rfl) (fun _ _ _ h => h) (by kernel_rfl) hHeld ?_ ?_
      rotate_left
      focus (intro w hSw; (try dsimp only at hSw); go_simp; (try with_reducible rfl))
      simp only [Act.put, List.setIfInBounds_toArray, List.set_cons_zero, List.set_cons_succ]
      refine take_yes (i := 3) 17 (v := ?_) rfl rfl (by kernel_rfl) (by kernel_rfl) (by kernel_rfl) (fun _ _ _ h => h) (by kernel_rfl) hHeld ?_ ?_
      rotate_left
      focus (intro w hSw; (try dsimp only at hSw); go_simp; (try with_reducible rfl))
      simp only [Act.put, List.setIfInBounds_toArray, List.set_cons_zero, List.set_cons_succ]
      refine take_yes (i := 4) 18 (v := ?_) rfl rfl (by kernel_rfl) (by kernel_rfl) (by kernel_rfl) (fun _ _ _ h => h) (by kernel_rfl) hHeld ?_ ?_
      rotate_left
      focus (intro w hSw; (try dsimp only at hSw); go_simp; (try with_reducible rfl))
      simp only [Act.put, List.setIfInBounds_toArray, List.set_cons_zero, List.set_cons_succ]
      refine wpAnyH_ready (rs := [1]) (by kernel_rfl) (by simp) ?_
      refine AllReadyH.cons rfl (fun K hK => ?_) AllReadyH.nil
      go_simp
      have hL := hide' (Lit.seg (c := 32) (MapKept.heap_alloc V0 (.cells #[.int .u8 32] 5)).1 (by simp [Byt]))
      replace hY := hide' (hY.out.alloc (.cells #[.int .u8 32] 5))
      replace hX := hide' (kept_alloc V0 (.cells #[.int .u8 32] 5) _ _ _ _ hX.out (by decide))
      replace hb := hide' (hb.out.alloc hb.out.size (.cells #[.int .u8 32] 5))
      refine hK.out _ _ (seven_row hX.out).2.1 (fun hHeld => ?_)
      clear hK
      (try simp only [Act.put, List.setIfInBounds_toArray, List.set_cons_zero, List.set_cons_succ])
      generalize V0.alloc (.cells #[.int .u8 32] 5) = V1 at *
      generalize V0.heap.size = gL0 at *
      refine wpAnyH_ready (rs := [2]) (by kernel_rfl) (by simp) ?_
      refine AllReadyH.cons rfl (fun K hK => ?_) AllReadyH.nil
      refine step_append_seg (by rfl) (.tmp 14) (.tmp 15) (by rfl) (w.heap.size + 1) y1 ([105, 110, 116, 101, 110, 116]) [32] (by rfl) hY.out (some ⟨_, 0, none⟩) 1 1 rfl (by rfl) hL.out (by simp) (by (try simp only [List.length_append, List.length_cons, List.length_nil]); omega) (Array.getElem?_eq_some_iff.1 hX.out).1 ?_
      intro Vy2 V2 hY2 hg
      replace hX := hide' (kept_grown hY.out hg _ _ _ _ hX.out (by decide))
      replace hb := hide' (hb.out.grown hg hb.out.size (fun k hk => by have := hY.out.own k hk; omega))
      replace hY := hide' hY2
      clear hY2 hg hL
      show K (Act.put _ (some 16) Vy2) V2
      refine hK.out _ _ (seven_row hX.out).2.1 (fun hHeld => ?_)
      clear hK
      (try simp only [Act.put, List.setIfInBounds_toArray, List.set_cons_zero, List.set_cons_succ])
      refine wpAnyH_ready (rs := [5]) (by kernel_rfl) (by simp) ?_
      refine AllReadyH.cons rfl (fun K hK => ?_) AllReadyH.nil
      refine step_append_text (by rfl) (.tmp 16) (.tmp 18) 9 (by rfl) Tryz.underlying9 (w.heap.size + 1) Vy2 (([105, 110, 116, 101, 110, 116]) ++ [32]) ad (by rfl) hY.out (strOf ad) rfl hby (by rfl) (by (try simp only [List.length_append, List.length_cons, List.length_nil]); omega) (Array.getElem?_eq_some_iff.1 hX.out).1 ?_
      intro Vy3 V3 hY2 hg
      replace hX := hide' (kept_grown hY.out hg _ _ _ _ hX.out (by decide))
      replace hb := hide' (hb.out.grown hg hb.out.size (fun k hk => by have := hY.out.own k hk; omega))
      replace hY := hide' hY2
      clear hY2 hg
      show K (Act.put _ (some 19) Vy3) V3
      refine hK.out _ _ (seven_row hX.out).2.1 (fun hHeld => ?_)
      clear hK
      (try simp only [Act.put, List.setIfInBounds_toArray, List.set_cons_zero, List.set_cons_succ])
      refine take_yes (i := 6) 0 (v := ?_) rfl rfl (by kernel_rfl) (by kernel_rfl) (by kernel_rfl) (fun _ _ _ h => h) (by kernel_rfl) hHeld ?_ ?_
      rotate_left
      focus (intro w hSw; (try dsimp only at hSw); go_simp; (try with_reducible rfl))
      simp only [Act.put, List.setIfInBounds_toArray, List.set_cons_zero, List.set_cons_succ]
      refine wpAnyH_done (by kernel_rfl) ?_ _
      clear hHeld
      clear x0 x1 x2 x3
      obtain ⟨x0, x1, x2, x3, -, -, -⟩ := seven_row hX.out
      obtain ⟨zs1, hz1⟩ : ∃ zs1, zs1 = (([105, 110, 116, 101, 110, 116]) ++ [32]) ++ ad := ⟨_, rfl⟩
      rw [← hz1] at hY HTxt
      have hz1l : zs1.length ≤ 1048600 := by rw [hz1]; simp only [List.length_append, List.length_cons, List.length_nil]; omega
      clear hz1
      go_wp2_with fail
      refine wp_region_held_drew (S := (fun wx => wx.cell? ⟨w.heap.size, 2, none⟩ = some (.int .i64 3) ∧ wx.cell? ⟨1, 3, none⟩ = some (.string ⟨#[114, 101, 112, 108, 97, 99, 101]⟩))) (by kernel_rfl) ⟨x2, HAc.out _ hb.out.drew⟩ (fun hHeld => ?_)
      replace hY : Hid (Bts V3.drew (w.heap.size + 1) _ (zs1)) := hY.out
      replace hX : Hid (V3.drew.heap[w.heap.size]? = _) := hX.out
      replace hb : Hid (Below w.heap.size w V3.drew) := hb.out.drew
      generalize V3.drew = U0 at *
      refine take_yes (i := 0) 24 (v := ?_) rfl rfl (by kernel_rfl) (by kernel_rfl) (by kernel_rfl) (fun _ _ _ h => h) (by kernel_rfl) hHeld ?_ ?_
      rotate_left
      focus (intro w hSw; (try dsimp only at hSw); go_simp; (try with_reducible rfl))
      simp only [Act.put, List.setIfInBounds_toArray, List.set_cons_zero, List.set_cons_succ]
      refine take_yes (i := 3) 27 (v := ?_) rfl rfl (by kernel_rfl) (by kernel_rfl) (by kernel_rfl) (fun _ _ _ h => h) (by kernel_rfl) hHeld ?_ ?_
      rotate_left
      focus (intro w hSw; (try dsimp only at hSw); go_simp; (try with_reducible rfl))
      simp only [Act.put, List.setIfInBounds_toArray, List.set_cons_zero, List.set_cons_succ]
      refine take_yes (i := 4) 28 (v := ?_) rfl rfl (by kernel_rfl) (by kernel_rfl) (by kernel_rfl) (fun _ _ _ h => h) (by kernel_rfl) hHeld ?_ ?_
      rotate_left
      focus (intro w hSw; (try dsimp only at hSw); go_simp; (try with_reducible rfl))
      simp only [Act.put, List.setIfInBounds_toArray, List.set_cons_zero, List.set_cons_succ]
      refine take_yes (i := 5) 29 (v := ?_) rfl rfl (by kernel_rfl) (by kernel_rfl) (by kernel_rfl) (fun _ _ _ h => h) (by kernel_rfl) hHeld ?_ ?_
      rotate_left
      focus (intro w hSw; (try dsimp only at hSw); go_simp; (try with_reducible rfl))
      simp only [Act.put, List.setIfInBounds_toArray, List.set_cons_zero, List.set_cons_succ]
      refine take_yes (i := 6) 30 (v := ?_) rfl rfl (by kernel_rfl) (by kernel_rfl) (by kernel_rfl) (fun _ _ _ h => h) (by kernel_rfl) hHeld ?_ ?_
      rotate_left
      focus (intro w hSw; (try dsimp only at hSw); go_simp; (try with_reducible rfl))
      simp only [Act.put, List.setIfInBounds_toArray, List.set_cons_zero, List.set_cons_succ]
      refine wpAnyH_ready (rs := [1]) (by kernel_rfl) (by simp) ?_
      refine AllReadyH.cons rfl (fun K hK => ?_) AllReadyH.nil
      go_simp
      have hL := hide' (Lit.seg (c := 32) (MapKept.heap_alloc U0 (.cells #[.int .u8 32] 5)).1 (by simp [Byt]))
      replace hY := hide' (hY.out.alloc (.cells #[.int .u8 32] 5))
      replace hX := hide' (kept_alloc U0 (.cells #[.int .u8 32] 5) _ _ _ _ hX.out (by decide))
      replace hb := hide' (hb.out.alloc hb.out.size (.cells #[.int .u8 32] 5))
      refine hK.out _ _ ⟨(seven_row hX.out).2.2.1, HAc.out _ hb.out⟩ (fun hHeld => ?_)
      clear hK
      (try simp only [Act.put, List.setIfInBounds_toArray, List.set_cons_zero, List.set_cons_succ])
      generalize U0.alloc (.cells #[.int .u8 32] 5) = U1 at *
      generalize U0.heap.size = gL0 at *
      refine wpAnyH_ready (rs := [2]) (by kernel_rfl) (by simp) ?_
      refine AllReadyH.cons rfl (fun K hK => ?_) AllReadyH.nil
      refine step_append_seg (by rfl) (.tmp 24) (.tmp 25) (by rfl) (w.heap.size + 1) Vy3 (zs1) [32] (by rfl) hY.out (some ⟨_, 0, none⟩) 1 1 rfl (by rfl) hL.out (by simp) (by (try simp only [List.length_append, List.length_cons, List.length_nil]); omega) (Array.getElem?_eq_some_iff.1 hX.out).1 ?_
      intro Uy2 U2 hY2 hg
      replace hX := hide' (kept_grown hY.out hg _ _ _ _ hX.out (by decide))
      replace hb := hide' (hb.out.grown hg hb.out.size (fun k hk => by have := hY.out.own k hk; omega))
      replace hY := hide' hY2
      clear hY2 hg hL
      show K (Act.put _ (some 26) Uy2) U2
      refine hK.out _ _ ⟨(seven_row hX.out).2.2.1, HAc.out _ hb.out⟩ (fun hHeld => ?_)
      clear hK
      (try simp only [Act.put, List.setIfInBounds_toArray, List.set_cons_zero, List.set_cons_succ])
      refine wpAnyH_ready (rs := [7]) (by kernel_rfl) (by simp) ?_
      refine AllReadyH.cons rfl (fun K hK => ?_) AllReadyH.nil
      refine step_append_text (by rfl) (.tmp 26) (.tmp 30) 9 (by rfl) Tryz.underlying9 (w.heap.size + 1) Uy2 ((zs1) ++ [32]) [114, 101, 112, 108, 97, 99, 101] (by rfl) hY.out ⟨#[114, 101, 112, 108, 97, 99, 101]⟩ (by rfl) (by simp [Byt]) (by rfl) (by (try simp only [List.length_append, List.length_cons, List.length_nil]); omega) (Array.getElem?_eq_some_iff.1 hX.out).1 ?_
      intro Uy3 U3 hY2 hg
      replace hX := hide' (kept_grown hY.out hg _ _ _ _ hX.out (by decide))
      replace hb := hide' (hb.out.grown hg hb.out.size (fun k hk => by have := hY.out.own k hk; omega))
      replace hY := hide' hY2
      clear hY2 hg
      show K (Act.put _ (some 31) Uy3) U3
      refine hK.out _ _ ⟨(seven_row hX.out).2.2.1, HAc.out _ hb.out⟩ (fun hHeld => ?_)
      clear hK
      (try simp only [Act.put, List.setIfInBounds_toArray, List.set_cons_zero, List.set_cons_succ])
      refine take_yes (i := 8) 0 (v := ?_) rfl rfl (by kernel_rfl) (by kernel_rfl) (by kernel_rfl) (fun _ _ _ h => h) (by kernel_rfl) hHeld ?_ ?_
      rotate_left
      focus (intro w hSw; (try dsimp only at hSw); go_simp; (try with_reducible rfl))
      simp only [Act.put, List.setIfInBounds_toArray, List.set_cons_zero, List.set_cons_succ]
      refine wpAnyH_done (by kernel_rfl) ?_ _
      clear hHeld
      obtain ⟨ya, yc, hyv, -⟩ := hY.out.shape
      subst hyv
      go_wp2
      go_ret
      rw [HTxt.out]
      exact ⟨_, _, rfl, hY.out.mono (by omega), hb.out⟩
    ·
      clear h0 h6 hj hj1 hj4
      have HEw : Hid ((w.alloc (.cells #[.int .i64 1, .string (strOf ad), .int .i64 4, .map m, .slice a n c, .bool false, .int .i64 0] 57)).cell? ⟨0, 1, none⟩ = some (.string ⟨#[105, 110, 116, 101, 110, 116]⟩)) := ((HA.out (.cells #[.int .i64 1, .string (strOf ad), .int .i64 4, .map m, .slice a n c, .bool false, .int .i64 0] 57)).cell (p := ⟨0, 1, none⟩) HWr.out.lt).trans (HWr.out.1 1 (by decide))
      have hew := HEw.out
      have HAd : Hid (∀ wx, Calls Tryz.prog 40 #[.int .i64 1] wx fun e w' => e = .returned (.bool true) ∧ wx = w') := fun wx => hasAddr_any 1 wx
      have HAc : Hid (∀ wx, Below w.heap.size w wx → wx.cell? ⟨1, 4, none⟩ = some (.string ⟨#[100, 101, 108, 101, 116, 101]⟩)) := fun wx hb => (hb.cell (p := ⟨1, 4, none⟩) HWr.out.lt2).trans (HWr.out.2 4 (by decide) (by decide))
      have HTxt : Hid (txtE 1 ad 4 (sayV d v) = ((((([105, 110, 116, 101, 110, 116]) ++ [32]) ++ ad) ++ [32]) ++ [100, 101, 108, 101, 116, 101])) := by show _ = _; simp [txtE, evW, nmT]
      clear hpg HEw
      go_enter Tryz.func23, Tryz.ntmps23
      go_wp2_with (at_builtin; refine wpList_append_text rfl (.tmp 5) (.tmp 9) 9 (by rfl) Tryz.underlying9 (w.heap.size + 1) (.slice none 0 0) [] [105, 110, 116, 101, 110, 116] (by rfl) (bts_nil _ _) ⟨#[105, 110, 116, 101, 110, 116]⟩ (by rfl) (by simp [Byt]) (by rfl) (by simp) (by simp) ?_; intro y1 W1 hY0 hg0; have hY := hide' hY0; have hb : Hid (Below w.heap.size w W1) := (HA.out (.cells #[.int .i64 1, .string (strOf ad), .int .i64 4, .map m, .slice a n c, .bool false, .int .i64 0] 57)).grown hg0 (by simp) (by simp [Value.ownBlock]); have hX : Hid (W1.heap[w.heap.size]? = some (.cells #[.int .i64 1, .string (strOf ad), .int .i64 4, .map m, .slice a n c, .bool false, .int .i64 0] 57 (0, 0))) := (hg0.block _ (by simp) (by simp [Value.ownBlock])).trans (MapKept.heap_alloc w (.cells #[.int .i64 1, .string (strOf ad), .int .i64 4, .map m, .slice a n c, .bool false, .int .i64 0] 57)).1; clear hY0 hg0 hew; obtain ⟨x0, x1, x2, x3, -, -, -⟩ := seven_row hX.out)
      simp only [List.nil_append] at hY
      go_wp2_with fail
      refine (HAd.out _).mono ?_
      rintro e w2 ⟨rfl, rfl⟩
      go_wp2_with fail
      refine wp_region_held_drew (S := (fun wx => wx.cell? ⟨w.heap.size, 1, none⟩ = some (.string (strOf ad)))) (by kernel_rfl) x1 (fun hHeld => ?_)
      replace hY : Hid (Bts W1.drew (w.heap.size + 1) _ ([105, 110, 116, 101, 110, 116])) := hY.out
      replace hX : Hid (W1.drew.heap[w.heap.size]? = _) := hX.out
      replace hb : Hid (Below w.heap.size w W1.drew) := hb.out.drew
      generalize W1.drew = V0 at *
      refine take_yes (i := 0) 14 (v := ?_) rfl rfl (by kernel_rfl) (by kernel_rfl) (by kernel_rfl) (fun _ _ _ h => h) (by kernel_rfl) hHeld ?_ ?_
      rotate_left
      focus (intro w hSw; (try dsimp only at hSw); go_simp; (try with_reducible rfl))
      simp only [Act.put, List.setIfInBounds_toArray, List.set_cons_zero, List.set_cons_succ]
      refine take_yes (i := 3) 17 (v := ?_) rfl rfl (by kernel_rfl) (by kernel_rfl) (by kernel_rfl) (fun _ _ _ h => h) (by kernel_rfl) hHeld ?_ ?_
      rotate_left
      focus (intro w hSw; (try dsimp only at hSw); go_simp; (try with_reducible rfl))
      simp only [Act.put, List.setIfInBounds_toArray, List.set_cons_zero, List.set_cons_succ]
      refine take_yes (i := 4) 18 (v := ?_) rfl rfl (by kernel_rfl) (by kernel_rfl) (by kernel_rfl) (fun _ _ _ h => h) (by kernel_rfl) hHeld ?_ ?_
      rotate_left
      focus (intro w hSw; (try dsimp only at hSw); go_simp; (try with_reducible rfl))
      simp only [Act.put, List.setIfInBounds_toArray, List.set_cons_zero, List.set_cons_succ]
      refine wpAnyH_ready (rs := [1]) (by kernel_rfl) (by simp) ?_
      refine AllReadyH.cons rfl (fun K hK => ?_) AllReadyH.nil
      go_simp
      have hL := hide' (Lit.seg (c := 32) (MapKept.heap_alloc V0 (.cells #[.int .u8 32] 5)).1 (by simp [Byt]))
      replace hY := hide' (hY.out.alloc (.cells #[.int .u8 32] 5))
      replace hX := hide' (kept_alloc V0 (.cells #[.int .u8 32] 5) _ _ _ _ hX.out (by decide))
      replace hb := hide' (hb.out.alloc hb.out.size (.cells #[.int .u8 32] 5))
      refine hK.out _ _ (seven_row hX.out).2.1 (fun hHeld => ?_)
      clear hK
      (try simp only [Act.put, List.setIfInBounds_toArray, List.set_cons_zero, List.set_cons_succ])
      generalize V0.alloc (.cells #[.int .u8 32] 5) = V1 at *
      generalize V0.heap.size = gL0 at *
      refine wpAnyH_ready (rs := [2]) (by kernel_rfl) (by simp) ?_
      refine AllReadyH.cons rfl (fun K hK => ?_) AllReadyH.nil
      refine step_append_seg (by rfl) (.tmp 14) (.tmp 15) (by rfl) (w.heap.size + 1) y1 ([105, 110, 116, 101, 110, 116]) [32] (by rfl) hY.out (some ⟨_, 0, none⟩) 1 1 rfl (by rfl) hL.out (by simp) (by (try simp only [List.length_append, List.length_cons, List.length_nil]); omega) (Array.getElem?_eq_some_iff.1 hX.out).1 ?_
      intro Vy2 V2 hY2 hg
      replace hX := hide' (kept_grown hY.out hg _ _ _ _ hX.out (by decide))
      replace hb := hide' (hb.out.grown hg hb.out.size (fun k hk => by have := hY.out.own k hk; omega))
      replace hY := hide' hY2
      clear hY2 hg hL
      show K (Act.put _ (some 16) Vy2) V2
      refine hK.out _ _ (seven_row hX.out).2.1 (fun hHeld => ?_)
      clear hK
      (try simp only [Act.put, List.setIfInBounds_toArray, List.set_cons_zero, List.set_cons_succ])
      refine wpAnyH_ready (rs := [5]) (by kernel_rfl) (by simp) ?_
      refine AllReadyH.cons rfl (fun K hK => ?_) AllReadyH.nil
      refine step_append_text (by rfl) (.tmp 16) (.tmp 18) 9 (by rfl) Tryz.underlying9 (w.heap.size + 1) Vy2 (([105, 110, 116, 101, 110, 116]) ++ [32]) ad (by rfl) hY.out (strOf ad) rfl hby (by rfl) (by (try simp only [List.length_append, List.length_cons, List.length_nil]); omega) (Array.getElem?_eq_some_iff.1 hX.out).1 ?_
      intro Vy3 V3 hY2 hg
      replace hX := hide' (kept_grown hY.out hg _ _ _ _ hX.out (by decide))
      replace hb := hide' (hb.out.grown hg hb.out.size (fun k hk => by have := hY.out.own k hk; omega))
      replace hY := hide' hY2
      clear hY2 hg
      show K (Act.put _ (some 19) Vy3) V3
      refine hK.out _ _ (seven_row hX.out).2.1 (fun hHeld => ?_)
      clear hK
      (try simp only [Act.put, List.setIfInBounds_toArray, List.set_cons_zero, List.set_cons_succ])
      refine take_yes (i := 6) 0 (v := ?_) rfl rfl (by kernel_rfl) (by kernel_rfl) (by kernel_rfl) (fun _ _ _ h => h) (by kernel_rfl) hHeld ?_ ?_
      rotate_left
      focus (intro w hSw; (try dsimp only at hSw); go_simp; (try with_reducible rfl))
      simp only [Act.put, List.setIfInBounds_toArray, List.set_cons_zero, List.set_cons_succ]
      refine wpAnyH_done (by kernel_rfl) ?_ _
      clear hHeld
      clear x0 x1 x2 x3
      obtain ⟨x0, x1, x2, x3, -, -, -⟩ := seven_row hX.out
      obtain ⟨zs1, hz1⟩ : ∃ zs1, zs1 = (([105, 110, 116, 101, 110, 116]) ++ [32]) ++ ad := ⟨_, rfl⟩
      rw [← hz1] at hY HTxt
      have hz1l : zs1.length ≤ 1048600 := by rw [hz1]; simp only [List.length_append, List.length_cons, List.length_nil]; omega
      clear hz1
      go_wp2_with fail
      refine wp_region_held_drew (S := (fun wx => wx.cell? ⟨w.heap.size, 2, none⟩ = some (.int .i64 4) ∧ wx.cell? ⟨1, 4, none⟩ = some (.string ⟨#[100, 101, 108, 101, 116, 101]⟩))) (by kernel_rfl) ⟨x2, HAc.out _ hb.out.drew⟩ (fun hHeld => ?_)
      replace hY : Hid (Bts V3.drew (w.heap.size + 1) _ (zs1)) := hY.out
      replace hX : Hid (V3.drew.heap[w.heap.size]? = _) := hX.out
      replace hb : Hid (Below w.heap.size w V3.drew) := hb.out.drew
      generalize V3.drew = U0 at *
      refine take_yes (i := 0) 24 (v := ?_) rfl rfl (by kernel_rfl) (by kernel_rfl) (by kernel_rfl) (fun _ _ _ h => h) (by kernel_rfl) hHeld ?_ ?_
      rotate_left
      focus (intro w hSw; (try dsimp only at hSw); go_simp; (try with_reducible rfl))
      simp only [Act.put, List.setIfInBounds_toArray, List.set_cons_zero, List.set_cons_succ]
      refine take_yes (i := 3) 27 (v := ?_) rfl rfl (by kernel_rfl) (by kernel_rfl) (by kernel_rfl) (fun _ _ _ h => h) (by kernel_rfl) hHeld ?_ ?_
      rotate_left
      focus (intro w hSw; (try dsimp only at hSw); go_simp; (try with_reducible rfl))
      simp only [Act.put, List.setIfInBounds_toArray, List.set_cons_zero, List.set_cons_succ]
      refine take_yes (i := 4) 28 (v := ?_) rfl rfl (by kernel_rfl) (by kernel_rfl) (by kernel_rfl) (fun _ _ _ h => h) (by kernel_rfl) hHeld ?_ ?_
      rotate_left
      focus (intro w hSw; (try dsimp only at hSw); go_simp; (try with_reducible rfl))
      simp only [Act.put, List.setIfInBounds_toArray, List.set_cons_zero, List.set_cons_succ]
      refine take_yes (i := 5) 29 (v := ?_) rfl rfl (by kernel_rfl) (by kernel_rfl) (by kernel_rfl) (fun _ _ _ h => h) (by kernel_rfl) hHeld ?_ ?_
      rotate_left
      focus (intro w hSw; (try dsimp only at hSw); go_simp; (try with_reducible rfl))
      simp only [Act.put, List.setIfInBounds_toArray, List.set_cons_zero, List.set_cons_succ]
      refine take_yes (i := 6) 30 (v := ?_) rfl rfl (by kernel_rfl) (by kernel_rfl) (by kernel_rfl) (fun _ _ _ h => h) (by kernel_rfl) hHeld ?_ ?_
      rotate_left
      focus (intro w hSw; (try dsimp only at hSw); go_simp; (try with_reducible rfl))
      simp only [Act.put, List.setIfInBounds_toArray, List.set_cons_zero, List.set_cons_succ]
      refine wpAnyH_ready (rs := [1]) (by kernel_rfl) (by simp) ?_
      refine AllReadyH.cons rfl (fun K hK => ?_) AllReadyH.nil
      go_simp
      have hL := hide' (Lit.seg (c := 32) (MapKept.heap_alloc U0 (.cells #[.int .u8 32] 5)).1 (by simp [Byt]))
      replace hY := hide' (hY.out.alloc (.cells #[.int .u8 32] 5))
      replace hX := hide' (kept_alloc U0 (.cells #[.int .u8 32] 5) _ _ _ _ hX.out (by decide))
      replace hb := hide' (hb.out.alloc hb.out.size (.cells #[.int .u8 32] 5))
      refine hK.out _ _ ⟨(seven_row hX.out).2.2.1, HAc.out _ hb.out⟩ (fun hHeld => ?_)
      clear hK
      (try simp only [Act.put, List.setIfInBounds_toArray, List.set_cons_zero, List.set_cons_succ])
      generalize U0.alloc (.cells #[.int .u8 32] 5) = U1 at *
      generalize U0.heap.size = gL0 at *
      refine wpAnyH_ready (rs := [2]) (by kernel_rfl) (by simp) ?_
      refine AllReadyH.cons rfl (fun K hK => ?_) AllReadyH.nil
      refine step_append_seg (by rfl) (.tmp 24) (.tmp 25) (by rfl) (w.heap.size + 1) Vy3 (zs1) [32] (by rfl) hY.out (some ⟨_, 0, none⟩) 1 1 rfl (by rfl) hL.out (by simp) (by (try simp only [List.length_append, List.length_cons, List.length_nil]); omega) (Array.getElem?_eq_some_iff.1 hX.out).1 ?_
      intro Uy2 U2 hY2 hg
      replace hX := hide' (kept_grown hY.out hg _ _ _ _ hX.out (by decide))
      replace hb := hide' (hb.out.grown hg hb.out.size (fun k hk => by have := hY.out.own k hk; omega))
      replace hY := hide' hY2
      clear hY2 hg hL
      show K (Act.put _ (some 26) Uy2) U2
      refine hK.out _ _ ⟨(seven_row hX.out).2.2.1, HAc.out _ hb.out⟩ (fun hHeld => ?_)
      clear hK
      (try simp only [Act.put, List.setIfInBounds_toArray, List.set_cons_zero, List.set_cons_succ])
      refine wpAnyH_ready (rs := [7]) (by kernel_rfl) (by simp) ?_
      refine AllReadyH.cons rfl (fun K hK => ?_) AllReadyH.nil
      refine step_append_text (by rfl) (.tmp 26) (.tmp 30) 9 (by rfl) Tryz.underlying9 (w.heap.size + 1) Uy2 ((zs1) ++ [32]) [100, 101, 108, 101, 116, 101] (by rfl) hY.out ⟨#[100, 101, 108, 101, 116, 101]⟩ (by rfl) (by simp [Byt]) (by rfl) (by (try simp only [List.length_append, List.length_cons, List.length_nil]); omega) (Array.getElem?_eq_some_iff.1 hX.out).1 ?_
      intro Uy3 U3 hY2 hg
      replace hX := hide' (kept_grown hY.out hg _ _ _ _ hX.out (by decide))
      replace hb := hide' (hb.out.grown hg hb.out.size (fun k hk => by have := hY.out.own k hk; omega))
      replace hY := hide' hY2
      clear hY2 hg
      show K (Act.put _ (some 31) Uy3) U3
      refine hK.out _ _ ⟨(seven_row hX.out).2.2.1, HAc.out _ hb.out⟩ (fun hHeld => ?_)
      clear hK
      (try simp only [Act.put, List.setIfInBounds_toArray, List.set_cons_zero, List.set_cons_succ])
      refine take_yes (i := 8) 0 (v := ?_) rfl rfl (by kernel_rfl) (by kernel_rfl) (by kernel_rfl) (fun _ _ _ h => h) (by kernel_rfl) hHeld ?_ ?_
      rotate_left
      focus (intro w hSw; (try dsimp only at hSw); go_simp; (try with_reducible rfl))
      simp only [Act.put, List.setIfInBounds_toArray, List.set_cons_zero, List.set_cons_succ]
      refine wpAnyH_done (by kernel_rfl) ?_ _
      clear hHeld
      obtain ⟨ya, yc, hyv, -⟩ := hY.out.shape
      subst hyv
      go_wp2
      go_ret
      rw [HTxt.out]
      exact ⟨_, _, rfl, hY.out.mono (by omega), hb.out⟩
  ·
    clear h0 h6 hj
    have HEw : Hid ((w.alloc (.cells #[.int .i64 2, .string (strOf ad), .int .i64 jj, .map m, .slice a n c, .bool false, .int .i64 0] 57)).cell? ⟨0, 2, none⟩ = some (.string ⟨#[100, 111, 110, 101]⟩)) := ((HA.out (.cells #[.int .i64 2, .string (strOf ad), .int .i64 jj, .map m, .slice a n c, .bool false, .int .i64 0] 57)).cell (p := ⟨0, 2, none⟩) HWr.out.lt).trans (HWr.out.1 2 (by decide))
    have hew := HEw.out
    have HAd : Hid (∀ wx, Calls Tryz.prog 40 #[.int .i64 2] wx fun e w' => e = .returned (.bool true) ∧ wx = w') := fun wx => hasAddr_any 2 wx
    obtain ⟨hps, gd, gp, hads⟩ := hpg rfl
    have hsvl : (sayV d v).length ≤ 2400 := by have := sayV_len d v 1 gd; omega
    have HPt : Hid (∀ (ya : Option Addr) (yc : Nat) (zs : List Int) wx, Below w.heap.size w wx → w.heap.size + 1 ≤ wx.heap.size → zs.length ≤ 1000 → Bts wx (w.heap.size + 1) (.slice ya zs.length yc) zs → Calls Tryz.prog 41 #[.slice ya zs.length yc, .iface 53 (.agg #[.map m])] wx (ApEnd (w.heap.size + 1) (zs ++ sayV d v) wx)) := fun ya yc zs wx hb hs hl hB => appendPart_any d w.heap.size (w.heap.size + 1) ya yc zs _ v 1 wx (PSeg.carry (fun _ h => h) (fun q hq => hb.block q hq) d hps) (by omega) hs hB gd gp (by omega) (fun w' h' => HTab.out w' (hb.trans (h'.mono (by omega))))
    generalize sayV d v = sv at *
    clear hps gd gp
    have HTxt : Hid (txtE 2 ad jj sv = ((((([100, 111, 110, 101]) ++ [32]) ++ ad) ++ [32]) ++ sv)) := by show _ = _; simp [txtE, evW, nmT]
    clear HWr HEw
    go_enter Tryz.func23, Tryz.ntmps23
    go_wp2_with (at_builtin; refine wpList_append_text rfl (.tmp 5) (.tmp 9) 9 (by rfl) Tryz.underlying9 (w.heap.size + 1) (.slice none 0 0) [] [100, 111, 110, 101] (by rfl) (bts_nil _ _) ⟨#[100, 111, 110, 101]⟩ (by rfl) (by simp [Byt]) (by rfl) (by simp) (by simp) ?_; intro y1 W1 hY0 hg0; have hY := hide' hY0; have hb : Hid (Below w.heap.size w W1) := (HA.out (.cells #[.int .i64 2, .string (strOf ad), .int .i64 jj, .map m, .slice a n c, .bool false, .int .i64 0] 57)).grown hg0 (by simp) (by simp [Value.ownBlock]); have hX : Hid (W1.heap[w.heap.size]? = some (.cells #[.int .i64 2, .string (strOf ad), .int .i64 jj, .map m, .slice a n c, .bool false, .int .i64 0] 57 (0, 0))) := (hg0.block _ (by simp) (by simp [Value.ownBlock])).trans (MapKept.heap_alloc w (.cells #[.int .i64 2, .string (strOf ad), .int .i64 jj, .map m, .slice a n c, .bool false, .int .i64 0] 57)).1; clear hY0 hg0 hew; obtain ⟨x0, x1, x2, x3, -, -, -⟩ := seven_row hX.out)
    simp only [List.nil_append] at hY
    go_wp2_with fail
    refine (HAd.out _).mono ?_
    rintro e w2 ⟨rfl, rfl⟩
    go_wp2_with fail
    refine wp_region_held_drew (S := (fun wx => wx.cell? ⟨w.heap.size, 1, none⟩ = some (.string (strOf ad)))) (by kernel_rfl) x1 (fun hHeld => ?_)
    replace hY : Hid (Bts W1.drew (w.heap.size + 1) _ ([100, 111, 110, 101])) := hY.out
    replace hX : Hid (W1.drew.heap[w.heap.size]? = _) := hX.out
    replace hb : Hid (Below w.heap.size w W1.drew) := hb.out.drew
    generalize W1.drew = V0 at *
    refine take_yes (i := 0) 14 (v := ?_) rfl rfl (by kernel_rfl) (by kernel_rfl) (by kernel_rfl) (fun _ _ _ h => h) (by kernel_rfl) hHeld ?_ ?_
    rotate_left
    focus (intro w hSw; (try dsimp only at hSw); go_simp; (try with_reducible rfl))
    simp only [Act.put, List.setIfInBounds_toArray, List.set_cons_zero, List.set_cons_succ]
    refine take_yes (i := 3) 17 (v := ?_) rfl rfl (by kernel_rfl) (by kernel_rfl) (by kernel_rfl) (fun _ _ _ h => h) (by kernel_rfl) hHeld ?_ ?_
    rotate_left
    focus (intro w hSw; (try dsimp only at hSw); go_simp; (try with_reducible rfl))
    simp only [Act.put, List.setIfInBounds_toArray, List.set_cons_zero, List.set_cons_succ]
    refine take_yes (i := 4) 18 (v := ?_) rfl rfl (by kernel_rfl) (by kernel_rfl) (by kernel_rfl) (fun _ _ _ h => h) (by kernel_rfl) hHeld ?_ ?_
    rotate_left
    focus (intro w hSw; (try dsimp only at hSw); go_simp; (try with_reducible rfl))
    simp only [Act.put, List.setIfInBounds_toArray, List.set_cons_zero, List.set_cons_succ]
    refine wpAnyH_ready (rs := [1]) (by kernel_rfl) (by simp) ?_
    refine AllReadyH.cons rfl (fun K hK => ?_) AllReadyH.nil
    go_simp
    have hL := hide' (Lit.seg (c := 32) (MapKept.heap_alloc V0 (.cells #[.int .u8 32] 5)).1 (by simp [Byt]))
    replace hY := hide' (hY.out.alloc (.cells #[.int .u8 32] 5))
    replace hX := hide' (kept_alloc V0 (.cells #[.int .u8 32] 5) _ _ _ _ hX.out (by decide))
    replace hb := hide' (hb.out.alloc hb.out.size (.cells #[.int .u8 32] 5))
    refine hK.out _ _ (seven_row hX.out).2.1 (fun hHeld => ?_)
    clear hK
    (try simp only [Act.put, List.setIfInBounds_toArray, List.set_cons_zero, List.set_cons_succ])
    generalize V0.alloc (.cells #[.int .u8 32] 5) = V1 at *
    generalize V0.heap.size = gL0 at *
    refine wpAnyH_ready (rs := [2]) (by kernel_rfl) (by simp) ?_
    refine AllReadyH.cons rfl (fun K hK => ?_) AllReadyH.nil
    refine step_append_seg (by rfl) (.tmp 14) (.tmp 15) (by rfl) (w.heap.size + 1) y1 ([100, 111, 110, 101]) [32] (by rfl) hY.out (some ⟨_, 0, none⟩) 1 1 rfl (by rfl) hL.out (by simp) (by (try simp only [List.length_append, List.length_cons, List.length_nil]); omega) (Array.getElem?_eq_some_iff.1 hX.out).1 ?_
    intro Vy2 V2 hY2 hg
    replace hX := hide' (kept_grown hY.out hg _ _ _ _ hX.out (by decide))
    replace hb := hide' (hb.out.grown hg hb.out.size (fun k hk => by have := hY.out.own k hk; omega))
    replace hY := hide' hY2
    clear hY2 hg hL
    show K (Act.put _ (some 16) Vy2) V2
    refine hK.out _ _ (seven_row hX.out).2.1 (fun hHeld => ?_)
    clear hK
    (try simp only [Act.put, List.setIfInBounds_toArray, List.set_cons_zero, List.set_cons_succ])
    refine wpAnyH_ready (rs := [5]) (by kernel_rfl) (by simp) ?_
    refine AllReadyH.cons rfl (fun K hK => ?_) AllReadyH.nil
    refine step_append_text (by rfl) (.tmp 16) (.tmp 18) 9 (by rfl) Tryz.underlying9 (w.heap.size + 1) Vy2 (([100, 111, 110, 101]) ++ [32]) ad (by rfl) hY.out (strOf ad) rfl hby (by rfl) (by (try simp only [List.length_append, List.length_cons, List.length_nil]); omega) (Array.getElem?_eq_some_iff.1 hX.out).1 ?_
    intro Vy3 V3 hY2 hg
    replace hX := hide' (kept_grown hY.out hg _ _ _ _ hX.out (by decide))
    replace hb := hide' (hb.out.grown hg hb.out.size (fun k hk => by have := hY.out.own k hk; omega))
    replace hY := hide' hY2
    clear hY2 hg
    show K (Act.put _ (some 19) Vy3) V3
    refine hK.out _ _ (seven_row hX.out).2.1 (fun hHeld => ?_)
    clear hK
    (try simp only [Act.put, List.setIfInBounds_toArray, List.set_cons_zero, List.set_cons_succ])
    refine take_yes (i := 6) 0 (v := ?_) rfl rfl (by kernel_rfl) (by kernel_rfl) (by kernel_rfl) (fun _ _ _ h => h) (by kernel_rfl) hHeld ?_ ?_
    rotate_left
    focus (intro w hSw; (try dsimp only at hSw); go_simp; (try with_reducible rfl))
    simp only [Act.put, List.setIfInBounds_toArray, List.set_cons_zero, List.set_cons_succ]
    refine wpAnyH_done (by kernel_rfl) ?_ _
    clear hHeld
    clear x0 x1 x2 x3
    obtain ⟨x0, x1, x2, x3, -, -, -⟩ := seven_row hX.out
    obtain ⟨zs1, hz1⟩ : ∃ zs1, zs1 = (([100, 111, 110, 101]) ++ [32]) ++ ad := ⟨_, rfl⟩
    rw [← hz1] at hY HTxt
    have hz1l : zs1.length ≤ 1048600 := by rw [hz1]; simp only [List.length_append, List.length_cons, List.length_nil]; omega
    have hz2l : zs1.length ≤ 900 := by rw [hz1]; simp only [List.length_append, List.length_cons, List.length_nil]; omega
    clear hz1
    go_wp2_with fail
    refine wp_region_held_drew (S := (fun wx => wx.cell? ⟨w.heap.size, 3, none⟩ = some (.map m))) (by kernel_rfl) x3 (fun hHeld => ?_)
    replace hY : Hid (Bts V3.drew (w.heap.size + 1) _ (zs1)) := hY.out
    replace hX : Hid (V3.drew.heap[w.heap.size]? = _) := hX.out
    replace hb : Hid (Below w.heap.size w V3.drew) := hb.out.drew
    generalize V3.drew = U0 at *
    refine take_yes (i := 0) 34 (v := ?_) rfl rfl (by kernel_rfl) (by kernel_rfl) (by kernel_rfl) (fun _ _ _ h => h) (by kernel_rfl) hHeld ?_ ?_
    rotate_left
    focus (intro w hSw; (try dsimp only at hSw); go_simp; (try with_reducible rfl))
    simp only [Act.put, List.setIfInBounds_toArray, List.set_cons_zero, List.set_cons_succ]
    refine take_yes (i := 3) 37 (v := ?_) rfl rfl (by kernel_rfl) (by kernel_rfl) (by kernel_rfl) (fun _ _ _ h => h) (by kernel_rfl) hHeld ?_ ?_
    rotate_left
    focus (intro w hSw; (try dsimp only at hSw); go_simp; (try with_reducible rfl))
    simp only [Act.put, List.setIfInBounds_toArray, List.set_cons_zero, List.set_cons_succ]
    refine take_yes (i := 4) 38 (v := ?_) rfl rfl (by kernel_rfl) (by kernel_rfl) (by kernel_rfl) (fun _ _ _ h => h) (by kernel_rfl) hHeld ?_ ?_
    rotate_left
    focus (intro w hSw; (try dsimp only at hSw); go_simp; (try with_reducible rfl))
    simp only [Act.put, List.setIfInBounds_toArray, List.set_cons_zero, List.set_cons_succ]
    refine take_yes (i := 5) 39 (v := ?_) rfl rfl (by kernel_rfl) (by kernel_rfl) (by kernel_rfl) (fun _ _ _ h => h) (by kernel_rfl) hHeld ?_ ?_
    rotate_left
    focus (intro w hSw; (try dsimp only at hSw); go_simp; (try with_reducible rfl))
    simp only [Act.put, List.setIfInBounds_toArray, List.set_cons_zero, List.set_cons_succ]
    refine take_yes (i := 6) 40 (v := ?_) rfl rfl (by kernel_rfl) (by kernel_rfl) (by kernel_rfl) (fun _ _ _ h => h) (by kernel_rfl) hHeld ?_ ?_
    rotate_left
    focus (intro w hSw; (try dsimp only at hSw); go_simp; (try with_reducible rfl))
    simp only [Act.put, List.setIfInBounds_toArray, List.set_cons_zero, List.set_cons_succ]
    refine wpAnyH_ready (rs := [1]) (by kernel_rfl) (by simp) ?_
    refine AllReadyH.cons rfl (fun K hK => ?_) AllReadyH.nil
    go_simp
    have hL := hide' (Lit.seg (c := 32) (MapKept.heap_alloc U0 (.cells #[.int .u8 32] 5)).1 (by simp [Byt]))
    replace hY := hide' (hY.out.alloc (.cells #[.int .u8 32] 5))
    replace hX := hide' (kept_alloc U0 (.cells #[.int .u8 32] 5) _ _ _ _ hX.out (by decide))
    replace hb := hide' (hb.out.alloc hb.out.size (.cells #[.int .u8 32] 5))
    refine hK.out _ _ (seven_row hX.out).2.2.2.1 (fun hHeld => ?_)
    clear hK
    (try simp only [Act.put, List.setIfInBounds_toArray, List.set_cons_zero, List.set_cons_succ])
    generalize U0.alloc (.cells #[.int .u8 32] 5) = U1 at *
    generalize U0.heap.size = gL0 at *
    refine wpAnyH_ready (rs := [2]) (by kernel_rfl) (by simp) ?_
    refine AllReadyH.cons rfl (fun K hK => ?_) AllReadyH.nil
    refine step_append_seg (by rfl) (.tmp 34) (.tmp 35) (by rfl) (w.heap.size + 1) Vy3 (zs1) [32] (by rfl) hY.out (some ⟨_, 0, none⟩) 1 1 rfl (by rfl) hL.out (by simp) (by (try simp only [List.length_append, List.length_cons, List.length_nil]); omega) (Array.getElem?_eq_some_iff.1 hX.out).1 ?_
    intro Uy2 U2 hY2 hg
    replace hX := hide' (kept_grown hY.out hg _ _ _ _ hX.out (by decide))
    replace hb := hide' (hb.out.grown hg hb.out.size (fun k hk => by have := hY.out.own k hk; omega))
    replace hY := hide' hY2
    clear hY2 hg hL
    show K (Act.put _ (some 36) Uy2) U2
    refine hK.out _ _ (seven_row hX.out).2.2.2.1 (fun hHeld => ?_)
    clear hK
    (try simp only [Act.put, List.setIfInBounds_toArray, List.set_cons_zero, List.set_cons_succ])
    refine wpAnyH_ready (rs := [7]) (by kernel_rfl) (by simp) ?_
    refine AllReadyH.cons rfl (fun K hK => ?_) AllReadyH.nil
    go_simp
    obtain ⟨ya, yc, hyv, -⟩ := hY.out.shape
    subst hyv
    go_at_call 41
    refine (HPt.out _ _ _ _ hb.out (Array.getElem?_eq_some_iff.1 hX.out).1 (by simp; omega) hY.out).mono ?_
    rintro e U3 ⟨pa, pc, rfl, hYn, hbn, hkn⟩
    replace hX := hide' (hkn _ _ _ _ hX.out (by decide))
    replace hb := hide' (hb.out.trans (hbn.mono (by omega)))
    replace hY := hide' hYn
    clear hYn hbn hkn
    go_wp2_with fail
    refine hK.out _ _ (seven_row hX.out).2.2.2.1 (fun hHeld => ?_)
    clear hK
    (try simp only [Act.put, List.setIfInBounds_toArray, List.set_cons_zero, List.set_cons_succ])
    refine take_yes (i := 8) 0 (v := ?_) rfl rfl (by kernel_rfl) (by kernel_rfl) (by kernel_rfl) (fun _ _ _ h => h) (by kernel_rfl) hHeld ?_ ?_
    rotate_left
    focus (intro w hSw; (try dsimp only at hSw); go_simp; (try with_reducible rfl))
    simp only [Act.put, List.setIfInBounds_toArray, List.set_cons_zero, List.set_cons_succ]
    refine wpAnyH_done (by kernel_rfl) ?_ _
    clear hHeld
    clear HPt
    go_wp2
    go_ret
    rw [HTxt.out]
    exact ⟨pa, pc, congrArg (fun q => Ending.returned (Value.slice pa q pc)) (show zs1.length + (sv.length + 1) = ((zs1 ++ [32]) ++ sv).length by simp only [List.length_append, List.length_cons, List.length_nil]; omega), hY.out.mono (by omega), hb.out⟩
  ·
    clear h0 h6 hj
    have HEw : Hid ((w.alloc (.cells #[.int .i64 3, .string (strOf ad), .int .i64 jj, .map m, .slice a n c, .bool false, .int .i64 0] 57)).cell? ⟨0, 3, none⟩ = some (.string ⟨#[103, 111, 110, 101]⟩)) := ((HA.out (.cells #[.int .i64 3, .string (strOf ad), .int .i64 jj, .map m, .slice a n c, .bool false, .int .i64 0] 57)).cell (p := ⟨0, 3, none⟩) HWr.out.lt).trans (HWr.out.1 3 (by decide))
    have hew := HEw.out
    have HAd : Hid (∀ wx, Calls Tryz.prog 40 #[.int .i64 3] wx fun e w' => e = .returned (.bool true) ∧ wx = w') := fun wx => hasAddr_any 3 wx
    have HTxt : Hid (txtE 3 ad jj (sayV d v) = ((([103, 111, 110, 101]) ++ [32]) ++ ad)) := by show _ = _; simp [txtE, evW, nmT]
    clear hpg HWr HEw
    go_enter Tryz.func23, Tryz.ntmps23
    go_wp2_with (at_builtin; refine wpList_append_text rfl (.tmp 5) (.tmp 9) 9 (by rfl) Tryz.underlying9 (w.heap.size + 1) (.slice none 0 0) [] [103, 111, 110, 101] (by rfl) (bts_nil _ _) ⟨#[103, 111, 110, 101]⟩ (by rfl) (by simp [Byt]) (by rfl) (by simp) (by simp) ?_; intro y1 W1 hY0 hg0; have hY := hide' hY0; have hb : Hid (Below w.heap.size w W1) := (HA.out (.cells #[.int .i64 3, .string (strOf ad), .int .i64 jj, .map m, .slice a n c, .bool false, .int .i64 0] 57)).grown hg0 (by simp) (by simp [Value.ownBlock]); have hX : Hid (W1.heap[w.heap.size]? = some (.cells #[.int .i64 3, .string (strOf ad), .int .i64 jj, .map m, .slice a n c, .bool false, .int .i64 0] 57 (0, 0))) := (hg0.block _ (by simp) (by simp [Value.ownBlock])).trans (MapKept.heap_alloc w (.cells #[.int .i64 3, .string (strOf ad), .int .i64 jj, .map m, .slice a n c, .bool false, .int .i64 0] 57)).1; clear hY0 hg0 hew; obtain ⟨x0, x1, x2, x3, -, -, -⟩ := seven_row hX.out)
    simp only [List.nil_append] at hY
    go_wp2_with fail
    refine (HAd.out _).mono ?_
    rintro e w2 ⟨rfl, rfl⟩
    go_wp2_with fail
    refine wp_region_held_drew (S := (fun wx => wx.cell? ⟨w.heap.size, 1, none⟩ = some (.string (strOf ad)))) (by kernel_rfl) x1 (fun hHeld => ?_)
    replace hY : Hid (Bts W1.drew (w.heap.size + 1) _ ([103, 111, 110, 101])) := hY.out
    replace hX : Hid (W1.drew.heap[w.heap.size]? = _) := hX.out
    replace hb : Hid (Below w.heap.size w W1.drew) := hb.out.drew
    generalize W1.drew = V0 at *
    refine take_yes (i := 0) 14 (v := ?_) rfl rfl (by kernel_rfl) (by kernel_rfl) (by kernel_rfl) (fun _ _ _ h => h) (by kernel_rfl) hHeld ?_ ?_
    rotate_left
    focus (intro w hSw; (try dsimp only at hSw); go_simp; (try with_reducible rfl))
    simp only [Act.put, List.setIfInBounds_toArray, List.set_cons_zero, List.set_cons_succ]
    refine take_yes (i := 3) 17 (v := ?_) rfl rfl (by kernel_rfl) (by kernel_rfl) (by kernel_rfl) (fun _ _ _ h => h) (by kernel_rfl) hHeld ?_ ?_
    rotate_left
    focus (intro w hSw; (try dsimp only at hSw); go_simp; (try with_reducible rfl))
    simp only [Act.put, List.setIfInBounds_toArray, List.set_cons_zero, List.set_cons_succ]
    refine take_yes (i := 4) 18 (v := ?_) rfl rfl (by kernel_rfl) (by kernel_rfl) (by kernel_rfl) (fun _ _ _ h => h) (by kernel_rfl) hHeld ?_ ?_
    rotate_left
    focus (intro w hSw; (try dsimp only at hSw); go_simp; (try with_reducible rfl))
    simp only [Act.put, List.setIfInBounds_toArray, List.set_cons_zero, List.set_cons_succ]
    refine wpAnyH_ready (rs := [1]) (by kernel_rfl) (by simp) ?_
    refine AllReadyH.cons rfl (fun K hK => ?_) AllReadyH.nil
    go_simp
    have hL := hide' (Lit.seg (c := 32) (MapKept.heap_alloc V0 (.cells #[.int .u8 32] 5)).1 (by simp [Byt]))
    replace hY := hide' (hY.out.alloc (.cells #[.int .u8 32] 5))
    replace hX := hide' (kept_alloc V0 (.cells #[.int .u8 32] 5) _ _ _ _ hX.out (by decide))
    replace hb := hide' (hb.out.alloc hb.out.size (.cells #[.int .u8 32] 5))
    refine hK.out _ _ (seven_row hX.out).2.1 (fun hHeld => ?_)
    clear hK
    (try simp only [Act.put, List.setIfInBounds_toArray, List.set_cons_zero, List.set_cons_succ])
    generalize V0.alloc (.cells #[.int .u8 32] 5) = V1 at *
    generalize V0.heap.size = gL0 at *
    refine wpAnyH_ready (rs := [2]) (by kernel_rfl) (by simp) ?_
    refine AllReadyH.cons rfl (fun K hK => ?_) AllReadyH.nil
    refine step_append_seg (by rfl) (.tmp 14) (.tmp 15) (by rfl) (w.heap.size + 1) y1 ([103, 111, 110, 101]) [32] (by rfl) hY.out (some ⟨_, 0, none⟩) 1 1 rfl (by rfl) hL.out (by simp) (by (try simp only [List.length_append, List.length_cons, List.length_nil]); omega) (Array.getElem?_eq_some_iff.1 hX.out).1 ?_
    intro Vy2 V2 hY2 hg
    replace hX := hide' (kept_grown hY.out hg _ _ _ _ hX.out (by decide))
    replace hb := hide' (hb.out.grown hg hb.out.size (fun k hk => by have := hY.out.own k hk; omega))
    replace hY := hide' hY2
    clear hY2 hg hL
    show K (Act.put _ (some 16) Vy2) V2
    refine hK.out _ _ (seven_row hX.out).2.1 (fun hHeld => ?_)
    clear hK
    (try simp only [Act.put, List.setIfInBounds_toArray, List.set_cons_zero, List.set_cons_succ])
    refine wpAnyH_ready (rs := [5]) (by kernel_rfl) (by simp) ?_
    refine AllReadyH.cons rfl (fun K hK => ?_) AllReadyH.nil
    refine step_append_text (by rfl) (.tmp 16) (.tmp 18) 9 (by rfl) Tryz.underlying9 (w.heap.size + 1) Vy2 (([103, 111, 110, 101]) ++ [32]) ad (by rfl) hY.out (strOf ad) rfl hby (by rfl) (by (try simp only [List.length_append, List.length_cons, List.length_nil]); omega) (Array.getElem?_eq_some_iff.1 hX.out).1 ?_
    intro Vy3 V3 hY2 hg
    replace hX := hide' (kept_grown hY.out hg _ _ _ _ hX.out (by decide))
    replace hb := hide' (hb.out.grown hg hb.out.size (fun k hk => by have := hY.out.own k hk; omega))
    replace hY := hide' hY2
    clear hY2 hg
    show K (Act.put _ (some 19) Vy3) V3
    refine hK.out _ _ (seven_row hX.out).2.1 (fun hHeld => ?_)
    clear hK
    (try simp only [Act.put, List.setIfInBounds_toArray, List.set_cons_zero, List.set_cons_succ])
    refine take_yes (i := 6) 0 (v := ?_) rfl rfl (by kernel_rfl) (by kernel_rfl) (by kernel_rfl) (fun _ _ _ h => h) (by kernel_rfl) hHeld ?_ ?_
    rotate_left
    focus (intro w hSw; (try dsimp only at hSw); go_simp; (try with_reducible rfl))
    simp only [Act.put, List.setIfInBounds_toArray, List.set_cons_zero, List.set_cons_succ]
    refine wpAnyH_done (by kernel_rfl) ?_ _
    clear hHeld
    clear x0 x1 x2 x3
    obtain ⟨x0, x1, x2, x3, -, -, -⟩ := seven_row hX.out
    obtain ⟨ya, yc, hyv, -⟩ := hY.out.shape
    subst hyv
    go_wp2
    go_ret
    rw [HTxt.out]
    exact ⟨_, _, rfl, hY.out.mono (by omega), hb.out⟩
  ·
    clear h0 h6 hj
    have HEw : Hid ((w.alloc (.cells #[.int .i64 4, .string (strOf ad), .int .i64 jj, .map m, .slice a n c, .bool false, .int .i64 0] 57)).cell? ⟨0, 4, none⟩ = some (.string ⟨#[102, 97, 105, 108]⟩)) := ((HA.out (.cells #[.int .i64 4, .string (strOf ad), .int .i64 jj, .map m, .slice a n c, .bool false, .int .i64 0] 57)).cell (p := ⟨0, 4, none⟩) HWr.out.lt).trans (HWr.out.1 4 (by decide))
    have hew := HEw.out
    have HAd : Hid (∀ wx, Calls Tryz.prog 40 #[.int .i64 4] wx fun e w' => e = .returned (.bool true) ∧ wx = w') := fun wx => hasAddr_any 4 wx
    have HTxt : Hid (txtE 4 ad jj (sayV d v) = ((([102, 97, 105, 108]) ++ [32]) ++ ad)) := by show _ = _; simp [txtE, evW, nmT]
    clear hpg HWr HEw
    go_enter Tryz.func23, Tryz.ntmps23
    go_wp2_with (at_builtin; refine wpList_append_text rfl (.tmp 5) (.tmp 9) 9 (by rfl) Tryz.underlying9 (w.heap.size + 1) (.slice none 0 0) [] [102, 97, 105, 108] (by rfl) (bts_nil _ _) ⟨#[102, 97, 105, 108]⟩ (by rfl) (by simp [Byt]) (by rfl) (by simp) (by simp) ?_; intro y1 W1 hY0 hg0; have hY := hide' hY0; have hb : Hid (Below w.heap.size w W1) := (HA.out (.cells #[.int .i64 4, .string (strOf ad), .int .i64 jj, .map m, .slice a n c, .bool false, .int .i64 0] 57)).grown hg0 (by simp) (by simp [Value.ownBlock]); have hX : Hid (W1.heap[w.heap.size]? = some (.cells #[.int .i64 4, .string (strOf ad), .int .i64 jj, .map m, .slice a n c, .bool false, .int .i64 0] 57 (0, 0))) := (hg0.block _ (by simp) (by simp [Value.ownBlock])).trans (MapKept.heap_alloc w (.cells #[.int .i64 4, .string (strOf ad), .int .i64 jj, .map m, .slice a n c, .bool false, .int .i64 0] 57)).1; clear hY0 hg0 hew; obtain ⟨x0, x1, x2, x3, -, -, -⟩ := seven_row hX.out)
    simp only [List.nil_append] at hY
    go_wp2_with fail
    refine (HAd.out _).mono ?_
    rintro e w2 ⟨rfl, rfl⟩
    go_wp2_with fail
    refine wp_region_held_drew (S := (fun wx => wx.cell? ⟨w.heap.size, 1, none⟩ = some (.string (strOf ad)))) (by kernel_rfl) x1 (fun hHeld => ?_)
    replace hY : Hid (Bts W1.drew (w.heap.size + 1) _ ([102, 97, 105, 108])) := hY.out
    replace hX : Hid (W1.drew.heap[w.heap.size]? = _) := hX.out
    replace hb : Hid (Below w.heap.size w W1.drew) := hb.out.drew
    generalize W1.drew = V0 at *
    refine take_yes (i := 0) 14 (v := ?_) rfl rfl (by kernel_rfl) (by kernel_rfl) (by kernel_rfl) (fun _ _ _ h => h) (by kernel_rfl) hHeld ?_ ?_
    rotate_left
    focus (intro w hSw; (try dsimp only at hSw); go_simp; (try with_reducible rfl))
    simp only [Act.put, List.setIfInBounds_toArray, List.set_cons_zero, List.set_cons_succ]
    refine take_yes (i := 3) 17 (v := ?_) rfl rfl (by kernel_rfl) (by kernel_rfl) (by kernel_rfl) (fun _ _ _ h => h) (by kernel_rfl) hHeld ?_ ?_
    rotate_left
    focus (intro w hSw; (try dsimp only at hSw); go_simp; (try with_reducible rfl))
    simp only [Act.put, List.setIfInBounds_toArray, List.set_cons_zero, List.set_cons_succ]
    refine take_yes (i := 4) 18 (v := ?_) rfl rfl (by kernel_rfl) (by kernel_rfl) (by kernel_rfl) (fun _ _ _ h => h) (by kernel_rfl) hHeld ?_ ?_
    rotate_left
    focus (intro w hSw; (try dsimp only at hSw); go_simp; (try with_reducible rfl))
    simp only [Act.put, List.setIfInBounds_toArray, List.set_cons_zero, List.set_cons_succ]
    refine wpAnyH_ready (rs := [1]) (by kernel_rfl) (by simp) ?_
    refine AllReadyH.cons rfl (fun K hK => ?_) AllReadyH.nil
    go_simp
    have hL := hide' (Lit.seg (c := 32) (MapKept.heap_alloc V0 (.cells #[.int .u8 32] 5)).1 (by simp [Byt]))
    replace hY := hide' (hY.out.alloc (.cells #[.int .u8 32] 5))
    replace hX := hide' (kept_alloc V0 (.cells #[.int .u8 32] 5) _ _ _ _ hX.out (by decide))
    replace hb := hide' (hb.out.alloc hb.out.size (.cells #[.int .u8 32] 5))
    refine hK.out _ _ (seven_row hX.out).2.1 (fun hHeld => ?_)
    clear hK
    (try simp only [Act.put, List.setIfInBounds_toArray, List.set_cons_zero, List.set_cons_succ])
    generalize V0.alloc (.cells #[.int .u8 32] 5) = V1 at *
    generalize V0.heap.size = gL0 at *
    refine wpAnyH_ready (rs := [2]) (by kernel_rfl) (by simp) ?_
    refine AllReadyH.cons rfl (fun K hK => ?_) AllReadyH.nil
    refine step_append_seg (by rfl) (.tmp 14) (.tmp 15) (by rfl) (w.heap.size + 1) y1 ([102, 97, 105, 108]) [32] (by rfl) hY.out (some ⟨_, 0, none⟩) 1 1 rfl (by rfl) hL.out (by simp) (by (try simp only [List.length_append, List.length_cons, List.length_nil]); omega) (Array.getElem?_eq_some_iff.1 hX.out).1 ?_
    intro Vy2 V2 hY2 hg
    replace hX := hide' (kept_grown hY.out hg _ _ _ _ hX.out (by decide))
    replace hb := hide' (hb.out.grown hg hb.out.size (fun k hk => by have := hY.out.own k hk; omega))
    replace hY := hide' hY2
    clear hY2 hg hL
    show K (Act.put _ (some 16) Vy2) V2
    refine hK.out _ _ (seven_row hX.out).2.1 (fun hHeld => ?_)
    clear hK
    (try simp only [Act.put, List.setIfInBounds_toArray, List.set_cons_zero, List.set_cons_succ])
    refine wpAnyH_ready (rs := [5]) (by kernel_rfl) (by simp) ?_
    refine AllReadyH.cons rfl (fun K hK => ?_) AllReadyH.nil
    refine step_append_text (by rfl) (.tmp 16) (.tmp 18) 9 (by rfl) Tryz.underlying9 (w.heap.size + 1) Vy2 (([102, 97, 105, 108]) ++ [32]) ad (by rfl) hY.out (strOf ad) rfl hby (by rfl) (by (try simp only [List.length_append, List.length_cons, List.length_nil]); omega) (Array.getElem?_eq_some_iff.1 hX.out).1 ?_
    intro Vy3 V3 hY2 hg
    replace hX := hide' (kept_grown hY.out hg _ _ _ _ hX.out (by decide))
    replace hb := hide' (hb.out.grown hg hb.out.size (fun k hk => by have := hY.out.own k hk; omega))
    replace hY := hide' hY2
    clear hY2 hg
    show K (Act.put _ (some 19) Vy3) V3
    refine hK.out _ _ (seven_row hX.out).2.1 (fun hHeld => ?_)
    clear hK
    (try simp only [Act.put, List.setIfInBounds_toArray, List.set_cons_zero, List.set_cons_succ])
    refine take_yes (i := 6) 0 (v := ?_) rfl rfl (by kernel_rfl) (by kernel_rfl) (by kernel_rfl) (fun _ _ _ h => h) (by kernel_rfl) hHeld ?_ ?_
    rotate_left
    focus (intro w hSw; (try dsimp only at hSw); go_simp; (try with_reducible rfl))
    simp only [Act.put, List.setIfInBounds_toArray, List.set_cons_zero, List.set_cons_succ]
    refine wpAnyH_done (by kernel_rfl) ?_ _
    clear hHeld
    clear x0 x1 x2 x3
    obtain ⟨x0, x1, x2, x3, -, -, -⟩ := seven_row hX.out
    obtain ⟨ya, yc, hyv, -⟩ := hY.out.shape
    subst hyv
    go_wp2
    go_ret
    rw [HTxt.out]
    exact ⟨_, _, rfl, hY.out.mono (by omega), hb.out⟩
  ·
    clear h0 h6 hj
    have HEw : Hid ((w.alloc (.cells #[.int .i64 5, .string (strOf ad), .int .i64 jj, .map m, .slice a n c, .bool false, .int .i64 0] 57)).cell? ⟨0, 5, none⟩ = some (.string ⟨#[101, 110, 100]⟩)) := ((HA.out (.cells #[.int .i64 5, .string (strOf ad), .int .i64 jj, .map m, .slice a n c, .bool false, .int .i64 0] 57)).cell (p := ⟨0, 5, none⟩) HWr.out.lt).trans (HWr.out.1 5 (by decide))
    have hew := HEw.out
    have HAd : Hid (∀ wx, Calls Tryz.prog 40 #[.int .i64 5] wx fun e w' => e = .returned (.bool false) ∧ wx = w') := fun wx => hasAddr_any 5 wx
    have HTxt : Hid (txtE 5 ad jj (sayV d v) = [101, 110, 100]) := by show _ = _; simp [txtE, evW, nmT]
    clear hpg HWr HEw
    go_enter Tryz.func23, Tryz.ntmps23
    go_wp2_with (at_builtin; refine wpList_append_text rfl (.tmp 5) (.tmp 9) 9 (by rfl) Tryz.underlying9 (w.heap.size + 1) (.slice none 0 0) [] [101, 110, 100] (by rfl) (bts_nil _ _) ⟨#[101, 110, 100]⟩ (by rfl) (by simp [Byt]) (by rfl) (by simp) (by simp) ?_; intro y1 W1 hY0 hg0; have hY := hide' hY0; have hb : Hid (Below w.heap.size w W1) := (HA.out (.cells #[.int .i64 5, .string (strOf ad), .int .i64 jj, .map m, .slice a n c, .bool false, .int .i64 0] 57)).grown hg0 (by simp) (by simp [Value.ownBlock]); have hX : Hid (W1.heap[w.heap.size]? = some (.cells #[.int .i64 5, .string (strOf ad), .int .i64 jj, .map m, .slice a n c, .bool false, .int .i64 0] 57 (0, 0))) := (hg0.block _ (by simp) (by simp [Value.ownBlock])).trans (MapKept.heap_alloc w (.cells #[.int .i64 5, .string (strOf ad), .int .i64 jj, .map m, .slice a n c, .bool false, .int .i64 0] 57)).1; clear hY0 hg0 hew; obtain ⟨x0, x1, x2, x3, -, -, -⟩ := seven_row hX.out)
    simp only [List.nil_append] at hY
    go_wp2_with fail
    refine (HAd.out _).mono ?_
    rintro e w2 ⟨rfl, rfl⟩
    clear x1 x2 x3 HAd
    obtain ⟨ya, yc, hyv, -⟩ := hY.out.shape
    subst hyv
    go_wp2
    go_ret
    rw [HTxt.out]
    exact ⟨_, _, rfl, hY.out.mono (by omega), hb.out⟩
  ·
    clear h0 h6 hj
    have HEw : Hid ((w.alloc (.cells #[.int .i64 6, .string (strOf ad), .int .i64 jj, .map m, .slice a n c, .bool false, .int .i64 0] 57)).cell? ⟨0, 6, none⟩ = some (.string ⟨#[114, 101, 115, 101, 116]⟩)) := ((HA.out (.cells #[.int .i64 6, .string (strOf ad), .int .i64 jj, .map m, .slice a n c, .bool false, .int .i64 0] 57)).cell (p := ⟨0, 6, none⟩) HWr.out.lt).trans (HWr.out.1 6 (by decide))
    have hew := HEw.out
    have HAd : Hid (∀ wx, Calls Tryz.prog 40 #[.int .i64 6] wx fun e w' => e = .returned (.bool false) ∧ wx = w') := fun wx => hasAddr_any 6 wx
    have HTxt : Hid (txtE 6 ad jj (sayV d v) = [114, 101, 115, 101, 116]) := by show _ = _; simp [txtE, evW, nmT]
    clear hpg HWr HEw
    go_enter Tryz.func23, Tryz.ntmps23
    go_wp2_with (at_builtin; refine wpList_append_text rfl (.tmp 5) (.tmp 9) 9 (by rfl) Tryz.underlying9 (w.heap.size + 1) (.slice none 0 0) [] [114, 101, 115, 101, 116] (by rfl) (bts_nil _ _) ⟨#[114, 101, 115, 101, 116]⟩ (by rfl) (by simp [Byt]) (by rfl) (by simp) (by simp) ?_; intro y1 W1 hY0 hg0; have hY := hide' hY0; have hb : Hid (Below w.heap.size w W1) := (HA.out (.cells #[.int .i64 6, .string (strOf ad), .int .i64 jj, .map m, .slice a n c, .bool false, .int .i64 0] 57)).grown hg0 (by simp) (by simp [Value.ownBlock]); have hX : Hid (W1.heap[w.heap.size]? = some (.cells #[.int .i64 6, .string (strOf ad), .int .i64 jj, .map m, .slice a n c, .bool false, .int .i64 0] 57 (0, 0))) := (hg0.block _ (by simp) (by simp [Value.ownBlock])).trans (MapKept.heap_alloc w (.cells #[.int .i64 6, .string (strOf ad), .int .i64 jj, .map m, .slice a n c, .bool false, .int .i64 0] 57)).1; clear hY0 hg0 hew; obtain ⟨x0, x1, x2, x3, -, -, -⟩ := seven_row hX.out)
    simp only [List.nil_append] at hY
    go_wp2_with fail
    refine (HAd.out _).mono ?_
    rintro e w2 ⟨rfl, rfl⟩
    clear x1 x2 x3 HAd
    obtain ⟨ya, yc, hyv, -⟩ := hY.out.shape
    subst hyv
    go_wp2
    go_ret
    rw [HTxt.out]
    exact ⟨_, _, rfl, hY.out.mono (by omega), hb.out⟩

set_option maxHeartbeats 6400000 in
set_option maxRecDepth 100000 in
theorem impl_EventText_any (d N : Nat) (cs : List Value) (it : Rcd d) (w : World) (h : RSg (fun b => b < N) w d cs it) (hN : N ≤ w.heap.size) (hz : RSz d it) (hEr : Errs w) (hWr : WrdT w) (ht : Tab w.heap.size w) :
    Calls Tryz.prog 7 #[.agg cs.toArray] w (TxEnd (evtT d it) w) := by
  have HA : Hid (∀ o : Obj, Below w.heap.size w (w.alloc o)) := fun o => (Below.refl _ _).alloc (Nat.le_refl _) o
  have HC : Hid (∀ wx, Below w.heap.size w wx → Calls Tryz.prog 22 #[.agg cs.toArray] wx (DeedEnd d it.2.2.2.1 it.2.2.2.2 it.1 (strOf it.2.1) it.2.2.1 (evB d it) wx)) := fun wx hb => deedOf_any d N cs it wx (h.agree (agree_below (hb.mono hN))) (by have := hb.size; omega) hz (hEr.grow hb)
  have HWr := hide' hWr
  have HTab := hide' ht
  obtain ⟨na, np, bk, bn, a2, l2, p2, a3, l3, p3, a4, l4, p4, xa, xp, rfl, htx, -, -⟩ := h.form
  obtain ⟨kk, ad, jj, vv, ds⟩ := it
  simp only at HC htx ⊢
  have hby : ∀ x ∈ ad, Byt x := by
    obtain ⟨_, _, _, hs, _⟩ := htx
    exact hs.1
  have hadl : ad.length ≤ 1048576 := hz.1
  clear hz h hEr hWr ht htx
  show Calls _ _ _ _ fun e w' => TxEnd (evtT d (kk, ad, jj, vv, ds)) w e w'
  cases hev : evB d (kk, ad, jj, vv, ds) with
  | false =>
    have HF := hide' (evtT_no hev)
    rw [hev] at HC
    clear hev
    generalize ds.length = dl at *
    generalize ad.length = al at *
    go_enter Tryz.func7, Tryz.ntmps7
    go_wp2_with fail
    refine (HC.out _ (HA.out _)).mono ?_
    rintro e w1 ⟨k, s, j, m, a, n, c, f, t, rfl, b1, -⟩
    have B1 := hide' (Below.on (HA.out _) b1)
    clear b1 HC
    go_wp2
    go_ret
    rw [HF.out]
    exact ⟨none, 0, rfl, bts_nil _ _, B1.out.alloc B1.out.size _⟩
  | true =>
    obtain ⟨hk0, hk6, hhd, hre⟩ := ev_parts hev
    obtain ⟨-, -, hq3⟩ := head_addr hhd
    have hgd := rest_map hre
    have has : kk = 2 → ad.length ≤ 60 := fun e => by
      unfold headE at hhd
      rw [Bool.and_eq_true, if_pos (by omega)] at hhd
      exact addr_short hhd.1
    have HT : Hid (evtT d (kk, ad, jj, vv, ds) = txtE kk ad jj (sayV d vv)) := by
      show _ = _
      unfold evtT txtE
      rw [if_pos hev]
    rw [hev] at HC
    have HD : Hid (∀ (m : Option Nat) (a : Option Addr) (n c : Nat) (wx : World), Below w.heap.size w wx → (kk = 2 → PSeg (fun q => q < wx.heap.size) wx d (.iface 53 (.agg #[.map m])) vv) → Calls Tryz.prog 23 #[.slice none 0 0, .agg #[.int .i64 kk, .string (strOf ad), .int .i64 jj, .map m, .slice a n c, .bool false, .int .i64 0]] wx (TxEnd (txtE kk ad jj (sayV d vv)) wx)) := fun m a n c wx hb hp => appendDeed_any d kk ad jj m a n c vv wx (HWr.out.below hb) (fun w' h' => HTab.out w' (Below.on hb h')) hk0 hk6 hq3 hby hadl (fun e => ⟨hp e, (hgd e).1, (hgd e).2, has e⟩)
    rw [HT.out]
    generalize txtE kk ad jj (sayV d vv) = xs at *
    clear hev hhd hre hgd hq3 has HT hk0 hk6 HWr HTab hby
    generalize ds.length = dl at *
    generalize ad.length = al at *
    go_enter Tryz.func7, Tryz.ntmps7
    go_wp2_with fail
    refine (HC.out _ (HA.out _)).mono ?_
    rintro e w1 ⟨k, s, j, m, a, n, c, f, t, rfl, b1, hg⟩
    obtain ⟨rfl, rfl, rfl, rfl, rfl, hp2, -⟩ := hg rfl
    have hAl := (Below.refl w1.heap.size w1).alloc (Nat.le_refl _) (.cells #[.int .i64 k, .string (strOf ad), .int .i64 j, .map m, .slice a n c, .bool false, .int .i64 0] 57)
    have B1 := hide' (Below.on (Below.on (HA.out _) b1) hAl)
    have HD1 := hide' (HD.out m a n c _ B1.out (fun e => PSeg.carry (fun q hq => by have := hq.2; simp; omega) (fun q hq => hAl.block q hq.2) d (hp2 e).1))
    clear b1 HC HD hAl hp2 hg
    go_wp2_with fail
    refine HD1.out.mono ?_
    rintro e w2 ⟨ra, rc, rfl, hB, b2⟩
    have B2 := hide' (Below.on B1.out b2)
    have HB := hide' (hB.mono (base' := w.heap.size) B1.out.size)
    clear b2 hB HD1
    go_wp2
    go_ret
    exact ⟨_, _, rfl, HB.out, B2.out⟩
end Go.Proofs.YtfojpencmkmdfaaGreatDoor
