/-
  Texts that a law leans on, one behind the other; no statement is proved here.
-/
import Derived.Test.YtbmgkmnibjdpiaaGreatDoorPk25
import Derived.Test.YtbmgkmnibjdpiaaGreatDoorPk26
import Derived.Test.YtbmgkmnibjdpiaaGreatDoorPk17
import Derived.Test.YtbmgkmnibjdpiaaGreatDoorPk0
import Derived.Deep.RegionLaw
import Derived.Deep.RegionWith
/-
  entry of the program: an entry made of one that was taken in, all of it new memory.
-/
namespace Go.Proofs.YtbmgkmnibjdpiaaGreatDoor
open Go.RowKit
set_option linter.unusedVariables false
set_option linter.unusedSimpArgs false

set_option maxHeartbeats 6400000 in
set_option maxRecDepth 100000 in
theorem entry_any {d : Nat} {w : World} {wB mB lo : Nat} {s0 : Int} {s1 : Bool} {nm : List Int} {s3 : Int} {xs : List Int} {v : Vl d} {ks : List (List Int)} {tn : Bool} {tu : Int} {m : Option Nat} {ha : Option Addr} {hn hc : Nat} (hB : WBx w wB mB s0 s1 nm s3)
    (hlk : ∀ o : Obj, (Instr.lookup 76 (.map (some mB)) (.string (strOf xs)) false).run Tryz.prog (w.alloc o) = .ok (.agg #[.map m, .slice ha hn hc, .bool tn, .int .i64 tu]) (w.alloc o))
    (hP : PSeg (fun b => b < w.heap.size) w d (.iface 81 (.agg #[.map m])) v) (hS : SR w lo (.slice ha hn hc) ks) (hok : okB d v = true) (hby : ∀ x ∈ xs, Byt x) (hxl : xs.length ≤ 1048576) (hkl : ks.length ≤ 1000) (hk1 : ∀ i, i < ks.length → ∀ x ∈ ks.getD i [], Byt x) (hk2 : ∀ i, i < ks.length → (ks.getD i []).length ≤ 1048576) :
    Calls Tryz.prog 30 #[.pointer (some ⟨wB, 0, none⟩), .string (strOf xs)] w (NtEndD d (xs, v, ks, tn, tu) w) := by
  have HBy := hide' hby
  have HLn := hide' hxl
  have hgd : goodB d v 1 = true ∧ partsV d v ≤ 40 := by unfold okB at hok; rw [Bool.and_eq_true, decide_eq_true_eq] at hok; exact hok
  have hwB := (Array.getElem?_eq_some_iff.1 hB).1
  have HW0 : Hid (Below w.heap.size w ((w.alloc (.cells #[.slice none 0 0, .int .i64 0, .int .i64 0, .slice none 0 0, .slice none 0 0, .slice none 0 0, .slice none 0 0, .bool false, .int .i64 0] 39)).alloc (.cells #[.map m, .slice ha hn hc, .bool tn, .int .i64 tu] 84))) := ((Below.refl _ _).alloc (Nat.le_refl _) _).alloc (by simp) _
  have HR0 := hide' (two_boxes w (.cells #[.slice none 0 0, .int .i64 0, .int .i64 0, .slice none 0 0, .slice none 0 0, .slice none 0 0, .slice none 0 0, .bool false, .int .i64 0] 39) (.cells #[.map m, .slice ha hn hc, .bool tn, .int .i64 tu] 84))
  have hlk0 := hlk (.cells #[.slice none 0 0, .int .i64 0, .int .i64 0, .slice none 0 0, .slice none 0 0, .slice none 0 0, .slice none 0 0, .bool false, .int .i64 0] 39)
  have f4 : (w.alloc (.cells #[.slice none 0 0, .int .i64 0, .int .i64 0, .slice none 0 0, .slice none 0 0, .slice none 0 0, .slice none 0 0, .bool false, .int .i64 0] 39)).cell? ⟨wB, 4, none⟩ = some (.map (some mB)) := (five_row ((Below.heap_alloc w _ _ hwB).trans hB)).2.2.2.2
  have HVal0 : Hid (∀ wx, Below w.heap.size w wx → Calls Tryz.prog 49 #[.iface 81 (.agg #[.map m])] wx (ValEnd d v wx)) := fun wx hb => valueOf_any d w.heap.size _ v 1 wx (PSeg.carry (fun b hb' => hb') (fun b hb' => hb.block b hb') d hP) hb.size hgd.1 hgd.2
  have HDep0 : Hid (∀ wx, Below w.heap.size w wx → Calls Tryz.prog 50 #[.agg #[.map m, .slice ha hn hc, .bool tn, .int .i64 tu]] wx fun e w' => ∃ y, e = .returned y ∧ ∃ B, KOwn w' y ks B ∧ (∀ b ∈ B, wx.heap.size ≤ b ∧ b < w'.heap.size) ∧ Below wx.heap.size wx w') := fun wx hb => depsAlone_any lo m ha hn hc tn tu ks wx (hS.carry (Nat.le_refl _) (fun q hq => hb.block q (World.ownsRow.lt hS q hq).2)) hkl hk1 hk2
  show Calls _ _ _ _ fun e w' => NtEndD d (xs, v, ks, tn, tu) w e w'
  clear hlk hP hS hok hgd hkl hk1 hk2 hB hby hxl
  go_enter Tryz.func30, Tryz.ntmps30
  go_wp2_with fail
  clear hlk0 f4
  generalize hW0 : (w.alloc (.cells #[.slice none 0 0, .int .i64 0, .int .i64 0, .slice none 0 0, .slice none 0 0, .slice none 0 0, .slice none 0 0, .bool false, .int .i64 0] 39)).alloc (.cells #[.map m, .slice ha hn hc, .bool tn, .int .i64 tu] 84) = W0 at *
  have hz0 : w.heap.size + 2 ≤ W0.drew.heap.size := by show _ ≤ W0.heap.size; rw [← hW0]; simp
  clear hW0
  have hsz0 : w.heap.size + 1 < W0.heap.size := (Array.getElem?_eq_some_iff.1 HR0.out.2).1
  have HB0 : Hid (∀ wx, Below W0.drew.heap.size W0.drew wx → Below w.heap.size w wx) := fun wx hb => Below.on HW0.out.drew hb
  have HZr : Hid (∀ wx, Below W0.drew.heap.size W0.drew wx → wx.heap[w.heap.size]? = some (.cells #[.slice none 0 0, .int .i64 0, .int .i64 0, .slice none 0 0, .slice none 0 0, .slice none 0 0, .slice none 0 0, .bool false, .int .i64 0] 39 (0, 0))) := fun wx hb => (hb.block _ (by show w.heap.size < W0.heap.size; omega)).trans HR0.out.1
  have HSn : Hid (∀ wx, Below W0.drew.heap.size W0.drew wx → wx.cell? ⟨w.heap.size + 1, 0, none⟩ = some (.map m) ∧ wx.cell? ⟨w.heap.size + 1, 1, none⟩ = some (.slice ha hn hc) ∧ wx.cell? ⟨w.heap.size + 1, 2, none⟩ = some (.bool tn) ∧ wx.cell? ⟨w.heap.size + 1, 3, none⟩ = some (.int .i64 tu)) := fun wx hb => four_row ((hb.block _ (by show w.heap.size + 1 < W0.heap.size; omega)).trans HR0.out.2)
  have HSt : Hid (∀ (wx : World) (cs : List Value), (wx.cell? ⟨w.heap.size + 1, 0, none⟩ = some (.map m) ∧ wx.cell? ⟨w.heap.size + 1, 1, none⟩ = some (.slice ha hn hc) ∧ wx.cell? ⟨w.heap.size + 1, 2, none⟩ = some (.bool tn) ∧ wx.cell? ⟨w.heap.size + 1, 3, none⟩ = some (.int .i64 tu)) → ((wx.setCells w.heap.size 0 cs).cell? ⟨w.heap.size + 1, 0, none⟩ = some (.map m) ∧ (wx.setCells w.heap.size 0 cs).cell? ⟨w.heap.size + 1, 1, none⟩ = some (.slice ha hn hc) ∧ (wx.setCells w.heap.size 0 cs).cell? ⟨w.heap.size + 1, 2, none⟩ = some (.bool tn) ∧ (wx.setCells w.heap.size 0 cs).cell? ⟨w.heap.size + 1, 3, none⟩ = some (.int .i64 tu))) := fun wx cs h => by
    have hq : ∀ j, (wx.setCells w.heap.size 0 cs).cell? ⟨w.heap.size + 1, j, none⟩ = wx.cell? ⟨w.heap.size + 1, j, none⟩ := fun j => World.cell?_setCells_out w.heap.size cs 0 wx ⟨w.heap.size + 1, j, none⟩ (fun e => by simp at e)
    rw [hq, hq, hq, hq]
    exact h
  have HVal : Hid (∀ wx, Below W0.drew.heap.size W0.drew wx → Calls Tryz.prog 49 #[.iface 81 (.agg #[.map m])] wx (ValEnd d v wx)) := fun wx hb => HVal0.out wx (HB0.out wx hb)
  have HDep : Hid (∀ wx, Below W0.drew.heap.size W0.drew wx → Calls Tryz.prog 50 #[.agg #[.map m, .slice ha hn hc, .bool tn, .int .i64 tu]] wx fun e w' => ∃ y, e = .returned y ∧ ∃ B, KOwn w' y ks B ∧ (∀ b ∈ B, wx.heap.size ≤ b ∧ b < w'.heap.size) ∧ Below wx.heap.size wx w') := fun wx hb => HDep0.out wx (HB0.out wx hb)
  clear HVal0 HDep0 HR0 HW0
  refine wp_region_held_drew (S := fun w' => w'.cell? ⟨w.heap.size + 1, 0, none⟩ = some (.map m) ∧ w'.cell? ⟨w.heap.size + 1, 1, none⟩ = some (.slice ha hn hc) ∧ w'.cell? ⟨w.heap.size + 1, 2, none⟩ = some (.bool tn) ∧ w'.cell? ⟨w.heap.size + 1, 3, none⟩ = some (.int .i64 tu)) (by kernel_rfl) (HSn.out _ (Below.refl _ _)) (fun hHeld => ?_)
  have hb : Hid (Below W0.drew.heap.size W0.drew W0.drew) := Below.refl _ _
  generalize W0.drew = w0 at *
  refine take_yes (i := 0) 12 (v := ?_) rfl rfl (by kernel_rfl) (by kernel_rfl) (by kernel_rfl) (fun _ _ _ h => h) (by kernel_rfl) hHeld ?_ ?_
  rotate_left
  focus (intro w hSw; (try dsimp only at hSw); go_simp; (try with_reducible rfl))
  simp only [Act.put, List.setIfInBounds_toArray, List.set_cons_zero, List.set_cons_succ]
  refine take_yes (i := 2) 14 (v := ?_) rfl rfl (by kernel_rfl) (by kernel_rfl) (by kernel_rfl) (fun _ _ _ h => h) (by kernel_rfl) hHeld ?_ ?_
  rotate_left
  focus (intro w hSw; (try dsimp only at hSw); go_simp; (try with_reducible rfl))
  simp only [Act.put, List.setIfInBounds_toArray, List.set_cons_zero, List.set_cons_succ]
  refine take_yes (i := 3) 15 (v := ?_) rfl rfl (by kernel_rfl) (by kernel_rfl) (by kernel_rfl) (fun _ _ _ h => h) (by kernel_rfl) hHeld ?_ ?_
  rotate_left
  focus (intro w hSw; (try dsimp only at hSw); go_simp; (try with_reducible rfl))
  simp only [Act.put, List.setIfInBounds_toArray, List.set_cons_zero, List.set_cons_succ]
  refine take_yes (i := 4) 16 (v := ?_) rfl rfl (by kernel_rfl) (by kernel_rfl) (by kernel_rfl) (fun _ _ _ h => h) (by kernel_rfl) hHeld ?_ ?_
  rotate_left
  focus (intro w hSw; (try dsimp only at hSw); go_simp; (try with_reducible rfl))
  simp only [Act.put, List.setIfInBounds_toArray, List.set_cons_zero, List.set_cons_succ]
  refine take_yes (i := 6) 18 (v := ?_) rfl rfl (by kernel_rfl) (by kernel_rfl) (by kernel_rfl) (fun _ _ _ h => h) (by kernel_rfl) hHeld ?_ ?_
  rotate_left
  focus (intro w hSw; (try dsimp only at hSw); go_simp; (try with_reducible rfl))
  simp only [Act.put, List.setIfInBounds_toArray, List.set_cons_zero, List.set_cons_succ]
  refine take_yes (i := 8) 20 (v := ?_) rfl rfl (by kernel_rfl) (by kernel_rfl) (by kernel_rfl) (fun _ _ _ h => h) (by kernel_rfl) hHeld ?_ ?_
  rotate_left
  focus (intro w hSw; (try dsimp only at hSw); go_simp; (try with_reducible rfl))
  simp only [Act.put, List.setIfInBounds_toArray, List.set_cons_zero, List.set_cons_succ]
  refine take_yes (i := 9) 21 (v := ?_) rfl rfl (by kernel_rfl) (by kernel_rfl) (by kernel_rfl) (fun _ _ _ h => h) (by kernel_rfl) hHeld ?_ ?_
  rotate_left
  focus (intro w hSw; (try dsimp only at hSw); go_simp; (try with_reducible rfl))
  simp only [Act.put, List.setIfInBounds_toArray, List.set_cons_zero, List.set_cons_succ]
  refine take_yes (i := 10) 22 (v := ?_) rfl rfl (by kernel_rfl) (by kernel_rfl) (by kernel_rfl) (fun _ _ _ h => h) (by kernel_rfl) hHeld ?_ ?_
  rotate_left
  focus (intro w hSw; (try dsimp only at hSw); go_simp; (try with_reducible rfl))
  simp only [Act.put, List.setIfInBounds_toArray, List.set_cons_zero, List.set_cons_succ]
  refine take_yes (i := 11) 23 (v := ?_) rfl rfl (by kernel_rfl) (by kernel_rfl) (by kernel_rfl) (fun _ _ _ h => h) (by kernel_rfl) hHeld ?_ ?_
  rotate_left
  focus (intro w hSw; (try dsimp only at hSw); go_simp; (try with_reducible rfl))
  simp only [Act.put, List.setIfInBounds_toArray, List.set_cons_zero, List.set_cons_succ]
  refine wpAnyH_ready (rs := [1, 5]) (by kernel_rfl) (by simp) ?_
  refine AllReadyH.cons rfl (fun K hK => ?_) (AllReadyH.cons rfl (fun K hK => ?_) (AllReadyH.nil))
  · obtain ⟨ck, w1, hcv, hTo, hbn, hzC⟩ := conv_back xs HBy.out HLn.out w0
    go_simp
    have HT := hide' ((⟨_, hTo, fun b hb => by simp at hb; subst hb; omega⟩ : TW w0.heap.size w1.heap.size w1 _ _))
    have hzw1 := hbn.size
    replace hb := hide' (Below.on hb.out hbn)
    clear hbn
    clear hTo hcv hzC
    refine hK.out _ _ (HSn.out _ hb.out) (fun hHeld => ?_)
    clear hK
    (try simp only [Act.put, List.setIfInBounds_toArray, List.set_cons_zero, List.set_cons_succ])
    refine wpAnyH_ready (rs := [5]) (by kernel_rfl) (by simp) ?_
    refine AllReadyH.cons rfl (fun K hK => ?_) (AllReadyH.nil)
    go_simp
    go_at_call 49
    refine (HVal.out w1 hb.out).mono ?_
    rintro e w2 ⟨u0, u1, u2, u3, u4, rfl, BV, hO, hBV, hbn⟩
    obtain ⟨vk, vn, e2, m2, q2, e3, m3, q3, e4, m4, q4, rfl, rfl, rfl, rfl, rfl⟩ := VOwn.form d hO
    have HV := hide' ((⟨_, hO, hBV⟩ : VW w1.heap.size w2.heap.size w2 d _ _))
    clear hO hBV
    replace HT := hide' (TW.agree HT.out (win_below hbn (by omega)))
    have hzw2 := hbn.size
    replace hb := hide' (Below.on hb.out hbn)
    clear hbn
    go_wp2_with fail
    refine hK.out _ _ (HSn.out _ hb.out) (fun hHeld => ?_)
    clear hK
    (try simp only [Act.put, List.setIfInBounds_toArray, List.set_cons_zero, List.set_cons_succ])
    refine wpAnyH_ready (rs := [7]) (by kernel_rfl) (by simp) ?_
    refine AllReadyH.cons rfl (fun K hK => ?_) (AllReadyH.nil)
    go_simp
    go_at_call 50
    refine (HDep.out w2 hb.out).mono ?_
    rintro e w3 ⟨ky, rfl, BK, hO, hBK, hbn⟩
    have hO' := hO
    obtain ⟨ka, kc, rfl, _⟩ := hO.seg
    have HK := hide' ((⟨_, hO', hBK⟩ : KW w2.heap.size w3.heap.size w3 _ _))
    clear hO hO' hBK
    replace HT := hide' (TW.agree HT.out (win_below hbn (by omega)))
    replace HV := hide' (VW.agree HV.out (win_below hbn (by omega)))
    have hzw3 := hbn.size
    replace hb := hide' (Below.on hb.out hbn)
    clear hbn
    go_wp2_with fail
    refine hK.out _ _ (HSn.out _ hb.out) (fun hHeld => ?_)
    clear hK
    (try simp only [Act.put, List.setIfInBounds_toArray, List.set_cons_zero, List.set_cons_succ])
    refine take_yes (i := 12) 24 (v := ?_) rfl rfl (by kernel_rfl) (by kernel_rfl) (by kernel_rfl) (fun _ _ _ h => h) (by kernel_rfl) hHeld ?_ ?_
    rotate_left
    focus (intro w hSw; (try dsimp only at hSw); go_simp; (try with_reducible rfl))
    simp only [Act.put, List.setIfInBounds_toArray, List.set_cons_zero, List.set_cons_succ]
    refine wpAnyH_ready (rs := [13]) (by kernel_rfl) (by simp) ?_
    refine AllReadyH.cons rfl (fun K hK => ?_) (AllReadyH.nil)
    have hth : w3.there w.heap.size 0 9 := there_of_row (HZr.out w3 hb.out)
    have hone : ∀ v ∈ [Value.slice (some ⟨w0.heap.size, 0, none⟩) xs.length ck, .int .i64 vk, .int .i64 vn, .slice e2 m2 q2, .slice e3 m3 q3, .slice e4 m4 q4, .slice ka ks.length kc, .bool tn, .int .i64 tu], v.oneCell' = true := by
      intro v hv
      simp only [List.mem_cons, List.not_mem_nil, or_false] at hv
      rcases hv with rfl | rfl | rfl | rfl | rfl | rfl | rfl | rfl | rfl <;> rfl
    have hld := run_loadVar_mid (P := Tryz.prog) _ _ _ 39 _ _ (World.rangeAt_setCells_same w3 w.heap.size 0 [.slice (some ⟨w0.heap.size, 0, none⟩) xs.length ck, .int .i64 vk, .int .i64 vn, .slice e2 m2 q2, .slice e3 m3 q3, .slice e4 m4 q4, .slice ka ks.length kc, .bool tn, .int .i64 tu] hth) Tryz.underlying39 rfl (by kernel_rfl)
    have HLd := hide' hld
    refine wp_store_mid 39 (.tmp 4) (.tmp 24) (by rfl) w.heap.size 0 #[.slice (some ⟨w0.heap.size, 0, none⟩) xs.length ck, .int .i64 vk, .int .i64 vn, .slice e2 m2 q2, .slice e3 m3 q3, .slice e4 m4 q4, .slice ka ks.length kc, .bool tn, .int .i64 tu] (by rfl) (by rfl) hth (by kernel_rfl) (all_oneCell_toArray hone) ?_
    refine hK.out _ _ (HSt.out _ _ (HSn.out _ hb.out)) (fun hHeld => ?_)
    clear hK
    refine wpAnyH_done (by kernel_rfl) ?_ _
    obtain ⟨BE, hBE, hBl⟩ := entry_leaf (it := (xs, v, ks, tn, tu)) (lo := w.heap.size + 2) HT.out HV.out HK.out (by omega) (by omega) (by omega) (by omega) (by omega) (by omega)
    have HFin := hide' (ntEndD_of (w := w) (rb := w.heap.size) (HB0.out _ hb.out) hBE (fun b hb' => by have := hBl b hb'; omega) (Nat.le_refl _))
    clear hBE hBl hld hth hone HT HV HK
    go_wp2_with fail
    refine bodyPost_ret (v := .agg #[.slice (some ⟨w0.heap.size, 0, none⟩) xs.length ck, .int .i64 vk, .int .i64 vn, .slice e2 m2 q2, .slice e3 m3 q3, .slice e4 m4 q4, .slice ka ks.length kc, .bool tn, .int .i64 tu]) (results_cell 4 39 Tryz.results30 (by rfl) HLd.out) rfl ?_
    exact HFin.out
  · go_simp
    go_at_call 49
    refine (HVal.out w0 hb.out).mono ?_
    rintro e w1 ⟨u0, u1, u2, u3, u4, rfl, BV, hO, hBV, hbn⟩
    obtain ⟨vk, vn, e2, m2, q2, e3, m3, q3, e4, m4, q4, rfl, rfl, rfl, rfl, rfl⟩ := VOwn.form d hO
    have HV := hide' ((⟨_, hO, hBV⟩ : VW w0.heap.size w1.heap.size w1 d _ _))
    clear hO hBV
    have hzw1 := hbn.size
    replace hb := hide' (Below.on hb.out hbn)
    clear hbn
    go_wp2_with fail
    refine hK.out _ _ (HSn.out _ hb.out) (fun hHeld => ?_)
    clear hK
    (try simp only [Act.put, List.setIfInBounds_toArray, List.set_cons_zero, List.set_cons_succ])
    refine wpAnyH_ready (rs := [1, 7]) (by kernel_rfl) (by simp) ?_
    refine AllReadyH.cons rfl (fun K hK => ?_) (AllReadyH.cons rfl (fun K hK => ?_) (AllReadyH.nil))
    · obtain ⟨ck, w2, hcv, hTo, hbn, hzC⟩ := conv_back xs HBy.out HLn.out w1
      go_simp
      have HT := hide' ((⟨_, hTo, fun b hb => by simp at hb; subst hb; omega⟩ : TW w1.heap.size w2.heap.size w2 _ _))
      replace HV := hide' (VW.agree HV.out (win_below hbn (by omega)))
      have hzw2 := hbn.size
      replace hb := hide' (Below.on hb.out hbn)
      clear hbn
      clear hTo hcv hzC
      refine hK.out _ _ (HSn.out _ hb.out) (fun hHeld => ?_)
      clear hK
      (try simp only [Act.put, List.setIfInBounds_toArray, List.set_cons_zero, List.set_cons_succ])
      refine wpAnyH_ready (rs := [7]) (by kernel_rfl) (by simp) ?_
      refine AllReadyH.cons rfl (fun K hK => ?_) (AllReadyH.nil)
      go_simp
      go_at_call 50
      refine (HDep.out w2 hb.out).mono ?_
      rintro e w3 ⟨ky, rfl, BK, hO, hBK, hbn⟩
      have hO' := hO
      obtain ⟨ka, kc, rfl, _⟩ := hO.seg
      have HK := hide' ((⟨_, hO', hBK⟩ : KW w2.heap.size w3.heap.size w3 _ _))
      clear hO hO' hBK
      replace HV := hide' (VW.agree HV.out (win_below hbn (by omega)))
      replace HT := hide' (TW.agree HT.out (win_below hbn (by omega)))
      have hzw3 := hbn.size
      replace hb := hide' (Below.on hb.out hbn)
      clear hbn
      go_wp2_with fail
      refine hK.out _ _ (HSn.out _ hb.out) (fun hHeld => ?_)
      clear hK
      (try simp only [Act.put, List.setIfInBounds_toArray, List.set_cons_zero, List.set_cons_succ])
      refine take_yes (i := 12) 24 (v := ?_) rfl rfl (by kernel_rfl) (by kernel_rfl) (by kernel_rfl) (fun _ _ _ h => h) (by kernel_rfl) hHeld ?_ ?_
      rotate_left
      focus (intro w hSw; (try dsimp only at hSw); go_simp; (try with_reducible rfl))
      simp only [Act.put, List.setIfInBounds_toArray, List.set_cons_zero, List.set_cons_succ]
      refine wpAnyH_ready (rs := [13]) (by kernel_rfl) (by simp) ?_
      refine AllReadyH.cons rfl (fun K hK => ?_) (AllReadyH.nil)
      have hth : w3.there w.heap.size 0 9 := there_of_row (HZr.out w3 hb.out)
      have hone : ∀ v ∈ [Value.slice (some ⟨w1.heap.size, 0, none⟩) xs.length ck, .int .i64 vk, .int .i64 vn, .slice e2 m2 q2, .slice e3 m3 q3, .slice e4 m4 q4, .slice ka ks.length kc, .bool tn, .int .i64 tu], v.oneCell' = true := by
        intro v hv
        simp only [List.mem_cons, List.not_mem_nil, or_false] at hv
        rcases hv with rfl | rfl | rfl | rfl | rfl | rfl | rfl | rfl | rfl <;> rfl
      have hld := run_loadVar_mid (P := Tryz.prog) _ _ _ 39 _ _ (World.rangeAt_setCells_same w3 w.heap.size 0 [.slice (some ⟨w1.heap.size, 0, none⟩) xs.length ck, .int .i64 vk, .int .i64 vn, .slice e2 m2 q2, .slice e3 m3 q3, .slice e4 m4 q4, .slice ka ks.length kc, .bool tn, .int .i64 tu] hth) Tryz.underlying39 rfl (by kernel_rfl)
      have HLd := hide' hld
      refine wp_store_mid 39 (.tmp 4) (.tmp 24) (by rfl) w.heap.size 0 #[.slice (some ⟨w1.heap.size, 0, none⟩) xs.length ck, .int .i64 vk, .int .i64 vn, .slice e2 m2 q2, .slice e3 m3 q3, .slice e4 m4 q4, .slice ka ks.length kc, .bool tn, .int .i64 tu] (by rfl) (by rfl) hth (by kernel_rfl) (all_oneCell_toArray hone) ?_
      refine hK.out _ _ (HSt.out _ _ (HSn.out _ hb.out)) (fun hHeld => ?_)
      clear hK
      refine wpAnyH_done (by kernel_rfl) ?_ _
      obtain ⟨BE, hBE, hBl⟩ := entry_leaf (it := (xs, v, ks, tn, tu)) (lo := w.heap.size + 2) HT.out HV.out HK.out (by omega) (by omega) (by omega) (by omega) (by omega) (by omega)
      have HFin := hide' (ntEndD_of (w := w) (rb := w.heap.size) (HB0.out _ hb.out) hBE (fun b hb' => by have := hBl b hb'; omega) (Nat.le_refl _))
      clear hBE hBl hld hth hone HT HV HK
      go_wp2_with fail
      refine bodyPost_ret (v := .agg #[.slice (some ⟨w1.heap.size, 0, none⟩) xs.length ck, .int .i64 vk, .int .i64 vn, .slice e2 m2 q2, .slice e3 m3 q3, .slice e4 m4 q4, .slice ka ks.length kc, .bool tn, .int .i64 tu]) (results_cell 4 39 Tryz.results30 (by rfl) HLd.out) rfl ?_
      exact HFin.out
    · go_simp
      go_at_call 50
      refine (HDep.out w1 hb.out).mono ?_
      rintro e w2 ⟨ky, rfl, BK, hO, hBK, hbn⟩
      have hO' := hO
      obtain ⟨ka, kc, rfl, _⟩ := hO.seg
      have HK := hide' ((⟨_, hO', hBK⟩ : KW w1.heap.size w2.heap.size w2 _ _))
      clear hO hO' hBK
      replace HV := hide' (VW.agree HV.out (win_below hbn (by omega)))
      have hzw2 := hbn.size
      replace hb := hide' (Below.on hb.out hbn)
      clear hbn
      go_wp2_with fail
      refine hK.out _ _ (HSn.out _ hb.out) (fun hHeld => ?_)
      clear hK
      (try simp only [Act.put, List.setIfInBounds_toArray, List.set_cons_zero, List.set_cons_succ])
      refine wpAnyH_ready (rs := [1]) (by kernel_rfl) (by simp) ?_
      refine AllReadyH.cons rfl (fun K hK => ?_) (AllReadyH.nil)
      obtain ⟨ck, w3, hcv, hTo, hbn, hzC⟩ := conv_back xs HBy.out HLn.out w2
      go_simp
      have HT := hide' ((⟨_, hTo, fun b hb => by simp at hb; subst hb; omega⟩ : TW w2.heap.size w3.heap.size w3 _ _))
      replace HV := hide' (VW.agree HV.out (win_below hbn (by omega)))
      replace HK := hide' (KW.agree HK.out (win_below hbn (by omega)))
      have hzw3 := hbn.size
      replace hb := hide' (Below.on hb.out hbn)
      clear hbn
      clear hTo hcv hzC
      refine hK.out _ _ (HSn.out _ hb.out) (fun hHeld => ?_)
      clear hK
      (try simp only [Act.put, List.setIfInBounds_toArray, List.set_cons_zero, List.set_cons_succ])
      refine take_yes (i := 12) 24 (v := ?_) rfl rfl (by kernel_rfl) (by kernel_rfl) (by kernel_rfl) (fun _ _ _ h => h) (by kernel_rfl) hHeld ?_ ?_
      rotate_left
      focus (intro w hSw; (try dsimp only at hSw); go_simp; (try with_reducible rfl))
      simp only [Act.put, List.setIfInBounds_toArray, List.set_cons_zero, List.set_cons_succ]
      refine wpAnyH_ready (rs := [13]) (by kernel_rfl) (by simp) ?_
      refine AllReadyH.cons rfl (fun K hK => ?_) (AllReadyH.nil)
      have hth : w3.there w.heap.size 0 9 := there_of_row (HZr.out w3 hb.out)
      have hone : ∀ v ∈ [Value.slice (some ⟨w2.heap.size, 0, none⟩) xs.length ck, .int .i64 vk, .int .i64 vn, .slice e2 m2 q2, .slice e3 m3 q3, .slice e4 m4 q4, .slice ka ks.length kc, .bool tn, .int .i64 tu], v.oneCell' = true := by
        intro v hv
        simp only [List.mem_cons, List.not_mem_nil, or_false] at hv
        rcases hv with rfl | rfl | rfl | rfl | rfl | rfl | rfl | rfl | rfl <;> rfl
      have hld := run_loadVar_mid (P := Tryz.prog) _ _ _ 39 _ _ (World.rangeAt_setCells_same w3 w.heap.size 0 [.slice (some ⟨w2.heap.size, 0, none⟩) xs.length ck, .int .i64 vk, .int .i64 vn, .slice e2 m2 q2, .slice e3 m3 q3, .slice e4 m4 q4, .slice ka ks.length kc, .bool tn, .int .i64 tu] hth) Tryz.underlying39 rfl (by kernel_rfl)
      have HLd := hide' hld
      refine wp_store_mid 39 (.tmp 4) (.tmp 24) (by rfl) w.heap.size 0 #[.slice (some ⟨w2.heap.size, 0, none⟩) xs.length ck, .int .i64 vk, .int .i64 vn, .slice e2 m2 q2, .slice e3 m3 q3, .slice e4 m4 q4, .slice ka ks.length kc, .bool tn, .int .i64 tu] (by rfl) (by rfl) hth (by kernel_rfl) (all_oneCell_toArray hone) ?_
      refine hK.out _ _ (HSt.out _ _ (HSn.out _ hb.out)) (fun hHeld => ?_)
      clear hK
      refine wpAnyH_done (by kernel_rfl) ?_ _
      obtain ⟨BE, hBE, hBl⟩ := entry_leaf (it := (xs, v, ks, tn, tu)) (lo := w.heap.size + 2) HT.out HV.out HK.out (by omega) (by omega) (by omega) (by omega) (by omega) (by omega)
      have HFin := hide' (ntEndD_of (w := w) (rb := w.heap.size) (HB0.out _ hb.out) hBE (fun b hb' => by have := hBl b hb'; omega) (Nat.le_refl _))
      clear hBE hBl hld hth hone HT HV HK
      go_wp2_with fail
      refine bodyPost_ret (v := .agg #[.slice (some ⟨w2.heap.size, 0, none⟩) xs.length ck, .int .i64 vk, .int .i64 vn, .slice e2 m2 q2, .slice e3 m3 q3, .slice e4 m4 q4, .slice ka ks.length kc, .bool tn, .int .i64 tu]) (results_cell 4 39 Tryz.results30 (by rfl) HLd.out) rfl ?_
      exact HFin.out
end Go.Proofs.YtbmgkmnibjdpiaaGreatDoor
/-
  l2own of the specification: what its two loops leave.
-/
namespace Go.Proofs.YtbmgkmnibjdpiaaGreatDoor
open Go.RowKit
set_option linter.unusedVariables false
set_option linter.unusedSimpArgs false

/-- After k rounds of the first loop: out's box (block O) holds k texts of the call's own. -/
def KInv (w2 : World) (O : Nat) (c0 c1 c2 : Value) (ks : List (List Int)) (k : Nat) (wr : World) (x : Value) (cs : List (List Value)) (Bi : List (List Nat)) : Prop :=
  wr.heap[O]? = some (.cells #[c0, c1, c2, x, .slice none 0 0] 37 (0, 0)) ∧ RW 22 1 (ItK ks) wr w2.heap.size x k cs Bi ∧ w2.grownBy wr (some O)

/-- After k rounds of the second loop: it holds k values besides. -/
def LInv (w3 : World) (O : Nat) (c0 c1 c2 c3 : Value) (d : Nat) (l : List (Vl d)) (k : Nat) (wr : World) (x : Value) (cs : List (List Value)) (Bi : List (List Nat)) : Prop :=
  wr.heap[O]? = some (.cells #[c0, c1, c2, c3, x] 37 (0, 0)) ∧ RW 37 5 (ItV d l) wr w3.heap.size x k cs Bi ∧ w3.grownBy wr (some O)

theorem grown_onO {w2 wr w5 w6 : World} {O : Nat} {x v : Value} {o : Obj} {j : Nat} (h : w2.grownBy wr (some O)) (b5 : Below wr.heap.size wr w5) (hg : (w5.alloc o).grownBy w6 x.ownBlock) (hx : ∀ b, x.ownBlock = some b → w2.heap.size ≤ b) : w2.grownBy (w6.setCell ⟨O, j, none⟩ v) (some O) := by
  have h1 := h.size
  have h5 := b5.size
  have h6 := hg.size
  simp at h6
  refine ⟨h.os ▸ b5.os ▸ hg.os ▸ rfl, h.tape ▸ b5.tape ▸ hg.tape ▸ rfl, h.output ▸ b5.output ▸ hg.output ▸ rfl, by simp [World.setCell]; omega, fun b hb hne => ?_⟩
  have hbO : b ≠ O := fun e => hne (by rw [e])
  exact (Below.heap_setCell w6 ⟨O, j, none⟩ v b hbO).trans ((hg.block b (by simp; omega) (fun e => by have := hx b e.symm; omega)).trans ((Below.heap_alloc _ _ _ (by omega)).trans ((b5.block b (by omega)).trans (h.block b hb hne))))

theorem kinv_step {w2 wr w5 w6 : World} {O : Nat} {c0 c1 c2 : Value} {ks : List (List Int)} {x v5 : Value} {k g cp : Nat} {cs : List (List Value)} {Bi : List (List Nat)} {o : Obj} (h : KInv w2 O c0 c1 c2 ks k wr x cs Bi) (hO : O < w2.heap.size) (b5 : Below wr.heap.size wr w5) (hv : Bts w5 wr.heap.size v5 (ks.getD k []))
    (hown : w6.ownsRow w2.heap.size 22 1 (.slice (some ⟨g, 0, none⟩) (k + 1) cp) (k + 1) (cs.flatten ++ [v5])) (hg : (w5.alloc o).grownBy w6 x.ownBlock) (hat : x.ownBlock = some g ∨ g = w5.heap.size + 1) :
    w6.heap[O]? = some (.cells #[c0, c1, c2, x, .slice none 0 0] 37 (0, 0)) ∧ ∃ cs' Bi', KInv w2 O c0 c1 c2 ks (k + 1) (w6.setCell ⟨O, 3, none⟩ (.slice (some ⟨g, 0, none⟩) (k + 1) cp)) (.slice (some ⟨g, 0, none⟩) (k + 1) cp) cs' Bi' := by
  obtain ⟨h1, h2, h3⟩ := h
  obtain ⟨Bv, hT, hBv, hBn⟩ := tOwn_of hv
  have hz3 := h3.size
  have hz5 := b5.size
  have hxlt := h2.2.2.1.lt
  have hneB : some O ≠ x.ownBlock := fun e => by have := hxlt O e.symm; omega
  have hV6 : w6.heap[O]? = some (.cells #[c0, c1, c2, x, .slice none 0 0] 37 (0, 0)) := (hg.block O (by simp; omega) hneB).trans ((Below.heap_alloc _ _ _ (by omega)).trans ((b5.block O (by omega)).trans h1))
  have hR := RW.add (w2 := w5.alloc o) (ItK.agree ks) h2 (fun b hb => (Below.heap_alloc _ _ _ (by omega)).trans (b5.block b hb)) (by simp; omega) ⟨v5, rfl, hT.agree fun b hb => Below.heap_alloc _ _ _ (hBv b hb).2⟩ (fun b hb => by have := hBv b hb; simp; omega) hBn hz3 hown hg (by simpa using hat)
  refine ⟨hV6, cs ++ [[v5]], Bi ++ [Bv], heap_setCell_same w6 O 3 _ _ _ hV6, ?_, grown_onO h3 b5 hg (fun b hb => (hxlt b hb).1)⟩
  refine hR.agree (ItK.agree ks) (fun b hb => ?_) (by simp [World.setCell])
  have := hR.2.2.2.2.2 b hb
  exact Below.heap_setCell w6 _ _ b (by show b ≠ O; omega)

theorem linv_step {w3 wr w5 w6 : World} {O d : Nat} {c0 c1 c2 c3 : Value} {l : List (Vl d)} {k : Nat} {x : Value} {cs : List (List Value)} {Bi : List (List Nat)} {c : List Value} {Bv : List Nat} {g cp : Nat} {o : Obj} (h : LInv w3 O c0 c1 c2 c3 d l k wr x cs Bi) (hO : O < w3.heap.size)
    (b5 : Below wr.heap.size wr w5) (hv : ItV d l w5 k c Bv) (hBv : ∀ b ∈ Bv, wr.heap.size ≤ b ∧ b < w5.heap.size) (hBn : Bv.Nodup)
    (hown : w6.ownsRow w3.heap.size 37 5 (.slice (some ⟨g, 0, none⟩) (k + 1) cp) (k + 1) (cs.flatten ++ c)) (hg : (w5.alloc o).grownBy w6 x.ownBlock) (hat : x.ownBlock = some g ∨ g = w5.heap.size + 1) :
    w6.heap[O]? = some (.cells #[c0, c1, c2, c3, x] 37 (0, 0)) ∧ LInv w3 O c0 c1 c2 c3 d l (k + 1) (w6.setCell ⟨O, 4, none⟩ (.slice (some ⟨g, 0, none⟩) (k + 1) cp)) (.slice (some ⟨g, 0, none⟩) (k + 1) cp) (cs ++ [c]) (Bi ++ [Bv]) := by
  obtain ⟨h1, h2, h3⟩ := h
  have hz3 := h3.size
  have hz5 := b5.size
  have hxlt := h2.2.2.1.lt
  have hneB : some O ≠ x.ownBlock := fun e => by have := hxlt O e.symm; omega
  have hV6 : w6.heap[O]? = some (.cells #[c0, c1, c2, c3, x] 37 (0, 0)) := (hg.block O (by simp; omega) hneB).trans ((Below.heap_alloc _ _ _ (by omega)).trans ((b5.block O (by omega)).trans h1))
  have hR := RW.add (w2 := w5.alloc o) (ItV.agree d l) h2 (fun b hb => (Below.heap_alloc _ _ _ (by omega)).trans (b5.block b hb)) (by simp; omega) (ItV.agree d l _ _ _ _ _ hv fun b hb => Below.heap_alloc _ _ _ (hBv b hb).2) (fun b hb => by have := hBv b hb; simp; omega) hBn hz3 hown hg (by simpa using hat)
  refine ⟨hV6, heap_setCell_same w6 O 4 _ _ _ hV6, ?_, grown_onO h3 b5 hg (fun b hb => (hxlt b hb).1)⟩
  refine hR.agree (ItV.agree d l) (fun b hb => ?_) (by simp [World.setCell])
  have := hR.2.2.2.2.2 b hb
  exact Below.heap_setCell w6 _ _ b (by show b ≠ O; omega)

/-- The contract of l2own, at depth d. -/
def OwnAt (d : Nat) : Prop := ∀ (N : Nat) (c0 c1 c2 c3 c4 : Value) (v : Vl d) (w : World), VSeg (fun b => b < N) w d (c0, c1, c2, c3, c4) v → N ≤ w.heap.size → szV d v ≤ 1048576 → Calls Tryz.prog 47 #[.agg #[c0, c1, c2, c3, c4]] w (ValEnd d v w)

/-- What a call of l2own leaves of it. -/
def LCall (O : Nat) (base d : Nat) (l : List (Vl d)) (k : Nat) (wr : World) (x : Value) (xs : List Value) (e : Ending) (w5 : World) : Prop :=
  ∃ (uk un : Int) (s2 : Option Addr) (n2 r2 : Nat) (s3 : Option Addr) (n3 r3 : Nat) (s4 : Option Addr) (n4 r4 : Nat), e = .returned (.agg #[.int .i64 uk, .int .i64 un, .slice s2 n2 r2, .slice s3 n3 r3, .slice s4 n4 r4]) ∧
    ∃ Bv, ItV d l w5 k [.int .i64 uk, .int .i64 un, .slice s2 n2 r2, .slice s3 n3 r3, .slice s4 n4 r4] Bv ∧ (∀ b ∈ Bv, wr.heap.size ≤ b ∧ b < w5.heap.size) ∧ Bv.Nodup ∧ Below wr.heap.size wr w5 ∧ w5.cell? ⟨O, 4, none⟩ = some x ∧ w5.ownsRow base 37 5 x k xs

theorem linv_call {w3 wr wy w5 : World} {O d : Nat} {c0 c1 c2 c3 : Value} {l : List (Vl d)} {k : Nat} {x : Value} {cs : List (List Value)} {Bi : List (List Nat)} {e : Ending} (h : LInv w3 O c0 c1 c2 c3 d l k wr x cs Bi) (hO : O < w3.heap.size) (hk : k < l.length)
    (hy : Below wr.heap.size wr wy) (he : ValEnd d l[k] wy e w5) : LCall O w3.heap.size d l k wr x cs.flatten e w5 := by
  obtain ⟨u0, u1, u2, u3, u4, rfl, Bv, hv, hb, h5⟩ := he
  obtain ⟨uk, un, s2, n2, r2, s3, n3, r3, s4, n4, r4, rfl, rfl, rfl, rfl, rfl⟩ := VOwn.form d hv
  have hb5 := Below.on hy h5
  have hz := hy.size
  have hz3 := h.2.2.size
  refine ⟨uk, un, s2, n2, r2, s3, n3, r3, s4, n4, r4, rfl, Bv, ⟨_, rfl, hk, hv⟩, fun b hm => ?_, VOwn.nodup d hv, hb5, ?_, ?_⟩
  · have := hb b hm; omega
  · exact (World.cell?_of_block (hb5.block O (by omega))).trans (row5 h.1).2.2.2.2.1
  · exact h.2.1.2.2.1.kept (row := none) ⟨hb5.os, hb5.tape, hb5.output, hb5.size, fun k hk _ => hb5.block k hk⟩ (by cases hv : x.ownBlock <;> simp)

theorem own_end {wc wr wz wf : World} {N1 O R d : Nat} {vk vn : Int} {vS : List Int} {vK : List (List Int)} {vL : List (Vl d)} {sv xk xl : Value} {Bs Bk Bl : List Nat} (hT : TOwn wc sv vS Bs) (hBs : ∀ b ∈ Bs, N1 ≤ b ∧ b < wc.heap.size ∧ b ≠ O) (hSn : Bs.Nodup) (hK : KOwn wr xk vK Bk) (hBk : ∀ b ∈ Bk, wc.heap.size ≤ b ∧ b < wr.heap.size) (hKn : Bk.Nodup) (hL : LOwn wz d xl vL Bl) (hBl : ∀ b ∈ Bl, wr.heap.size ≤ b ∧ b < wz.heap.size) (hLn : Bl.Nodup)
    (h1 : wc.grownBy wr (some O)) (h2 : wr.grownBy wz (some O)) (h3 : wz.grownBy wf (some R)) (hO : O < wc.heap.size) (hR : R < N1) (hN1 : N1 ≤ wc.heap.size) : VOwn wf (d + 1) (.int .i64 vk, .int .i64 vn, sv, xk, xl) (vk, vn, vS, vK, vL) (Bs ++ (Bk ++ Bl)) ∧ ∀ b ∈ Bs ++ (Bk ++ Bl), N1 ≤ b ∧ b < wf.heap.size := by
  have s1 := h1.size
  have s2 := h2.size
  have s3 := h3.size
  refine ⟨⟨rfl, rfl, Bs, Bk, Bl, hT.agree fun b hb => ?_, hK.agree fun b hb => ?_, hL.agree fun b hb => ?_, rfl, ?_⟩, fun b hb => ?_⟩
  · obtain ⟨q1, q2, q3⟩ := hBs b hb
    exact (h3.block b (by omega) (by simp; omega)).trans ((h2.block b (by omega) (by simpa using q3)).trans (h1.block b q2 (by simpa using q3)))
  · obtain ⟨q1, q2⟩ := hBk b hb
    exact (h3.block b (by omega) (by simp; omega)).trans (h2.block b (by omega) (by simp; omega))
  · obtain ⟨q1, q2⟩ := hBl b hb
    exact h3.block b q2 (by simp; omega)
  · rw [List.nodup_append]
    refine ⟨hSn, ?_, fun x hx y hy => ?_⟩
    · rw [List.nodup_append]
      refine ⟨hKn, hLn, fun x hx y hy => ?_⟩
      have := hBk x hx
      have := hBl y hy
      omega
    · have := hBs x hx
      rcases List.mem_append.1 hy with hy | hy
      · have := hBk y hy; omega
      · have := hBl y hy; omega
  · rcases List.mem_append.1 hb with hb | hb
    · have := hBs b hb; omega
    · rcases List.mem_append.1 hb with hb | hb
      · have := hBk b hb; omega
      · have := hBl b hb; omega
end Go.Proofs.YtbmgkmnibjdpiaaGreatDoor
/-
  'append(own, ys...)' as a step of a region that draws its order.
-/
namespace Go.Proofs.YtbmgkmnibjdpiaaGreatDoor
open Go.RowKit
set_option linter.unusedVariables false
set_option linter.unusedSimpArgs false

theorem step_append_seg {ops : Array Oper} {o : Oper} {a : Act} {w : World} {K : Act → World → Prop} {Q : Exit → Act → World → Prop} {E : Prop} (hgd : o.guard = none) (s x : Operand)
    (ho : o.op = .call { callee := .builtin .append, args := #[s, x], argTypes := #[22, 22] })
    (base : Nat) (v : Value) (xs ys : List Int) (hs : a.eval s = v) (hB : Bts w base v xs) (ad : Option Addr) (m c : Nat) (hm : m = ys.length) (hx : a.eval x = .slice ad m c) (hS : Seg w ad ys) (hc : ad = none → c = 0)
    (hlen : xs.length + ys.length ≤ 1099511627776) (hbase : base ≤ w.heap.size)
    (h : ∀ v' w', Bts w' base v' (xs ++ ys) → w.grownBy w' v.ownBlock → K (a.put o.dst v') w') : if Region.wanted o (yielded ops a.tmps) = true then Oper.wp Tryz.prog o a w K Q else E := by
  have hw : Region.wanted o (yielded ops a.tmps) = true := by simp [Region.wanted, hgd]
  rw [if_pos hw]
  obtain ⟨i0, hi, hz0, hz1, hz2⟩ := info_parts info5
  have hbyt : ∀ z ∈ xs ++ ys, Byt z := by
    intro z hz
    rcases List.mem_append.1 hz with h1 | h1
    · exact hB.1 z h1
    · exact hS.1 z h1
  subst hm
  cases ad with
  | none =>
    have hc0 := hc rfl
    have hy : ys = [] := by
      rcases hS.2 with h0 | ⟨b, off, h1, _⟩
      · exact h0
      · simp at h1
    subst hc0
    subst hy
    have hrun := run_append_owned_none (P := Tryz.prog) (w := w) base 22 o.type 5 i0 1 Tryz.underlying22 hi v xs.length (cellsOf xs) hB.2
    unfold Oper.wp
    simp only [List.length_nil] at hx
    simp [execOp, ho, resolve, invoke, builtin, hs, hx, hrun, Result.andThen]
    exact h v w (by simpa using hB) (World.grownBy.refl _ _)
  | some ad =>
    obtain ⟨v', w', hrun, r1, r2, _⟩ := run_append_own (P := Tryz.prog) w base 22 o.type 5 i0 (.int .u8 0) 1 1 Tryz.underlying22 hi hz0 hz1 hz2 rfl (by decide) v xs.length (cellsOf xs) hB.2 ad ys.length c (cellsOf ys) (by simp [cellsOf])
      (by
        intro j u hu
        rcases hS.2 with h0 | ⟨b, off, h1, h2⟩
        · subst h0; simp [cellsOf] at hu
        · simp at h1
          subst h1
          have hj : j < ys.length := by
            have := (List.getElem?_eq_some_iff.1 hu).1
            simpa [cellsOf] using this
          rw [Addr.add_lit, h2 j hj]
          simp [cellsOf, hj] at hu
          simp [hj, hu])
      (by
        intro u hu
        simp only [cellsOf, List.mem_map] at hu
        obtain ⟨q, _, rfl⟩ := hu
        rfl)
      (by unfold maxLen; omega) (by omega) hbase
    unfold Oper.wp
    simp [execOp, ho, resolve, invoke, builtin, hs, hx, hrun, Result.andThen]
    exact h v' w' ⟨hbyt, by rw [cellsOf_append]; simpa using r1⟩ r2

end Go.Proofs.YtbmgkmnibjdpiaaGreatDoor
