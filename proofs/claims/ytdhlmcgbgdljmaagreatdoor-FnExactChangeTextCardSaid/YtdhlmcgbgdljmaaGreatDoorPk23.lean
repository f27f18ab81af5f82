/-
  Texts that a law leans on, one behind the other; no statement is proved here.
-/
import Derived.Test.YtdhlmcgbgdljmaaGreatDoorPk21
import Derived.Test.YtdhlmcgbgdljmaaGreatDoorPk14
import Derived.Test.YtdhlmcgbgdljmaaGreatDoorPk22
import Derived.Deep.RegionLaw
import Derived.Deep.RegionWith
import Derived.Test.YtdhlmcgbgdljmaaGreatDoorPk17
/-
  ValText of the program: appendPart of a map.
-/
namespace Go.Proofs.YtdhlmcgbgdljmaaGreatDoor
open Go.RowKit Go.Shelf
set_option linter.unusedVariables false
set_option linter.unusedSimpArgs false

set_option maxHeartbeats 3000000 in
set_option maxRecDepth 100000 in
theorem appendPart_map (d : Nat) (ih : PSayAt d) (N B : Nat) (a : Option Addr) (c : Nat) (xs : List Int) (vK : List (List Int)) (vL : List (Vl d)) (b : Nat) (ps : List Value) (deep : Nat) (w : World) (hN : N ≤ B) (hBw : B ≤ w.heap.size) (hB : Bts w B (.slice a xs.length c) xs)
    (hm : w.ownsMap Tryz.prog 9 tokR b 64 (mapD vK ps vL.length)) (hps0 : ∀ i (h : i < vL.length), PSeg (fun b => b < N) w d (ps.getD i .nilIface) vL[i]) (hst0 : ∀ i, i < vL.length → stepB vK i = true) (hbR : b < N) (hkb : ∀ i, i < vL.length → (∀ x ∈ vK.getD i [], Byt x) ∧ (vK.getD i []).length ≤ 8) (hg : ∀ j (h : j < vL.length), goodB d vL[j] deep = true) (hp : 1 + pre (partsV d) vL vL.length ≤ 40) (hn : vL.length ≤ 40) (hlen : xs.length + 60 * (1 + pre (partsV d) vL vL.length) ≤ 900000) (ht : Tab B w) :
    Calls Tryz.prog 22 #[.slice a xs.length c, .iface 98 (.agg #[.map (some b)])] w (ApEnd B (xs ++ 123 :: (kidS (sayV d) true vK vL vL.length ++ [125])) w) := by
  have t1 := nonull_mapPart (.agg #[.map (some b)])
  have t2 := nobool_mapPart (.agg #[.map (some b)])
  have t3 := noint_mapPart (.agg #[.map (some b)])
  have t4 := notext_mapPart (.agg #[.map (some b)])
  have t5 := nolist_mapPart (.agg #[.map (some b)])
  have t6 := is_mapPart (.agg #[.map (some b)])
  have HI := hide' ih
  have HG := hide' hg
  have HP := hide' hps0
  have HKB := hide' hkb
  have HSh : Hid (∀ i, i < vL.length → ∃ t x, ps.getD i .nilIface = .iface t x) := fun i hi => (hps0 i hi).shape
  have HFl : Hid (∀ wy, Kept w wy → Below B w wy → (wy.heap[b]? = w.heap[b]?) → Calls Tryz.prog 51 #[.agg #[.map (some b)]] wy fun e w' => ∃ u, e = .returned u ∧ (FRow w' u vK ps vL.length ∧ FTag w' u) ∧ Below wy.heap.size wy w') := fun wy _ hy hbk => by
    refine fields_anyT b vL.length vK ps wy (World.ownsMap.mono (n := 64) (n' := 128) ?_ (by omega)) (step_up hst0) HSh.out (by omega)
    obtain ⟨es, clock, h1, r⟩ := hm
    exact ⟨es, clock, hbk.trans h1, r⟩
  have hbN : b < N := hbR
  have HTb := hide' ht
  have HPk : Hid (∀ k (h : k < vL.length), partsV d vL[k] ≤ 40) := fun k h => by
    have h3 := pre_succ (partsV d) vL k h
    have h4 := pre_le (partsV d) vL (k + 1)
    have h5 := pre_all (partsV d) vL
    omega
  have HRoom : Hid (∀ k (h : k < vL.length), xs.length + 1 + (kidS (sayV d) true vK vL k).length + 13 + 60 * partsV d vL[k] ≤ 900000) := fun k h => by
    have h1 := kidS_len (sayV d) (partsV d) true vK vL (fun _ j hj => (hkb j hj).2) (fun j h => sayV_len d vL[j] deep (hg j h)) k (by omega)
    have h3 := pre_succ (partsV d) vL k h
    have h4 := pre_le (partsV d) vL (k + 1)
    have h5 := pre_all (partsV d) vL
    omega
  have HKn : Hid (∀ k, k ≤ vL.length → (kidS (sayV d) true vK vL k).length ≤ 2400) := fun k h => by
    have h1 := kidS_len (sayV d) (partsV d) true vK vL (fun _ j hj => (hkb j hj).2) (fun j h => sayV_len d vL[j] deep (hg j h)) k h
    have h4 := pre_le (partsV d) vL k
    have h5 := pre_all (partsV d) vL
    omega
  have HStp : Hid (∀ k (h : k < vL.length), kidS (sayV d) true vK vL (k + 1) = kidS (sayV d) true vK vL k ++ (aheadS true vK k ++ sayV d vL[k])) := fun k h => kidS_succ _ _ _ _ k h
  have HZ : Hid (kidS (sayV d) true vK vL 0 = []) := rfl
  generalize hkid : kidS (sayV d) true vK vL = kid at *
  have HB : Hid (∀ o o' : Obj, Bts ((w.alloc o).alloc o') B (.slice a xs.length c) xs) := fun o o' => (hB.alloc o).alloc o'
  have hS1 : Hid (∀ o : Obj, Seg ((w.alloc o).alloc (.cells #[.int .u8 123] 5)) (some ⟨w.heap.size + 1, 0, none⟩) [123]) := fun o => by
    have h := seg_one (w.alloc o) 123 (by unfold Byt; omega)
    simp only [World.size_alloc] at h
    exact h
  have hbC : Hid (∀ o o' : Obj, Below B w ((w.alloc o).alloc o')) := fun o o' => ((Below.refl _ _).alloc hBw o).alloc (by simp; omega) o'
  have Hbx : Hid (∀ o o2 : Obj, ((w.alloc o).alloc o2).heap[w.heap.size]? = some o) := fun o o2 => (Below.heap_alloc _ _ _ (by simp)).trans (MapKept.heap_alloc w o).1
  have HOwn := hide' hB.own
  have Hneq : Hid (some w.heap.size ≠ (Value.slice a xs.length c).ownBlock) := fun e => by have := (hB.2.lt _ e.symm).2; omega
  obtain ⟨res, hres⟩ : ∃ res, res = xs ++ 123 :: (kid vL.length ++ [125]) := ⟨_, rfl⟩
  have HRes := hide' hres
  rw [← hres]
  have hxl : xs.length ≤ 900000 := by omega
  clear hm hps0 hst0 hkb hg ih hkid hp ht hB hres hlen
  go_enter Tryz.func22, Tryz.ntmps22
  go_wp2_with (at_builtin; refine wpList_append_seg rfl (.tmp 70) (.tmp 71) (by rfl) B (.slice a xs.length c) xs [123] (by rfl) (HB.out _ _) _ 1 1 rfl (by rfl) (hS1.out _) (by simp) (by simp; omega) (by simp; omega) ?_; intro v1 w1 hv1 hg1; have hb1 := hide' ((hbC.out _ _).grown hg1 (by simp; omega) HOwn.out); have hx1 := (hg1.block w.heap.size (by simp; omega) Hneq.out).trans (Hbx.out _ _); have cx1 := row1c hx1; have hk1 := hide' (kept_app2 (Kept.refl w) (HB.out _ _) hg1); replace hv1 := hide' hv1; clear hg1 hx1)
  go_wp2_with fail
  refine (HFl.out _ hk1.out hb1.out (hb1.out.block b (by omega))).mono ?_
  rintro e w4 ⟨u, rfl, ⟨hFR, hTag⟩, b4⟩
  have hbw4 := hide' (hb1.out.trans (b4.mono (by have := hb1.out.size; omega)))
  have hk4 := hide' (hk1.out.trans (kept_below b4))
  have hv4 := hide' (hv1.out.grow b4)
  obtain ⟨fa, fc, rfl, hfc, hfm, hcell0⟩ := hFR
  have HC0 := hide' hcell0
  have HTag := hide' hTag
  unfold maxLen at hfm
  clear hcell0 b4 HFl hv1 cx1 hb1 hk1 hTag
  go_wp2_with fail
  go_loopw [0, 76] (fun y i wr => ∃ k : Nat, k ≤ vL.length ∧ i = .int .i64 k ∧ Hid (Bts wr B y (xs ++ 123 :: kid k)) ∧ Hid (Below B w wr) ∧ Hid (Kept w4 wr)) (fun _ i _ => vL.length - (intOf i).toNat)
  case atStart => exact ⟨0, Nat.zero_le _, rfl, by rw [HZ.out]; exact hv4, hbw4, Kept.refl _⟩
  case round =>
    obtain ⟨k, hk, rfl, hB, hbel, hkp⟩ := hrel
    obtain ⟨ya, yc, rfl, _, _, _, _, kk⟩ := hB.out.shape
    have hz : B ≤ wr.heap.size := by have := hbel.out.size; omega
    have hkn := HKn.out k hk
    have HOwn := hide' hB.out.own
    obtain ⟨zs, hzs⟩ : ∃ zs, zs = xs ++ 123 :: kid k := ⟨_, rfl⟩
    have hzl : zs.length = (xs ++ 123 :: kid k).length := by rw [hzs]
    have hzn : zs.length = xs.length + 1 + (kid k).length := by rw [hzs]; simp; omega
    rw [← hzs] at hB HOwn
    rw [← hzl]
    by_cases hlt : k < vL.length
    · have hlt' : (k : Int) < (vL.length : Int) := by omega
      have hroom := HRoom.out k hlt
      have hk0i : (0 : Int) ≤ (k : Int) := Int.natCast_nonneg _
      obtain ⟨t, px, hpe⟩ := HSh.out k hlt
      have hat : ∃ g, fa = some ⟨g, 0, none⟩ ∧ wr.cell? ⟨g, k * 2, none⟩ = some (.string (strOf (vK.getD k []))) ∧ wr.cell? ⟨g, k * 2 + 1, none⟩ = some (.iface t px) := by
        rcases HC0.out with h0 | ⟨g, rfl, hg, hc⟩
        · omega
        · obtain ⟨c0, c1⟩ := hc k hlt
          obtain ⟨cs, fr, hgr⟩ := HTag.out g _ _ rfl
          have hbk := (hkp.out g cs _ fr hgr (by decide)).trans hgr.symm
          rw [hpe] at c1
          exact ⟨g, rfl, (World.cell?_of_block hbk).trans c0, (World.cell?_of_block hbk).trans c1⟩
      obtain ⟨g, rfl, fc0, fc1⟩ := hat
      have hps := HP.out k hlt
      rw [hpe] at hps
      have hst := HStp.out k hlt
      obtain ⟨ts, hts⟩ : ∃ ts, ts = vK.getD k [] := ⟨_, rfl⟩
      have hkb := HKB.out k hlt
      rw [← hts] at hkb fc0
      have htl := hkb.2
      have HBy := hide' hkb.1
      obtain ⟨ys, hys⟩ : ∃ ys, ys = zs ++ (if k = 0 then [] else [44, 32]) := ⟨_, rfl⟩
      have hyl : ys.length ≤ zs.length + 2 := by rw [hys]; split <;> simp
      obtain ⟨z7, hz7⟩ : ∃ z7, z7 = (ys ++ ts) ++ [32, 61, 32] := ⟨_, rfl⟩
      have hz7l : z7.length ≤ zs.length + 13 := by rw [hz7]; simp; omega
      have hbA : Hid (∀ o : Obj, Below B w (wr.alloc o).drew) := fun o => (hbel.out.alloc hz o).drew
      have HC1 : Hid (∀ o : Obj, Calls Tryz.prog 50 #[.slice ya zs.length yc, .int .i64 k] (wr.alloc o).drew (ApEnd B ys (wr.alloc o).drew)) := fun o => appendComma_any B k ya yc zs ys (wr.alloc o).drew (hB.out.alloc o) (by have := (hbA.out o).size; omega) (by omega) (by omega) (fun h => by rw [hys, if_pos h]; simp) (fun h => by rw [hys, if_neg h])
      have Hbx : Hid (∀ o : Obj, (wr.alloc o).drew.heap[wr.heap.size]? = some o) := fun o => (MapKept.heap_alloc wr o).1
      have HkA : Hid (∀ o : Obj, Kept w4 (wr.alloc o).drew) := fun o => hkp.out.trans (kept_alloc wr o)
      have HC2 : Hid (∀ a1 c1 wx, Bts wx B (.slice a1 z7.length c1) z7 → Below B w wx → Calls Tryz.prog 22 #[.slice a1 z7.length c1, .iface t px] wx (ApEnd B (xs ++ 123 :: kid (k + 1)) wx)) := fun a1 c1 wx h hb => by
        have e : xs ++ 123 :: kid (k + 1) = z7 ++ sayV d vL[k] := by rw [hst, hz7, hys, hzs, hts]; simp [aheadS]
        rw [e]
        exact HI.out N B a1 c1 z7 (.iface t px) vL[k] deep wx (PSeg.carry (fun b h => h) (agree_below (hb.mono hN)) d hps) hN (by have := hb.size; omega) h (HG.out k hlt) (HPk.out k hlt) (by omega) (Lib.TabBelow.on HTb.out hb)
      have hzb : zs.length ≤ 910000 := by omega
      have Hz7 := hide' hz7
      obtain ⟨sx, hsx⟩ : ∃ sx, sx = strOf ts := ⟨_, rfl⟩
      rw [← hsx] at fc0
      have Hsx := hide' hsx
      clear hst hys hzs hzl hzn hroom hkn hps hkb hts hpe hz7 hsx HC0
      go_wp2_with fail
      go_region_law (first
        | (go_simp; go_at_call 50; refine (HC1.out _).mono ?_; rintro e w5 ⟨a5, c5, rfl, hv5, hb5, hk5⟩; have hr5 := hk5 _ _ _ _ (Hbx.out _) (by decide); have f50 : w5.cell? ⟨wr.heap.size, 0, none⟩ = some (.string sx) := (by rw [cell_of_row w5 _ 0 _ _ _ hr5]; rfl); have f51 : w5.cell? ⟨wr.heap.size, 1, none⟩ = some (.iface t px) := (by rw [cell_of_row w5 _ 1 _ _ _ hr5]; rfl); have Hb5 := hide' ((hbA.out _).trans hb5); have Hk5 := hide' ((HkA.out _).trans hk5); have Hv5 := hide' hv5; have Hr5 := hide' hr5; have hz5 : B ≤ w5.heap.size := (by have := Hb5.out.size; omega); clear hv5 hb5 hk5 hr5)
        | (refine step_append_text (by rfl) (.tmp 83) (.tmp 85) 9 (by rfl) Tryz.underlying9 B (.slice a5 ys.length c5) ys ts (by rfl) (by exact Hv5.out) sx Hsx.out HBy.out (by rfl) (by omega) hz5 ?_; intro v6 w6 hv6 hg6; have hr6 := (kept_grown Hv5.out hg6) _ _ _ _ Hr5.out (by decide); have f60 : w6.cell? ⟨wr.heap.size, 0, none⟩ = some (.string sx) := (by rw [cell_of_row w6 _ 0 _ _ _ hr6]; rfl); have f61 : w6.cell? ⟨wr.heap.size, 1, none⟩ = some (.iface t px) := (by rw [cell_of_row w6 _ 1 _ _ _ hr6]; rfl); have Hb6 := hide' (Hb5.out.grown hg6 hz5 Hv5.out.own); have Hk6 := hide' (Hk5.out.trans (kept_grown Hv5.out hg6)); have Hv6 := hide' hv6; have Hr6 := hide' hr6; have hz6 : B ≤ w6.heap.size := (by have := Hb6.out.size; omega); clear hv6 hg6 hr6))
      all_goals
        clear Hk5 Hb5 Hv5 Hr5 f50 f51 HC1
        go_wp2_with fail
        go_region_law (first
          | (refine step_append_text (by rfl) (.tmp 87) (.const (.string { data := #[32, 61, 32] })) 9 (by rfl) Tryz.underlying9 B v6 (ys ++ ts) [32, 61, 32] (by rfl) (by exact Hv6.out) _ (by rfl) (by simp [Byt]) (by rfl) (by simp; omega) (by exact hz6) ?_; intro v7 w7 hv7 hg7; have hr7 := (kept_grown (w := w6.drew) (by exact Hv6.out) hg7) _ _ _ _ (by exact Hr6.out) (by decide); have f71 : w7.cell? ⟨wr.heap.size, 1, none⟩ = some (.iface t px) := (by rw [cell_of_row w7 _ 1 _ _ _ hr7]; rfl); have Hb7 := hide' (Hb6.out.drew.grown hg7 hz6 (by exact Hv6.out.own)); have Hk7 := hide' (Hk6.out.trans (kept_grown (w := w6.drew) (by exact Hv6.out) hg7)); rw [← Hz7.out] at hv7; obtain ⟨a7, c7, hv7e, _⟩ := hv7.shape; subst hv7e; have HC3 := hide' (HC2.out a7 c7 w7 hv7 Hb7.out); generalize z7.length = m7 at *; clear hv7 hg7 hr7)
          | (go_simp; go_at_call 22; refine HC3.out.mono ?_; rintro e w8 ⟨a8, c8, rfl, hv8, hb8, hk8⟩; have Hb8 := hide' (Hb7.out.trans hb8); have Hk8 := hide' (Hk7.out.trans hk8); have Hv8 := hide' hv8; generalize (xs ++ 123 :: kid (k + 1)).length = m8 at *; clear hv8 hb8 hk8))
      all_goals
        go_wp2
        go_roundw
        case rel => exact ⟨k + 1, by omega, by go_num, Hv8, Hb8, Hk8⟩
        case measure => simp [intOf]; omega
    · have hkn' : k = vL.length := by omega
      have hlt' : ¬ (k : Int) < (vL.length : Int) := by omega
      have HF : Hid (res = zs ++ [125]) := by show _ = _; rw [HRes.out, hzs, hkn']; simp
      have hS93 := seg_one wr 125 (by unfold Byt; omega)
      have hA93 := hB.out.alloc (.cells #[.int .u8 125] 5)
      have hbA : Hid (∀ o : Obj, Below B w (wr.alloc o)) := fun o => hbel.out.alloc hz o
      clear hkn' hzs hzl
      go_wp2_with (at_builtin; refine wpList_append_seg rfl _ _ (by rfl) B (.slice ya zs.length yc) zs [125] (by rfl) hA93 _ 1 1 rfl (by rfl) hS93 (by simp) (by simp; omega) (by simp; omega) ?_; intro v2 w2 hv2 hg2; have hb2 := hide' ((hbA.out _).grown hg2 (by simp; omega) HOwn.out); have hk2 := hide' (kept_app (hk4.out.trans hkp.out) hA93 hg2); replace hv2 := hide' hv2; clear hg2)
      go_ret
      rw [HF.out]
      exact apEnd_of hv2.out hb2.out hk2.out
end Go.Proofs.YtdhlmcgbgdljmaaGreatDoor
/-
  ValText of the program: appendPart of whatever part, ValText.
-/
namespace Go.Proofs.YtdhlmcgbgdljmaaGreatDoor
open Go.RowKit Go.Shelf
set_option linter.unusedVariables false
set_option linter.unusedSimpArgs false

theorem say_txt {vn : Int} {vs : List Int} {vK : List (List Int)} {n : Nat} (h : shapeB 3 vn vs vK n = true) : ∀ x ∈ vs, Byt x := by
  simp [shapeB] at h
  have h2 := h.2
  simp only [textB, Bool.and_eq_true, decide_eq_true_eq, List.all_eq_true] at h2
  intro x hx
  have := h2.2 x hx
  simp only [chrB, Bool.and_eq_true, decide_eq_true_eq] at this
  unfold Byt
  omega

theorem say_key {ks : List (List Int)} {i : Nat} (h : stepB ks i = true) : (∀ x ∈ ks.getD i [], Byt x) ∧ (ks.getD i []).length ≤ 8 := by
  simp only [stepB, Bool.and_eq_true] at h
  have h1 := h.1
  simp only [nameB, Bool.and_eq_true, decide_eq_true_eq, List.all_eq_true] at h1
  refine ⟨fun x hx => ?_, by omega⟩
  have := h1.2 x hx
  simp only [letB, Bool.and_eq_true, decide_eq_true_eq] at this
  unfold Byt
  omega

theorem appendPart_succ (d : Nat) (ih : PSayAt d) : PSayAt (d + 1) := by
  intro N B a c xs p v deep w hp hN hBw hB hg hn hlen ht
  obtain ⟨vk, vn, vs, vK, vL⟩ := v
  obtain ⟨_, hsh, hkids⟩ := (good_succ _ _ _ _ _ _ _).1 hg
  obtain ⟨hvs, hk⟩ := shape_says hsh
  have hpp := parts_succ d vk vn vs vK vL
  have hfew := kids_less vL vL.length (Nat.le_refl _)
  rw [hpp] at hlen hn
  rcases hp with ⟨rfl, rfl⟩ | ⟨rfl, rfl⟩ | ⟨rfl, rfl⟩ | ⟨rfl, rfl⟩ | ⟨rfl, rfl⟩ | ⟨rfl, la, lc, rfl, hc⟩ | ⟨rfl, b, ps, rfl, hR, hm, hc⟩
  · rw [sayV_null]; exact appendPart_null B a c xs w hB hBw (by omega)
  · rw [sayV_unknown]; exact appendPart_unknown B a c xs w hB hBw (by omega)
  · have h2 : vn = 0 ∨ vn = 1 := by
      rcases hk with hk | hk | ⟨_, h⟩ | ⟨hk, _⟩ | hk | ⟨hk, _⟩ | ⟨hk, _⟩
      all_goals first | exact h | (exfalso; revert hk; simp)
    rw [sayV_bool]
    rcases h2 with rfl | rfl
    · exact appendPart_false B a c xs w hB hBw (by omega)
    · exact appendPart_true B a c xs w hB hBw (by omega)
  · have h2 : -1000000000000 ≤ vn ∧ vn ≤ 1000000000000 := by
      rcases hk with hk | hk | ⟨hk, _⟩ | ⟨_, h⟩ | hk | ⟨hk, _⟩ | ⟨hk, _⟩
      all_goals first | exact h | (exfalso; revert hk; simp)
    rw [sayV_int]; exact appendPart_int vn B a c xs w hB hBw (by omega) h2.1 h2.2 ht
  · rw [sayV_text]; exact appendPart_text _ vs B a c xs w hB hBw (by omega) rfl (say_txt hsh) (by omega)
  · rw [sayV_list]
    exact appendPart_list d ih N B a c xs vK vL la lc (deep + 1) w hN hBw hB ⟨la, lc, rfl, hc⟩ hkids hn (by omega) hlen ht
  · have hmm : vK.length = vL.length ∧ ascB vK = true := by
      rcases hk with hk | hk | ⟨hk, _⟩ | ⟨hk, _⟩ | hk | ⟨hk, _⟩ | ⟨_, h⟩
      all_goals first | exact h | (exfalso; revert hk; simp)
    have hst : ∀ i, i < vL.length → stepB vK i = true := fun i hi => ascB_at hmm.2 (by omega)
    rw [sayV_map]
    exact appendPart_map d ih N B a c xs vK vL b ps (deep + 1) w hN hBw hB hm hc hst hR (fun i hi => say_key (hst i hi)) hkids hn (by omega) hlen ht

theorem appendPart_any (d : Nat) : PSayAt d := by
  induction d with
  | zero => intro N B a c xs p v deep w hv; exact hv.elim
  | succ d ih => exact appendPart_succ d ih

/-- What ValText of the program has left. -/
def TxEnd (xs : List Int) (w : World) (e : Ending) (w' : World) : Prop := ∃ a c, e = .returned (.slice a xs.length c) ∧ Bts w' w.heap.size (.slice a xs.length c) xs ∧ Below w.heap.size w w'

end Go.Proofs.YtdhlmcgbgdljmaaGreatDoor
