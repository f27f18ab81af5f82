/-
  Texts that a law leans on, one behind the other; no statement is proved here.
-/
import Derived.Test.YthnkedbmfhokiaaGreatDoorPk33
import Derived.Maps.OwnSet
import Derived.Deep.RegionWith
/-
  ValBytes of the program: putPart of a map.
-/
namespace Go.Proofs.YthnkedbmfhokiaaGreatDoor
open Go.RowKit Go.Shelf
set_option linter.unusedVariables false
set_option linter.unusedSimpArgs false

set_option maxHeartbeats 3000000 in
set_option maxRecDepth 100000 in
theorem putPart_map (d : Nat) (ih : PByAt d) (N : Nat) (a : Option Addr) (cap : Nat) (xs : List Int) (vK : List (List Int)) (vL : List (Vl d)) (b : Nat) (ps : List Value) (deep : Nat) (w : World) (hN : N ≤ w.heap.size) (hs : Seg w a xs) (ka : a = none → cap = 0)
    (hm : w.ownsMap Tryz.prog 9 tokR b 64 (mapD vK ps vL.length)) (hps : ∀ i (h : i < vL.length), PSeg (fun b => b < N) w d (ps.getD i .nilIface) vL[i]) (hst : ∀ i, i < vL.length → stepB vK i = true) (hkb : ∀ i, i < vL.length → (∀ x ∈ vK.getD i [], Byt x) ∧ (vK.getD i []).length ≤ 8) (hg : ∀ j (h : j < vL.length), goodB d vL[j] deep = true) (hp : 1 + pre (partsV d) vL vL.length ≤ 40) (hn : vL.length ≤ 40) (hlen : xs.length + 60 * (1 + pre (partsV d) vL vL.length) ≤ 1000000) :
    Calls Tryz.prog 18 #[.slice a xs.length cap, .iface 77 (.agg #[.map (some b)])] w (PPEnd w (kidB (fun x b => bytV d x b) true vK vL (putNum (putNum xs 5) vL.length) vL.length)) := by
  have m1 := meth_mapPart (.agg #[.map (some b)])
  have t1 := nobool_mapPart (.agg #[.map (some b)])
  have t2 := noint_mapPart (.agg #[.map (some b)])
  have t3 := notext_mapPart (.agg #[.map (some b)])
  have t4 := nolist_mapPart (.agg #[.map (some b)])
  have t5 := is_mapPart (.agg #[.map (some b)])
  have HK := hide' (kind_mapPart b)
  have HI := hide' ih
  have HG := hide' hg
  have HSh : Hid (∀ i, i < vL.length → ∃ t x, ps.getD i .nilIface = .iface t x) := fun i hi => (hps i hi).shape
  have HF : Hid (∀ wy, Below w.heap.size w wy → Calls Tryz.prog 36 #[.agg #[.map (some b)]] wy fun e w' => ∃ u, e = .returned u ∧ FRow w' u vK ps vL.length ∧ Below wy.heap.size wy w') := fun wy hy =>
    fields_any b vL.length vK ps wy (hm.kept (below_grows hy none) (by simp)) hst HSh.out hn
  have HLn : Hid (∀ wy ty, Below w.heap.size w wy → (Builtin.len_ #[75] ty #[.map (some b)]).run Tryz.prog wy = .ok (.int .i64 vL.length) wy) := fun wy ty hy => by
    have h := (hm.kept (w' := wy) (below_grows hy none) (by simp)).len Tryz.underlying75 ty
    rw [mapD_listU _ _ _ (step_up hst), size_ent] at h
    exact h
  have HP := hide' hps
  have HKB := hide' hkb
  have H1 : Hid (∀ wx, Below w.heap.size w wx → Calls Tryz.prog 33 #[.slice a xs.length cap, .int .i64 5] wx (PEnd wx (putNum xs 5))) := fun wx hb => impl_PutNum_end a cap xs 5 wx (hs.grow hb) ka (by omega)
  have hpl := putNum_len xs 5
  have hpl2 := putNum_len (putNum xs 5) vL.length
  obtain ⟨B0, hB0⟩ : ∃ B0, B0 = putNum (putNum xs 5) vL.length := ⟨_, rfl⟩
  rw [← hB0] at hpl2
  rw [← hB0]
  have HRoom : Hid (∀ k (h : k < vL.length), (kidB (fun x b => bytV d x b) true vK vL B0 k).length + 25 + 60 * partsV d vL[k] ≤ 1000000) := fun k h => kid_room d true vK vL B0 1000000 (by omega) k h
  have HPk : Hid (∀ k (h : k < vL.length), partsV d vL[k] ≤ 40) := fun k h => by
    have h3 := pre_succ (partsV d) vL k h
    have h4 := pre_le (partsV d) vL (k + 1)
    have h5 := pre_all (partsV d) vL
    omega
  have HSt : Hid (∀ k (h : k < vL.length), kidB (fun x b => bytV d x b) true vK vL B0 (k + 1) = bytV d vL[k] (putText (kidB (fun x b => bytV d x b) true vK vL B0 k) (vK.getD k []))) := fun k h => kid_map d vK vL B0 k h
  have HZ : Hid (kidB (fun x b => bytV d x b) true vK vL B0 0 = B0) := rfl
  generalize hkid : kidB (fun x b => bytV d x b) true vK vL B0 = kid at *
  have hP2 : Hid (∀ (a1 : Option Addr) (c1 : Nat) (wx : World), Seg wx a1 (putNum xs 5) → (a1 = none → c1 = 0) → Calls Tryz.prog 33 #[.slice a1 (putNum xs 5).length c1, .int .i64 vL.length] wx (PEnd wx B0)) := fun a1 c1 wx hB k => by rw [hB0]; exact impl_PutNum_end a1 c1 _ _ wx hB k (by omega)
  clear hs hps hg ih hlen hkid hB0 hp hm hst hkb
  go_enter Tryz.func18, Tryz.ntmps18
  go_wp2_with fail
  refine (HK.out _).mono ?_
  rintro e w1 ⟨rfl, b1⟩
  have B1 := b1
  clear b1
  go_wp2_with fail
  refine (H1.out _ B1).mono ?_
  rintro e w2 ⟨a1, c1, rfl, hB1, b2, k1⟩
  have B2 := Below.on B1 b2
  have HA : Hid (∀ o : Obj, Below w.heap.size w (w2.alloc o)) := fun o => Below.on B2 ((Below.refl _ _).alloc (Nat.le_refl _) o)
  have hln : ∀ o ty, (Builtin.len_ #[75] ty #[.map (some b)]).run Tryz.prog (w2.alloc o) = .ok (.int .i64 vL.length) (w2.alloc o) := fun o ty => HLn.out _ ty (HA.out o)
  have H2 : Hid (∀ o : Obj, Calls Tryz.prog 33 #[.slice a1 (putNum xs 5).length c1, .int .i64 vL.length] (w2.alloc o) (PEnd (w2.alloc o) B0)) := fun o => hP2.out a1 c1 (w2.alloc o) (hB1.seg.grow ((Below.refl _ _).alloc (Nat.le_refl _) o)) k1
  generalize (putNum xs 5).length = n1 at *
  clear b2 hB1 HK m1 hP2
  go_wp2_with fail
  refine (H2.out _).mono ?_
  rintro e w3 ⟨a3, c3, rfl, hB3, b3, k3⟩
  have y0 := row1 (box_row b3)
  have B3 := Below.on (HA.out _) b3
  have HB3 : Hid (Bts w3 w.heap.size (.slice a3 B0.length c3) B0) := hB3.mono (HA.out _).size
  generalize hn0 : B0.length = n0 at *
  clear b3 hB3 H2 hn0 t1 t2 t3 t4 t5 hln
  go_wp2_with fail
  refine (HF.out _ B3).mono ?_
  rintro e w4 ⟨u, rfl, hFR, b4⟩
  have B4 := Below.on B3 b4
  have HB4 : Hid (Bts w4 w.heap.size (.slice a3 n0 c3) B0) := HB3.out.kept (below_grows b4 none) (by cases hv : (Value.slice a3 n0 c3).ownBlock <;> simp)
  obtain ⟨fa, fc, rfl, hfc, hfm, hcell⟩ := hFR
  have HC := hide' hcell
  unfold maxLen at hfm
  clear hcell b4 HF HB3 y0
  go_wp2_with fail
  go_loopw [0, 71] (fun y i wr => ∃ k : Nat, k ≤ vL.length ∧ i = .int .i64 k ∧ Hid (Bts wr w.heap.size y (kid k)) ∧ Hid (Below w4.heap.size w4 wr)) (fun _ i _ => vL.length - (intOf i).toNat)
  case atStart => exact ⟨0, Nat.zero_le _, rfl, by rw [HZ.out]; exact HB4, Below.refl _ _⟩
  case round =>
    obtain ⟨k, hk, rfl, hB, hbel⟩ := hrel
    have B := Below.on B4 hbel.out
    obtain ⟨ya, yc, rfl, _, _, _, _, kk⟩ := hB.out.shape
    have hz := B.size
    by_cases hlt : k < vL.length
    · have hlt' : (k : Int) < (vL.length : Int) := by omega
      have hk0 : (0 : Int) ≤ (k : Int) := Int.natCast_nonneg _
      have hroom := HRoom.out k hlt
      obtain ⟨t, px, hpe⟩ := HSh.out k hlt
      have hat : ∃ g, fa = some ⟨g, 0, none⟩ ∧ wr.cell? ⟨g, k * 2, none⟩ = some (.string (strOf (vK.getD k []))) ∧ wr.cell? ⟨g, k * 2 + 1, none⟩ = some (.iface t px) := by
        rcases HC.out with h0 | ⟨g, rfl, hg, hc⟩
        · omega
        · obtain ⟨c0, c1⟩ := hc k hlt
          have hbk := hbel.out.block g hg
          rw [hpe] at c1
          exact ⟨g, rfl, (World.cell?_of_block hbk).trans c0, (World.cell?_of_block hbk).trans c1⟩
      obtain ⟨g, rfl, fc0, fc1⟩ := hat
      have hps := HP.out k hlt
      rw [hpe] at hps
      obtain ⟨ts, hts⟩ : ∃ ts, ts = vK.getD k [] := ⟨_, rfl⟩
      have hkb := HKB.out k hlt
      have HS1 := HSt.out k hlt
      rw [← hts] at hkb HS1 fc0
      have hptl := putText_len (kid k) ts
      -- the text, as bytes of the call's own, and behind it both calls
      have HCv : Hid (∀ o : Obj, ∃ ck wB, (convert 9 22 (.string (strOf ts))).run Tryz.prog (wr.alloc o).drew = .ok (.slice (some ⟨wr.heap.size + 1, 0, none⟩) ts.length ck) wB ∧ Below wr.heap.size wr wB ∧ wB.heap[wr.heap.size]? = some o ∧
          Calls Tryz.prog 35 #[.slice ya (kid k).length yc, .slice (some ⟨wr.heap.size + 1, 0, none⟩) ts.length ck] wB (PEnd wB (putText (kid k) ts))) := fun o => by
        obtain ⟨ck, wB, hconv, hTo, hBb, hzB⟩ := conv_back ts hkb.1 (by omega) (wr.alloc o).drew
        have hhs : (wr.alloc o).drew.heap.size = wr.heap.size + 1 := by simp
        rw [hhs] at hconv hTo
        have hb5 : Below wr.heap.size wr wB := Below.on ((Below.refl _ _).alloc (Nat.le_refl _) _).drew hBb
        exact ⟨ck, wB, hconv, hb5, (hBb.block wr.heap.size (by simp)).trans (MapKept.heap_alloc wr _).1, impl_PutText_end ya _ yc ck (kid k) ts wB (hB.out.seg.grow hb5) hTo.seg.out.1 kk hTo.seg.out.2 (by omega) (by omega)⟩
      have HI2 : Hid (∀ (ua : Option Addr) (uc : Nat) (wx : World), Below wr.heap.size wr wx → Seg wx ua (putText (kid k) ts) → (ua = none → uc = 0) → Calls Tryz.prog 18 #[.slice ua (putText (kid k) ts).length uc, .iface t px] wx (PPEnd wx (kid (k + 1)))) := fun ua uc wx hb hB' hk' => by
        rw [HS1]
        exact HI.out N ua uc _ (.iface t px) vL[k] deep wx (PSeg.carry (fun b h => h) (agree_below ((Below.on B hb).mono hN)) d hps) (by have := (Below.on B hb).size; omega) hB' hk' (HG.out k hlt) (HPk.out k hlt) (by omega)
      clear hps hB HS1 hkb hts hpe
      obtain ⟨sx, hsx⟩ : ∃ sx, sx = strOf ts := ⟨_, rfl⟩
      rw [← hsx] at HCv fc0
      obtain ⟨ck, wB, hconv, hb5, hbx, HT⟩ := HCv.out (.cells #[.string sx, .iface t px] 81)
      have qB0 : wB.cell? ⟨wr.heap.size, 0, none⟩ = some (.string sx) := by rw [cell_of_row wB _ 0 _ _ _ hbx]; rfl
      have qB1 : wB.cell? ⟨wr.heap.size, 1, none⟩ = some (.iface t px) := by rw [cell_of_row wB _ 1 _ _ _ hbx]; rfl
      have HQ : Hid (∀ wx, Below wB.heap.size wB wx → wx.cell? ⟨wr.heap.size, 0, none⟩ = some (.string sx) ∧ wx.cell? ⟨wr.heap.size, 1, none⟩ = some (.iface t px)) := fun wx hb => by
        have hh := (hb.block wr.heap.size ((Array.getElem?_eq_some_iff.1 hbx).1)).trans hbx
        refine ⟨?_, ?_⟩
        · rw [cell_of_row wx _ 0 _ _ _ hh]; rfl
        · rw [cell_of_row wx _ 1 _ _ _ hh]; rfl
      have HT' := hide' HT
      have Hb5 := hide' hb5
      generalize putText (kid k) ts = zz at *
      generalize (kid k).length = n2 at *
      generalize ts.length = n4 at *
      clear HT hb5 hbx hsx HCv HC H1 HLn
      go_wp2_with fail
      go_region_with (first
        | (go_at_call 35; refine HT'.out.mono ?_; rintro e w5 ⟨ua, uc, rfl, hB5, b5, k5⟩; obtain ⟨qC0, qC1⟩ := HQ.out w5 b5; have HC5 := hide' (HI2.out ua uc w5 (Below.on Hb5.out b5) hB5.seg k5); have Hb6 := hide' (Below.on Hb5.out b5); have Hb55 := hide' b5; generalize zz.length = n5 at *; clear b5 hB5)
        | (go_at_call 18; refine HC5.out.mono ?_; rintro e w6 ⟨u, rfl, hB6, b6⟩; obtain ⟨qD0, qD1⟩ := HQ.out w6 (Below.on Hb55.out b6); have HB6 := hide' hB6; obtain ⟨ya6, yc6, hu, _, _, _, _, _⟩ := hB6.shape; have Hb7 := hide' (Below.on Hb6.out b6); generalize (kid (k + 1)).length = n6 at *; subst hu; clear b6 hB6))
      all_goals
        have Hbw : Hid (Below w4.heap.size w4 w6) := Below.on hbel.out Hb7.out
        have HBk : Hid (Bts w6 w.heap.size (.slice ya6 n6 yc6) (kid (k + 1))) := HB6.out.mono (by have := Hb6.out.size; omega)
        clear qB0 qB1 qC0 qC1 qD0 qD1
        go_wp2
        go_roundw
        case rel => exact ⟨k + 1, by omega, by go_num, HBk, Hbw⟩
        case measure => simp [intOf]; omega
    · have hkn : k = vL.length := by omega
      have hlt' : ¬ (k : Int) < (vL.length : Int) := by omega
      have HE : Hid (Bts wr w.heap.size (.slice ya (kid k).length yc) (kid vL.length)) := by rw [← hkn]; exact hB
      clear hkn hB
      generalize (kid k).length = n1' at *
      go_wp2
      go_ret
      exact ⟨_, rfl, HE.out, B⟩
end Go.Proofs.YthnkedbmfhokiaaGreatDoor
