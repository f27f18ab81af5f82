/-
  Texts that a law leans on, one behind the other; no statement is proved here.
-/
import Derived.Test.YthleidfkfbklhaaDoorPk8
import Derived.Test.YthleidfkfbklhaaDoorPk9
import Derived.Deep.RegionLaw
import Derived.Deep.RegionWith
/-
  ValText of the program: appendPart of a map.
-/
namespace Go.Proofs.YthleidfkfbklhaaDoor
open Go.RowKit Go.Shelf
set_option linter.unusedVariables false
set_option linter.unusedSimpArgs false

set_option maxHeartbeats 3000000 in
set_option maxRecDepth 100000 in
theorem appendPart_map (d : Nat) (ih : PSayAt d) (N B : Nat) (a : Option Addr) (c : Nat) (xs : List Int) (vK : List (List Int)) (vL : List (Vl d)) (b : Nat) (ps : List Value) (deep : Nat) (w : World) (hN : N ≤ B) (hBw : B ≤ w.heap.size) (hB : Bts w B (.slice a xs.length c) xs)
    (hm : w.ownsMap Tryd.prog 9 tokR b 64 (mapD vK ps vL.length)) (hps0 : ∀ i (h : i < vL.length), PSeg (fun b => b < N) w d (ps.getD i .nilIface) vL[i]) (hst0 : ∀ i, i < vL.length → stepB vK i = true) (hbR : b < N) (hkb : ∀ i, i < vL.length → (∀ x ∈ vK.getD i [], Byt x) ∧ (vK.getD i []).length ≤ 8) (hg : ∀ j (h : j < vL.length), goodB d vL[j] deep = true) (hp : 1 + pre (partsV d) vL vL.length ≤ 40) (hn : vL.length ≤ 40) (hlen : xs.length + 60 * (1 + pre (partsV d) vL vL.length) ≤ 900000) (ht : Tab B w) :
    Calls Tryd.prog 22 #[.slice a xs.length c, .iface 75 (.agg #[.map (some b)])] w (ApEnd B (xs ++ 123 :: (kidS (sayV d) true vK vL vL.length ++ [125])) w) := by
  have t1 := nonull_mapPart (.agg #[.map (some b)])
  have t2 := nobool_mapPart (.agg #[.map (some b)])
  have t3 := noint_mapPart (.agg #[.map (some b)])
  have t4 := notext_mapPart (.agg #[.map (some b)])
  have t5 := nolist_mapPart (.agg #[.map (some b)])
  have t6 := is_mapPart (.agg #[.map (some b)])
  have HI := hide' ih
  have HG := hide' hg
  have HP := hide' hps0
  have HKB := hide' hkb
  have HSh : Hid (∀ i, i < vL.length → ∃ t x, ps.getD i .nilIface = .iface t x) := fun i hi => (hps0 i hi).shape
  have HFl : Hid (∀ wy, Kept w wy → Below B w wy → (wy.heap[b]? = w.heap[b]?) → Calls Tryd.prog 35 #[.agg #[.map (some b)]] wy fun e w' => ∃ u, e = .returned u ∧ (FRow w' u vK ps vL.length ∧ FTag w' u) ∧ Below wy.heap.size wy w') := fun wy _ hy hbk => by
    refine fields_anyT b vL.length vK ps wy (World.ownsMap.mono (n := 64) (n' := 128) ?_ (by omega)) (step_up hst0) HSh.out (by omega)
    obtain ⟨es, clock, h1, r⟩ := hm
    exact ⟨es, clock, hbk.trans h1, r⟩
  have hbN : b < N := hbR
  have HTb := hide' ht
  have HPk : Hid (∀ k (h : k < vL.length), partsV d vL[k] ≤ 40) := fun k h => by
    have h3 := pre_succ (partsV d) vL k h
    have h4 := pre_le (partsV d) vL (k + 1)
    have h5 := pre_all (partsV d) vL
    omega
  have HRoom : Hid (∀ k (h : k < vL.length), xs.length + 1 + (kidS (sayV d) true vK vL k).length + 13 + 60 * partsV d vL[k] ≤ 900000) := fun k h => by
    have h1 := kidS_len (sayV d) (partsV d) true vK vL (fun _ j hj => (hkb j hj).2) (fun j h => sayV_len d vL[j] deep (hg j h)) k (by omega)
    have h3 := pre_succ (partsV d) vL k h
    have h4 := pre_le (partsV d) vL (k + 1)
    have h5 := pre_all (partsV d) vL
    omega
  have HKn : Hid (∀ k, k ≤ vL.length → (kidS (sayV d) true vK vL k).length ≤ 2400) := fun k h => by
    have h1 := kidS_len (sayV d) (partsV d) true vK vL (fun _ j hj => (hkb j hj).2) (fun j h => sayV_len d vL[j] deep (hg j h)) k h
    have h4 := pre_le (partsV d) vL k
    have h5 := pre_all (partsV d) vL
    omega
  have HStp : Hid (∀ k (h : k < vL.length), kidS (sayV d) true vK vL (k + 1) = kidS (sayV d) true vK vL k ++ (aheadS true vK k ++ sayV d vL[k])) := fun k h => kidS_succ _ _ _ _ k h
  have HZ : Hid (kidS (sayV d) true vK vL 0 = []) := rfl
  generalize hkid : kidS (sayV d) true vK vL = kid at *
  have HB : Hid (∀ o o' : Obj, Bts ((w.alloc o).alloc o') B (.slice a xs.length c) xs) := fun o o' => (hB.alloc o).alloc o'
  have hS1 : Hid (∀ o : Obj, Seg ((w.alloc o).alloc (.cells #[.int .u8 123] 5)) (some ⟨w.heap.size + 1, 0, none⟩) [123]) := fun o => by
    have h := seg_one (w.alloc o) 123 (by unfold Byt; omega)
    simp only [World.size_alloc] at h
    exact h
  have hbC : Hid (∀ o o' : Obj, Below B w ((w.alloc o).alloc o')) := fun o o' => ((Below.refl _ _).alloc hBw o).alloc (by simp; omega) o'
  have Hbx : Hid (∀ o o2 : Obj, ((w.alloc o).alloc o2).heap[w.heap.size]? = some o) := fun o o2 => (Below.heap_alloc _ _ _ (by simp)).trans (MapKept.heap_alloc w o).1
  have HOwn := hide' hB.own
  have Hneq : Hid (some w.heap.size ≠ (Value.slice a xs.length c).ownBlock) := fun e => by have := (hB.2.lt _ e.symm).2; omega
  obtain ⟨res, hres⟩ : ∃ res, res = xs ++ 123 :: (kid vL.length ++ [125]) := ⟨_, rfl⟩
  have HRes := hide' hres
  rw [← hres]
  have hxl : xs.length ≤ 900000 := by omega
  clear hm hps0 hst0 hkb hg ih hkid hp ht hB hres hlen
  go_enter Tryd.func22, Tryd.ntmps22
  go_wp2_with (at_builtin; refine wpList_append_seg rfl (.tmp 70) (.tmp 71) (by rfl) B (.slice a xs.length c) xs [123] (by rfl) (HB.out _ _) _ 1 1 rfl (by rfl) (hS1.out _) (by simp) (by simp; omega) (by simp; omega) ?_; intro v1 w1 hv1 hg1; have hb1 := hide' ((hbC.out _ _).grown hg1 (by simp; omega) HOwn.out); have hx1 := (hg1.block w.heap.size (by simp; omega) Hneq.out).trans (Hbx.out _ _); have cx1 := row1c hx1; have hk1 := hide' (kept_app2 (Kept.refl w) (HB.out _ _) hg1); replace hv1 := hide' hv1; clear hg1 hx1)
  go_wp2_with fail
  refine (HFl.out _ hk1.out hb1.out (hb1.out.block b (by omega))).mono ?_
  rintro e w4 ⟨u, rfl, ⟨hFR, hTag⟩, b4⟩
  have hbw4 := hide' (hb1.out.trans (b4.mono (by have := hb1.out.size; omega)))
  have hk4 := hide' (hk1.out.trans (kept_below b4))
  have hv4 := hide' (hv1.out.grow b4)
  obtain ⟨fa, fc, rfl, hfc, hfm, hcell0⟩ := hFR
  have HC0 := hide' hcell0
  have HTag := hide' hTag
  unfold maxLen at hfm
  clear hcell0 b4 HFl hv1 cx1 hb1 hk1 hTag
  go_wp2_with fail
  go_loopw [0, 76] (fun y i wr => ∃ k : Nat, k ≤ vL.length ∧ i = .int .i64 k ∧ Hid (Bts wr B y (xs ++ 123 :: kid k)) ∧ Hid (Below B w wr) ∧ Hid (Kept w4 wr)) (fun _ i _ => vL.length - (intOf i).toNat)
  case atStart => exact ⟨0, Nat.zero_le _, rfl, by rw [HZ.out]; exact hv4, hbw4, Kept.refl _⟩
  case round =>
    obtain ⟨k, hk, rfl, hB, hbel, hkp⟩ := hrel
    obtain ⟨ya, yc, rfl, _, _, _, _, kk⟩ := hB.out.shape
    have hz : B ≤ wr.heap.size := by have := hbel.out.size; omega
    have hkn := HKn.out k hk
    have HOwn := hide' hB.out.own
    obtain ⟨zs, hzs⟩ : ∃ zs, zs = xs ++ 123 :: kid k := ⟨_, rfl⟩
    have hzl : zs.length = (xs ++ 123 :: kid k).length := by rw [hzs]
    have hzn : zs.length = xs.length + 1 + (kid k).length := by rw [hzs]; simp; omega
    rw [← hzs] at hB HOwn
    rw [← hzl]
    by_cases hlt : k < vL.length
    · have hlt' : (k : Int) < (vL.length : Int) := by omega
      have hroom := HRoom.out k hlt
      have hk0i : (0 : Int) ≤ (k : Int) := Int.natCast_nonneg _
      obtain ⟨t, px, hpe⟩ := HSh.out k hlt
      have hat : ∃ g, fa = some ⟨g, 0, none⟩ ∧ wr.cell? ⟨g, k * 2, none⟩ = some (.string (strOf (vK.getD k []))) ∧ wr.cell? ⟨g, k * 2 + 1, none⟩ = some (.iface t px) := by
        rcases HC0.out with h0 | ⟨g, rfl, hg, hc⟩
        · omega
        · obtain ⟨c0, c1⟩ := hc k hlt
          obtain ⟨cs, fr, hgr⟩ := HTag.out g _ _ rfl
          have hbk := (hkp.out g cs _ fr hgr (by decide)).trans hgr.symm
          rw [hpe] at c1
          exact ⟨g, rfl, (World.cell?_of_block hbk).trans c0, (World.cell?_of_block hbk).trans c1⟩
      obtain ⟨g, rfl, fc0, fc1⟩ := hat
      have hps := HP.out k hlt
      rw [hpe] at hps
      have hst := HStp.out k hlt
      obtain ⟨ts, hts⟩ : ∃ ts, ts = vK.getD k [] := ⟨_, rfl⟩
      have hkb := HKB.out k hlt
      rw [← hts] at hkb fc0
      have htl := hkb.2
      have HBy := hide' hkb.1
      obtain ⟨ys, hys⟩ : ∃ ys, ys = zs ++ (if k = 0 then [] else [44, 32]) := ⟨_, rfl⟩
      have hyl : ys.length ≤ zs.length + 2 := by rw [hys]; split <;> simp
      obtain ⟨z7, hz7⟩ : ∃ z7, z7 = (ys ++ ts) ++ [32, 61, 32] := ⟨_, rfl⟩
      have hz7l : z7.length ≤ zs.length + 13 := by rw [hz7]; simp; omega
      have hbA : Hid (∀ o : Obj, Below B w (wr.alloc o).drew) := fun o => (hbel.out.alloc hz o).drew
      have HC1 : Hid (∀ o : Obj, Calls Tryd.prog 34 #[.slice ya zs.length yc, .int .i64 k] (wr.alloc o).drew (ApEnd B ys (wr.alloc o).drew)) := fun o => appendComma_any B k ya yc zs ys (wr.alloc o).drew (hB.out.alloc o) (by have := (hbA.out o).size; omega) (by omega) (by omega) (fun h => by rw [hys, if_pos h]; simp) (fun h => by rw [hys, if_neg h])
      have Hbx : Hid (∀ o : Obj, (wr.alloc o).drew.heap[wr.heap.size]? = some o) := fun o => (MapKept.heap_alloc wr o).1
      have HkA : Hid (∀ o : Obj, Kept w4 (wr.alloc o).drew) := fun o => hkp.out.trans (kept_alloc wr o)
      have HC2 : Hid (∀ a1 c1 wx, Bts wx B (.slice a1 z7.length c1) z7 → Below B w wx → Calls Tryd.prog 22 #[.slice a1 z7.length c1, .iface t px] wx (ApEnd B (xs ++ 123 :: kid (k + 1)) wx)) := fun a1 c1 wx h hb => by
        have e : xs ++ 123 :: kid (k + 1) = z7 ++ sayV d vL[k] := by rw [hst, hz7, hys, hzs, hts]; simp [aheadS]
        rw [e]
        exact HI.out N B a1 c1 z7 (.iface t px) vL[k] deep wx (PSeg.carry (fun b h => h) (agree_below (hb.mono hN)) d hps) hN (by have := hb.size; omega) h (HG.out k hlt) (HPk.out k hlt) (by omega) (Lib.TabBelow.on HTb.out hb)
      have hzb : zs.length ≤ 910000 := by omega
      have Hz7 := hide' hz7
      obtain ⟨sx, hsx⟩ : ∃ sx, sx = strOf ts := ⟨_, rfl⟩
      rw [← hsx] at fc0
      have Hsx := hide' hsx
      clear hst hys hzs hzl hzn hroom hkn hps hkb hts hpe hz7 hsx HC0
      go_wp2_with fail
      go_region_law (first
        | (go_simp; go_at_call 34; refine (HC1.out _).mono ?_; rintro e w5 ⟨a5, c5, rfl, hv5, hb5, hk5⟩; have hr5 := hk5 _ _ _ _ (Hbx.out _) (by decide); have f50 : w5.cell? ⟨wr.heap.size, 0, none⟩ = some (.string sx) := (by rw [cell_of_row w5 _ 0 _ _ _ hr5]; rfl); have f51 : w5.cell? ⟨wr.heap.size, 1, none⟩ = some (.iface t px) := (by rw [cell_of_row w5 _ 1 _ _ _ hr5]; rfl); have Hb5 := hide' ((hbA.out _).trans hb5); have Hk5 := hide' ((HkA.out _).trans hk5); have Hv5 := hide' hv5; have Hr5 := hide' hr5; have hz5 : B ≤ w5.heap.size := (by have := Hb5.out.size; omega); clear hv5 hb5 hk5 hr5)
        | (refine step_append_text (by rfl) (.tmp 83) (.tmp 85) 9 (by rfl) Tryd.underlying9 B (.slice a5 ys.length c5) ys ts (by rfl) (by exact Hv5.out) sx Hsx.out HBy.out (by rfl) (by omega) hz5 ?_; intro v6 w6 hv6 hg6; have hr6 := (kept_grown Hv5.out hg6) _ _ _ _ Hr5.out (by decide); have f60 : w6.cell? ⟨wr.heap.size, 0, none⟩ = some (.string sx) := (by rw [cell_of_row w6 _ 0 _ _ _ hr6]; rfl); have f61 : w6.cell? ⟨wr.heap.size, 1, none⟩ = some (.iface t px) := (by rw [cell_of_row w6 _ 1 _ _ _ hr6]; rfl); have Hb6 := hide' (Hb5.out.grown hg6 hz5 Hv5.out.own); have Hk6 := hide' (Hk5.out.trans (kept_grown Hv5.out hg6)); have Hv6 := hide' hv6; have Hr6 := hide' hr6; have hz6 : B ≤ w6.heap.size := (by have := Hb6.out.size; omega); clear hv6 hg6 hr6))
      all_goals
        clear Hk5 Hb5 Hv5 Hr5 f50 f51 HC1
        go_wp2_with fail
        go_region_law (first
          | (refine step_append_text (by rfl) (.tmp 87) (.const (.string { data := #[32, 61, 32] })) 9 (by rfl) Tryd.underlying9 B v6 (ys ++ ts) [32, 61, 32] (by rfl) (by exact Hv6.out) _ (by rfl) (by simp [Byt]) (by rfl) (by simp; omega) (by exact hz6) ?_; intro v7 w7 hv7 hg7; have hr7 := (kept_grown (w := w6.drew) (by exact Hv6.out) hg7) _ _ _ _ (by exact Hr6.out) (by decide); have f71 : w7.cell? ⟨wr.heap.size, 1, none⟩ = some (.iface t px) := (by rw [cell_of_row w7 _ 1 _ _ _ hr7]; rfl); have Hb7 := hide' (Hb6.out.drew.grown hg7 hz6 (by exact Hv6.out.own)); have Hk7 := hide' (Hk6.out.trans (kept_grown (w := w6.drew) (by exact Hv6.out) hg7)); rw [← Hz7.out] at hv7; obtain ⟨a7, c7, hv7e, _⟩ := hv7.shape; subst hv7e; have HC3 := hide' (HC2.out a7 c7 w7 hv7 Hb7.out); generalize z7.length = m7 at *; clear hv7 hg7 hr7)
          | (go_simp; go_at_call 22; refine HC3.out.mono ?_; rintro e w8 ⟨a8, c8, rfl, hv8, hb8, hk8⟩; have Hb8 := hide' (Hb7.out.trans hb8); have Hk8 := hide' (Hk7.out.trans hk8); have Hv8 := hide' hv8; generalize (xs ++ 123 :: kid (k + 1)).length = m8 at *; clear hv8 hb8 hk8))
      all_goals
        go_wp2
        go_roundw
        case rel => exact ⟨k + 1, by omega, by go_num, Hv8, Hb8, Hk8⟩
        case measure => simp [intOf]; omega
    · have hkn' : k = vL.length := by omega
      have hlt' : ¬ (k : Int) < (vL.length : Int) := by omega
      have HF : Hid (res = zs ++ [125]) := by show _ = _; rw [HRes.out, hzs, hkn']; simp
      have hS93 := seg_one wr 125 (by unfold Byt; omega)
      have hA93 := hB.out.alloc (.cells #[.int .u8 125] 5)
      have hbA : Hid (∀ o : Obj, Below B w (wr.alloc o)) := fun o => hbel.out.alloc hz o
      clear hkn' hzs hzl
      go_wp2_with (at_builtin; refine wpList_append_seg rfl _ _ (by rfl) B (.slice ya zs.length yc) zs [125] (by rfl) hA93 _ 1 1 rfl (by rfl) hS93 (by simp) (by simp; omega) (by simp; omega) ?_; intro v2 w2 hv2 hg2; have hb2 := hide' ((hbA.out _).grown hg2 (by simp; omega) HOwn.out); have hk2 := hide' (kept_app (hk4.out.trans hkp.out) hA93 hg2); replace hv2 := hide' hv2; clear hg2)
      go_ret
      rw [HF.out]
      exact apEnd_of hv2.out hb2.out hk2.out
end Go.Proofs.YthleidfkfbklhaaDoor
/-
  takeMap of the program, walked: it takes a map in.
-/
namespace Go.Proofs.YthleidfkfbklhaaDoor
open Go.RowKit
set_option linter.unusedVariables false
set_option linter.unusedSimpArgs false

/-- What a good takeMap has brought about. -/
def TookMap (d : Nat) (vK : List (List Int)) (vL : List (Vl d)) (deep n q : Nat) (w w' : World) (p : Value) : Prop :=
  vK.length = vL.length ∧ ascB vK = true ∧ (∀ j (h : j < vL.length), goodB d vL[j] (deep + 1) = true) ∧ n + pre (partsV d) vL vL.length ≤ 40 ∧ Cnt w' q (n + pre (partsV d) vL vL.length) ∧
    PSeg (fun b => w.heap.size ≤ b ∧ b < w'.heap.size) w' (d + 1) p (5, 0, [], vK, vL)

/-- It is no map that may be. -/
def NoMap (d : Nat) (vK : List (List Int)) (vL : List (Vl d)) (deep n : Nat) : Prop := ¬ (vK.length = vL.length ∧ ascB vK = true ∧ (∀ j (h : j < vL.length), goodB d vL[j] (deep + 1) = true) ∧ n + pre (partsV d) vL vL.length ≤ 40)

theorem keyS (xs : List Int) (h : xs.length ≤ maxLen) : Go.keyOf Tryd.prog 9 (.string (strOf xs)) = some (.string (u8s xs)) :=
  WideMaps.keyOf_string_mk Tryd.underlying9 (by show (xs.map _).toArray.size ≤ maxLen; rw [List.size_toArray, List.length_map]; exact h)

theorem agree_box {N q : Nat} {w w' : World} {o : Obj} (h : (w.alloc o).grownBy w' (some q)) (hN : N ≤ q) (hq : q < w.heap.size) : Agree (fun b => b < N) w w' := fun b hb =>
  (h.block b (by simp; omega) (by simp; omega)).trans ((World.grownBy_alloc w o none).block b (by omega) (by simp))

set_option maxHeartbeats 4000000 in
theorem takeMap_of (d : Nat) (ih : TakeAt d) (N q n : Nat) (vk vn : Int) (a2 : Option Addr) (l2 p2 : Nat) (z x : Value) (vK : List (List Int)) (vL : List (Vl d)) (deep : Nat) (w : World) (hz : KSeg (fun b => b < N) w z vK) (hx : LSeg (fun b => b < N) w d x vL) (hNq : N ≤ q) (hq : q < w.heap.size) (hc : Cnt w q n) (hn : n ≤ 40) (hd : deep ≤ 5) :
    Calls Tryd.prog 42 #[.pointer (some ⟨q, 0, none⟩), .agg #[.int .i64 vk, .int .i64 vn, .slice a2 l2 p2, z, x], .int .i64 deep] w fun e w' =>
      w.grownBy w' (some q) ∧ ((∃ p, e = .returned (.tuple #[p, .bool true]) ∧ TookMap d vK vL deep n q w w' p) ∨ (e = .returned (.tuple #[.nilIface, .bool false]) ∧ NoMap d vK vL deep n)) := by
  have HX := hide' hx
  have HZ := hide' hz
  obtain ⟨a4, p4, rfl, hlc, hcm, ka, _⟩ := hx
  obtain ⟨a3, p3, rfl, hlc3, hcm3, ka3, _⟩ := hz
  unfold maxLen at hcm hcm3
  generalize hO : Obj.cells #[.int .i64 vk, .int .i64 vn, .slice a2 l2 p2, .slice a3 vK.length p3, .slice a4 vL.length p4] 31 = ob
  have HOb := hide' hO
  have gB : w.grownBy (w.alloc ob) (some q) := World.grownBy_alloc w ob (some q)
  have agB : Agree (fun b => b < N) w (w.alloc ob) := fun b hb => gB.block b (by omega) (by simp; omega)
  have HG := hide' gB
  by_cases hkl : vK.length = vL.length
  · have HA : Hid (Calls Tryd.prog 47 #[.slice a3 vK.length p3] (w.alloc ob) fun e w' => e = .returned (.bool (ascB vK)) ∧ w.alloc ob = w') := ascendingNames_any _ _ vK _ (HZ.out.agree agB)
    have HT : Hid (Calls Tryd.prog 41 #[.pointer (some ⟨q, 0, none⟩), .slice a4 vL.length p4, .int .i64 ((deep : Int) + 1)] (w.alloc ob) fun e w' =>
        (w.alloc ob).grownBy w' (some q) ∧ ((∃ y, e = .returned (.tuple #[y, .bool true]) ∧ TookAll d vL (deep + 1) n q (w.alloc ob) w' y) ∨ (e = .returned (.tuple #[.slice none 0 0, .bool false]) ∧ ¬ ((∀ j (h : j < vL.length), goodB d vL[j] (deep + 1) = true) ∧ n + pre (partsV d) vL vL.length ≤ 40)))) := by
      have := takeAll_of d ih N q n _ vL (deep + 1) (w.alloc ob) (HX.out.agree agB) hNq (by simp; omega) (hc.keep (World.grownBy_alloc w ob none) (by simp)) hn (by omega)
      rw [Int.natCast_add] at this
      exact this
    have HKL := hide' hkl
    rw [hkl] at HA hlc3
    rw [hkl] at hO HOb
    rw [hkl] at HZ
    clear ih hc agB gB
    by_cases has : ascB vK = true
    · rw [has] at HA
      have HAs := hide' has
      clear has
      rw [hkl]
      subst hO
      clear hkl
      go_enter Tryd.func42, Tryd.ntmps42
      go_wp2_with fail
      refine HA.out.mono ?_
      rintro e w1 ⟨rfl, e1⟩
      obtain rfl := e1
      go_wp2_with fail
      refine HT.out.mono ?_
      rintro e w1 ⟨hg1, hcase⟩
      rcases hcase with ⟨y, rfl, htook⟩ | ⟨rfl, hbad⟩
      · obtain ⟨hgood, hle, hcnt, a, cap, ps, rfl, hcell, hpp⟩ := htook
        have hlen : vL.length ≤ 40 := by have := pre_ge d vL vL.length (Nat.le_refl _); omega
        have hq1 : q < w1.heap.size := by have := hg1.size; simp at this; omega
        have hbx : w.heap.size < w1.heap.size := by have := hg1.size; simp at this; omega
        have hmk := run_makeMapN 73 9 45 (vL.length : Int) w1 Tryd.underlying73
        have hM0 : (w1.alloc (.map #[] 0)).ownsMap Tryd.prog 9 tokR w1.heap.size 0 (mapD vK ps 0) := World.ownsMap_made w1 Tryd.prog 9 tokR
        have HGo := hide' hgood
        have HLe := hide' hle
        have HCn := hide' hcnt
        have HCe := hide' hcell
        have HPp := hide' hpp
        have HG1 := hide' hg1
        clear hgood hle hcnt hcell hpp HA HT
        go_wp2
        go_loopw [42] (fun i wr => ∃ k : Nat, k ≤ vL.length ∧ i = .int .i64 k ∧ wr.ownsMap Tryd.prog 9 tokR w1.heap.size k (mapD vK ps k) ∧ Hid ((w1.alloc (.map #[] 0)).grownBy wr (some w1.heap.size))) (fun i _ => vL.length - (intOf i).toNat)
        case atStart => exact ⟨0, Nat.zero_le _, rfl, hM0, World.grownBy.refl _ _⟩
        case round =>
          obtain ⟨k, hk, rfl, hown, hgr⟩ := hrel
          clear hM0
          have hal1 : w1.grownBy (w1.alloc (.map #[] 0)) none := World.grownBy_alloc w1 _ none
          have hlow : ∀ b, b < w1.heap.size → wr.heap[b]? = w1.heap[b]? := fun b hb => (hgr.out.block b (by simp; omega) (by simp; omega)).trans (hal1.block b hb (by simp))
          have HLow := hide' hlow
          by_cases hlt : k < vL.length
          · have hlt' : (k : Int) < (vL.length : Int) := by omega
            have hit : ∃ b, a = some ⟨b, 0, none⟩ ∧ wr.cell? ⟨b, k, none⟩ = some (ps.getD k .nilIface) := by
              rcases HCe.out with h0 | ⟨b, rfl, _, hb, hcc⟩
              · rw [h0] at hlt; simp at hlt
              · exact ⟨b, rfl, (World.cell?_of_block (hlow b hb)).trans (hcc k hlt)⟩
            obtain ⟨ib, rfl, hitem⟩ := hit
            have hag : Agree (fun b => b < N) w wr := fun b hb => (hlow b (by omega)).trans (agree_box HG1.out hNq hq b hb)
            have hKr : KSeg (fun b => b < N) wr (.slice a3 vL.length p3) vK := HZ.out.agree hag
            have hltK : k < vK.length := by have := HKL.out; omega
            obtain ⟨kb, ko, rfl, hat⟩ := hKr.at hltK
            obtain ⟨s2, e2, hu, g2, m2⟩ := hat k hltK
            have hrow : wr.heap[w.heap.size]? = some (.cells #[.int .i64 vk, .int .i64 vn, .slice a2 l2 p2, .slice (some ⟨kb, ko, none⟩) vL.length p3, .slice a4 vL.length p4] 31 (0, 0)) :=
              (hlow w.heap.size hbx).trans ((HG1.out.block w.heap.size (by simp) (by simp; omega)).trans (MapKept.heap_alloc w _).1)
            obtain ⟨y0, y1, y2, y3, y4, _⟩ := row5 hrow
            have hcv := conv_seg e2 g2
            have hkey := keyS (vK.getD k []) m2
            have HD : Hid (mapD vK ps (k + 1) = (mapD vK ps k).put (.string (u8s (vK.getD k []))) (.held (ps.getD k .nilIface))) := rfl
            have HP := hide' (HPp.out k hlt)
            obtain ⟨pt, px, hpx⟩ := HP.out.shape
            rw [hpx] at hitem HD
            generalize vK.getD k [] = ys at *
            clear hlow hag hKr hat hrow g2 hal1 hpx HP
            go_wp2_with (at_mapUpdate; refine wpList_mapUpdate_own _ rfl _ _ _ 73 rfl 9 45 (Maps.string_keyed Tryd.underlying9) Tryd.underlying73 tokR w1.heap.size k _ rfl hown (by unfold maxLen; omega) _ _ _ rfl rfl hkey _ [] rfl ?_; intro w3 hown3 hg3)
            have hown4 : w3.ownsMap Tryd.prog 9 tokR w1.heap.size (k + 1) (mapD vK ps (k + 1)) := by rw [HD.out]; exact hown3
            have hgr3 : Hid ((w1.alloc (.map #[] 0)).grownBy w3 (some w1.heap.size)) := grownBy_trans hgr.out hg3
            clear hown3 hg3 hown hgr hkey hcv hitem y0 y1 y2 y3 y4 hu
            go_wp2
            go_roundw
            case rel => exact ⟨k + 1, by omega, by go_num, hown4, hgr3⟩
            case measure => simp [intOf]; omega
          · have hkn : k = vL.length := by omega
            have hlt' : ¬ (k : Int) < (vL.length : Int) := by omega
            have hsz3 : w1.heap.size + 1 ≤ wr.heap.size := by have := hgr.out.size; simpa using this
            have hsz1 : w.heap.size + 1 ≤ w1.heap.size := by omega
            have hP : PSeg (fun b => w.heap.size ≤ b ∧ b < wr.heap.size) wr (d + 1) (.iface 75 (.agg #[.map (some w1.heap.size)])) (5, 0, [], vK, vL) := by
              refine .inr (.inr (.inr (.inr (.inr (.inr ⟨rfl, w1.heap.size, ps, rfl, ⟨by omega, by omega⟩, ?_, fun i hi => ?_⟩)))))
              · have := hown.mono (n' := 64) (by omega)
                rw [hkn] at this
                exact this
              · refine PSeg.carry (fun b hb => ⟨?_, ?_⟩) (fun b hb => hlow b hb.2) d (HPp.out i hi)
                · have := hb.1
                  simp at this
                  omega
                · have := hb.2
                  omega
            have hcn : Cnt wr q (n + pre (partsV d) vL vL.length) := (hlow q hq1).trans HCn.out
            have hgf : w.grownBy wr (some q) := grownBy_fresh (grownBy_fresh (grownBy_trans HG.out HG1.out) hal1 (by simp)) hgr.out (by intro j hj; simp at hj; omega)
            have HF : Hid (TookMap d vK vL deep n q w wr (.iface 75 (.agg #[.map (some w1.heap.size)]))) := ⟨HKL.out, HAs.out, HGo.out, HLe.out, hcn, hP⟩
            clear hkn hP hlow hal1 hcn
            go_wp2
            go_ret2
            exact ⟨hgf, .inl ⟨_, rfl, HF.out⟩⟩
      · have hgf := grownBy_trans HG.out hg1
        have hno : NoMap d vK vL deep n := fun h => hbad h.2.2
        go_wp2
        go_ret2
        exact ⟨hgf, .inr ⟨rfl, hno⟩⟩
    · have has' : ascB vK = false := by simpa using has
      rw [has'] at HA
      have hno : NoMap d vK vL deep n := fun h => has h.2.1
      have Hno := hide' hno
      clear has has' hno
      rw [hkl]
      subst hO
      clear hkl HT
      go_enter Tryd.func42, Tryd.ntmps42
      go_wp2_with fail
      refine HA.out.mono ?_
      rintro e w1 ⟨rfl, e1⟩
      obtain rfl := e1
      go_wp2
      go_ret2
      exact ⟨HG.out, .inr ⟨rfl, Hno.out⟩⟩
  · have hne : ¬ (vK.length : Int) = (vL.length : Int) := by omega
    have Hno : Hid (NoMap d vK vL deep n) := fun h => hkl h.1
    subst hO
    clear ih hkl agB gB
    go_enter Tryd.func42, Tryd.ntmps42
    go_wp2
    go_ret2
    exact ⟨HG.out, .inr ⟨rfl, Hno.out⟩⟩
end Go.Proofs.YthleidfkfbklhaaDoor
/-
  take of the program at every value; partOf, ValOk of the program.
-/
namespace Go.Proofs.YthleidfkfbklhaaDoor
open Go.RowKit
set_option linter.unusedVariables false
set_option linter.unusedSimpArgs false

theorem below_grown {w w' : World} (h : Below w.heap.size w w') (r : Option Nat) : w.grownBy w' r := ⟨h.os, h.tape, h.output, h.size, fun k hk _ => h.block k hk⟩

/-- take was not good. -/
def NoTake (d : Nat) (v : Vl d) (deep n : Nat) : Prop := ¬ (goodB d v deep = true ∧ n + partsV d v ≤ 40)

/-- What take has done ahead of the kinds. -/
def Ahead (w : World) (q n : Nat) (vk vn : Int) (a2 a3 a4 : Option Addr) (l2 l3 l4 p2 p3 p4 : Nat) (w2 : World) : Prop :=
  w.grownBy w2 (some q) ∧ Cnt w2 q (n + 1) ∧ w2.heap[w.heap.size]? = some (.cells #[.int .i64 vk, .int .i64 vn, .slice a2 l2 p2, .slice a3 l3 p3, .slice a4 l4 p4] 31 (0, 0))

theorem ahead_of {w : World} {q n : Nat} {vk vn : Int} {a2 a3 a4 : Option Addr} {l2 l3 l4 p2 p3 p4 : Nat} {w2 : World} {x : Int} (hx : x = (n : Int) + 1) (hq : q < w.heap.size) (hc : Cnt w q n)
    (hb : Below ((w.setCell ⟨q, 0, none⟩ (.int .i64 x)).alloc (.cells #[.int .i64 vk, .int .i64 vn, .slice a2 l2 p2, .slice a3 l3 p3, .slice a4 l4 p4] 31)).heap.size ((w.setCell ⟨q, 0, none⟩ (.int .i64 x)).alloc (.cells #[.int .i64 vk, .int .i64 vn, .slice a2 l2 p2, .slice a3 l3 p3, .slice a4 l4 p4] 31)) w2) :
    Ahead w q n vk vn a2 a3 a4 l2 l3 l4 p2 p3 p4 w2 := by
  subst hx
  have hg := grown1 w q 0 (.int .i64 ((n : Int) + 1))
  have hcs : Cnt (w.setCell ⟨q, 0, none⟩ (.int .i64 ((n : Int) + 1))) q (n + 1) := hc.set (n + 1)
  have hsz : (w.setCell ⟨q, 0, none⟩ (.int .i64 ((n : Int) + 1))).heap.size = w.heap.size := by simp [World.setCell]
  have hal := World.grownBy_alloc (w.setCell ⟨q, 0, none⟩ (.int .i64 ((n : Int) + 1))) (.cells #[.int .i64 vk, .int .i64 vn, .slice a2 l2 p2, .slice a3 l3 p3, .slice a4 l4 p4] 31) none
  have hb2 := below_grown hb none
  have hnew := (MapKept.heap_alloc (w.setCell ⟨q, 0, none⟩ (.int .i64 ((n : Int) + 1))) (.cells #[.int .i64 vk, .int .i64 vn, .slice a2 l2 p2, .slice a3 l3 p3, .slice a4 l4 p4] 31)).1
  rw [hsz] at hnew
  refine ⟨grownBy_fresh (grownBy_fresh hg hal (by simp)) hb2 (by simp), (hcs.keep hal (by simp)).keep hb2 (by simp), (hb2.block w.heap.size (by simp [hsz]) (by simp)).trans hnew⟩

set_option maxHeartbeats 4000000 in
set_option maxRecDepth 100000 in
theorem take_over (q n : Nat) (vk vn : Int) (a2 a3 a4 : Option Addr) (l2 l3 l4 p2 p3 p4 : Nat) (deep : Nat) (w : World) (hq : q < w.heap.size) (hc : Cnt w q n) (hn : n = 40) :
    Calls Tryd.prog 30 #[.pointer (some ⟨q, 0, none⟩), .agg #[.int .i64 vk, .int .i64 vn, .slice a2 l2 p2, .slice a3 l3 p3, .slice a4 l4 p4], .int .i64 deep] w fun e w' => w.grownBy w' (some q) ∧ e = .returned (.tuple #[.nilIface, .bool false]) := by
  subst hn
  have HA : Hid (Cnt w q 40) := hc
  obtain ⟨hc0, hf0⟩ := hc.cell
  have hne : q ≠ w.heap.size := by omega
  clear hc
  go_enter Tryd.func30, Tryd.ntmps30
  go_wp2
  go_ret2
  exact ⟨(ahead_of (n := 40) rfl hq HA.out (Below.refl _ _)).1, rfl⟩

set_option maxHeartbeats 4000000 in
set_option maxRecDepth 100000 in
theorem take_deep (q n : Nat) (vk vn : Int) (l2 l3 l4 : Nat) (a2 a3 a4 : Option Addr) (p2 p3 p4 : Nat) (deep : Nat) (w : World) (hq : q < w.heap.size) (hc : Cnt w q n) (hn : n < 40) (hd : 5 < deep) :
    Calls Tryd.prog 30 #[.pointer (some ⟨q, 0, none⟩), .agg #[.int .i64 vk, .int .i64 vn, .slice a2 l2 p2, .slice a3 l3 p3, .slice a4 l4 p4], .int .i64 deep] w fun e w' => Ahead w q n vk vn a2 a3 a4 l2 l3 l4 p2 p3 p4 w' ∧ e = .returned (.tuple #[.nilIface, .bool false]) := by
  have HA : Hid (Cnt w q n) := hc
  obtain ⟨hc0, hf0⟩ := hc.cell
  have hne : q ≠ w.heap.size := by omega
  have hnn : ¬ (40 : Int) < (n : Int) + 1 := by omega
  have hdd : (5 : Int) < (deep : Int) := by omega
  clear hc
  go_enter Tryd.func30, Tryd.ntmps30
  go_wp2
  go_ret2
  exact ⟨ahead_of rfl hq HA.out (Below.refl _ _), rfl⟩

set_option maxHeartbeats 4000000 in
set_option maxRecDepth 100000 in
theorem take_bare (q n : Nat) (vk vn : Int) (l2 l3 l4 : Nat) (a2 a3 a4 : Option Addr) (p2 p3 p4 : Nat) (deep : Nat) (w : World) (hq : q < w.heap.size) (hc : Cnt w q n) (hn : n < 40) (hd : deep ≤ 5) (hb : bareB vk vn l2 l3 l4 = false) :
    Calls Tryd.prog 30 #[.pointer (some ⟨q, 0, none⟩), .agg #[.int .i64 vk, .int .i64 vn, .slice a2 l2 p2, .slice a3 l3 p3, .slice a4 l4 p4], .int .i64 deep] w fun e w' => Ahead w q n vk vn a2 a3 a4 l2 l3 l4 p2 p3 p4 w' ∧ e = .returned (.tuple #[.nilIface, .bool false]) := by
  have HA : Hid (Cnt w q n) := hc
  obtain ⟨hc0, hf0⟩ := hc.cell
  have hne : q ≠ w.heap.size := by omega
  have hnn : ¬ (40 : Int) < (n : Int) + 1 := by omega
  have hdd : ¬ (5 : Int) < (deep : Int) := by omega
  clear hc
  go_enter Tryd.func30, Tryd.ntmps30
  go_wp2_with fail
  refine (impl_bare_any _ _ _ _ _ _ _ _ _ _ _ _).mono ?_
  rintro e w2 ⟨rfl, b2⟩
  have hA := ahead_of rfl hq HA.out b2
  rw [hb]
  obtain ⟨y0, y1, y2, y3, y4, _⟩ := row5 hA.2.2
  have HAh := hide' hA
  clear b2 hA
  go_wp2
  go_ret2
  exact ⟨HAh.out, rfl⟩

set_option maxHeartbeats 4000000 in
set_option maxRecDepth 100000 in
theorem take_null (q n : Nat) (a2 a3 a4 : Option Addr) (p2 p3 p4 : Nat) (deep : Nat) (w : World) (hq : q < w.heap.size) (hc : Cnt w q n) (hn : n < 40) (hd : deep ≤ 5) :
    Calls Tryd.prog 30 #[.pointer (some ⟨q, 0, none⟩), .agg #[.int .i64 0, .int .i64 0, .slice a2 0 p2, .slice a3 0 p3, .slice a4 0 p4], .int .i64 deep] w fun e w' => Ahead w q n 0 0 a2 a3 a4 0 0 0 p2 p3 p4 w' ∧ e = .returned (.tuple #[.iface 60 (.agg #[]), .bool true]) := by
  have HA : Hid (Cnt w q n) := hc
  obtain ⟨hc0, hf0⟩ := hc.cell
  have hne : q ≠ w.heap.size := by omega
  have hnn : ¬ (40 : Int) < (n : Int) + 1 := by omega
  have hdd : ¬ (5 : Int) < (deep : Int) := by omega
  clear hc
  go_enter Tryd.func30, Tryd.ntmps30
  go_wp2_with fail
  refine (impl_bare_any _ _ _ _ _ _ _ _ _ _ _ _).mono ?_
  rintro e w2 ⟨rfl, b2⟩
  have hA := ahead_of rfl hq HA.out b2
  rw [show bareB 0 0 0 0 0 = true from by simp [bareB, *]]
  obtain ⟨y0, y1, y2, y3, y4, _⟩ := row5 hA.2.2
  have HAh := hide' hA
  clear b2 hA
  go_wp2
  go_ret2
  exact ⟨HAh.out, rfl⟩

set_option maxHeartbeats 4000000 in
set_option maxRecDepth 100000 in
theorem take_unknown (q n : Nat) (a2 a3 a4 : Option Addr) (p2 p3 p4 : Nat) (deep : Nat) (w : World) (hq : q < w.heap.size) (hc : Cnt w q n) (hn : n < 40) (hd : deep ≤ 5) :
    Calls Tryd.prog 30 #[.pointer (some ⟨q, 0, none⟩), .agg #[.int .i64 6, .int .i64 0, .slice a2 0 p2, .slice a3 0 p3, .slice a4 0 p4], .int .i64 deep] w fun e w' => Ahead w q n 6 0 a2 a3 a4 0 0 0 p2 p3 p4 w' ∧ e = .returned (.tuple #[.iface 80 (.agg #[]), .bool true]) := by
  have HA : Hid (Cnt w q n) := hc
  obtain ⟨hc0, hf0⟩ := hc.cell
  have hne : q ≠ w.heap.size := by omega
  have hnn : ¬ (40 : Int) < (n : Int) + 1 := by omega
  have hdd : ¬ (5 : Int) < (deep : Int) := by omega
  clear hc
  go_enter Tryd.func30, Tryd.ntmps30
  go_wp2_with fail
  refine (impl_bare_any _ _ _ _ _ _ _ _ _ _ _ _).mono ?_
  rintro e w2 ⟨rfl, b2⟩
  have hA := ahead_of rfl hq HA.out b2
  rw [show bareB 6 0 0 0 0 = true from by simp [bareB, *]]
  obtain ⟨y0, y1, y2, y3, y4, _⟩ := row5 hA.2.2
  have HAh := hide' hA
  clear b2 hA
  go_wp2
  go_ret2
  exact ⟨HAh.out, rfl⟩

set_option maxHeartbeats 4000000 in
set_option maxRecDepth 100000 in
theorem take_bool0 (q n : Nat) (a2 a3 a4 : Option Addr) (p2 p3 p4 : Nat) (deep : Nat) (w : World) (hq : q < w.heap.size) (hc : Cnt w q n) (hn : n < 40) (hd : deep ≤ 5) :
    Calls Tryd.prog 30 #[.pointer (some ⟨q, 0, none⟩), .agg #[.int .i64 1, .int .i64 0, .slice a2 0 p2, .slice a3 0 p3, .slice a4 0 p4], .int .i64 deep] w fun e w' => Ahead w q n 1 0 a2 a3 a4 0 0 0 p2 p3 p4 w' ∧ e = .returned (.tuple #[.iface 62 (.agg #[.int .i64 0]), .bool true]) := by
  have HA : Hid (Cnt w q n) := hc
  obtain ⟨hc0, hf0⟩ := hc.cell
  have hne : q ≠ w.heap.size := by omega
  have hnn : ¬ (40 : Int) < (n : Int) + 1 := by omega
  have hdd : ¬ (5 : Int) < (deep : Int) := by omega
  clear hc
  go_enter Tryd.func30, Tryd.ntmps30
  go_wp2_with fail
  refine (impl_bare_any _ _ _ _ _ _ _ _ _ _ _ _).mono ?_
  rintro e w2 ⟨rfl, b2⟩
  have hA := ahead_of rfl hq HA.out b2
  rw [show bareB 1 0 0 0 0 = true from by simp [bareB, *]]
  obtain ⟨y0, y1, y2, y3, y4, _⟩ := row5 hA.2.2
  have HAh := hide' hA
  clear b2 hA
  go_wp2
  go_ret2
  exact ⟨HAh.out, rfl⟩

set_option maxHeartbeats 4000000 in
set_option maxRecDepth 100000 in
theorem take_bool1 (q n : Nat) (a2 a3 a4 : Option Addr) (p2 p3 p4 : Nat) (deep : Nat) (w : World) (hq : q < w.heap.size) (hc : Cnt w q n) (hn : n < 40) (hd : deep ≤ 5) :
    Calls Tryd.prog 30 #[.pointer (some ⟨q, 0, none⟩), .agg #[.int .i64 1, .int .i64 1, .slice a2 0 p2, .slice a3 0 p3, .slice a4 0 p4], .int .i64 deep] w fun e w' => Ahead w q n 1 1 a2 a3 a4 0 0 0 p2 p3 p4 w' ∧ e = .returned (.tuple #[.iface 62 (.agg #[.int .i64 1]), .bool true]) := by
  have HA : Hid (Cnt w q n) := hc
  obtain ⟨hc0, hf0⟩ := hc.cell
  have hne : q ≠ w.heap.size := by omega
  have hnn : ¬ (40 : Int) < (n : Int) + 1 := by omega
  have hdd : ¬ (5 : Int) < (deep : Int) := by omega
  clear hc
  go_enter Tryd.func30, Tryd.ntmps30
  go_wp2_with fail
  refine (impl_bare_any _ _ _ _ _ _ _ _ _ _ _ _).mono ?_
  rintro e w2 ⟨rfl, b2⟩
  have hA := ahead_of rfl hq HA.out b2
  rw [show bareB 1 1 0 0 0 = true from by simp [bareB, *]]
  obtain ⟨y0, y1, y2, y3, y4, _⟩ := row5 hA.2.2
  have HAh := hide' hA
  clear b2 hA
  go_wp2
  go_ret2
  exact ⟨HAh.out, rfl⟩

set_option maxHeartbeats 4000000 in
set_option maxRecDepth 100000 in
theorem take_boolno (q n : Nat) (vn : Int) (v0 : ¬ vn = 0) (v1 : ¬ vn = 1) (a2 a3 a4 : Option Addr) (p2 p3 p4 : Nat) (deep : Nat) (w : World) (hq : q < w.heap.size) (hc : Cnt w q n) (hn : n < 40) (hd : deep ≤ 5) :
    Calls Tryd.prog 30 #[.pointer (some ⟨q, 0, none⟩), .agg #[.int .i64 1, .int .i64 vn, .slice a2 0 p2, .slice a3 0 p3, .slice a4 0 p4], .int .i64 deep] w fun e w' => Ahead w q n 1 vn a2 a3 a4 0 0 0 p2 p3 p4 w' ∧ e = .returned (.tuple #[.nilIface, .bool false]) := by
  have HA : Hid (Cnt w q n) := hc
  obtain ⟨hc0, hf0⟩ := hc.cell
  have hne : q ≠ w.heap.size := by omega
  have hnn : ¬ (40 : Int) < (n : Int) + 1 := by omega
  have hdd : ¬ (5 : Int) < (deep : Int) := by omega
  have b0 : (vn == 0) = false := by simp [v0]
  have b1 : (vn == 1) = false := by simp [v1]
  clear hc
  go_enter Tryd.func30, Tryd.ntmps30
  go_wp2_with fail
  refine (impl_bare_any _ _ _ _ _ _ _ _ _ _ _ _).mono ?_
  rintro e w2 ⟨rfl, b2⟩
  have hA := ahead_of rfl hq HA.out b2
  rw [show bareB 1 vn 0 0 0 = true from by simp [bareB, *]]
  obtain ⟨y0, y1, y2, y3, y4, _⟩ := row5 hA.2.2
  have HAh := hide' hA
  clear b2 hA
  go_wp2
  go_ret2
  exact ⟨HAh.out, rfl⟩

set_option maxHeartbeats 4000000 in
set_option maxRecDepth 100000 in
theorem take_int (q n : Nat) (vn : Int) (v0 : -1000000000000 ≤ vn) (v1 : vn ≤ 1000000000000) (a2 a3 a4 : Option Addr) (p2 p3 p4 : Nat) (deep : Nat) (w : World) (hq : q < w.heap.size) (hc : Cnt w q n) (hn : n < 40) (hd : deep ≤ 5) :
    Calls Tryd.prog 30 #[.pointer (some ⟨q, 0, none⟩), .agg #[.int .i64 2, .int .i64 vn, .slice a2 0 p2, .slice a3 0 p3, .slice a4 0 p4], .int .i64 deep] w fun e w' => Ahead w q n 2 vn a2 a3 a4 0 0 0 p2 p3 p4 w' ∧ e = .returned (.tuple #[.iface 64 (.agg #[.int .i64 vn]), .bool true]) := by
  have HA : Hid (Cnt w q n) := hc
  obtain ⟨hc0, hf0⟩ := hc.cell
  have hne : q ≠ w.heap.size := by omega
  have hnn : ¬ (40 : Int) < (n : Int) + 1 := by omega
  have hdd : ¬ (5 : Int) < (deep : Int) := by omega
  clear hc
  go_enter Tryd.func30, Tryd.ntmps30
  go_wp2_with fail
  refine (impl_bare_any _ _ _ _ _ _ _ _ _ _ _ _).mono ?_
  rintro e w2 ⟨rfl, b2⟩
  have hA := ahead_of rfl hq HA.out b2
  rw [show bareB 2 vn 0 0 0 = true from by simp [bareB, *]]
  obtain ⟨y0, y1, y2, y3, y4, _⟩ := row5 hA.2.2
  have HAh := hide' hA
  clear b2 hA
  go_wp2
  go_ret2
  exact ⟨HAh.out, rfl⟩

set_option maxHeartbeats 4000000 in
set_option maxRecDepth 100000 in
theorem take_intlow (q n : Nat) (vn : Int) (v0 : ¬ -1000000000000 ≤ vn) (a2 a3 a4 : Option Addr) (p2 p3 p4 : Nat) (deep : Nat) (w : World) (hq : q < w.heap.size) (hc : Cnt w q n) (hn : n < 40) (hd : deep ≤ 5) :
    Calls Tryd.prog 30 #[.pointer (some ⟨q, 0, none⟩), .agg #[.int .i64 2, .int .i64 vn, .slice a2 0 p2, .slice a3 0 p3, .slice a4 0 p4], .int .i64 deep] w fun e w' => Ahead w q n 2 vn a2 a3 a4 0 0 0 p2 p3 p4 w' ∧ e = .returned (.tuple #[.nilIface, .bool false]) := by
  have HA : Hid (Cnt w q n) := hc
  obtain ⟨hc0, hf0⟩ := hc.cell
  have hne : q ≠ w.heap.size := by omega
  have hnn : ¬ (40 : Int) < (n : Int) + 1 := by omega
  have hdd : ¬ (5 : Int) < (deep : Int) := by omega
  clear hc
  go_enter Tryd.func30, Tryd.ntmps30
  go_wp2_with fail
  refine (impl_bare_any _ _ _ _ _ _ _ _ _ _ _ _).mono ?_
  rintro e w2 ⟨rfl, b2⟩
  have hA := ahead_of rfl hq HA.out b2
  rw [show bareB 2 vn 0 0 0 = true from by simp [bareB, *]]
  obtain ⟨y0, y1, y2, y3, y4, _⟩ := row5 hA.2.2
  have HAh := hide' hA
  clear b2 hA
  go_wp2
  go_ret2
  exact ⟨HAh.out, rfl⟩

set_option maxHeartbeats 4000000 in
set_option maxRecDepth 100000 in
theorem take_inthigh (q n : Nat) (vn : Int) (v0 : -1000000000000 ≤ vn) (v1 : ¬ vn ≤ 1000000000000) (a2 a3 a4 : Option Addr) (p2 p3 p4 : Nat) (deep : Nat) (w : World) (hq : q < w.heap.size) (hc : Cnt w q n) (hn : n < 40) (hd : deep ≤ 5) :
    Calls Tryd.prog 30 #[.pointer (some ⟨q, 0, none⟩), .agg #[.int .i64 2, .int .i64 vn, .slice a2 0 p2, .slice a3 0 p3, .slice a4 0 p4], .int .i64 deep] w fun e w' => Ahead w q n 2 vn a2 a3 a4 0 0 0 p2 p3 p4 w' ∧ e = .returned (.tuple #[.nilIface, .bool false]) := by
  have HA : Hid (Cnt w q n) := hc
  obtain ⟨hc0, hf0⟩ := hc.cell
  have hne : q ≠ w.heap.size := by omega
  have hnn : ¬ (40 : Int) < (n : Int) + 1 := by omega
  have hdd : ¬ (5 : Int) < (deep : Int) := by omega
  clear hc
  go_enter Tryd.func30, Tryd.ntmps30
  go_wp2_with fail
  refine (impl_bare_any _ _ _ _ _ _ _ _ _ _ _ _).mono ?_
  rintro e w2 ⟨rfl, b2⟩
  have hA := ahead_of rfl hq HA.out b2
  rw [show bareB 2 vn 0 0 0 = true from by simp [bareB, *]]
  obtain ⟨y0, y1, y2, y3, y4, _⟩ := row5 hA.2.2
  have HAh := hide' hA
  clear b2 hA
  go_wp2
  go_ret2
  exact ⟨HAh.out, rfl⟩

set_option maxHeartbeats 4000000 in
set_option maxRecDepth 100000 in
theorem take_none (q n : Nat) (vk : Int) (k0 : ¬ vk = 0) (k1 : ¬ vk = 1) (k2 : ¬ vk = 2) (k3 : ¬ vk = 3) (k4 : ¬ vk = 4) (k5 : ¬ vk = 5) (k6 : ¬ vk = 6) (a2 a3 a4 : Option Addr) (p2 p3 p4 : Nat) (deep : Nat) (w : World) (hq : q < w.heap.size) (hc : Cnt w q n) (hn : n < 40) (hd : deep ≤ 5) :
    Calls Tryd.prog 30 #[.pointer (some ⟨q, 0, none⟩), .agg #[.int .i64 vk, .int .i64 0, .slice a2 0 p2, .slice a3 0 p3, .slice a4 0 p4], .int .i64 deep] w fun e w' => Ahead w q n vk 0 a2 a3 a4 0 0 0 p2 p3 p4 w' ∧ e = .returned (.tuple #[.nilIface, .bool false]) := by
  have HA : Hid (Cnt w q n) := hc
  obtain ⟨hc0, hf0⟩ := hc.cell
  have hne : q ≠ w.heap.size := by omega
  have hnn : ¬ (40 : Int) < (n : Int) + 1 := by omega
  have hdd : ¬ (5 : Int) < (deep : Int) := by omega
  clear hc
  go_enter Tryd.func30, Tryd.ntmps30
  go_wp2_with fail
  refine (impl_bare_any _ _ _ _ _ _ _ _ _ _ _ _).mono ?_
  rintro e w2 ⟨rfl, b2⟩
  have hA := ahead_of rfl hq HA.out b2
  rw [show bareB vk 0 0 0 0 = true from by simp [bareB, *]]
  obtain ⟨y0, y1, y2, y3, y4, _⟩ := row5 hA.2.2
  have HAh := hide' hA
  clear b2 hA
  go_wp2
  go_ret2
  exact ⟨HAh.out, rfl⟩

set_option maxHeartbeats 4000000 in
set_option maxRecDepth 100000 in
theorem take_text (q n : Nat) (N : Nat) (vs : List Int) (hNq : N ≤ q) (a2 a3 a4 : Option Addr) (p2 p3 p4 : Nat) (deep : Nat) (w : World) (hq : q < w.heap.size) (hc : Cnt w q n) (hn : n < 40) (hd : deep ≤ 5) (hs : TSeg (fun b => b < N) w (.slice a2 vs.length p2) vs) (htb : textB vs = true) :
    Calls Tryd.prog 30 #[.pointer (some ⟨q, 0, none⟩), .agg #[.int .i64 3, .int .i64 0, .slice a2 vs.length p2, .slice a3 0 p3, .slice a4 0 p4], .int .i64 deep] w fun e w' => Ahead w q n 3 0 a2 a3 a4 vs.length 0 0 p2 p3 p4 w' ∧ e = .returned (.tuple #[.iface 67 (.agg #[.string (strOf vs)]), .bool true]) := by
  have HA : Hid (Cnt w q n) := hc
  obtain ⟨hc0, hf0⟩ := hc.cell
  have hne : q ≠ w.heap.size := by omega
  have hnn : ¬ (40 : Int) < (n : Int) + 1 := by omega
  have hdd : ¬ (5 : Int) < (deep : Int) := by omega
  clear hc
  go_enter Tryd.func30, Tryd.ntmps30
  go_wp2_with fail
  refine (impl_bare_any _ _ _ _ _ _ _ _ _ _ _ _).mono ?_
  rintro e w2 ⟨rfl, b2⟩
  have hA := ahead_of rfl hq HA.out b2
  rw [show bareB 3 0 vs.length 0 0 = true from by simp [bareB, *]]
  obtain ⟨y0, y1, y2, y3, y4, _⟩ := row5 hA.2.2
  have HAh := hide' hA
  have hS : TSeg (fun b => b < N) w2 (.slice a2 vs.length p2) vs := hs.agree (agree_grown hA.1 hNq hq)
  obtain ⟨a', c', e', s', l', m', _, _⟩ := hS
  simp only [Value.slice.injEq, true_and] at e'
  obtain ⟨rfl, rfl⟩ := e'
  have hcv := conv_seg p2 s'
  have HT := hide' (impl_textOk_any a2 p2 vs w2 s' (by omega))
  rw [htb] at HT
  clear b2 hA s' hs
  go_wp2_with fail
  refine HT.out.mono ?_
  rintro e w3 ⟨rfl, e3⟩
  obtain rfl := e3
  go_wp2
  go_ret2
  exact ⟨HAh.out, rfl⟩

set_option maxHeartbeats 4000000 in
set_option maxRecDepth 100000 in
theorem take_textno (q n : Nat) (N : Nat) (vs : List Int) (hNq : N ≤ q) (a2 a3 a4 : Option Addr) (p2 p3 p4 : Nat) (deep : Nat) (w : World) (hq : q < w.heap.size) (hc : Cnt w q n) (hn : n < 40) (hd : deep ≤ 5) (hs : TSeg (fun b => b < N) w (.slice a2 vs.length p2) vs) (htb : textB vs = false) :
    Calls Tryd.prog 30 #[.pointer (some ⟨q, 0, none⟩), .agg #[.int .i64 3, .int .i64 0, .slice a2 vs.length p2, .slice a3 0 p3, .slice a4 0 p4], .int .i64 deep] w fun e w' => Ahead w q n 3 0 a2 a3 a4 vs.length 0 0 p2 p3 p4 w' ∧ e = .returned (.tuple #[.nilIface, .bool false]) := by
  have HA : Hid (Cnt w q n) := hc
  obtain ⟨hc0, hf0⟩ := hc.cell
  have hne : q ≠ w.heap.size := by omega
  have hnn : ¬ (40 : Int) < (n : Int) + 1 := by omega
  have hdd : ¬ (5 : Int) < (deep : Int) := by omega
  clear hc
  go_enter Tryd.func30, Tryd.ntmps30
  go_wp2_with fail
  refine (impl_bare_any _ _ _ _ _ _ _ _ _ _ _ _).mono ?_
  rintro e w2 ⟨rfl, b2⟩
  have hA := ahead_of rfl hq HA.out b2
  rw [show bareB 3 0 vs.length 0 0 = true from by simp [bareB, *]]
  obtain ⟨y0, y1, y2, y3, y4, _⟩ := row5 hA.2.2
  have HAh := hide' hA
  have hS : TSeg (fun b => b < N) w2 (.slice a2 vs.length p2) vs := hs.agree (agree_grown hA.1 hNq hq)
  obtain ⟨a', c', e', s', l', m', _, _⟩ := hS
  simp only [Value.slice.injEq, true_and] at e'
  obtain ⟨rfl, rfl⟩ := e'
  have hcv := conv_seg p2 s'
  have HT := hide' (impl_textOk_any a2 p2 vs w2 s' (by omega))
  rw [htb] at HT
  clear b2 hA s' hs
  go_wp2_with fail
  refine HT.out.mono ?_
  rintro e w3 ⟨rfl, e3⟩
  obtain rfl := e3
  go_wp2
  go_ret2
  exact ⟨HAh.out, rfl⟩
end Go.Proofs.YthleidfkfbklhaaDoor
