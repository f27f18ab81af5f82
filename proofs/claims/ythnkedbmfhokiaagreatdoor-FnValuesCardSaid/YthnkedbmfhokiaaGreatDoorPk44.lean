/-
  Texts that a law leans on, one behind the other; no statement is proved here.
-/
import Derived.Test.YthnkedbmfhokiaaGreatDoorPk32
import Derived.Test.YthnkedbmfhokiaaGreatDoorPk17
import Derived.Test.YthnkedbmfhokiaaGreatDoorPk43
import Derived.Test.YthnkedbmfhokiaaGreatDoorPk1
import Derived.Deep.RegionLaw
import Derived.Deep.RegionWith
/-
  valueOf of the program at a map: the walk.
-/
namespace Go.Proofs.YthnkedbmfhokiaaGreatDoor
open Go.RowKit Go.Shelf
set_option linter.unusedVariables false
set_option linter.unusedSimpArgs false

set_option maxHeartbeats 12800000 in
set_option maxRecDepth 100000 in
theorem valueOf_mapPart (d : Nat) (ih : ValAt d) (N b : Nat) (ps : List Value) (l : List (Vl d)) (ks : List (List Int)) (w : World) (hb : b < N) (hm : w.ownsMap Tryz.prog 9 tokR b 128 (mapD ks ps l.length)) (hkl : ks.length = l.length) (hst : ∀ i, i < l.length → upB ks i = true) (hkb : ∀ i, i < l.length → (∀ x ∈ ks.getD i [], Byt x) ∧ (ks.getD i []).length ≤ 1048576)
    (hps : ∀ i (h : i < l.length), PSeg (fun b => b < N) w d (ps.getD i .nilIface) l[i]) (hN : N ≤ w.heap.size) (hl : l.length ≤ 100) (hgd : ∀ i (h : i < l.length), ∃ deep, goodB d l[i] deep = true ∧ partsV d l[i] ≤ 40) :
    Calls Tryz.prog 23 #[.iface 77 (.agg #[.map (some b)])] w (MapEnd d l ks w) := by
  obtain ⟨i0, hi, hz0, hz1, hz2⟩ := info_parts info_valueT
  obtain ⟨iT, hiT, hy0, hy1, hy2⟩ := info_parts infoT
  have m1 := meth_mapPart (.agg #[.map (some b)])
  have t1 := nobool_mapPart (.agg #[.map (some b)])
  have t2 := noint_mapPart (.agg #[.map (some b)])
  have t3 := notext_mapPart (.agg #[.map (some b)])
  have t4 := nolist_mapPart (.agg #[.map (some b)])
  have t5 := is_mapPart (.agg #[.map (some b)])
  have HK := hide' (kind_mapPart b)
  have HA : Hid (∀ o : Obj, Below w.heap.size w (w.alloc o)) := fun o => (Below.refl _ _).alloc (Nat.le_refl _) o
  have HSh : Hid (∀ i, i < l.length → ∃ t x, ps.getD i .nilIface = .iface t x) := fun i hi => (hps i hi).shape
  have HF : Hid (∀ wy, Below w.heap.size w wy → Calls Tryz.prog 36 #[.agg #[.map (some b)]] wy fun e w' => ∃ u, e = .returned u ∧ FRow w' u ks ps l.length ∧ Below wy.heap.size wy w') := fun wy hy =>
    fields_anyU b l.length ks ps wy (hm.kept (below_grows hy none) (by simp)) hst HSh.out hl
  have HP := hide' hps
  have HG := hide' hgd
  have HKB := hide' hkb
  clear hps hgd hm hst hkb
  go_enter Tryz.func23, Tryz.ntmps23
  go_wp2_with fail
  refine (HK.out _).mono ?_
  rintro e w1 ⟨rfl, b1⟩
  have hr : w1.heap[w.heap.size]? = some (.cells #[.int .i64 0, .int .i64 0, .slice none 0 0, .slice none 0 0, .slice none 0 0] 26 (0, 0)) := box_row b1
  have B1 := hide' (Below.on (HA.out _) b1)
  have hlt : w.heap.size < w1.heap.size := (Array.getElem?_eq_some_iff.1 hr).1
  have hne : ¬ w.heap.size = w1.heap.size := by omega
  have hne' : ¬ w1.heap.size = w.heap.size := by omega
  have Hr := hide' hr
  have HV : Hid (∀ o o' : Obj, ((w1.alloc o).alloc o').heap[w1.heap.size]? = some o ∧ Below w1.heap.size w1 ((w1.alloc o).alloc o')) := fun o o' => ⟨(Below.heap_alloc _ _ _ (by simp)).trans (MapKept.heap_alloc w1 o).1, ((Below.refl _ _).alloc (Nat.le_refl _) o).alloc (by simp) o'⟩
  clear b1 hr
  go_wp2_with fail
  refine (HF.out _ (Below.on B1.out (HV.out _ _).2)).mono ?_
  rintro e w2 ⟨u, rfl, hFR, b2⟩
  have hV2 := (b2.block w1.heap.size (by simp; omega)).trans (HV.out _ _).1
  have hB2 : w1.heap.size < w2.heap.size := (Array.getElem?_eq_some_iff.1 hV2).1
  have BW := hide' (Below.on (HV.out _ _).2 b2)
  obtain ⟨fa, fc, rfl, hfc, hfm, hcell⟩ := hFR
  have HC := hide' hcell
  have HV2 := hide' hV2
  unfold maxLen at hfm
  clear hcell b2 hV2 HF HV
  go_wp2_with fail
  go_loopw [62] (fun i wr => ∃ k : Nat, k ≤ l.length ∧ i = .int .i64 k ∧ ∃ xK csK BiK xL csL BiL, MInv w2 w1.heap.size d l ks k k wr xK csK BiK xL csL BiL) (fun i _ => l.length - (intOf i).toNat)
  case atStart => exact ⟨0, Nat.zero_le _, rfl, _, _, _, _, _, _, World.grownBy.refl _ _, HV2.out, RW.nil _ _ _ _ _, RW.nil _ _ _ _ _, by simp [Value.ownBlock]⟩
  case round =>
    obtain ⟨k, hk, rfl, xK, csK, BiK, xL, csL, BiL, hI⟩ := hrel
    have HI := hide' hI
    have hvK : ∃ p c, xK = .slice p k c := by
      rcases hI.2.2.1.2.2.1.2 with ⟨rfl, h0⟩ | ⟨g, cap, cur, rfl, _⟩
      · exact ⟨none, 0, by rw [h0]⟩
      · exact ⟨_, _, rfl⟩
    have hvL : ∃ p c, xL = .slice p k c := by
      rcases hI.2.2.2.1.2.2.1.2 with ⟨rfl, h0⟩ | ⟨g, cap, cur, rfl, _⟩
      · exact ⟨none, 0, by rw [h0]⟩
      · exact ⟨_, _, rfl⟩
    obtain ⟨pK, cK, rfl⟩ := hvK
    obtain ⟨pL, cL, rfl⟩ := hvL
    have hzr := hI.1.size
    clear hI
    by_cases hkn : k < l.length
    · have hkl' : (k : Int) < (l.length : Int) := by omega
      have hk0 : (0 : Int) ≤ (k : Int) := Int.natCast_nonneg _
      obtain ⟨t, px, hp⟩ := HSh.out k hkn
      have hat : ∃ g, fa = some ⟨g, 0, none⟩ ∧ wr.cell? ⟨g, k * 2, none⟩ = some (.string (strOf (ks.getD k []))) ∧ wr.cell? ⟨g, k * 2 + 1, none⟩ = some (.iface t px) := by
        rcases HC.out with h0 | ⟨g, rfl, hg, hc⟩
        · omega
        · obtain ⟨c0, c1⟩ := hc k hkn
          have hgB : g ≠ w1.heap.size := by
            rintro rfl
            have h0 := (hc 0 (by omega)).1
            rw [Nat.zero_mul, (row5 HV2.out).1] at h0
            simp at h0
          have hbk := HI.out.1.block g hg (by simpa using hgB)
          rw [hp] at c1
          exact ⟨g, rfl, (World.cell?_of_block hbk).trans c0, (World.cell?_of_block hbk).trans c1⟩
      obtain ⟨g, rfl, fc0, fc1⟩ := hat
      have hps := HP.out k hkn
      rw [hp] at hps
      obtain ⟨_, _, _, v3, v4, vf⟩ := row5 HI.out.2.1
      obtain ⟨s0, s1, s2, s3, s4, sf⟩ := box_later HI.out.2.1
      obtain ⟨ck, wB, hconv, hTo, hBb, hzB⟩ := conv_back (ks.getD k []) (HKB.out k hkn).1 (HKB.out k hkn).2 (wr.alloc (.cells #[.string (strOf (ks.getD k [])), .iface t px] 81))
      have hb5 : Below wr.heap.size wr wB := Below.on ((Below.refl _ _).alloc (Nat.le_refl _) _) hBb
      have hF5 : wB.heap[wr.heap.size]? = some (.cells #[.string (strOf (ks.getD k [])), .iface t px] 81 (0, 0)) := (hBb.block wr.heap.size (by simp)).trans (MapKept.heap_alloc wr _).1
      have hrowK : wB.ownsRow w2.heap.size 22 1 (.slice pK k cK) k csK.flatten := HI.out.2.2.1.2.2.1.kept (row := none) ⟨hb5.os, hb5.tape, hb5.output, hb5.size, fun k hk _ => hb5.block k hk⟩ (by cases hv : (Value.slice pK k cK).ownBlock <;> simp)
      simp at hzB
      have hs5 : ∀ o, (wB.alloc o).cell? ⟨w1.heap.size, 3, none⟩ = some (.slice pK k cK) := fun o => (World.cell?_of_block ((Below.heap_alloc wB o w1.heap.size (by omega)).trans (hb5.block w1.heap.size (by omega)))).trans v3
      have hsz1 : (wr.alloc (.cells #[.string (strOf (ks.getD k [])), .iface t px] 81)).heap.size = wr.heap.size + 1 := by simp
      rw [hsz1] at hconv hTo
      generalize hn' : (ks.getD k []).length = nk at hconv hTo
      have HT := hide' hTo
      have HB5 := hide' hb5
      have HF5 := hide' hF5
      have HRK := hide' hrowK
      generalize hsx : strOf (ks.getD k []) = sx at *
      have HzB := hide' hzB
      clear hzB hTo hBb hb5 hF5 hrowK m1 t1 t2 t3 t4 t5 HK hsz1
      go_wp2_with (at_builtin; refine wpList_append_lies _ rfl _ _ 23 rfl w2.heap.size 22 iT (.slice none 0 0) 1 24 Tryz.underlying23 hiT hy0 hy1 hy2 rfl (by decide) (.slice pK k cK) k csK.flatten (by rfl) (HRK.out.alloc _) ⟨wB.heap.size, 0, none⟩ 1 1 [.slice (some ⟨wr.heap.size + 1, 0, none⟩) nk ck] (by rfl) (by rfl) (World.news_of_block (cs := #[.slice (some ⟨wr.heap.size + 1, 0, none⟩) nk ck]) (t := 22) (fr := (0, 0)) (heap_alloc_new wB _)) (by simp [Value.oneCell']) (by omega) (by unfold maxLen; omega) (by omega) (by have := HzB.out; simp; omega) (wB.heap.size + 1) (by simp) ?_; intro g6 cp6 w6 hown6 hg6 hat6 hlt6; have hzB := HzB.out; obtain ⟨hV6, hz6, hF6, hI6⟩ := minv_k HI.out hB2 HB5.out ⟨_, rfl, HT.out⟩ (fun b hb => (by simp at hb; omega)) (by simp) hown6 hg6 hat6; obtain ⟨_, _, _, hc63, _, hf6⟩ := row5 hV6; have hf63 := hf6 3; replace hF6 := hide' ((hF6 wr.heap.size (Nat.le_refl _) (by omega)).trans HF5.out); replace hI6 := hide' hI6; clear hzB hown6 hg6 hat6 hlt6 hV6 hf6 hs5 hconv)
      have hneF : wr.heap.size ≠ w1.heap.size := by omega
      have hFS := (Below.heap_setCell w6 ⟨w1.heap.size, 3, none⟩ (.slice (some ⟨g6, 0, none⟩) (k + 1) cp6) wr.heap.size hneF).trans hF6.out
      have hzS : (w6.setCell ⟨w1.heap.size, 3, none⟩ (.slice (some ⟨g6, 0, none⟩) (k + 1) cp6)).heap.size = w6.heap.size := by simp [World.setCell]
      generalize hwS : w6.setCell ⟨w1.heap.size, 3, none⟩ (.slice (some ⟨g6, 0, none⟩) (k + 1) cp6) = wS at *
      obtain ⟨_, _, _, _, v4S, _⟩ := row5 hI6.out.2.1
      have fcS : wS.cell? ⟨wr.heap.size, 1, none⟩ = some (.iface t px) := by
        rw [cell_of_row wS wr.heap.size 1 _ _ _ hFS]
        rfl
      have hz2S := hI6.out.1.size
      have hBS : Below w.heap.size w wS := (Below.on B1.out (Below.on (Below.refl _ _) BW.out)).grown hI6.out.1 (by omega) (by intro j hj; simp at hj; omega)
      obtain ⟨deep, hgk1, hgk2⟩ := HG.out k hkn
      have HE : Hid (∀ wy, Below wS.heap.size wS wy → Calls Tryz.prog 23 #[.iface t px] wy (VCall w1.heap.size w2.heap.size d l k wS (.slice pL k cL) csL.flatten)) := fun wy hy => (ih N _ _ deep wy (PSeg.carry (fun b h => h) (fun b (h : b < N) => (Below.on hBS hy).block b (by omega)) d hps) (by have := (Below.on hBS hy).size; omega) hgk1 hgk2).mono fun e w5 he => minv_call hI6.out hB2 hkn hy he
      clear hgk1 hgk2 hFS hzS hBS hps hwS v3 v4 vf s0 s1 s2 s3 s4 sf hc63 hf63 fc0 fc1 hF6 HT HB5 HF5 HRK HzB HI hp
      go_region_law
        (first
          | (go_simp; go_at_call 23; refine (HE.out _ (by first | exact Below.refl _ _ | exact (Below.refl _ _).drew | exact (Below.refl _ _).drew.drew)).mono ?_; rintro e w5 ⟨uk, un, s2, n2, r2, s3, n3, r3, s4, n4, r4, rfl, Bv, hit, hbv, hbn, b5, hc5, ho5⟩; replace hit := hide' (And.intro hit (And.intro hbv (And.intro hbn (And.intro b5 ho5)))); have hz5 : w1.heap.size < w5.heap.size := (by have := b5.size; omega); have hc5o : ∀ o, (w5.alloc o).cell? ⟨w1.heap.size, 4, none⟩ = some (.slice pL k cL) := (fun o => (World.cell?_of_block (Below.heap_alloc w5 o w1.heap.size hz5)).trans hc5); clear hbv hbn b5 ho5)
          | (refine step_append_lies _ (by rfl) _ _ _ (by rfl) w2.heap.size 26 i0 _ 5 88 Tryz.underlying24 hi hz0 hz1 hz2 rfl (by decide) (.slice pL k cL) k csL.flatten (by rfl) (by first | exact hit.out.2.2.2.2.alloc _ | exact (hit.out.2.2.2.2.alloc _).drew) ⟨w5.heap.size, 0, none⟩ 1 1 [.int .i64 uk, .int .i64 un, .slice s2 n2 r2, .slice s3 n3 r3, .slice s4 n4 r4] (by rfl) (by rfl) (World.news_of_block (cs := #[.int .i64 uk, .int .i64 un, .slice s2 n2 r2, .slice s3 n3 r3, .slice s4 n4 r4]) (t := 26) (fr := (0, 0)) (heap_alloc_new w5 _)) (by simp [Value.oneCell']) (by omega) (by unfold maxLen; omega) (by omega) (by have := hit.out.2.2.2.1.size; simp; omega) (w5.heap.size + 1) (by simp) ?_; intro g7 cp7 w7 hown7 hg7 hat7 hlt7; obtain ⟨hV7, hI7⟩ := minv_l hI6.out hB2 hit.out.2.2.2.1 hit.out.1 hit.out.2.1 hit.out.2.2.1 hown7 hg7 hat7; obtain ⟨_, _, _, _, hc7, hf7⟩ := row5 hV7; replace hf7 := hf7 4; replace hI7 := hide' hI7; clear hown7 hg7 hat7 hlt7 hV7 hit hc5 hc5o))
      all_goals go_wp2
      all_goals go_roundw
      all_goals first
        | exact ⟨k + 1, by omega, by go_num, _, _, _, _, _, _, hI7.out⟩
        | (simp [intOf]; omega)
    · have hkn' : k = l.length := by omega
      subst hkn'
      have hkl' : ¬ (l.length : Int) < (l.length : Int) := by omega
      have hR : wr.heap[w.heap.size]? = some (.cells #[.int .i64 0, .int .i64 0, .slice none 0 0, .slice none 0 0, .slice none 0 0] 26 (0, 0)) := (HI.out.1.block _ (by omega) (by simp; omega)).trans ((BW.out.block _ hlt).trans Hr.out)
      obtain ⟨r0, r1, r2, r3, r4, rf⟩ := row5 hR
      obtain ⟨v0, v1, v2, v3, v4, _⟩ := row5 HI.out.2.1
      have f0 := rf 0
      have f1 := rf 1
      have f2 := rf 2
      have f3 := rf 3
      have f4 := rf 4
      replace hR := hide' hR
      clear rf m1 t1 t2 t3 t4 t5 HK
      go_wp2_with fail
      have hrow := set5_heap (j := 0) (.int .i64 5) (.int .i64 0) (.slice none 0 0) (.slice pK l.length cK) (.slice pL l.length cL) hR.out
      have hfin := row5 hrow
      simp only [set5, Nat.zero_add] at hfin
      obtain ⟨y0, y1, y2, y3, y4, _⟩ := hfin
      refine bodyPost_ret (v := .agg #[.int .i64 5, .int .i64 0, .slice none 0 0, .slice pK l.length cK, .slice pL l.length cL]) (by simp [results, Tryz.results23, go_sem, y0, y1, y2, y3, y4]) rfl ?_
      have hB5 := set5_grown wr w.heap.size 0 (.int .i64 5) (.int .i64 0) (.slice none 0 0) (.slice pK l.length cK) (.slice pL l.length cL)
      have hsz4 := set5_size wr w.heap.size 0 (.int .i64 5) (.int .i64 0) (.slice none 0 0) (.slice pK l.length cK) (.slice pL l.length cL)
      have hBn := (Below.on B1.out (Below.on (Below.refl _ _) BW.out)).grown HI.out.1 (by omega) (by intro j hj; simp at hj; omega)
      have hBf := hBn.grown hB5 (by omega) (by intro j hj; simp at hj; omega)
      obtain ⟨_, _, hRK, hRL, hdis⟩ := HI.out
      have hbK := hRK.2.2.2.2.2
      have hbL := hRL.2.2.2.2.2
      have hKo := RW.kown (ks := ks) (by rw [hkl]; exact hRK)
      refine ⟨_, _, rfl, _, _, hKo.agree fun b h => ?_, hRL.lown.agree fun b h => ?_, fun b h => ?_, ?_, hBf⟩
      · have hb := hbK b h
        exact hB5.block b (by omega) (by simp; omega)
      · have hb := hbL b h
        exact hB5.block b (by omega) (by simp; omega)
      · show w.heap.size ≤ b ∧ b < (set5 _ _ _ _ _ _ _ _).heap.size
        rcases List.mem_append.1 h with h | h
        · have hb := hbK b h
          omega
        · have hb := hbL b h
          omega
      · rw [List.nodup_append]
        exact ⟨hRK.2.2.2.2.1, hRL.2.2.2.2.1, fun a ha b hb e => hdis a ha (e ▸ hb)⟩
end Go.Proofs.YthnkedbmfhokiaaGreatDoor
/-
  ValText of the program: appendPart of a map.
-/
namespace Go.Proofs.YthnkedbmfhokiaaGreatDoor
open Go.RowKit Go.Shelf
set_option linter.unusedVariables false
set_option linter.unusedSimpArgs false

set_option maxHeartbeats 3000000 in
set_option maxRecDepth 100000 in
theorem appendPart_map (d : Nat) (ih : PSayAt d) (N B : Nat) (a : Option Addr) (c : Nat) (xs : List Int) (vK : List (List Int)) (vL : List (Vl d)) (b : Nat) (ps : List Value) (deep : Nat) (w : World) (hN : N ≤ B) (hBw : B ≤ w.heap.size) (hB : Bts w B (.slice a xs.length c) xs)
    (hm : w.ownsMap Tryz.prog 9 tokR b 64 (mapD vK ps vL.length)) (hps0 : ∀ i (h : i < vL.length), PSeg (fun b => b < N) w d (ps.getD i .nilIface) vL[i]) (hst0 : ∀ i, i < vL.length → stepB vK i = true) (hbR : b < N) (hkb : ∀ i, i < vL.length → (∀ x ∈ vK.getD i [], Byt x) ∧ (vK.getD i []).length ≤ 8) (hg : ∀ j (h : j < vL.length), goodB d vL[j] deep = true) (hp : 1 + pre (partsV d) vL vL.length ≤ 40) (hn : vL.length ≤ 40) (hlen : xs.length + 60 * (1 + pre (partsV d) vL vL.length) ≤ 900000) (ht : Tab B w) :
    Calls Tryz.prog 20 #[.slice a xs.length c, .iface 77 (.agg #[.map (some b)])] w (ApEnd B (xs ++ 123 :: (kidS (sayV d) true vK vL vL.length ++ [125])) w) := by
  have t1 := nonull_mapPart (.agg #[.map (some b)])
  have t2 := nobool_mapPart (.agg #[.map (some b)])
  have t3 := noint_mapPart (.agg #[.map (some b)])
  have t4 := notext_mapPart (.agg #[.map (some b)])
  have t5 := nolist_mapPart (.agg #[.map (some b)])
  have t6 := is_mapPart (.agg #[.map (some b)])
  have HI := hide' ih
  have HG := hide' hg
  have HP := hide' hps0
  have HKB := hide' hkb
  have HSh : Hid (∀ i, i < vL.length → ∃ t x, ps.getD i .nilIface = .iface t x) := fun i hi => (hps0 i hi).shape
  have HFl : Hid (∀ wy, Kept w wy → Below B w wy → (wy.heap[b]? = w.heap[b]?) → Calls Tryz.prog 36 #[.agg #[.map (some b)]] wy fun e w' => ∃ u, e = .returned u ∧ (FRow w' u vK ps vL.length ∧ FTag w' u) ∧ Below wy.heap.size wy w') := fun wy _ hy hbk => by
    refine fields_anyT b vL.length vK ps wy (World.ownsMap.mono (n := 64) (n' := 128) ?_ (by omega)) (step_up hst0) HSh.out (by omega)
    obtain ⟨es, clock, h1, r⟩ := hm
    exact ⟨es, clock, hbk.trans h1, r⟩
  have hbN : b < N := hbR
  have HTb := hide' ht
  have HPk : Hid (∀ k (h : k < vL.length), partsV d vL[k] ≤ 40) := fun k h => by
    have h3 := pre_succ (partsV d) vL k h
    have h4 := pre_le (partsV d) vL (k + 1)
    have h5 := pre_all (partsV d) vL
    omega
  have HRoom : Hid (∀ k (h : k < vL.length), xs.length + 1 + (kidS (sayV d) true vK vL k).length + 13 + 60 * partsV d vL[k] ≤ 900000) := fun k h => by
    have h1 := kidS_len (sayV d) (partsV d) true vK vL (fun _ j hj => (hkb j hj).2) (fun j h => sayV_len d vL[j] deep (hg j h)) k (by omega)
    have h3 := pre_succ (partsV d) vL k h
    have h4 := pre_le (partsV d) vL (k + 1)
    have h5 := pre_all (partsV d) vL
    omega
  have HKn : Hid (∀ k, k ≤ vL.length → (kidS (sayV d) true vK vL k).length ≤ 2400) := fun k h => by
    have h1 := kidS_len (sayV d) (partsV d) true vK vL (fun _ j hj => (hkb j hj).2) (fun j h => sayV_len d vL[j] deep (hg j h)) k h
    have h4 := pre_le (partsV d) vL k
    have h5 := pre_all (partsV d) vL
    omega
  have HStp : Hid (∀ k (h : k < vL.length), kidS (sayV d) true vK vL (k + 1) = kidS (sayV d) true vK vL k ++ (aheadS true vK k ++ sayV d vL[k])) := fun k h => kidS_succ _ _ _ _ k h
  have HZ : Hid (kidS (sayV d) true vK vL 0 = []) := rfl
  generalize hkid : kidS (sayV d) true vK vL = kid at *
  have HB : Hid (∀ o o' : Obj, Bts ((w.alloc o).alloc o') B (.slice a xs.length c) xs) := fun o o' => (hB.alloc o).alloc o'
  have hS1 : Hid (∀ o : Obj, Seg ((w.alloc o).alloc (.cells #[.int .u8 123] 5)) (some ⟨w.heap.size + 1, 0, none⟩) [123]) := fun o => by
    have h := seg_one (w.alloc o) 123 (by unfold Byt; omega)
    simp only [World.size_alloc] at h
    exact h
  have hbC : Hid (∀ o o' : Obj, Below B w ((w.alloc o).alloc o')) := fun o o' => ((Below.refl _ _).alloc hBw o).alloc (by simp; omega) o'
  have Hbx : Hid (∀ o o2 : Obj, ((w.alloc o).alloc o2).heap[w.heap.size]? = some o) := fun o o2 => (Below.heap_alloc _ _ _ (by simp)).trans (MapKept.heap_alloc w o).1
  have HOwn := hide' hB.own
  have Hneq : Hid (some w.heap.size ≠ (Value.slice a xs.length c).ownBlock) := fun e => by have := (hB.2.lt _ e.symm).2; omega
  obtain ⟨res, hres⟩ : ∃ res, res = xs ++ 123 :: (kid vL.length ++ [125]) := ⟨_, rfl⟩
  have HRes := hide' hres
  rw [← hres]
  have hxl : xs.length ≤ 900000 := by omega
  clear hm hps0 hst0 hkb hg ih hkid hp ht hB hres hlen
  go_enter Tryz.func20, Tryz.ntmps20
  go_wp2_with (at_builtin; refine wpList_append_seg rfl (.tmp 70) (.tmp 71) (by rfl) B (.slice a xs.length c) xs [123] (by rfl) (HB.out _ _) _ 1 1 rfl (by rfl) (hS1.out _) (by simp) (by simp; omega) (by simp; omega) ?_; intro v1 w1 hv1 hg1; have hb1 := hide' ((hbC.out _ _).grown hg1 (by simp; omega) HOwn.out); have hx1 := (hg1.block w.heap.size (by simp; omega) Hneq.out).trans (Hbx.out _ _); have cx1 := row1c hx1; have hk1 := hide' (kept_app2 (Kept.refl w) (HB.out _ _) hg1); replace hv1 := hide' hv1; clear hg1 hx1)
  go_wp2_with fail
  refine (HFl.out _ hk1.out hb1.out (hb1.out.block b (by omega))).mono ?_
  rintro e w4 ⟨u, rfl, ⟨hFR, hTag⟩, b4⟩
  have hbw4 := hide' (hb1.out.trans (b4.mono (by have := hb1.out.size; omega)))
  have hk4 := hide' (hk1.out.trans (kept_below b4))
  have hv4 := hide' (hv1.out.grow b4)
  obtain ⟨fa, fc, rfl, hfc, hfm, hcell0⟩ := hFR
  have HC0 := hide' hcell0
  have HTag := hide' hTag
  unfold maxLen at hfm
  clear hcell0 b4 HFl hv1 cx1 hb1 hk1 hTag
  go_wp2_with fail
  go_loopw [0, 76] (fun y i wr => ∃ k : Nat, k ≤ vL.length ∧ i = .int .i64 k ∧ Hid (Bts wr B y (xs ++ 123 :: kid k)) ∧ Hid (Below B w wr) ∧ Hid (Kept w4 wr)) (fun _ i _ => vL.length - (intOf i).toNat)
  case atStart => exact ⟨0, Nat.zero_le _, rfl, by rw [HZ.out]; exact hv4, hbw4, Kept.refl _⟩
  case round =>
    obtain ⟨k, hk, rfl, hB, hbel, hkp⟩ := hrel
    obtain ⟨ya, yc, rfl, _, _, _, _, kk⟩ := hB.out.shape
    have hz : B ≤ wr.heap.size := by have := hbel.out.size; omega
    have hkn := HKn.out k hk
    have HOwn := hide' hB.out.own
    obtain ⟨zs, hzs⟩ : ∃ zs, zs = xs ++ 123 :: kid k := ⟨_, rfl⟩
    have hzl : zs.length = (xs ++ 123 :: kid k).length := by rw [hzs]
    have hzn : zs.length = xs.length + 1 + (kid k).length := by rw [hzs]; simp; omega
    rw [← hzs] at hB HOwn
    rw [← hzl]
    by_cases hlt : k < vL.length
    · have hlt' : (k : Int) < (vL.length : Int) := by omega
      have hroom := HRoom.out k hlt
      have hk0i : (0 : Int) ≤ (k : Int) := Int.natCast_nonneg _
      obtain ⟨t, px, hpe⟩ := HSh.out k hlt
      have hat : ∃ g, fa = some ⟨g, 0, none⟩ ∧ wr.cell? ⟨g, k * 2, none⟩ = some (.string (strOf (vK.getD k []))) ∧ wr.cell? ⟨g, k * 2 + 1, none⟩ = some (.iface t px) := by
        rcases HC0.out with h0 | ⟨g, rfl, hg, hc⟩
        · omega
        · obtain ⟨c0, c1⟩ := hc k hlt
          obtain ⟨cs, fr, hgr⟩ := HTag.out g _ _ rfl
          have hbk := (hkp.out g cs _ fr hgr (by decide)).trans hgr.symm
          rw [hpe] at c1
          exact ⟨g, rfl, (World.cell?_of_block hbk).trans c0, (World.cell?_of_block hbk).trans c1⟩
      obtain ⟨g, rfl, fc0, fc1⟩ := hat
      have hps := HP.out k hlt
      rw [hpe] at hps
      have hst := HStp.out k hlt
      obtain ⟨ts, hts⟩ : ∃ ts, ts = vK.getD k [] := ⟨_, rfl⟩
      have hkb := HKB.out k hlt
      rw [← hts] at hkb fc0
      have htl := hkb.2
      have HBy := hide' hkb.1
      obtain ⟨ys, hys⟩ : ∃ ys, ys = zs ++ (if k = 0 then [] else [44, 32]) := ⟨_, rfl⟩
      have hyl : ys.length ≤ zs.length + 2 := by rw [hys]; split <;> simp
      obtain ⟨z7, hz7⟩ : ∃ z7, z7 = (ys ++ ts) ++ [32, 61, 32] := ⟨_, rfl⟩
      have hz7l : z7.length ≤ zs.length + 13 := by rw [hz7]; simp; omega
      have hbA : Hid (∀ o : Obj, Below B w (wr.alloc o).drew) := fun o => (hbel.out.alloc hz o).drew
      have HC1 : Hid (∀ o : Obj, Calls Tryz.prog 43 #[.slice ya zs.length yc, .int .i64 k] (wr.alloc o).drew (ApEnd B ys (wr.alloc o).drew)) := fun o => appendComma_any B k ya yc zs ys (wr.alloc o).drew (hB.out.alloc o) (by have := (hbA.out o).size; omega) (by omega) (by omega) (fun h => by rw [hys, if_pos h]; simp) (fun h => by rw [hys, if_neg h])
      have Hbx : Hid (∀ o : Obj, (wr.alloc o).drew.heap[wr.heap.size]? = some o) := fun o => (MapKept.heap_alloc wr o).1
      have HkA : Hid (∀ o : Obj, Kept w4 (wr.alloc o).drew) := fun o => hkp.out.trans (kept_alloc wr o)
      have HC2 : Hid (∀ a1 c1 wx, Bts wx B (.slice a1 z7.length c1) z7 → Below B w wx → Calls Tryz.prog 20 #[.slice a1 z7.length c1, .iface t px] wx (ApEnd B (xs ++ 123 :: kid (k + 1)) wx)) := fun a1 c1 wx h hb => by
        have e : xs ++ 123 :: kid (k + 1) = z7 ++ sayV d vL[k] := by rw [hst, hz7, hys, hzs, hts]; simp [aheadS]
        rw [e]
        exact HI.out N B a1 c1 z7 (.iface t px) vL[k] deep wx (PSeg.carry (fun b h => h) (agree_below (hb.mono hN)) d hps) hN (by have := hb.size; omega) h (HG.out k hlt) (HPk.out k hlt) (by omega) (Lib.TabBelow.on HTb.out hb)
      have hzb : zs.length ≤ 910000 := by omega
      have Hz7 := hide' hz7
      obtain ⟨sx, hsx⟩ : ∃ sx, sx = strOf ts := ⟨_, rfl⟩
      rw [← hsx] at fc0
      have Hsx := hide' hsx
      clear hst hys hzs hzl hzn hroom hkn hps hkb hts hpe hz7 hsx HC0
      go_wp2_with fail
      go_region_law (first
        | (go_simp; go_at_call 43; refine (HC1.out _).mono ?_; rintro e w5 ⟨a5, c5, rfl, hv5, hb5, hk5⟩; have hr5 := hk5 _ _ _ _ (Hbx.out _) (by decide); have f50 : w5.cell? ⟨wr.heap.size, 0, none⟩ = some (.string sx) := (by rw [cell_of_row w5 _ 0 _ _ _ hr5]; rfl); have f51 : w5.cell? ⟨wr.heap.size, 1, none⟩ = some (.iface t px) := (by rw [cell_of_row w5 _ 1 _ _ _ hr5]; rfl); have Hb5 := hide' ((hbA.out _).trans hb5); have Hk5 := hide' ((HkA.out _).trans hk5); have Hv5 := hide' hv5; have Hr5 := hide' hr5; have hz5 : B ≤ w5.heap.size := (by have := Hb5.out.size; omega); clear hv5 hb5 hk5 hr5)
        | (refine step_append_text (by rfl) (.tmp 83) (.tmp 85) 9 (by rfl) Tryz.underlying9 B (.slice a5 ys.length c5) ys ts (by rfl) (by exact Hv5.out) sx Hsx.out HBy.out (by rfl) (by omega) hz5 ?_; intro v6 w6 hv6 hg6; have hr6 := (kept_grown Hv5.out hg6) _ _ _ _ Hr5.out (by decide); have f60 : w6.cell? ⟨wr.heap.size, 0, none⟩ = some (.string sx) := (by rw [cell_of_row w6 _ 0 _ _ _ hr6]; rfl); have f61 : w6.cell? ⟨wr.heap.size, 1, none⟩ = some (.iface t px) := (by rw [cell_of_row w6 _ 1 _ _ _ hr6]; rfl); have Hb6 := hide' (Hb5.out.grown hg6 hz5 Hv5.out.own); have Hk6 := hide' (Hk5.out.trans (kept_grown Hv5.out hg6)); have Hv6 := hide' hv6; have Hr6 := hide' hr6; have hz6 : B ≤ w6.heap.size := (by have := Hb6.out.size; omega); clear hv6 hg6 hr6))
      all_goals
        clear Hk5 Hb5 Hv5 Hr5 f50 f51 HC1
        go_wp2_with fail
        go_region_law (first
          | (refine step_append_text (by rfl) (.tmp 87) (.const (.string { data := #[32, 61, 32] })) 9 (by rfl) Tryz.underlying9 B v6 (ys ++ ts) [32, 61, 32] (by rfl) (by exact Hv6.out) _ (by rfl) (by simp [Byt]) (by rfl) (by simp; omega) (by exact hz6) ?_; intro v7 w7 hv7 hg7; have hr7 := (kept_grown (w := w6.drew) (by exact Hv6.out) hg7) _ _ _ _ (by exact Hr6.out) (by decide); have f71 : w7.cell? ⟨wr.heap.size, 1, none⟩ = some (.iface t px) := (by rw [cell_of_row w7 _ 1 _ _ _ hr7]; rfl); have Hb7 := hide' (Hb6.out.drew.grown hg7 hz6 (by exact Hv6.out.own)); have Hk7 := hide' (Hk6.out.trans (kept_grown (w := w6.drew) (by exact Hv6.out) hg7)); rw [← Hz7.out] at hv7; obtain ⟨a7, c7, hv7e, _⟩ := hv7.shape; subst hv7e; have HC3 := hide' (HC2.out a7 c7 w7 hv7 Hb7.out); generalize z7.length = m7 at *; clear hv7 hg7 hr7)
          | (go_simp; go_at_call 20; refine HC3.out.mono ?_; rintro e w8 ⟨a8, c8, rfl, hv8, hb8, hk8⟩; have Hb8 := hide' (Hb7.out.trans hb8); have Hk8 := hide' (Hk7.out.trans hk8); have Hv8 := hide' hv8; generalize (xs ++ 123 :: kid (k + 1)).length = m8 at *; clear hv8 hb8 hk8))
      all_goals
        go_wp2
        go_roundw
        case rel => exact ⟨k + 1, by omega, by go_num, Hv8, Hb8, Hk8⟩
        case measure => simp [intOf]; omega
    · have hkn' : k = vL.length := by omega
      have hlt' : ¬ (k : Int) < (vL.length : Int) := by omega
      have HF : Hid (res = zs ++ [125]) := by show _ = _; rw [HRes.out, hzs, hkn']; simp
      have hS93 := seg_one wr 125 (by unfold Byt; omega)
      have hA93 := hB.out.alloc (.cells #[.int .u8 125] 5)
      have hbA : Hid (∀ o : Obj, Below B w (wr.alloc o)) := fun o => hbel.out.alloc hz o
      clear hkn' hzs hzl
      go_wp2_with (at_builtin; refine wpList_append_seg rfl _ _ (by rfl) B (.slice ya zs.length yc) zs [125] (by rfl) hA93 _ 1 1 rfl (by rfl) hS93 (by simp) (by simp; omega) (by simp; omega) ?_; intro v2 w2 hv2 hg2; have hb2 := hide' ((hbA.out _).grown hg2 (by simp; omega) HOwn.out); have hk2 := hide' (kept_app (hk4.out.trans hkp.out) hA93 hg2); replace hv2 := hide' hv2; clear hg2)
      go_ret
      rw [HF.out]
      exact apEnd_of hv2.out hb2.out hk2.out
end Go.Proofs.YthnkedbmfhokiaaGreatDoor
