/-
  Texts that a law leans on, one behind the other; no statement is proved here.
-/
import Derived.Test.YteafpgaefphkfaaGreatDoorPk34
import Derived.Test.YteafpgaefphkfaaGreatDoorPk15
/-
  valueOf of the program at a map: the walk.
-/
namespace Go.Proofs.YteafpgaefphkfaaGreatDoor
open Go.RowKit Go.Shelf
set_option linter.unusedVariables false
set_option linter.unusedSimpArgs false

set_option maxHeartbeats 12800000 in
set_option maxRecDepth 100000 in
theorem valueOf_mapPart (d : Nat) (ih : ValAt d) (N b : Nat) (ps : List Value) (l : List (Vl d)) (ks : List (List Int)) (w : World) (hb : b < N) (hm : w.ownsMap Tryz.prog 9 tokR b 128 (mapD ks ps l.length)) (hkl : ks.length = l.length) (hst : ∀ i, i < l.length → upB ks i = true) (hkb : ∀ i, i < l.length → (∀ x ∈ ks.getD i [], Byt x) ∧ (ks.getD i []).length ≤ 1048576)
    (hps : ∀ i (h : i < l.length), PSeg (fun b => b < N) w d (ps.getD i .nilIface) l[i]) (hN : N ≤ w.heap.size) (hl : l.length ≤ 100) (hgd : ∀ i (h : i < l.length), ∃ deep, goodB d l[i] deep = true ∧ partsV d l[i] ≤ 40) :
    Calls Tryz.prog 28 #[.iface 93 (.agg #[.map (some b)])] w (MapEnd d l ks w) := by
  obtain ⟨i0, hi, hz0, hz1, hz2⟩ := info_parts info_valueT
  obtain ⟨iT, hiT, hy0, hy1, hy2⟩ := info_parts infoT
  have m1 := meth_mapPart (.agg #[.map (some b)])
  have t1 := nobool_mapPart (.agg #[.map (some b)])
  have t2 := noint_mapPart (.agg #[.map (some b)])
  have t3 := notext_mapPart (.agg #[.map (some b)])
  have t4 := nolist_mapPart (.agg #[.map (some b)])
  have t5 := is_mapPart (.agg #[.map (some b)])
  have HK := hide' (kind_mapPart b)
  have HA : Hid (∀ o : Obj, Below w.heap.size w (w.alloc o)) := fun o => (Below.refl _ _).alloc (Nat.le_refl _) o
  have HSh : Hid (∀ i, i < l.length → ∃ t x, ps.getD i .nilIface = .iface t x) := fun i hi => (hps i hi).shape
  have HF : Hid (∀ wy, Below w.heap.size w wy → Calls Tryz.prog 43 #[.agg #[.map (some b)]] wy fun e w' => ∃ u, e = .returned u ∧ FRow w' u ks ps l.length ∧ Below wy.heap.size wy w') := fun wy hy =>
    fields_anyU b l.length ks ps wy (hm.kept (below_grows hy none) (by simp)) hst HSh.out hl
  have HP := hide' hps
  have HG := hide' hgd
  have HKB := hide' hkb
  clear hps hgd hm hst hkb
  go_enter Tryz.func28, Tryz.ntmps28
  go_wp2_with fail
  refine (HK.out _).mono ?_
  rintro e w1 ⟨rfl, b1⟩
  have hr : w1.heap[w.heap.size]? = some (.cells #[.int .i64 0, .int .i64 0, .slice none 0 0, .slice none 0 0, .slice none 0 0] 29 (0, 0)) := box_row b1
  have B1 := hide' (Below.on (HA.out _) b1)
  have hlt : w.heap.size < w1.heap.size := (Array.getElem?_eq_some_iff.1 hr).1
  have hne : ¬ w.heap.size = w1.heap.size := by omega
  have hne' : ¬ w1.heap.size = w.heap.size := by omega
  have Hr := hide' hr
  have HV : Hid (∀ o o' : Obj, ((w1.alloc o).alloc o').heap[w1.heap.size]? = some o ∧ Below w1.heap.size w1 ((w1.alloc o).alloc o')) := fun o o' => ⟨(Below.heap_alloc _ _ _ (by simp)).trans (MapKept.heap_alloc w1 o).1, ((Below.refl _ _).alloc (Nat.le_refl _) o).alloc (by simp) o'⟩
  clear b1 hr
  go_wp2_with fail
  refine (HF.out _ (Below.on B1.out (HV.out _ _).2)).mono ?_
  rintro e w2 ⟨u, rfl, hFR, b2⟩
  have hV2 := (b2.block w1.heap.size (by simp; omega)).trans (HV.out _ _).1
  have hB2 : w1.heap.size < w2.heap.size := (Array.getElem?_eq_some_iff.1 hV2).1
  have BW := hide' (Below.on (HV.out _ _).2 b2)
  obtain ⟨fa, fc, rfl, hfc, hfm, hcell⟩ := hFR
  have HC := hide' hcell
  have HV2 := hide' hV2
  unfold maxLen at hfm
  clear hcell b2 hV2 HF HV
  go_wp2_with fail
  go_loopw [62] (fun i wr => ∃ k : Nat, k ≤ l.length ∧ i = .int .i64 k ∧ ∃ xK csK BiK xL csL BiL, MInv w2 w1.heap.size d l ks k k wr xK csK BiK xL csL BiL) (fun i _ => l.length - (intOf i).toNat)
  case atStart => exact ⟨0, Nat.zero_le _, rfl, _, _, _, _, _, _, World.grownBy.refl _ _, HV2.out, RW.nil _ _ _ _ _, RW.nil _ _ _ _ _, by simp [Value.ownBlock]⟩
  case round =>
    obtain ⟨k, hk, rfl, xK, csK, BiK, xL, csL, BiL, hI⟩ := hrel
    have HI := hide' hI
    have hvK : ∃ p c, xK = .slice p k c := by
      rcases hI.2.2.1.2.2.1.2 with ⟨rfl, h0⟩ | ⟨g, cap, cur, rfl, _⟩
      · exact ⟨none, 0, by rw [h0]⟩
      · exact ⟨_, _, rfl⟩
    have hvL : ∃ p c, xL = .slice p k c := by
      rcases hI.2.2.2.1.2.2.1.2 with ⟨rfl, h0⟩ | ⟨g, cap, cur, rfl, _⟩
      · exact ⟨none, 0, by rw [h0]⟩
      · exact ⟨_, _, rfl⟩
    obtain ⟨pK, cK, rfl⟩ := hvK
    obtain ⟨pL, cL, rfl⟩ := hvL
    have hzr := hI.1.size
    clear hI
    by_cases hkn : k < l.length
    · have hkl' : (k : Int) < (l.length : Int) := by omega
      have hk0 : (0 : Int) ≤ (k : Int) := Int.natCast_nonneg _
      obtain ⟨t, px, hp⟩ := HSh.out k hkn
      have hat : ∃ g, fa = some ⟨g, 0, none⟩ ∧ wr.cell? ⟨g, k * 2, none⟩ = some (.string (strOf (ks.getD k []))) ∧ wr.cell? ⟨g, k * 2 + 1, none⟩ = some (.iface t px) := by
        rcases HC.out with h0 | ⟨g, rfl, hg, hc⟩
        · omega
        · obtain ⟨c0, c1⟩ := hc k hkn
          have hgB : g ≠ w1.heap.size := by
            rintro rfl
            have h0 := (hc 0 (by omega)).1
            rw [Nat.zero_mul, (row5 HV2.out).1] at h0
            simp at h0
          have hbk := HI.out.1.block g hg (by simpa using hgB)
          rw [hp] at c1
          exact ⟨g, rfl, (World.cell?_of_block hbk).trans c0, (World.cell?_of_block hbk).trans c1⟩
      obtain ⟨g, rfl, fc0, fc1⟩ := hat
      have hps := HP.out k hkn
      rw [hp] at hps
      obtain ⟨_, _, _, v3, v4, vf⟩ := row5 HI.out.2.1
      obtain ⟨s0, s1, s2, s3, s4, sf⟩ := box_later HI.out.2.1
      obtain ⟨ck, wB, hconv, hTo, hBb, hzB⟩ := conv_back (ks.getD k []) (HKB.out k hkn).1 (HKB.out k hkn).2 (wr.alloc (.cells #[.string (strOf (ks.getD k [])), .iface t px] 97))
      have hb5 : Below wr.heap.size wr wB := Below.on ((Below.refl _ _).alloc (Nat.le_refl _) _) hBb
      have hF5 : wB.heap[wr.heap.size]? = some (.cells #[.string (strOf (ks.getD k [])), .iface t px] 97 (0, 0)) := (hBb.block wr.heap.size (by simp)).trans (MapKept.heap_alloc wr _).1
      have hrowK : wB.ownsRow w2.heap.size 22 1 (.slice pK k cK) k csK.flatten := HI.out.2.2.1.2.2.1.kept (row := none) ⟨hb5.os, hb5.tape, hb5.output, hb5.size, fun k hk _ => hb5.block k hk⟩ (by cases hv : (Value.slice pK k cK).ownBlock <;> simp)
      simp at hzB
      have hs5 : ∀ o, (wB.alloc o).cell? ⟨w1.heap.size, 3, none⟩ = some (.slice pK k cK) := fun o => (World.cell?_of_block ((Below.heap_alloc wB o w1.heap.size (by omega)).trans (hb5.block w1.heap.size (by omega)))).trans v3
      have hsz1 : (wr.alloc (.cells #[.string (strOf (ks.getD k [])), .iface t px] 97)).heap.size = wr.heap.size + 1 := by simp
      rw [hsz1] at hconv hTo
      generalize hn' : (ks.getD k []).length = nk at hconv hTo
      have HT := hide' hTo
      have HB5 := hide' hb5
      have HF5 := hide' hF5
      have HRK := hide' hrowK
      generalize hsx : strOf (ks.getD k []) = sx at *
      have HzB := hide' hzB
      clear hzB hTo hBb hb5 hF5 hrowK m1 t1 t2 t3 t4 t5 HK hsz1
      go_wp2_with (at_builtin; refine wpList_append_lies _ rfl _ _ 26 rfl w2.heap.size 22 iT (.slice none 0 0) 1 24 Tryz.underlying26 hiT hy0 hy1 hy2 rfl (by decide) (.slice pK k cK) k csK.flatten (by rfl) (HRK.out.alloc _) ⟨wB.heap.size, 0, none⟩ 1 1 [.slice (some ⟨wr.heap.size + 1, 0, none⟩) nk ck] (by rfl) (by rfl) (World.news_of_block (cs := #[.slice (some ⟨wr.heap.size + 1, 0, none⟩) nk ck]) (t := 22) (fr := (0, 0)) (heap_alloc_new wB _)) (by simp [Value.oneCell']) (by omega) (by unfold maxLen; omega) (by omega) (by have := HzB.out; simp; omega) (wB.heap.size + 1) (by simp) ?_; intro g6 cp6 w6 hown6 hg6 hat6 hlt6; have hzB := HzB.out; obtain ⟨hV6, hz6, hF6, hI6⟩ := minv_k HI.out hB2 HB5.out ⟨_, rfl, HT.out⟩ (fun b hb => (by simp at hb; omega)) (by simp) hown6 hg6 hat6; obtain ⟨_, _, _, hc63, _, hf6⟩ := row5 hV6; have hf63 := hf6 3; replace hF6 := hide' ((hF6 wr.heap.size (Nat.le_refl _) (by omega)).trans HF5.out); replace hI6 := hide' hI6; clear hzB hown6 hg6 hat6 hlt6 hV6 hf6 hs5 hconv)
      have hneF : wr.heap.size ≠ w1.heap.size := by omega
      have hFS := (Below.heap_setCell w6 ⟨w1.heap.size, 3, none⟩ (.slice (some ⟨g6, 0, none⟩) (k + 1) cp6) wr.heap.size hneF).trans hF6.out
      have hzS : (w6.setCell ⟨w1.heap.size, 3, none⟩ (.slice (some ⟨g6, 0, none⟩) (k + 1) cp6)).heap.size = w6.heap.size := by simp [World.setCell]
      generalize hwS : w6.setCell ⟨w1.heap.size, 3, none⟩ (.slice (some ⟨g6, 0, none⟩) (k + 1) cp6) = wS at *
      obtain ⟨_, _, _, _, v4S, _⟩ := row5 hI6.out.2.1
      have fcS : wS.cell? ⟨wr.heap.size, 1, none⟩ = some (.iface t px) := by
        rw [cell_of_row wS wr.heap.size 1 _ _ _ hFS]
        rfl
      have hz2S := hI6.out.1.size
      have hBS : Below w.heap.size w wS := (Below.on B1.out (Below.on (Below.refl _ _) BW.out)).grown hI6.out.1 (by omega) (by intro j hj; simp at hj; omega)
      obtain ⟨deep, hgk1, hgk2⟩ := HG.out k hkn
      have HE : Hid (∀ wy, Below wS.heap.size wS wy → Calls Tryz.prog 28 #[.iface t px] wy (VCall w1.heap.size w2.heap.size d l k wS (.slice pL k cL) csL.flatten)) := fun wy hy => (ih N _ _ deep wy (PSeg.carry (fun b h => h) (fun b (h : b < N) => (Below.on hBS hy).block b (by omega)) d hps) (by have := (Below.on hBS hy).size; omega) hgk1 hgk2).mono fun e w5 he => minv_call hI6.out hB2 hkn hy he
      clear hgk1 hgk2 hFS hzS hBS hps hwS v3 v4 vf s0 s1 s2 s3 s4 sf hc63 hf63 fc0 fc1 hF6 HT HB5 HF5 HRK HzB HI hp
      go_region_law
        (first
          | (go_simp; go_at_call 28; refine (HE.out _ (by first | exact Below.refl _ _ | exact (Below.refl _ _).drew | exact (Below.refl _ _).drew.drew)).mono ?_; rintro e w5 ⟨uk, un, s2, n2, r2, s3, n3, r3, s4, n4, r4, rfl, Bv, hit, hbv, hbn, b5, hc5, ho5⟩; replace hit := hide' (And.intro hit (And.intro hbv (And.intro hbn (And.intro b5 ho5)))); have hz5 : w1.heap.size < w5.heap.size := (by have := b5.size; omega); have hc5o : ∀ o, (w5.alloc o).cell? ⟨w1.heap.size, 4, none⟩ = some (.slice pL k cL) := (fun o => (World.cell?_of_block (Below.heap_alloc w5 o w1.heap.size hz5)).trans hc5); clear hbv hbn b5 ho5)
          | (refine step_append_lies _ (by rfl) _ _ _ (by rfl) w2.heap.size 29 i0 _ 5 88 Tryz.underlying27 hi hz0 hz1 hz2 rfl (by decide) (.slice pL k cL) k csL.flatten (by rfl) (by first | exact hit.out.2.2.2.2.alloc _ | exact (hit.out.2.2.2.2.alloc _).drew) ⟨w5.heap.size, 0, none⟩ 1 1 [.int .i64 uk, .int .i64 un, .slice s2 n2 r2, .slice s3 n3 r3, .slice s4 n4 r4] (by rfl) (by rfl) (World.news_of_block (cs := #[.int .i64 uk, .int .i64 un, .slice s2 n2 r2, .slice s3 n3 r3, .slice s4 n4 r4]) (t := 29) (fr := (0, 0)) (heap_alloc_new w5 _)) (by simp [Value.oneCell']) (by omega) (by unfold maxLen; omega) (by omega) (by have := hit.out.2.2.2.1.size; simp; omega) (w5.heap.size + 1) (by simp) ?_; intro g7 cp7 w7 hown7 hg7 hat7 hlt7; obtain ⟨hV7, hI7⟩ := minv_l hI6.out hB2 hit.out.2.2.2.1 hit.out.1 hit.out.2.1 hit.out.2.2.1 hown7 hg7 hat7; obtain ⟨_, _, _, _, hc7, hf7⟩ := row5 hV7; replace hf7 := hf7 4; replace hI7 := hide' hI7; clear hown7 hg7 hat7 hlt7 hV7 hit hc5 hc5o))
      all_goals go_wp2
      all_goals go_roundw
      all_goals first
        | exact ⟨k + 1, by omega, by go_num, _, _, _, _, _, _, hI7.out⟩
        | (simp [intOf]; omega)
    · have hkn' : k = l.length := by omega
      subst hkn'
      have hkl' : ¬ (l.length : Int) < (l.length : Int) := by omega
      have hR : wr.heap[w.heap.size]? = some (.cells #[.int .i64 0, .int .i64 0, .slice none 0 0, .slice none 0 0, .slice none 0 0] 29 (0, 0)) := (HI.out.1.block _ (by omega) (by simp; omega)).trans ((BW.out.block _ hlt).trans Hr.out)
      obtain ⟨r0, r1, r2, r3, r4, rf⟩ := row5 hR
      obtain ⟨v0, v1, v2, v3, v4, _⟩ := row5 HI.out.2.1
      have f0 := rf 0
      have f1 := rf 1
      have f2 := rf 2
      have f3 := rf 3
      have f4 := rf 4
      replace hR := hide' hR
      clear rf m1 t1 t2 t3 t4 t5 HK
      go_wp2_with fail
      have hrow := set5_heap (j := 0) (.int .i64 5) (.int .i64 0) (.slice none 0 0) (.slice pK l.length cK) (.slice pL l.length cL) hR.out
      have hfin := row5 hrow
      simp only [set5, Nat.zero_add] at hfin
      obtain ⟨y0, y1, y2, y3, y4, _⟩ := hfin
      refine bodyPost_ret (v := .agg #[.int .i64 5, .int .i64 0, .slice none 0 0, .slice pK l.length cK, .slice pL l.length cL]) (by simp [results, Tryz.results28, go_sem, y0, y1, y2, y3, y4]) rfl ?_
      have hB5 := set5_grown wr w.heap.size 0 (.int .i64 5) (.int .i64 0) (.slice none 0 0) (.slice pK l.length cK) (.slice pL l.length cL)
      have hsz4 := set5_size wr w.heap.size 0 (.int .i64 5) (.int .i64 0) (.slice none 0 0) (.slice pK l.length cK) (.slice pL l.length cL)
      have hBn := (Below.on B1.out (Below.on (Below.refl _ _) BW.out)).grown HI.out.1 (by omega) (by intro j hj; simp at hj; omega)
      have hBf := hBn.grown hB5 (by omega) (by intro j hj; simp at hj; omega)
      obtain ⟨_, _, hRK, hRL, hdis⟩ := HI.out
      have hbK := hRK.2.2.2.2.2
      have hbL := hRL.2.2.2.2.2
      have hKo := RW.kown (ks := ks) (by rw [hkl]; exact hRK)
      refine ⟨_, _, rfl, _, _, hKo.agree fun b h => ?_, hRL.lown.agree fun b h => ?_, fun b h => ?_, ?_, hBf⟩
      · have hb := hbK b h
        exact hB5.block b (by omega) (by simp; omega)
      · have hb := hbL b h
        exact hB5.block b (by omega) (by simp; omega)
      · show w.heap.size ≤ b ∧ b < (set5 _ _ _ _ _ _ _ _).heap.size
        rcases List.mem_append.1 h with h | h
        · have hb := hbK b h
          omega
        · have hb := hbL b h
          omega
      · rw [List.nodup_append]
        exact ⟨hRK.2.2.2.2.1, hRL.2.2.2.2.1, fun a ha b hb e => hdis a ha (e ▸ hb)⟩
end Go.Proofs.YteafpgaefphkfaaGreatDoor
