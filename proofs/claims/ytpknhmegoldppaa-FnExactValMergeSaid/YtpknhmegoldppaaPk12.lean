/-
  Texts that a law leans on, one behind the other; no statement is proved here.
-/
import Derived.Test.YtpknhmegoldppaaPk10
import Derived.Test.YtpknhmegoldppaaPk11
import Derived.Test.YtpknhmegoldppaaPk9
/-
  valueOf of the program at a map: the walk.
-/
namespace Go.Proofs.Ytpknhmegoldppaa
open Go.RowKit Go.Shelf
set_option linter.unusedVariables false
set_option linter.unusedSimpArgs false

set_option maxHeartbeats 12800000 in
set_option maxRecDepth 100000 in
theorem valueOf_mapPart (d : Nat) (ih : ValAt d) (N b : Nat) (ps : List Value) (l : List (Vl d)) (ks : List (List Int)) (w : World) (hb : b < N) (hm : w.ownsMap Try.prog 9 tokR b 128 (mapD ks ps l.length)) (hkl : ks.length = l.length) (hst : ∀ i, i < l.length → upB ks i = true) (hkb : ∀ i, i < l.length → (∀ x ∈ ks.getD i [], Byt x) ∧ (ks.getD i []).length ≤ 1048576)
    (hps : ∀ i (h : i < l.length), PSeg (fun b => b < N) w d (ps.getD i .nilIface) l[i]) (hN : N ≤ w.heap.size) (hl : l.length ≤ 100) (hgd : ∀ i (h : i < l.length), ∃ deep, goodB d l[i] deep = true ∧ partsV d l[i] ≤ 40) :
    Calls Try.prog 34 #[.iface 59 (.agg #[.map (some b)])] w (MapEnd d l ks w) := by
  obtain ⟨i0, hi, hz0, hz1, hz2⟩ := info_parts info_valueT
  obtain ⟨iT, hiT, hy0, hy1, hy2⟩ := info_parts infoT
  have m1 := meth_mapPart (.agg #[.map (some b)])
  have t1 := nobool_mapPart (.agg #[.map (some b)])
  have t2 := noint_mapPart (.agg #[.map (some b)])
  have t3 := notext_mapPart (.agg #[.map (some b)])
  have t4 := nolist_mapPart (.agg #[.map (some b)])
  have t5 := is_mapPart (.agg #[.map (some b)])
  have HK := hide' (kind_mapPart b)
  have HA : Hid (∀ o : Obj, Below w.heap.size w (w.alloc o)) := fun o => (Below.refl _ _).alloc (Nat.le_refl _) o
  have HSh : Hid (∀ i, i < l.length → ∃ t x, ps.getD i .nilIface = .iface t x) := fun i hi => (hps i hi).shape
  have HF : Hid (∀ wy, Below w.heap.size w wy → Calls Try.prog 54 #[.agg #[.map (some b)]] wy fun e w' => ∃ u, e = .returned u ∧ FRow w' u ks ps l.length ∧ Below wy.heap.size wy w') := fun wy hy =>
    fields_anyU b l.length ks ps wy (hm.kept (below_grows hy none) (by simp)) hst HSh.out hl
  have HP := hide' hps
  have HG := hide' hgd
  have HKB := hide' hkb
  clear hps hgd hm hst hkb
  go_enter Try.func34, Try.ntmps34
  go_wp2_with fail
  refine (HK.out _).mono ?_
  rintro e w1 ⟨rfl, b1⟩
  have hr : w1.heap[w.heap.size]? = some (.cells #[.int .i64 0, .int .i64 0, .slice none 0 0, .slice none 0 0, .slice none 0 0] 30 (0, 0)) := box_row b1
  have B1 := hide' (Below.on (HA.out _) b1)
  have hlt : w.heap.size < w1.heap.size := (Array.getElem?_eq_some_iff.1 hr).1
  have hne : ¬ w.heap.size = w1.heap.size := by omega
  have hne' : ¬ w1.heap.size = w.heap.size := by omega
  have Hr := hide' hr
  have HV : Hid (∀ o o' : Obj, ((w1.alloc o).alloc o').heap[w1.heap.size]? = some o ∧ Below w1.heap.size w1 ((w1.alloc o).alloc o')) := fun o o' => ⟨(Below.heap_alloc _ _ _ (by simp)).trans (MapKept.heap_alloc w1 o).1, ((Below.refl _ _).alloc (Nat.le_refl _) o).alloc (by simp) o'⟩
  clear b1 hr
  go_wp2_with fail
  refine (HF.out _ (Below.on B1.out (HV.out _ _).2)).mono ?_
  rintro e w2 ⟨u, rfl, hFR, b2⟩
  have hV2 := (b2.block w1.heap.size (by simp; omega)).trans (HV.out _ _).1
  have hB2 : w1.heap.size < w2.heap.size := (Array.getElem?_eq_some_iff.1 hV2).1
  have BW := hide' (Below.on (HV.out _ _).2 b2)
  obtain ⟨fa, fc, rfl, hfc, hfm, hcell⟩ := hFR
  have HC := hide' hcell
  have HV2 := hide' hV2
  unfold maxLen at hfm
  clear hcell b2 hV2 HF HV
  go_wp2_with fail
  go_loopw [62] (fun i wr => ∃ k : Nat, k ≤ l.length ∧ i = .int .i64 k ∧ ∃ xK csK BiK xL csL BiL, MInv w2 w1.heap.size d l ks k k wr xK csK BiK xL csL BiL) (fun i _ => l.length - (intOf i).toNat)
  case atStart => exact ⟨0, Nat.zero_le _, rfl, _, _, _, _, _, _, World.grownBy.refl _ _, HV2.out, RW.nil _ _ _ _ _, RW.nil _ _ _ _ _, by simp [Value.ownBlock]⟩
  case round =>
    obtain ⟨k, hk, rfl, xK, csK, BiK, xL, csL, BiL, hI⟩ := hrel
    have HI := hide' hI
    have hvK : ∃ p c, xK = .slice p k c := by
      rcases hI.2.2.1.2.2.1.2 with ⟨rfl, h0⟩ | ⟨g, cap, cur, rfl, _⟩
      · exact ⟨none, 0, by rw [h0]⟩
      · exact ⟨_, _, rfl⟩
    have hvL : ∃ p c, xL = .slice p k c := by
      rcases hI.2.2.2.1.2.2.1.2 with ⟨rfl, h0⟩ | ⟨g, cap, cur, rfl, _⟩
      · exact ⟨none, 0, by rw [h0]⟩
      · exact ⟨_, _, rfl⟩
    obtain ⟨pK, cK, rfl⟩ := hvK
    obtain ⟨pL, cL, rfl⟩ := hvL
    have hzr := hI.1.size
    clear hI
    by_cases hkn : k < l.length
    · have hkl' : (k : Int) < (l.length : Int) := by omega
      have hk0 : (0 : Int) ≤ (k : Int) := Int.natCast_nonneg _
      obtain ⟨t, px, hp⟩ := HSh.out k hkn
      have hat : ∃ g, fa = some ⟨g, 0, none⟩ ∧ wr.cell? ⟨g, k * 2, none⟩ = some (.string (strOf (ks.getD k []))) ∧ wr.cell? ⟨g, k * 2 + 1, none⟩ = some (.iface t px) := by
        rcases HC.out with h0 | ⟨g, rfl, hg, hc⟩
        · omega
        · obtain ⟨c0, c1⟩ := hc k hkn
          have hgB : g ≠ w1.heap.size := by
            rintro rfl
            have h0 := (hc 0 (by omega)).1
            rw [Nat.zero_mul, (row5 HV2.out).1] at h0
            simp at h0
          have hbk := HI.out.1.block g hg (by simpa using hgB)
          rw [hp] at c1
          exact ⟨g, rfl, (World.cell?_of_block hbk).trans c0, (World.cell?_of_block hbk).trans c1⟩
      obtain ⟨g, rfl, fc0, fc1⟩ := hat
      have hps := HP.out k hkn
      rw [hp] at hps
      obtain ⟨_, _, _, v3, v4, vf⟩ := row5 HI.out.2.1
      obtain ⟨s0, s1, s2, s3, s4, sf⟩ := box_later HI.out.2.1
      obtain ⟨ck, wB, hconv, hTo, hBb, hzB⟩ := conv_back (ks.getD k []) (HKB.out k hkn).1 (HKB.out k hkn).2 (wr.alloc (.cells #[.string (strOf (ks.getD k [])), .iface t px] 98))
      have hb5 : Below wr.heap.size wr wB := Below.on ((Below.refl _ _).alloc (Nat.le_refl _) _) hBb
      have hF5 : wB.heap[wr.heap.size]? = some (.cells #[.string (strOf (ks.getD k [])), .iface t px] 98 (0, 0)) := (hBb.block wr.heap.size (by simp)).trans (MapKept.heap_alloc wr _).1
      have hrowK : wB.ownsRow w2.heap.size 22 1 (.slice pK k cK) k csK.flatten := HI.out.2.2.1.2.2.1.kept (row := none) ⟨hb5.os, hb5.tape, hb5.output, hb5.size, fun k hk _ => hb5.block k hk⟩ (by cases hv : (Value.slice pK k cK).ownBlock <;> simp)
      simp at hzB
      have hs5 : ∀ o, (wB.alloc o).cell? ⟨w1.heap.size, 3, none⟩ = some (.slice pK k cK) := fun o => (World.cell?_of_block ((Below.heap_alloc wB o w1.heap.size (by omega)).trans (hb5.block w1.heap.size (by omega)))).trans v3
      have hsz1 : (wr.alloc (.cells #[.string (strOf (ks.getD k [])), .iface t px] 98)).heap.size = wr.heap.size + 1 := by simp
      rw [hsz1] at hconv hTo
      generalize hn' : (ks.getD k []).length = nk at hconv hTo
      have HT := hide' hTo
      have HB5 := hide' hb5
      have HF5 := hide' hF5
      have HRK := hide' hrowK
      generalize hsx : strOf (ks.getD k []) = sx at *
      have HzB := hide' hzB
      clear hzB hTo hBb hb5 hF5 hrowK m1 t1 t2 t3 t4 t5 HK hsz1
      go_wp2_with (at_builtin; refine wpList_append_lies _ rfl _ _ 23 rfl w2.heap.size 22 iT (.slice none 0 0) 1 24 Try.underlying23 hiT hy0 hy1 hy2 rfl (by decide) (.slice pK k cK) k csK.flatten (by rfl) (HRK.out.alloc _) ⟨wB.heap.size, 0, none⟩ 1 1 [.slice (some ⟨wr.heap.size + 1, 0, none⟩) nk ck] (by rfl) (by rfl) (World.news_of_block (cs := #[.slice (some ⟨wr.heap.size + 1, 0, none⟩) nk ck]) (t := 22) (fr := (0, 0)) (heap_alloc_new wB _)) (by simp [Value.oneCell']) (by omega) (by unfold maxLen; omega) (by omega) (by have := HzB.out; simp; omega) (wB.heap.size + 1) (by simp) ?_; intro g6 cp6 w6 hown6 hg6 hat6 hlt6; have hzB := HzB.out; obtain ⟨hV6, hz6, hF6, hI6⟩ := minv_k HI.out hB2 HB5.out ⟨_, rfl, HT.out⟩ (fun b hb => (by simp at hb; omega)) (by simp) hown6 hg6 hat6; obtain ⟨_, _, _, hc63, _, hf6⟩ := row5 hV6; have hf63 := hf6 3; replace hF6 := hide' ((hF6 wr.heap.size (Nat.le_refl _) (by omega)).trans HF5.out); replace hI6 := hide' hI6; clear hzB hown6 hg6 hat6 hlt6 hV6 hf6 hs5 hconv)
      have hneF : wr.heap.size ≠ w1.heap.size := by omega
      have hFS := (Below.heap_setCell w6 ⟨w1.heap.size, 3, none⟩ (.slice (some ⟨g6, 0, none⟩) (k + 1) cp6) wr.heap.size hneF).trans hF6.out
      have hzS : (w6.setCell ⟨w1.heap.size, 3, none⟩ (.slice (some ⟨g6, 0, none⟩) (k + 1) cp6)).heap.size = w6.heap.size := by simp [World.setCell]
      generalize hwS : w6.setCell ⟨w1.heap.size, 3, none⟩ (.slice (some ⟨g6, 0, none⟩) (k + 1) cp6) = wS at *
      obtain ⟨_, _, _, _, v4S, _⟩ := row5 hI6.out.2.1
      have fcS : wS.cell? ⟨wr.heap.size, 1, none⟩ = some (.iface t px) := by
        rw [cell_of_row wS wr.heap.size 1 _ _ _ hFS]
        rfl
      have hz2S := hI6.out.1.size
      have hBS : Below w.heap.size w wS := (Below.on B1.out (Below.on (Below.refl _ _) BW.out)).grown hI6.out.1 (by omega) (by intro j hj; simp at hj; omega)
      obtain ⟨deep, hgk1, hgk2⟩ := HG.out k hkn
      have HE : Hid (∀ wy, Below wS.heap.size wS wy → Calls Try.prog 34 #[.iface t px] wy (VCall w1.heap.size w2.heap.size d l k wS (.slice pL k cL) csL.flatten)) := fun wy hy => (ih N _ _ deep wy (PSeg.carry (fun b h => h) (fun b (h : b < N) => (Below.on hBS hy).block b (by omega)) d hps) (by have := (Below.on hBS hy).size; omega) hgk1 hgk2).mono fun e w5 he => minv_call hI6.out hB2 hkn hy he
      clear hgk1 hgk2 hFS hzS hBS hps hwS v3 v4 vf s0 s1 s2 s3 s4 sf hc63 hf63 fc0 fc1 hF6 HT HB5 HF5 HRK HzB HI hp
      go_region_law
        (first
          | (go_simp; go_at_call 34; refine (HE.out _ (by first | exact Below.refl _ _ | exact (Below.refl _ _).drew | exact (Below.refl _ _).drew.drew)).mono ?_; rintro e w5 ⟨uk, un, s2, n2, r2, s3, n3, r3, s4, n4, r4, rfl, Bv, hit, hbv, hbn, b5, hc5, ho5⟩; replace hit := hide' (And.intro hit (And.intro hbv (And.intro hbn (And.intro b5 ho5)))); have hz5 : w1.heap.size < w5.heap.size := (by have := b5.size; omega); have hc5o : ∀ o, (w5.alloc o).cell? ⟨w1.heap.size, 4, none⟩ = some (.slice pL k cL) := (fun o => (World.cell?_of_block (Below.heap_alloc w5 o w1.heap.size hz5)).trans hc5); clear hbv hbn b5 ho5)
          | (refine step_append_lies _ (by rfl) _ _ _ (by rfl) w2.heap.size 30 i0 _ 5 88 Try.underlying28 hi hz0 hz1 hz2 rfl (by decide) (.slice pL k cL) k csL.flatten (by rfl) (by first | exact hit.out.2.2.2.2.alloc _ | exact (hit.out.2.2.2.2.alloc _).drew) ⟨w5.heap.size, 0, none⟩ 1 1 [.int .i64 uk, .int .i64 un, .slice s2 n2 r2, .slice s3 n3 r3, .slice s4 n4 r4] (by rfl) (by rfl) (World.news_of_block (cs := #[.int .i64 uk, .int .i64 un, .slice s2 n2 r2, .slice s3 n3 r3, .slice s4 n4 r4]) (t := 30) (fr := (0, 0)) (heap_alloc_new w5 _)) (by simp [Value.oneCell']) (by omega) (by unfold maxLen; omega) (by omega) (by have := hit.out.2.2.2.1.size; simp; omega) (w5.heap.size + 1) (by simp) ?_; intro g7 cp7 w7 hown7 hg7 hat7 hlt7; obtain ⟨hV7, hI7⟩ := minv_l hI6.out hB2 hit.out.2.2.2.1 hit.out.1 hit.out.2.1 hit.out.2.2.1 hown7 hg7 hat7; obtain ⟨_, _, _, _, hc7, hf7⟩ := row5 hV7; replace hf7 := hf7 4; replace hI7 := hide' hI7; clear hown7 hg7 hat7 hlt7 hV7 hit hc5 hc5o))
      all_goals go_wp2
      all_goals go_roundw
      all_goals first
        | exact ⟨k + 1, by omega, by go_num, _, _, _, _, _, _, hI7.out⟩
        | (simp [intOf]; omega)
    · have hkn' : k = l.length := by omega
      subst hkn'
      have hkl' : ¬ (l.length : Int) < (l.length : Int) := by omega
      have hR : wr.heap[w.heap.size]? = some (.cells #[.int .i64 0, .int .i64 0, .slice none 0 0, .slice none 0 0, .slice none 0 0] 30 (0, 0)) := (HI.out.1.block _ (by omega) (by simp; omega)).trans ((BW.out.block _ hlt).trans Hr.out)
      obtain ⟨r0, r1, r2, r3, r4, rf⟩ := row5 hR
      obtain ⟨v0, v1, v2, v3, v4, _⟩ := row5 HI.out.2.1
      have f0 := rf 0
      have f1 := rf 1
      have f2 := rf 2
      have f3 := rf 3
      have f4 := rf 4
      replace hR := hide' hR
      clear rf m1 t1 t2 t3 t4 t5 HK
      go_wp2_with fail
      have hrow := set5_heap (j := 0) (.int .i64 5) (.int .i64 0) (.slice none 0 0) (.slice pK l.length cK) (.slice pL l.length cL) hR.out
      have hfin := row5 hrow
      simp only [set5, Nat.zero_add] at hfin
      obtain ⟨y0, y1, y2, y3, y4, _⟩ := hfin
      refine bodyPost_ret (v := .agg #[.int .i64 5, .int .i64 0, .slice none 0 0, .slice pK l.length cK, .slice pL l.length cL]) (by simp [results, Try.results34, go_sem, y0, y1, y2, y3, y4]) rfl ?_
      have hB5 := set5_grown wr w.heap.size 0 (.int .i64 5) (.int .i64 0) (.slice none 0 0) (.slice pK l.length cK) (.slice pL l.length cL)
      have hsz4 := set5_size wr w.heap.size 0 (.int .i64 5) (.int .i64 0) (.slice none 0 0) (.slice pK l.length cK) (.slice pL l.length cL)
      have hBn := (Below.on B1.out (Below.on (Below.refl _ _) BW.out)).grown HI.out.1 (by omega) (by intro j hj; simp at hj; omega)
      have hBf := hBn.grown hB5 (by omega) (by intro j hj; simp at hj; omega)
      obtain ⟨_, _, hRK, hRL, hdis⟩ := HI.out
      have hbK := hRK.2.2.2.2.2
      have hbL := hRL.2.2.2.2.2
      have hKo := RW.kown (ks := ks) (by rw [hkl]; exact hRK)
      refine ⟨_, _, rfl, _, _, hKo.agree fun b h => ?_, hRL.lown.agree fun b h => ?_, fun b h => ?_, ?_, hBf⟩
      · have hb := hbK b h
        exact hB5.block b (by omega) (by simp; omega)
      · have hb := hbL b h
        exact hB5.block b (by omega) (by simp; omega)
      · show w.heap.size ≤ b ∧ b < (set5 _ _ _ _ _ _ _ _).heap.size
        rcases List.mem_append.1 h with h | h
        · have hb := hbK b h
          omega
        · have hb := hbL b h
          omega
      · rw [List.nodup_append]
        exact ⟨hRK.2.2.2.2.1, hRL.2.2.2.2.1, fun a ha b hb e => hdis a ha (e ▸ hb)⟩
end Go.Proofs.Ytpknhmegoldppaa
/-
  valueOf of the program at whatever part: a value of the call's own.
-/
namespace Go.Proofs.Ytpknhmegoldppaa
open Go.RowKit Go.Shelf
set_option linter.unusedVariables false
set_option linter.unusedSimpArgs false

theorem tNil (w : World) : TOwn w (.slice none 0 0) [] [] := ⟨⟨by simp, rfl, .inl ⟨rfl, rfl⟩⟩, .inl ⟨rfl, rfl⟩⟩
theorem kNil (w : World) : KOwn w (.slice none 0 0) [] [] := .inl ⟨rfl, rfl, rfl⟩
theorem lNil (w : World) (d : Nat) : LOwn w d (.slice none 0 0) [] [] := .inl ⟨rfl, rfl, rfl⟩

/-- What the rules of one part say of its fields. -/
theorem shape_zero {vk vn : Int} {vs : List Int} {vK : List (List Int)} {n : Nat} (h : shapeB vk vn vs vK n = true) :
    (vk = 1 ∨ vk = 2 ∨ vn = 0) ∧ (vk = 3 ∨ vs = []) ∧ (vk = 5 ∨ vK = []) ∧ (vk = 4 ∨ vk = 5 ∨ n = 0) := by
  simp only [shapeB, bareB, Bool.and_eq_true, Bool.or_eq_true, decide_eq_true_eq, List.length_eq_zero_iff] at h
  obtain ⟨⟨⟨⟨h1, h2⟩, h3⟩, h4⟩, _⟩ := h
  exact ⟨by rcases h1 with (h1 | h1) | h1 <;> simp [h1], h2, h3, by rcases h4 with (h4 | h4) | h4 <;> simp [h4]⟩

theorem shape_text {vn : Int} {vs : List Int} {vK : List (List Int)} {n : Nat} (h : shapeB 3 vn vs vK n = true) : textB vs = true := by
  simp [shapeB] at h
  exact h.2

theorem textB_byt {xs : List Int} (h : textB xs = true) : (∀ x ∈ xs, Byt x) ∧ xs.length ≤ 20 := by
  simp only [textB, Bool.and_eq_true, decide_eq_true_eq, List.all_eq_true] at h
  refine ⟨fun x hx => ?_, h.1⟩
  have := h.2 x hx
  simp only [chrB, Bool.and_eq_true, decide_eq_true_eq] at this
  unfold Byt
  omega

theorem shape_mapB {vn : Int} {vs : List Int} {vK : List (List Int)} {n : Nat} (h : shapeB 5 vn vs vK n = true) : vK.length = n ∧ ascB vK = true := by
  simp [shapeB] at h
  exact h.2

theorem step_name {ks : List (List Int)} {i : Nat} (h : stepB ks i = true) : (∀ x ∈ ks.getD i [], Byt x) ∧ (ks.getD i []).length ≤ 1000 := by
  simp only [stepB, Bool.and_eq_true] at h
  have h1 := h.1
  simp only [nameB, Bool.and_eq_true, decide_eq_true_eq, List.all_eq_true] at h1
  refine ⟨fun x hx => ?_, by omega⟩
  have := h1.2 x hx
  simp only [letB, Bool.and_eq_true, decide_eq_true_eq] at this
  unfold Byt
  omega

theorem parts_kid {d : Nat} {vk vn : Int} {vs : List Int} {vK : List (List Int)} {vL : List (Vl d)} (h : partsV (d + 1) (vk, vn, vs, vK, vL) ≤ 40) : ∀ i (hi : i < vL.length), partsV d vL[i] ≤ 40 := by
  intro i hi
  rw [parts_succ] at h
  have h1 := pre_succ (partsV d) vL i hi
  have h2 := pre_le (partsV d) vL (i + 1)
  have h3 := pre_all (partsV d) vL
  omega

theorem parts_many {d : Nat} {vk vn : Int} {vs : List Int} {vK : List (List Int)} {vL : List (Vl (d + 1))} (h : partsV (d + 1 + 1) (vk, vn, vs, vK, vL) ≤ 40) : vL.length ≤ 40 := by
  have hk : ∀ k, k ≤ vL.length → k ≤ pre (partsV (d + 1)) vL k := by
    intro k
    induction k with
    | zero => intro _; exact Nat.zero_le _
    | succ k ih =>
      intro hk
      have h1 := pre_succ (partsV (d + 1)) vL k (by omega)
      have h2 := parts_pos d vL[k]
      have h3 := ih (by omega)
      omega
  rw [parts_succ] at h
  have := hk vL.length (Nat.le_refl _)
  omega

theorem valueOf_succ (d : Nat) (ih : ValAt d) : ValAt (d + 1) := by
  intro N p v deep w hp hN hg hn
  obtain ⟨vk, vn, vs, vK, vL⟩ := v
  obtain ⟨_, hsh, hgk⟩ := (good_succ _ _ _ _ _ _ _).1 hg
  obtain ⟨z1, z2, z3, z4⟩ := shape_zero hsh
  have hkid := parts_kid hn
  have hlen : vL.length ≤ 40 := by
    cases d with
    | zero =>
      cases vL with
      | nil => simp
      | cons x r => have := hgk 0 (by simp); exact absurd this (by simp [goodB])
    | succ d => exact parts_many hn
  rcases hp with ⟨hk, rfl⟩ | ⟨hk, rfl⟩ | ⟨hk, rfl⟩ | ⟨hk, rfl⟩ | ⟨hk, rfl⟩ | ⟨hk, a, cap, rfl, hc⟩ | ⟨hk, b, ps, rfl, hR, hm, hc⟩ <;> simp only at hk <;> subst hk
  · have e1 : vn = 0 := by omega
    have e2 : vs = [] := by simpa using z2
    have e3 : vK = [] := by simpa using z3
    have e4 : vL = [] := by simpa using z4
    subst e1 e2 e3 e4
    refine (valueOf_nullPart w).mono ?_
    rintro e w' ⟨rfl, hb⟩
    exact ⟨_, _, _, _, _, rfl, [], (VOwn_succ _ _ _ _ _).2 ⟨rfl, rfl, [], [], [], tNil _, kNil _, lNil _ _, rfl, by simp⟩, by simp, hb⟩
  · have e1 : vn = 0 := by omega
    have e2 : vs = [] := by simpa using z2
    have e3 : vK = [] := by simpa using z3
    have e4 : vL = [] := by simpa using z4
    subst e1 e2 e3 e4
    refine (valueOf_unknownPart w).mono ?_
    rintro e w' ⟨rfl, hb⟩
    exact ⟨_, _, _, _, _, rfl, [], (VOwn_succ _ _ _ _ _).2 ⟨rfl, rfl, [], [], [], tNil _, kNil _, lNil _ _, rfl, by simp⟩, by simp, hb⟩
  · have e2 : vs = [] := by simpa using z2
    have e3 : vK = [] := by simpa using z3
    have e4 : vL = [] := by simpa using z4
    subst e2 e3 e4
    refine (valueOf_boolPart vn w).mono ?_
    rintro e w' ⟨rfl, hb⟩
    exact ⟨_, _, _, _, _, rfl, [], (VOwn_succ _ _ _ _ _).2 ⟨rfl, rfl, [], [], [], tNil _, kNil _, lNil _ _, rfl, by simp⟩, by simp, hb⟩
  · have e2 : vs = [] := by simpa using z2
    have e3 : vK = [] := by simpa using z3
    have e4 : vL = [] := by simpa using z4
    subst e2 e3 e4
    refine (valueOf_intPart vn w).mono ?_
    rintro e w' ⟨rfl, hb⟩
    exact ⟨_, _, _, _, _, rfl, [], (VOwn_succ _ _ _ _ _).2 ⟨rfl, rfl, [], [], [], tNil _, kNil _, lNil _ _, rfl, by simp⟩, by simp, hb⟩
  · have e1 : vn = 0 := by omega
    have e3 : vK = [] := by simpa using z3
    have e4 : vL = [] := by simpa using z4
    subst e1 e3 e4
    obtain ⟨hx, hl⟩ := textB_byt (shape_text hsh)
    refine (valueOf_textPart vs hx (by omega) w).mono ?_
    rintro e w' ⟨u, B, rfl, hT, hB, hb⟩
    have hnd : B.Nodup := by
      rcases hT.2 with ⟨_, rfl⟩ | ⟨g, cap, _, rfl⟩ <;> simp
    exact ⟨_, _, _, _, _, rfl, B, (VOwn_succ _ _ _ _ _).2 ⟨rfl, rfl, B, [], [], hT, kNil _, lNil _ _, by simp, hnd⟩, hB, hb⟩
  · have e1 : vn = 0 := by omega
    have e2 : vs = [] := by simpa using z2
    have e3 : vK = [] := by simpa using z3
    subst e1 e2 e3
    refine (valueOf_listPart d ih N a cap vL (deep + 1) w ⟨a, cap, rfl, hc⟩ hN hlen (fun i hi => ⟨hgk i hi, hkid i hi⟩)).mono ?_
    rintro e w' ⟨u, rfl, B, hL, hB, hb⟩
    exact ⟨_, _, _, _, _, rfl, B, (VOwn_succ _ _ _ _ _).2 ⟨rfl, rfl, [], [], B, tNil _, kNil _, hL, by simp, hL.nodup⟩, hB, hb⟩
  · have e1 : vn = 0 := by omega
    have e2 : vs = [] := by simpa using z2
    subst e1 e2
    obtain ⟨hkl, hasc⟩ := shape_mapB hsh
    have hst : ∀ i, i < vL.length → stepB vK i = true := by
      intro i hi
      rw [ascB, List.all_eq_true] at hasc
      exact hasc i (List.mem_range.2 (by omega))
    refine (valueOf_mapPart d ih N b ps vL vK w hR (hm.mono (n' := 128) (by omega)) hkl (step_up hst) (fun i hi => ⟨(step_name (hst i hi)).1, by have := (step_name (hst i hi)).2; omega⟩) hc hN (by omega) (fun i hi => ⟨_, hgk i hi, hkid i hi⟩)).mono ?_
    rintro e w' ⟨uK, uL, rfl, Bk, Bl, hK, hL, hB, hnd, hb⟩
    exact ⟨_, _, _, _, _, rfl, Bk ++ Bl, (VOwn_succ _ _ _ _ _).2 ⟨rfl, rfl, [], Bk, Bl, tNil _, hK, hL, by simp, hnd⟩, hB, hb⟩

theorem valueOf_any (d : Nat) : ValAt d := by
  induction d with
  | zero => intro N p v deep w hp; exact hp.elim
  | succ d ih => exact valueOf_succ d ih
end Go.Proofs.Ytpknhmegoldppaa
/-
  take of the program at every value; partOf, ValOk of the program.
-/
namespace Go.Proofs.Ytpknhmegoldppaa
open Go.RowKit
set_option linter.unusedVariables false
set_option linter.unusedSimpArgs false


/-- take was not good. -/
def NoTake (d : Nat) (v : Vl d) (deep n : Nat) : Prop := ¬ (goodB d v deep = true ∧ n + partsV d v ≤ 40)

/-- What take has done ahead of the kinds. -/
def Ahead (w : World) (q n : Nat) (vk vn : Int) (a2 a3 a4 : Option Addr) (l2 l3 l4 p2 p3 p4 : Nat) (w2 : World) : Prop :=
  w.grownBy w2 (some q) ∧ Cnt w2 q (n + 1) ∧ w2.heap[w.heap.size]? = some (.cells #[.int .i64 vk, .int .i64 vn, .slice a2 l2 p2, .slice a3 l3 p3, .slice a4 l4 p4] 30 (0, 0))

theorem ahead_of {w : World} {q n : Nat} {vk vn : Int} {a2 a3 a4 : Option Addr} {l2 l3 l4 p2 p3 p4 : Nat} {w2 : World} {x : Int} (hx : x = (n : Int) + 1) (hq : q < w.heap.size) (hc : Cnt w q n)
    (hb : Below ((w.setCell ⟨q, 0, none⟩ (.int .i64 x)).alloc (.cells #[.int .i64 vk, .int .i64 vn, .slice a2 l2 p2, .slice a3 l3 p3, .slice a4 l4 p4] 30)).heap.size ((w.setCell ⟨q, 0, none⟩ (.int .i64 x)).alloc (.cells #[.int .i64 vk, .int .i64 vn, .slice a2 l2 p2, .slice a3 l3 p3, .slice a4 l4 p4] 30)) w2) :
    Ahead w q n vk vn a2 a3 a4 l2 l3 l4 p2 p3 p4 w2 := by
  subst hx
  have hg := grown1 w q 0 (.int .i64 ((n : Int) + 1))
  have hcs : Cnt (w.setCell ⟨q, 0, none⟩ (.int .i64 ((n : Int) + 1))) q (n + 1) := hc.set (n + 1)
  have hsz : (w.setCell ⟨q, 0, none⟩ (.int .i64 ((n : Int) + 1))).heap.size = w.heap.size := by simp [World.setCell]
  have hal := World.grownBy_alloc (w.setCell ⟨q, 0, none⟩ (.int .i64 ((n : Int) + 1))) (.cells #[.int .i64 vk, .int .i64 vn, .slice a2 l2 p2, .slice a3 l3 p3, .slice a4 l4 p4] 30) none
  have hb2 := below_grown hb none
  have hnew := (MapKept.heap_alloc (w.setCell ⟨q, 0, none⟩ (.int .i64 ((n : Int) + 1))) (.cells #[.int .i64 vk, .int .i64 vn, .slice a2 l2 p2, .slice a3 l3 p3, .slice a4 l4 p4] 30)).1
  rw [hsz] at hnew
  refine ⟨grownBy_fresh (grownBy_fresh hg hal (by simp)) hb2 (by simp), (hcs.keep hal (by simp)).keep hb2 (by simp), (hb2.block w.heap.size (by simp [hsz]) (by simp)).trans hnew⟩

set_option maxHeartbeats 4000000 in
set_option maxRecDepth 100000 in
theorem take_over (q n : Nat) (vk vn : Int) (a2 a3 a4 : Option Addr) (l2 l3 l4 p2 p3 p4 : Nat) (deep : Nat) (w : World) (hq : q < w.heap.size) (hc : Cnt w q n) (hn : n = 40) :
    Calls Try.prog 53 #[.pointer (some ⟨q, 0, none⟩), .agg #[.int .i64 vk, .int .i64 vn, .slice a2 l2 p2, .slice a3 l3 p3, .slice a4 l4 p4], .int .i64 deep] w fun e w' => w.grownBy w' (some q) ∧ e = .returned (.tuple #[.nilIface, .bool false]) := by
  subst hn
  have HA : Hid (Cnt w q 40) := hc
  obtain ⟨hc0, hf0⟩ := hc.cell
  have hne : q ≠ w.heap.size := by omega
  clear hc
  go_enter Try.func53, Try.ntmps53
  go_wp2
  go_ret2
  exact ⟨(ahead_of (n := 40) rfl hq HA.out (Below.refl _ _)).1, rfl⟩

set_option maxHeartbeats 4000000 in
set_option maxRecDepth 100000 in
theorem take_deep (q n : Nat) (vk vn : Int) (l2 l3 l4 : Nat) (a2 a3 a4 : Option Addr) (p2 p3 p4 : Nat) (deep : Nat) (w : World) (hq : q < w.heap.size) (hc : Cnt w q n) (hn : n < 40) (hd : 5 < deep) :
    Calls Try.prog 53 #[.pointer (some ⟨q, 0, none⟩), .agg #[.int .i64 vk, .int .i64 vn, .slice a2 l2 p2, .slice a3 l3 p3, .slice a4 l4 p4], .int .i64 deep] w fun e w' => Ahead w q n vk vn a2 a3 a4 l2 l3 l4 p2 p3 p4 w' ∧ e = .returned (.tuple #[.nilIface, .bool false]) := by
  have HA : Hid (Cnt w q n) := hc
  obtain ⟨hc0, hf0⟩ := hc.cell
  have hne : q ≠ w.heap.size := by omega
  have hnn : ¬ (40 : Int) < (n : Int) + 1 := by omega
  have hdd : (5 : Int) < (deep : Int) := by omega
  clear hc
  go_enter Try.func53, Try.ntmps53
  go_wp2
  go_ret2
  exact ⟨ahead_of rfl hq HA.out (Below.refl _ _), rfl⟩

set_option maxHeartbeats 4000000 in
set_option maxRecDepth 100000 in
theorem take_bare (q n : Nat) (vk vn : Int) (l2 l3 l4 : Nat) (a2 a3 a4 : Option Addr) (p2 p3 p4 : Nat) (deep : Nat) (w : World) (hq : q < w.heap.size) (hc : Cnt w q n) (hn : n < 40) (hd : deep ≤ 5) (hb : bareB vk vn l2 l3 l4 = false) :
    Calls Try.prog 53 #[.pointer (some ⟨q, 0, none⟩), .agg #[.int .i64 vk, .int .i64 vn, .slice a2 l2 p2, .slice a3 l3 p3, .slice a4 l4 p4], .int .i64 deep] w fun e w' => Ahead w q n vk vn a2 a3 a4 l2 l3 l4 p2 p3 p4 w' ∧ e = .returned (.tuple #[.nilIface, .bool false]) := by
  have HA : Hid (Cnt w q n) := hc
  obtain ⟨hc0, hf0⟩ := hc.cell
  have hne : q ≠ w.heap.size := by omega
  have hnn : ¬ (40 : Int) < (n : Int) + 1 := by omega
  have hdd : ¬ (5 : Int) < (deep : Int) := by omega
  clear hc
  go_enter Try.func53, Try.ntmps53
  go_wp2_with fail
  refine (impl_bare_any _ _ _ _ _ _ _ _ _ _ _ _).mono ?_
  rintro e w2 ⟨rfl, b2⟩
  have hA := ahead_of rfl hq HA.out b2
  rw [hb]
  obtain ⟨y0, y1, y2, y3, y4, _⟩ := row5 hA.2.2
  have HAh := hide' hA
  clear b2 hA
  go_wp2
  go_ret2
  exact ⟨HAh.out, rfl⟩

set_option maxHeartbeats 4000000 in
set_option maxRecDepth 100000 in
theorem take_null (q n : Nat) (a2 a3 a4 : Option Addr) (p2 p3 p4 : Nat) (deep : Nat) (w : World) (hq : q < w.heap.size) (hc : Cnt w q n) (hn : n < 40) (hd : deep ≤ 5) :
    Calls Try.prog 53 #[.pointer (some ⟨q, 0, none⟩), .agg #[.int .i64 0, .int .i64 0, .slice a2 0 p2, .slice a3 0 p3, .slice a4 0 p4], .int .i64 deep] w fun e w' => Ahead w q n 0 0 a2 a3 a4 0 0 0 p2 p3 p4 w' ∧ e = .returned (.tuple #[.iface 105 (.agg #[]), .bool true]) := by
  have HA : Hid (Cnt w q n) := hc
  obtain ⟨hc0, hf0⟩ := hc.cell
  have hne : q ≠ w.heap.size := by omega
  have hnn : ¬ (40 : Int) < (n : Int) + 1 := by omega
  have hdd : ¬ (5 : Int) < (deep : Int) := by omega
  clear hc
  go_enter Try.func53, Try.ntmps53
  go_wp2_with fail
  refine (impl_bare_any _ _ _ _ _ _ _ _ _ _ _ _).mono ?_
  rintro e w2 ⟨rfl, b2⟩
  have hA := ahead_of rfl hq HA.out b2
  rw [show bareB 0 0 0 0 0 = true from by simp [bareB, *]]
  obtain ⟨y0, y1, y2, y3, y4, _⟩ := row5 hA.2.2
  have HAh := hide' hA
  clear b2 hA
  go_wp2
  go_ret2
  exact ⟨HAh.out, rfl⟩

set_option maxHeartbeats 4000000 in
set_option maxRecDepth 100000 in
theorem take_unknown (q n : Nat) (a2 a3 a4 : Option Addr) (p2 p3 p4 : Nat) (deep : Nat) (w : World) (hq : q < w.heap.size) (hc : Cnt w q n) (hn : n < 40) (hd : deep ≤ 5) :
    Calls Try.prog 53 #[.pointer (some ⟨q, 0, none⟩), .agg #[.int .i64 6, .int .i64 0, .slice a2 0 p2, .slice a3 0 p3, .slice a4 0 p4], .int .i64 deep] w fun e w' => Ahead w q n 6 0 a2 a3 a4 0 0 0 p2 p3 p4 w' ∧ e = .returned (.tuple #[.iface 106 (.agg #[]), .bool true]) := by
  have HA : Hid (Cnt w q n) := hc
  obtain ⟨hc0, hf0⟩ := hc.cell
  have hne : q ≠ w.heap.size := by omega
  have hnn : ¬ (40 : Int) < (n : Int) + 1 := by omega
  have hdd : ¬ (5 : Int) < (deep : Int) := by omega
  clear hc
  go_enter Try.func53, Try.ntmps53
  go_wp2_with fail
  refine (impl_bare_any _ _ _ _ _ _ _ _ _ _ _ _).mono ?_
  rintro e w2 ⟨rfl, b2⟩
  have hA := ahead_of rfl hq HA.out b2
  rw [show bareB 6 0 0 0 0 = true from by simp [bareB, *]]
  obtain ⟨y0, y1, y2, y3, y4, _⟩ := row5 hA.2.2
  have HAh := hide' hA
  clear b2 hA
  go_wp2
  go_ret2
  exact ⟨HAh.out, rfl⟩

set_option maxHeartbeats 4000000 in
set_option maxRecDepth 100000 in
theorem take_bool0 (q n : Nat) (a2 a3 a4 : Option Addr) (p2 p3 p4 : Nat) (deep : Nat) (w : World) (hq : q < w.heap.size) (hc : Cnt w q n) (hn : n < 40) (hd : deep ≤ 5) :
    Calls Try.prog 53 #[.pointer (some ⟨q, 0, none⟩), .agg #[.int .i64 1, .int .i64 0, .slice a2 0 p2, .slice a3 0 p3, .slice a4 0 p4], .int .i64 deep] w fun e w' => Ahead w q n 1 0 a2 a3 a4 0 0 0 p2 p3 p4 w' ∧ e = .returned (.tuple #[.iface 88 (.agg #[.int .i64 0]), .bool true]) := by
  have HA : Hid (Cnt w q n) := hc
  obtain ⟨hc0, hf0⟩ := hc.cell
  have hne : q ≠ w.heap.size := by omega
  have hnn : ¬ (40 : Int) < (n : Int) + 1 := by omega
  have hdd : ¬ (5 : Int) < (deep : Int) := by omega
  clear hc
  go_enter Try.func53, Try.ntmps53
  go_wp2_with fail
  refine (impl_bare_any _ _ _ _ _ _ _ _ _ _ _ _).mono ?_
  rintro e w2 ⟨rfl, b2⟩
  have hA := ahead_of rfl hq HA.out b2
  rw [show bareB 1 0 0 0 0 = true from by simp [bareB, *]]
  obtain ⟨y0, y1, y2, y3, y4, _⟩ := row5 hA.2.2
  have HAh := hide' hA
  clear b2 hA
  go_wp2
  go_ret2
  exact ⟨HAh.out, rfl⟩

set_option maxHeartbeats 4000000 in
set_option maxRecDepth 100000 in
theorem take_bool1 (q n : Nat) (a2 a3 a4 : Option Addr) (p2 p3 p4 : Nat) (deep : Nat) (w : World) (hq : q < w.heap.size) (hc : Cnt w q n) (hn : n < 40) (hd : deep ≤ 5) :
    Calls Try.prog 53 #[.pointer (some ⟨q, 0, none⟩), .agg #[.int .i64 1, .int .i64 1, .slice a2 0 p2, .slice a3 0 p3, .slice a4 0 p4], .int .i64 deep] w fun e w' => Ahead w q n 1 1 a2 a3 a4 0 0 0 p2 p3 p4 w' ∧ e = .returned (.tuple #[.iface 88 (.agg #[.int .i64 1]), .bool true]) := by
  have HA : Hid (Cnt w q n) := hc
  obtain ⟨hc0, hf0⟩ := hc.cell
  have hne : q ≠ w.heap.size := by omega
  have hnn : ¬ (40 : Int) < (n : Int) + 1 := by omega
  have hdd : ¬ (5 : Int) < (deep : Int) := by omega
  clear hc
  go_enter Try.func53, Try.ntmps53
  go_wp2_with fail
  refine (impl_bare_any _ _ _ _ _ _ _ _ _ _ _ _).mono ?_
  rintro e w2 ⟨rfl, b2⟩
  have hA := ahead_of rfl hq HA.out b2
  rw [show bareB 1 1 0 0 0 = true from by simp [bareB, *]]
  obtain ⟨y0, y1, y2, y3, y4, _⟩ := row5 hA.2.2
  have HAh := hide' hA
  clear b2 hA
  go_wp2
  go_ret2
  exact ⟨HAh.out, rfl⟩

set_option maxHeartbeats 4000000 in
set_option maxRecDepth 100000 in
theorem take_boolno (q n : Nat) (vn : Int) (v0 : ¬ vn = 0) (v1 : ¬ vn = 1) (a2 a3 a4 : Option Addr) (p2 p3 p4 : Nat) (deep : Nat) (w : World) (hq : q < w.heap.size) (hc : Cnt w q n) (hn : n < 40) (hd : deep ≤ 5) :
    Calls Try.prog 53 #[.pointer (some ⟨q, 0, none⟩), .agg #[.int .i64 1, .int .i64 vn, .slice a2 0 p2, .slice a3 0 p3, .slice a4 0 p4], .int .i64 deep] w fun e w' => Ahead w q n 1 vn a2 a3 a4 0 0 0 p2 p3 p4 w' ∧ e = .returned (.tuple #[.nilIface, .bool false]) := by
  have HA : Hid (Cnt w q n) := hc
  obtain ⟨hc0, hf0⟩ := hc.cell
  have hne : q ≠ w.heap.size := by omega
  have hnn : ¬ (40 : Int) < (n : Int) + 1 := by omega
  have hdd : ¬ (5 : Int) < (deep : Int) := by omega
  have b0 : (vn == 0) = false := by simp [v0]
  have b1 : (vn == 1) = false := by simp [v1]
  clear hc
  go_enter Try.func53, Try.ntmps53
  go_wp2_with fail
  refine (impl_bare_any _ _ _ _ _ _ _ _ _ _ _ _).mono ?_
  rintro e w2 ⟨rfl, b2⟩
  have hA := ahead_of rfl hq HA.out b2
  rw [show bareB 1 vn 0 0 0 = true from by simp [bareB, *]]
  obtain ⟨y0, y1, y2, y3, y4, _⟩ := row5 hA.2.2
  have HAh := hide' hA
  clear b2 hA
  go_wp2
  go_ret2
  exact ⟨HAh.out, rfl⟩

set_option maxHeartbeats 4000000 in
set_option maxRecDepth 100000 in
theorem take_int (q n : Nat) (vn : Int) (v0 : -1000000000000 ≤ vn) (v1 : vn ≤ 1000000000000) (a2 a3 a4 : Option Addr) (p2 p3 p4 : Nat) (deep : Nat) (w : World) (hq : q < w.heap.size) (hc : Cnt w q n) (hn : n < 40) (hd : deep ≤ 5) :
    Calls Try.prog 53 #[.pointer (some ⟨q, 0, none⟩), .agg #[.int .i64 2, .int .i64 vn, .slice a2 0 p2, .slice a3 0 p3, .slice a4 0 p4], .int .i64 deep] w fun e w' => Ahead w q n 2 vn a2 a3 a4 0 0 0 p2 p3 p4 w' ∧ e = .returned (.tuple #[.iface 89 (.agg #[.int .i64 vn]), .bool true]) := by
  have HA : Hid (Cnt w q n) := hc
  obtain ⟨hc0, hf0⟩ := hc.cell
  have hne : q ≠ w.heap.size := by omega
  have hnn : ¬ (40 : Int) < (n : Int) + 1 := by omega
  have hdd : ¬ (5 : Int) < (deep : Int) := by omega
  clear hc
  go_enter Try.func53, Try.ntmps53
  go_wp2_with fail
  refine (impl_bare_any _ _ _ _ _ _ _ _ _ _ _ _).mono ?_
  rintro e w2 ⟨rfl, b2⟩
  have hA := ahead_of rfl hq HA.out b2
  rw [show bareB 2 vn 0 0 0 = true from by simp [bareB, *]]
  obtain ⟨y0, y1, y2, y3, y4, _⟩ := row5 hA.2.2
  have HAh := hide' hA
  clear b2 hA
  go_wp2
  go_ret2
  exact ⟨HAh.out, rfl⟩

set_option maxHeartbeats 4000000 in
set_option maxRecDepth 100000 in
theorem take_intlow (q n : Nat) (vn : Int) (v0 : ¬ -1000000000000 ≤ vn) (a2 a3 a4 : Option Addr) (p2 p3 p4 : Nat) (deep : Nat) (w : World) (hq : q < w.heap.size) (hc : Cnt w q n) (hn : n < 40) (hd : deep ≤ 5) :
    Calls Try.prog 53 #[.pointer (some ⟨q, 0, none⟩), .agg #[.int .i64 2, .int .i64 vn, .slice a2 0 p2, .slice a3 0 p3, .slice a4 0 p4], .int .i64 deep] w fun e w' => Ahead w q n 2 vn a2 a3 a4 0 0 0 p2 p3 p4 w' ∧ e = .returned (.tuple #[.nilIface, .bool false]) := by
  have HA : Hid (Cnt w q n) := hc
  obtain ⟨hc0, hf0⟩ := hc.cell
  have hne : q ≠ w.heap.size := by omega
  have hnn : ¬ (40 : Int) < (n : Int) + 1 := by omega
  have hdd : ¬ (5 : Int) < (deep : Int) := by omega
  clear hc
  go_enter Try.func53, Try.ntmps53
  go_wp2_with fail
  refine (impl_bare_any _ _ _ _ _ _ _ _ _ _ _ _).mono ?_
  rintro e w2 ⟨rfl, b2⟩
  have hA := ahead_of rfl hq HA.out b2
  rw [show bareB 2 vn 0 0 0 = true from by simp [bareB, *]]
  obtain ⟨y0, y1, y2, y3, y4, _⟩ := row5 hA.2.2
  have HAh := hide' hA
  clear b2 hA
  go_wp2
  go_ret2
  exact ⟨HAh.out, rfl⟩

set_option maxHeartbeats 4000000 in
set_option maxRecDepth 100000 in
theorem take_inthigh (q n : Nat) (vn : Int) (v0 : -1000000000000 ≤ vn) (v1 : ¬ vn ≤ 1000000000000) (a2 a3 a4 : Option Addr) (p2 p3 p4 : Nat) (deep : Nat) (w : World) (hq : q < w.heap.size) (hc : Cnt w q n) (hn : n < 40) (hd : deep ≤ 5) :
    Calls Try.prog 53 #[.pointer (some ⟨q, 0, none⟩), .agg #[.int .i64 2, .int .i64 vn, .slice a2 0 p2, .slice a3 0 p3, .slice a4 0 p4], .int .i64 deep] w fun e w' => Ahead w q n 2 vn a2 a3 a4 0 0 0 p2 p3 p4 w' ∧ e = .returned (.tuple #[.nilIface, .bool false]) := by
  have HA : Hid (Cnt w q n) := hc
  obtain ⟨hc0, hf0⟩ := hc.cell
  have hne : q ≠ w.heap.size := by omega
  have hnn : ¬ (40 : Int) < (n : Int) + 1 := by omega
  have hdd : ¬ (5 : Int) < (deep : Int) := by omega
  clear hc
  go_enter Try.func53, Try.ntmps53
  go_wp2_with fail
  refine (impl_bare_any _ _ _ _ _ _ _ _ _ _ _ _).mono ?_
  rintro e w2 ⟨rfl, b2⟩
  have hA := ahead_of rfl hq HA.out b2
  rw [show bareB 2 vn 0 0 0 = true from by simp [bareB, *]]
  obtain ⟨y0, y1, y2, y3, y4, _⟩ := row5 hA.2.2
  have HAh := hide' hA
  clear b2 hA
  go_wp2
  go_ret2
  exact ⟨HAh.out, rfl⟩

set_option maxHeartbeats 4000000 in
set_option maxRecDepth 100000 in
theorem take_none (q n : Nat) (vk : Int) (k0 : ¬ vk = 0) (k1 : ¬ vk = 1) (k2 : ¬ vk = 2) (k3 : ¬ vk = 3) (k4 : ¬ vk = 4) (k5 : ¬ vk = 5) (k6 : ¬ vk = 6) (a2 a3 a4 : Option Addr) (p2 p3 p4 : Nat) (deep : Nat) (w : World) (hq : q < w.heap.size) (hc : Cnt w q n) (hn : n < 40) (hd : deep ≤ 5) :
    Calls Try.prog 53 #[.pointer (some ⟨q, 0, none⟩), .agg #[.int .i64 vk, .int .i64 0, .slice a2 0 p2, .slice a3 0 p3, .slice a4 0 p4], .int .i64 deep] w fun e w' => Ahead w q n vk 0 a2 a3 a4 0 0 0 p2 p3 p4 w' ∧ e = .returned (.tuple #[.nilIface, .bool false]) := by
  have HA : Hid (Cnt w q n) := hc
  obtain ⟨hc0, hf0⟩ := hc.cell
  have hne : q ≠ w.heap.size := by omega
  have hnn : ¬ (40 : Int) < (n : Int) + 1 := by omega
  have hdd : ¬ (5 : Int) < (deep : Int) := by omega
  clear hc
  go_enter Try.func53, Try.ntmps53
  go_wp2_with fail
  refine (impl_bare_any _ _ _ _ _ _ _ _ _ _ _ _).mono ?_
  rintro e w2 ⟨rfl, b2⟩
  have hA := ahead_of rfl hq HA.out b2
  rw [show bareB vk 0 0 0 0 = true from by simp [bareB, *]]
  obtain ⟨y0, y1, y2, y3, y4, _⟩ := row5 hA.2.2
  have HAh := hide' hA
  clear b2 hA
  go_wp2
  go_ret2
  exact ⟨HAh.out, rfl⟩

set_option maxHeartbeats 4000000 in
set_option maxRecDepth 100000 in
theorem take_text (q n : Nat) (N : Nat) (vs : List Int) (hNq : N ≤ q) (a2 a3 a4 : Option Addr) (p2 p3 p4 : Nat) (deep : Nat) (w : World) (hq : q < w.heap.size) (hc : Cnt w q n) (hn : n < 40) (hd : deep ≤ 5) (hs : TSeg (fun b => b < N) w (.slice a2 vs.length p2) vs) (htb : textB vs = true) :
    Calls Try.prog 53 #[.pointer (some ⟨q, 0, none⟩), .agg #[.int .i64 3, .int .i64 0, .slice a2 vs.length p2, .slice a3 0 p3, .slice a4 0 p4], .int .i64 deep] w fun e w' => Ahead w q n 3 0 a2 a3 a4 vs.length 0 0 p2 p3 p4 w' ∧ e = .returned (.tuple #[.iface 91 (.agg #[.string (strOf vs)]), .bool true]) := by
  have HA : Hid (Cnt w q n) := hc
  obtain ⟨hc0, hf0⟩ := hc.cell
  have hne : q ≠ w.heap.size := by omega
  have hnn : ¬ (40 : Int) < (n : Int) + 1 := by omega
  have hdd : ¬ (5 : Int) < (deep : Int) := by omega
  clear hc
  go_enter Try.func53, Try.ntmps53
  go_wp2_with fail
  refine (impl_bare_any _ _ _ _ _ _ _ _ _ _ _ _).mono ?_
  rintro e w2 ⟨rfl, b2⟩
  have hA := ahead_of rfl hq HA.out b2
  rw [show bareB 3 0 vs.length 0 0 = true from by simp [bareB, *]]
  obtain ⟨y0, y1, y2, y3, y4, _⟩ := row5 hA.2.2
  have HAh := hide' hA
  have hS : TSeg (fun b => b < N) w2 (.slice a2 vs.length p2) vs := hs.agree (agree_grown hA.1 hNq hq)
  obtain ⟨a', c', e', s', l', m', _, _⟩ := hS
  simp only [Value.slice.injEq, true_and] at e'
  obtain ⟨rfl, rfl⟩ := e'
  have hcv := conv_seg p2 s'
  have HT := hide' (impl_textOk_any a2 p2 vs w2 s' (by omega))
  rw [htb] at HT
  clear b2 hA s' hs
  go_wp2_with fail
  refine HT.out.mono ?_
  rintro e w3 ⟨rfl, e3⟩
  obtain rfl := e3
  go_wp2
  go_ret2
  exact ⟨HAh.out, rfl⟩

set_option maxHeartbeats 4000000 in
set_option maxRecDepth 100000 in
theorem take_textno (q n : Nat) (N : Nat) (vs : List Int) (hNq : N ≤ q) (a2 a3 a4 : Option Addr) (p2 p3 p4 : Nat) (deep : Nat) (w : World) (hq : q < w.heap.size) (hc : Cnt w q n) (hn : n < 40) (hd : deep ≤ 5) (hs : TSeg (fun b => b < N) w (.slice a2 vs.length p2) vs) (htb : textB vs = false) :
    Calls Try.prog 53 #[.pointer (some ⟨q, 0, none⟩), .agg #[.int .i64 3, .int .i64 0, .slice a2 vs.length p2, .slice a3 0 p3, .slice a4 0 p4], .int .i64 deep] w fun e w' => Ahead w q n 3 0 a2 a3 a4 vs.length 0 0 p2 p3 p4 w' ∧ e = .returned (.tuple #[.nilIface, .bool false]) := by
  have HA : Hid (Cnt w q n) := hc
  obtain ⟨hc0, hf0⟩ := hc.cell
  have hne : q ≠ w.heap.size := by omega
  have hnn : ¬ (40 : Int) < (n : Int) + 1 := by omega
  have hdd : ¬ (5 : Int) < (deep : Int) := by omega
  clear hc
  go_enter Try.func53, Try.ntmps53
  go_wp2_with fail
  refine (impl_bare_any _ _ _ _ _ _ _ _ _ _ _ _).mono ?_
  rintro e w2 ⟨rfl, b2⟩
  have hA := ahead_of rfl hq HA.out b2
  rw [show bareB 3 0 vs.length 0 0 = true from by simp [bareB, *]]
  obtain ⟨y0, y1, y2, y3, y4, _⟩ := row5 hA.2.2
  have HAh := hide' hA
  have hS : TSeg (fun b => b < N) w2 (.slice a2 vs.length p2) vs := hs.agree (agree_grown hA.1 hNq hq)
  obtain ⟨a', c', e', s', l', m', _, _⟩ := hS
  simp only [Value.slice.injEq, true_and] at e'
  obtain ⟨rfl, rfl⟩ := e'
  have hcv := conv_seg p2 s'
  have HT := hide' (impl_textOk_any a2 p2 vs w2 s' (by omega))
  rw [htb] at HT
  clear b2 hA s' hs
  go_wp2_with fail
  refine HT.out.mono ?_
  rintro e w3 ⟨rfl, e3⟩
  obtain rfl := e3
  go_wp2
  go_ret2
  exact ⟨HAh.out, rfl⟩
end Go.Proofs.Ytpknhmegoldppaa
