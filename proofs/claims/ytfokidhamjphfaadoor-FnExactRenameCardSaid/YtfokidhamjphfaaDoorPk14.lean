/-
  Texts that a law leans on, one behind the other; no statement is proved here.
-/
import Derived.Test.YtfokidhamjphfaaDoorPk12
/-
  toValue of the laws at every depth.
-/
namespace Go.Proofs.YtfokidhamjphfaaDoor
open Go.RowKit
set_option linter.unusedVariables false

theorem KOwn.nodup {w : World} {v : Value} {ks : List (List Int)} {B : List Nat} (h : KOwn w v ks B) : B.Nodup := by
  rcases h with ⟨_, _, rfl⟩ | ⟨_, _, _, _, _, _, _, _, _, _, _, _, hn⟩
  · simp
  · exact hn
theorem LOwn.nodup {w : World} {d : Nat} {x : Value} {l : List (Vl d)} {B : List Nat} (h : LOwn w d x l B) : B.Nodup := by
  rcases h with ⟨_, _, rfl⟩ | ⟨_, _, _, _, _, _, _, _, _, _, _, _, hn⟩
  · simp
  · exact hn

set_option maxHeartbeats 3200000 in
theorem toValue_succ (d : Nat) (ih : ToAt d) : ToAt (d + 1) := by
  intro N c v w hv hN hz
  obtain ⟨c0, c1, c2, c3, c4⟩ := c
  obtain ⟨vk, vn, vs, vK, vL⟩ := v
  obtain ⟨e0, e1, ht, hk, hl⟩ := (VSeg_succ _ _ _ _ _).1 hv
  simp only at e0 e1 ht hk hl
  subst e0
  subst e1
  have hsz : szV (d + 1) (vk, vn, vs, vK, vL) = vs.length + szK vK + szL d vL := rfl
  have hzs : vs.length ≤ 1048576 := by omega
  have hzK : szK vK ≤ 1048576 := by omega
  have hzL : szL d vL ≤ 1048576 := by omega
  have hKn : vK.length ≤ 1048576 := by unfold szK at hzK; omega
  have hKe : ∀ t ∈ vK, t.length ≤ 1048576 := by
    intro t ht
    obtain ⟨i, hi, rfl⟩ := List.getElem_of_mem ht
    have h1 := pre_succ List.length vK i hi
    have h2 := pre_le List.length vK (i + 1)
    unfold szK at hzK
    omega
  clear hsz hv hz
  simp only
  have HK : Hid (∀ t ∈ vK, t.length ≤ 1048576) := hKe
  have HI : Hid (ToAt d) := ih
  clear hKe ih
  have hagree : ∀ w' : World, Below w.heap.size w w' → Agree (fun b => b < N) w w' := fun w' h => agree_below (h.mono hN)
  have Hk : Hid (∀ w' : World, Below w.heap.size w w' → KSeg (fun b => b < N) w' c3 vK) := fun w' h => hk.agree (hagree w' h)
  have Hl : Hid (∀ w' : World, Below w.heap.size w w' → LSeg (fun b => b < N) w' d c4 vL) := fun w' h => hl.agree (hagree w' h)
  have Ht : Hid (∀ w' : World, Below w.heap.size w w' → TSeg (fun b => b < N) w' c2 vs) := fun w' h => ht.agree (hagree w' h)
  obtain ⟨a3, cp3, rfl, _, _, _, _⟩ := hk
  obtain ⟨a4, cp4, rfl, _, _, _, _⟩ := hl
  obtain ⟨a2, cp2, rfl, s2, hl2, hm2, _, _⟩ := ht
  clear hagree s2
  have hst0 := st_start w #[.int .i64 vk, .int .i64 vn, .slice a2 vs.length cp2, .slice a3 vK.length cp3, .slice a4 vL.length cp4] vk vn _ _ rfl rfl
  have Hst0 := hst0
  have H0 : Hid (St w #[.int .i64 vk, .int .i64 vn, .slice a2 vs.length cp2, .slice a3 vK.length cp3, .slice a4 vL.length cp4] vk vn (((w.alloc (.cells #[.int .i64 vk, .int .i64 vn, .slice a2 vs.length cp2, .slice a3 vK.length cp3, .slice a4 vL.length cp4] 39)).alloc (.cells #[.int .i64 0, .int .i64 0, .slice none 0 0, .slice none 0 0, .slice none 0 0] 26)).alloc (.cells #[.int .i64 vk, .int .i64 vn, .slice none 0 0, .slice none 0 0, .slice none 0 0] 26)) (.slice none 0 0) (.slice none 0 0) (.slice none 0 0)) := hst0
  clear hst0 Hst0
  go_enter Tryd.func15, Tryd.ntmps15
  go_wp2_with fail
  obtain ⟨a2', cp2', e2, sT, _⟩ := Ht.out _ H0.out.1
  simp only [Value.slice.injEq, true_and] at e2
  obtain ⟨rfl, rfl⟩ := e2
  refine (toByteS_any _ _ vs _ sT (by omega)).mono ?_
  rintro e w1 ⟨rfl, hB1, b1⟩
  have hst1 := st_below H0.out b1
  have hgS : w.heap.size + 3 ≤ (((w.alloc (.cells #[.int .i64 vk, .int .i64 vn, .slice a2 vs.length cp2, .slice a3 vK.length cp3, .slice a4 vL.length cp4] 39)).alloc (.cells #[.int .i64 0, .int .i64 0, .slice none 0 0, .slice none 0 0, .slice none 0 0] 26)).alloc (.cells #[.int .i64 vk, .int .i64 vn, .slice none 0 0, .slice none 0 0, .slice none 0 0] 26)).heap.size := by simp
  have hT1 := tOwn_new hB1
  generalize (((w.alloc (.cells #[.int .i64 vk, .int .i64 vn, .slice a2 vs.length cp2, .slice a3 vK.length cp3, .slice a4 vL.length cp4] 39)).alloc (.cells #[.int .i64 0, .int .i64 0, .slice none 0 0, .slice none 0 0, .slice none 0 0] 26)).alloc (.cells #[.int .i64 vk, .int .i64 vn, .slice none 0 0, .slice none 0 0, .slice none 0 0] 26)).heap.size = gS at *
  have z1 := hst1.2.2.2.2
  have hltS := hT1.lt gS (by simp)
  clear b1 hB1 sT H0
  -- the text is stored
  have hs1 := st_set hst1 2 (.slice (some ⟨gS, 0, none⟩) vs.length vs.length) (.slice (some ⟨gS, 0, none⟩) vs.length vs.length) (.slice none 0 0) (.slice none 0 0) rfl
  have hg1 := grown1 w1 (w.heap.size + 1 + 1) 2 (.slice (some ⟨gS, 0, none⟩) vs.length vs.length)
  have hT1' : TOwn (w1.setCell ⟨w.heap.size + 1 + 1, 2, none⟩ (.slice (some ⟨gS, 0, none⟩) vs.length vs.length)) (.slice (some ⟨gS, 0, none⟩) vs.length vs.length) vs [gS] := hT1.agree fun b hb => hg1.block b (hT1.lt b hb) (by simp at hb ⊢; omega)
  obtain ⟨p0, p1, p2, p3, p4, pf⟩ := row5 hst1.2.2.2.1
  obtain ⟨q0, q1, q2, q3, q4, qf⟩ := row5 hst1.2.1
  have pf2 := pf 2
  have hsz1 : (w1.setCell ⟨w.heap.size + 1 + 1, 2, none⟩ (.slice (some ⟨gS, 0, none⟩) vs.length vs.length)).heap.size = w1.heap.size := by simp [World.setCell]
  have HKc := toByteSS_any N _ vK _ (Hk.out _ hs1.1) (by rw [hsz1]; omega) hKn HK.out
  have HKc' := hide' HKc
  have Hs1 := hide' hs1
  have HT1 := hide' hT1'
  clear hs1 hT1' HKc pf qf hg1 hT1 hst1
  go_wp2_with fail
  refine HKc'.out.mono ?_
  rintro e w2 ⟨uK, rfl, BK, hK2, hBK, b2⟩
  have hst2 := st_below Hs1.out b2
  have hTS2 : TOwn w2 (.slice (some ⟨gS, 0, none⟩) vs.length vs.length) vs [gS] := HT1.out.agree fun b hb => b2.block b (HT1.out.lt b hb)
  have hKform : ∃ (a : Option Addr) (n p : Nat), uK = .slice a n p := by
    rcases hK2 with ⟨h1, _⟩ | ⟨g, cap, cur, Bs, h1, _⟩
    · exact ⟨_, _, _, h1⟩
    · exact ⟨_, _, _, h1⟩
  obtain ⟨aK, nK, pK, rfl⟩ := hKform
  rw [hsz1] at hBK
  clear HKc' Hs1 HT1 b2 p0 p1 p2 p3 p4 q0 q1 q2 q3 q4 pf2
  -- the list of texts is stored
  have hs2 := st_set hst2 3 (.slice aK nK pK) (.slice (some ⟨gS, 0, none⟩) vs.length vs.length) (.slice aK nK pK) (.slice none 0 0) rfl
  have hg2 := grown1 w2 (w.heap.size + 1 + 1) 3 (.slice aK nK pK)
  have hTS2' : TOwn (w2.setCell ⟨w.heap.size + 1 + 1, 3, none⟩ (.slice aK nK pK)) (.slice (some ⟨gS, 0, none⟩) vs.length vs.length) vs [gS] := hTS2.agree fun b hb => hg2.block b (hTS2.lt b hb) (by simp at hb ⊢; omega)
  have hK2' : KOwn (w2.setCell ⟨w.heap.size + 1 + 1, 3, none⟩ (.slice aK nK pK)) (.slice aK nK pK) vK BK := hK2.agree fun b hb => hg2.block b (hK2.lt b hb) (by have := hBK b hb; simp; omega)
  obtain ⟨p0, p1, p2, p3, p4, pf⟩ := row5 hst2.2.2.2.1
  obtain ⟨q0, q1, q2, q3, q4, qf⟩ := row5 hst2.2.1
  have pf3 := pf 3
  have z2 := hst2.2.2.2.2
  have hsz2 : (w2.setCell ⟨w.heap.size + 1 + 1, 3, none⟩ (.slice aK nK pK)).heap.size = w2.heap.size := by simp [World.setCell]
  have HLc := toValueS_of d HI.out N _ vL _ (Hl.out _ hs2.1) (by rw [hsz2]; omega) hzL
  have HLc' := hide' HLc
  have Hs2 := hide' hs2
  have HT2 := hide' hTS2'
  have HK2 := hide' hK2'
  have hltS2 := hTS2.lt gS (by simp)
  clear hs2 hTS2' hK2' HLc pf qf hg2 hTS2 hK2 hst2
  go_wp2_with fail
  refine HLc'.out.mono ?_
  rintro e w3 ⟨uL, rfl, BL, hL3, hBL, b3⟩
  have hst3 := st_below Hs2.out b3
  have hTS3 : TOwn w3 (.slice (some ⟨gS, 0, none⟩) vs.length vs.length) vs [gS] := HT2.out.agree fun b hb => b3.block b (HT2.out.lt b hb)
  have hK3 : KOwn w3 (.slice aK nK pK) vK BK := HK2.out.agree fun b hb => b3.block b (HK2.out.lt b hb)
  have hLform : ∃ (a : Option Addr) (n p : Nat), uL = .slice a n p := by
    rcases hL3 with ⟨h1, _⟩ | ⟨g, cap, cur, Bs, h1, _⟩
    · exact ⟨_, _, _, h1⟩
    · exact ⟨_, _, _, h1⟩
  obtain ⟨aL, nL, pL, rfl⟩ := hLform
  have z23 := b3.size
  rw [hsz2] at hBL z23
  clear HLc' Hs2 HT2 HK2 b3 p0 p1 p2 p3 p4 q0 q1 q2 q3 q4 pf3
  obtain ⟨p0, p1, p2, p3, p4, pf⟩ := row5 hst3.2.2.2.1
  obtain ⟨r0, r1, r2, r3, r4, rf⟩ := row5 hst3.2.2.1
  have pf4 := pf 4
  have rf0 := rf 0
  have rf1 := rf 1
  have rf2 := rf 2
  have rf3 := rf 3
  have rf4 := rf 4
  have z3 := hst3.2.2.2.2
  have B3 := hst3.1
  have hrow : (set5 (w3.setCell ⟨w.heap.size + 1 + 1, 4, none⟩ (.slice aL nL pL)) (w.heap.size + 1) 0 (.int .i64 vk) (.int .i64 vn) (.slice (some ⟨gS, 0, none⟩) vs.length vs.length) (.slice aK nK pK) (.slice aL nL pL)).heap[w.heap.size + 1]? = some (.cells #[.int .i64 vk, .int .i64 vn, .slice (some ⟨gS, 0, none⟩) vs.length vs.length, .slice aK nK pK, .slice aL nL pL] 26 (0, 0)) :=
    set5_heap _ _ _ _ _ ((Below.heap_setCell w3 _ _ _ (by show w.heap.size + 1 ≠ w.heap.size + 1 + 1; omega)).trans hst3.2.2.1)
  have hk5 := row5 hrow
  simp only [set5, Nat.zero_add] at hk5
  have Hk5 := hide' hk5
  clear hrow hk5
  have hltS3 := hTS3.lt gS (by simp)
  have HT3 := hide' hTS3
  have HK3 := hide' hK3
  have HL3 := hide' hL3
  clear hTS3 hK3 hL3 hst3 pf rf
  go_wp2_with fail
  obtain ⟨y0, y1, y2, y3, y4, _⟩ := Hk5.out
  refine bodyPost_ret (v := .agg #[.int .i64 vk, .int .i64 vn, .slice (some ⟨gS, 0, none⟩) vs.length vs.length, .slice aK nK pK, .slice aL nL pL]) (by simp [results, Tryd.results15, go_sem, y0, y1, y2, y3, y4]) rfl ?_
  have hA := grown1 w3 (w.heap.size + 1 + 1) 4 (.slice aL nL pL)
  have hsz3 : (w3.setCell ⟨w.heap.size + 1 + 1, 4, none⟩ (.slice aL nL pL)).heap.size = w3.heap.size := by simp [World.setCell]
  have hB5 := set5_grown (w3.setCell ⟨w.heap.size + 1 + 1, 4, none⟩ (.slice aL nL pL)) (w.heap.size + 1) 0 (.int .i64 vk) (.int .i64 vn) (.slice (some ⟨gS, 0, none⟩) vs.length vs.length) (.slice aK nK pK) (.slice aL nL pL)
  have hsz4 := set5_size (w3.setCell ⟨w.heap.size + 1 + 1, 4, none⟩ (.slice aL nL pL)) (w.heap.size + 1) 0 (.int .i64 vk) (.int .i64 vn) (.slice (some ⟨gS, 0, none⟩) vs.length vs.length) (.slice aK nK pK) (.slice aL nL pL)
  have hb : ∀ b, w.heap.size + 3 ≤ b → b < w3.heap.size → (set5 (w3.setCell ⟨w.heap.size + 1 + 1, 4, none⟩ (.slice aL nL pL)) (w.heap.size + 1) 0 (.int .i64 vk) (.int .i64 vn) (.slice (some ⟨gS, 0, none⟩) vs.length vs.length) (.slice aK nK pK) (.slice aL nL pL)).heap[b]? = w3.heap[b]? := by
    intro b h1 h2
    rw [hB5.block b (by omega) (by simp; omega)]
    exact hA.block b h2 (by simp; omega)
  have hBf : Below w.heap.size w (set5 (w3.setCell ⟨w.heap.size + 1 + 1, 4, none⟩ (.slice aL nL pL)) (w.heap.size + 1) 0 (.int .i64 vk) (.int .i64 vn) (.slice (some ⟨gS, 0, none⟩) vs.length vs.length) (.slice aK nK pK) (.slice aL nL pL)) :=
    (B3.grown hA B3.size (by intro j hj; simp at hj; omega)).grown hB5 (by omega) (by intro j hj; simp at hj; omega)
  have hTf := HT3.out.agree (w' := set5 (w3.setCell ⟨w.heap.size + 1 + 1, 4, none⟩ (.slice aL nL pL)) (w.heap.size + 1) 0 (.int .i64 vk) (.int .i64 vn) (.slice (some ⟨gS, 0, none⟩) vs.length vs.length) (.slice aK nK pK) (.slice aL nL pL)) fun b h => hb b (by simp at h; omega) (by simp at h; omega)
  have hKf := HK3.out.agree (w' := set5 (w3.setCell ⟨w.heap.size + 1 + 1, 4, none⟩ (.slice aL nL pL)) (w.heap.size + 1) 0 (.int .i64 vk) (.int .i64 vn) (.slice (some ⟨gS, 0, none⟩) vs.length vs.length) (.slice aK nK pK) (.slice aL nL pL)) fun b h => hb b (by have := hBK b h; omega) (by have := hBK b h; omega)
  have hLf := HL3.out.agree (w' := set5 (w3.setCell ⟨w.heap.size + 1 + 1, 4, none⟩ (.slice aL nL pL)) (w.heap.size + 1) 0 (.int .i64 vk) (.int .i64 vn) (.slice (some ⟨gS, 0, none⟩) vs.length vs.length) (.slice aK nK pK) (.slice aL nL pL)) fun b h => hb b (by have := hBL b h; omega) (by have := hBL b h; omega)
  refine ⟨_, _, _, _, _, rfl, [gS] ++ (BK ++ BL), (VOwn_succ _ _ _ _ _).2 ⟨rfl, rfl, [gS], BK, BL, hTf, hKf, hLf, rfl, ?_⟩, ?_, hBf⟩
  · rw [List.nodup_append, List.nodup_append]
    refine ⟨by simp, ⟨HK3.out.nodup, HL3.out.nodup, fun b h1 c h2 => ?_⟩, fun b h1 c h2 => ?_⟩
    · have := hBK b h1
      have := hBL c h2
      omega
    · simp at h1
      rcases List.mem_append.1 h2 with h3 | h3
      · have := hBK c h3; omega
      · have := hBL c h3; omega
  · intro b hbm
    show w.heap.size ≤ b ∧ b < (set5 (w3.setCell ⟨w.heap.size + 1 + 1, 4, none⟩ (.slice aL nL pL)) (w.heap.size + 1) 0 (.int .i64 vk) (.int .i64 vn) (.slice (some ⟨gS, 0, none⟩) vs.length vs.length) (.slice aK nK pK) (.slice aL nL pL)).heap.size
    rw [hsz4, hsz3]
    rcases List.mem_append.1 hbm with h3 | h3
    · simp at h3; omega
    · rcases List.mem_append.1 h3 with h4 | h4
      · have := hBK b h4; omega
      · have := hBL b h4; omega

theorem toValue_any (d : Nat) : ToAt d := by
  induction d with
  | zero => intro N c v w hv; exact hv.elim
  | succ d ih => exact toValue_succ d ih
end Go.Proofs.YtfokidhamjphfaaDoor
