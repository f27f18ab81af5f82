/-
  Texts that a law leans on, one behind the other; no statement is proved here.
-/
import Derived.Test.YtcgmfmdoconecaaDoorPk2
import Derived.Deep.RegionWith
import Derived.Test.YtcgmfmdoconecaaDoorPk1
/-
  toValue of the laws at every depth.
-/
namespace Go.Proofs.YtcgmfmdoconecaaDoor
open Go.RowKit
set_option linter.unusedVariables false

theorem KOwn.nodup {w : World} {v : Value} {ks : List (List Int)} {B : List Nat} (h : KOwn w v ks B) : B.Nodup := by
  rcases h with ⟨_, _, rfl⟩ | ⟨_, _, _, _, _, _, _, _, _, _, _, _, hn⟩
  · simp
  · exact hn
theorem LOwn.nodup {w : World} {d : Nat} {x : Value} {l : List (Vl d)} {B : List Nat} (h : LOwn w d x l B) : B.Nodup := by
  rcases h with ⟨_, _, rfl⟩ | ⟨_, _, _, _, _, _, _, _, _, _, _, _, hn⟩
  · simp
  · exact hn

set_option maxHeartbeats 3200000 in
theorem toValue_succ (d : Nat) (ih : ToAt d) : ToAt (d + 1) := by
  intro N c v w hv hN hz
  obtain ⟨c0, c1, c2, c3, c4⟩ := c
  obtain ⟨vk, vn, vs, vK, vL⟩ := v
  obtain ⟨e0, e1, ht, hk, hl⟩ := (VSeg_succ _ _ _ _ _).1 hv
  simp only at e0 e1 ht hk hl
  subst e0
  subst e1
  have hsz : szV (d + 1) (vk, vn, vs, vK, vL) = vs.length + szK vK + szL d vL := rfl
  have hzs : vs.length ≤ 1048576 := by omega
  have hzK : szK vK ≤ 1048576 := by omega
  have hzL : szL d vL ≤ 1048576 := by omega
  have hKn : vK.length ≤ 1048576 := by unfold szK at hzK; omega
  have hKe : ∀ t ∈ vK, t.length ≤ 1048576 := by
    intro t ht
    obtain ⟨i, hi, rfl⟩ := List.getElem_of_mem ht
    have h1 := pre_succ List.length vK i hi
    have h2 := pre_le List.length vK (i + 1)
    unfold szK at hzK
    omega
  clear hsz hv hz
  simp only
  have HK : Hid (∀ t ∈ vK, t.length ≤ 1048576) := hKe
  have HI : Hid (ToAt d) := ih
  clear hKe ih
  have hagree : ∀ w' : World, Below w.heap.size w w' → Agree (fun b => b < N) w w' := fun w' h => agree_below (h.mono hN)
  have Hk : Hid (∀ w' : World, Below w.heap.size w w' → KSeg (fun b => b < N) w' c3 vK) := fun w' h => hk.agree (hagree w' h)
  have Hl : Hid (∀ w' : World, Below w.heap.size w w' → LSeg (fun b => b < N) w' d c4 vL) := fun w' h => hl.agree (hagree w' h)
  have Ht : Hid (∀ w' : World, Below w.heap.size w w' → TSeg (fun b => b < N) w' c2 vs) := fun w' h => ht.agree (hagree w' h)
  obtain ⟨a3, cp3, rfl, _, _, _, _⟩ := hk
  obtain ⟨a4, cp4, rfl, _, _, _, _⟩ := hl
  obtain ⟨a2, cp2, rfl, s2, hl2, hm2, _, _⟩ := ht
  clear hagree s2
  have hst0 := st_start w #[.int .i64 vk, .int .i64 vn, .slice a2 vs.length cp2, .slice a3 vK.length cp3, .slice a4 vL.length cp4] vk vn _ _ rfl rfl
  have Hst0 := hst0
  have H0 : Hid (St w #[.int .i64 vk, .int .i64 vn, .slice a2 vs.length cp2, .slice a3 vK.length cp3, .slice a4 vL.length cp4] vk vn (((w.alloc (.cells #[.int .i64 vk, .int .i64 vn, .slice a2 vs.length cp2, .slice a3 vK.length cp3, .slice a4 vL.length cp4] 26)).alloc (.cells #[.int .i64 0, .int .i64 0, .slice none 0 0, .slice none 0 0, .slice none 0 0] 31)).alloc (.cells #[.int .i64 vk, .int .i64 vn, .slice none 0 0, .slice none 0 0, .slice none 0 0] 31)) (.slice none 0 0) (.slice none 0 0) (.slice none 0 0)) := hst0
  clear hst0 Hst0
  go_enter Tryd.func7, Tryd.ntmps7
  go_wp2_with fail
  obtain ⟨a2', cp2', e2, sT, _⟩ := Ht.out _ H0.out.1
  simp only [Value.slice.injEq, true_and] at e2
  obtain ⟨rfl, rfl⟩ := e2
  refine (toByteS_any _ _ vs _ sT (by omega)).mono ?_
  rintro e w1 ⟨rfl, hB1, b1⟩
  have hst1 := st_below H0.out b1
  have hgS : w.heap.size + 3 ≤ (((w.alloc (.cells #[.int .i64 vk, .int .i64 vn, .slice a2 vs.length cp2, .slice a3 vK.length cp3, .slice a4 vL.length cp4] 26)).alloc (.cells #[.int .i64 0, .int .i64 0, .slice none 0 0, .slice none 0 0, .slice none 0 0] 31)).alloc (.cells #[.int .i64 vk, .int .i64 vn, .slice none 0 0, .slice none 0 0, .slice none 0 0] 31)).heap.size := by simp
  have hT1 := tOwn_new hB1
  generalize (((w.alloc (.cells #[.int .i64 vk, .int .i64 vn, .slice a2 vs.length cp2, .slice a3 vK.length cp3, .slice a4 vL.length cp4] 26)).alloc (.cells #[.int .i64 0, .int .i64 0, .slice none 0 0, .slice none 0 0, .slice none 0 0] 31)).alloc (.cells #[.int .i64 vk, .int .i64 vn, .slice none 0 0, .slice none 0 0, .slice none 0 0] 31)).heap.size = gS at *
  have z1 := hst1.2.2.2.2
  have hltS := hT1.lt gS (by simp)
  clear b1 hB1 sT H0
  -- the text is stored
  have hs1 := st_set hst1 2 (.slice (some ⟨gS, 0, none⟩) vs.length vs.length) (.slice (some ⟨gS, 0, none⟩) vs.length vs.length) (.slice none 0 0) (.slice none 0 0) rfl
  have hg1 := grown1 w1 (w.heap.size + 1 + 1) 2 (.slice (some ⟨gS, 0, none⟩) vs.length vs.length)
  have hT1' : TOwn (w1.setCell ⟨w.heap.size + 1 + 1, 2, none⟩ (.slice (some ⟨gS, 0, none⟩) vs.length vs.length)) (.slice (some ⟨gS, 0, none⟩) vs.length vs.length) vs [gS] := hT1.agree fun b hb => hg1.block b (hT1.lt b hb) (by simp at hb ⊢; omega)
  obtain ⟨p0, p1, p2, p3, p4, pf⟩ := row5 hst1.2.2.2.1
  obtain ⟨q0, q1, q2, q3, q4, qf⟩ := row5 hst1.2.1
  have pf2 := pf 2
  have hsz1 : (w1.setCell ⟨w.heap.size + 1 + 1, 2, none⟩ (.slice (some ⟨gS, 0, none⟩) vs.length vs.length)).heap.size = w1.heap.size := by simp [World.setCell]
  have HKc := toByteSS_any N _ vK _ (Hk.out _ hs1.1) (by rw [hsz1]; omega) hKn HK.out
  have HKc' := hide' HKc
  have Hs1 := hide' hs1
  have HT1 := hide' hT1'
  clear hs1 hT1' HKc pf qf hg1 hT1 hst1
  go_wp2_with fail
  refine HKc'.out.mono ?_
  rintro e w2 ⟨uK, rfl, BK, hK2, hBK, b2⟩
  have hst2 := st_below Hs1.out b2
  have hTS2 : TOwn w2 (.slice (some ⟨gS, 0, none⟩) vs.length vs.length) vs [gS] := HT1.out.agree fun b hb => b2.block b (HT1.out.lt b hb)
  have hKform : ∃ (a : Option Addr) (n p : Nat), uK = .slice a n p := by
    rcases hK2 with ⟨h1, _⟩ | ⟨g, cap, cur, Bs, h1, _⟩
    · exact ⟨_, _, _, h1⟩
    · exact ⟨_, _, _, h1⟩
  obtain ⟨aK, nK, pK, rfl⟩ := hKform
  rw [hsz1] at hBK
  clear HKc' Hs1 HT1 b2 p0 p1 p2 p3 p4 q0 q1 q2 q3 q4 pf2
  -- the list of texts is stored
  have hs2 := st_set hst2 3 (.slice aK nK pK) (.slice (some ⟨gS, 0, none⟩) vs.length vs.length) (.slice aK nK pK) (.slice none 0 0) rfl
  have hg2 := grown1 w2 (w.heap.size + 1 + 1) 3 (.slice aK nK pK)
  have hTS2' : TOwn (w2.setCell ⟨w.heap.size + 1 + 1, 3, none⟩ (.slice aK nK pK)) (.slice (some ⟨gS, 0, none⟩) vs.length vs.length) vs [gS] := hTS2.agree fun b hb => hg2.block b (hTS2.lt b hb) (by simp at hb ⊢; omega)
  have hK2' : KOwn (w2.setCell ⟨w.heap.size + 1 + 1, 3, none⟩ (.slice aK nK pK)) (.slice aK nK pK) vK BK := hK2.agree fun b hb => hg2.block b (hK2.lt b hb) (by have := hBK b hb; simp; omega)
  obtain ⟨p0, p1, p2, p3, p4, pf⟩ := row5 hst2.2.2.2.1
  obtain ⟨q0, q1, q2, q3, q4, qf⟩ := row5 hst2.2.1
  have pf3 := pf 3
  have z2 := hst2.2.2.2.2
  have hsz2 : (w2.setCell ⟨w.heap.size + 1 + 1, 3, none⟩ (.slice aK nK pK)).heap.size = w2.heap.size := by simp [World.setCell]
  have HLc := toValueS_of d HI.out N _ vL _ (Hl.out _ hs2.1) (by rw [hsz2]; omega) hzL
  have HLc' := hide' HLc
  have Hs2 := hide' hs2
  have HT2 := hide' hTS2'
  have HK2 := hide' hK2'
  have hltS2 := hTS2.lt gS (by simp)
  clear hs2 hTS2' hK2' HLc pf qf hg2 hTS2 hK2 hst2
  go_wp2_with fail
  refine HLc'.out.mono ?_
  rintro e w3 ⟨uL, rfl, BL, hL3, hBL, b3⟩
  have hst3 := st_below Hs2.out b3
  have hTS3 : TOwn w3 (.slice (some ⟨gS, 0, none⟩) vs.length vs.length) vs [gS] := HT2.out.agree fun b hb => b3.block b (HT2.out.lt b hb)
  have hK3 : KOwn w3 (.slice aK nK pK) vK BK := HK2.out.agree fun b hb => b3.block b (HK2.out.lt b hb)
  have hLform : ∃ (a : Option Addr) (n p : Nat), uL = .slice a n p := by
    rcases hL3 with ⟨h1, _⟩ | ⟨g, cap, cur, Bs, h1, _⟩
    · exact ⟨_, _, _, h1⟩
    · exact ⟨_, _, _, h1⟩
  obtain ⟨aL, nL, pL, rfl⟩ := hLform
  have z23 := b3.size
  rw [hsz2] at hBL z23
  clear HLc' Hs2 HT2 HK2 b3 p0 p1 p2 p3 p4 q0 q1 q2 q3 q4 pf3
  obtain ⟨p0, p1, p2, p3, p4, pf⟩ := row5 hst3.2.2.2.1
  obtain ⟨r0, r1, r2, r3, r4, rf⟩ := row5 hst3.2.2.1
  have pf4 := pf 4
  have rf0 := rf 0
  have rf1 := rf 1
  have rf2 := rf 2
  have rf3 := rf 3
  have rf4 := rf 4
  have z3 := hst3.2.2.2.2
  have B3 := hst3.1
  have hrow : (set5 (w3.setCell ⟨w.heap.size + 1 + 1, 4, none⟩ (.slice aL nL pL)) (w.heap.size + 1) 0 (.int .i64 vk) (.int .i64 vn) (.slice (some ⟨gS, 0, none⟩) vs.length vs.length) (.slice aK nK pK) (.slice aL nL pL)).heap[w.heap.size + 1]? = some (.cells #[.int .i64 vk, .int .i64 vn, .slice (some ⟨gS, 0, none⟩) vs.length vs.length, .slice aK nK pK, .slice aL nL pL] 31 (0, 0)) :=
    set5_heap _ _ _ _ _ ((Below.heap_setCell w3 _ _ _ (by show w.heap.size + 1 ≠ w.heap.size + 1 + 1; omega)).trans hst3.2.2.1)
  have hk5 := row5 hrow
  simp only [set5, Nat.zero_add] at hk5
  have Hk5 := hide' hk5
  clear hrow hk5
  have hltS3 := hTS3.lt gS (by simp)
  have HT3 := hide' hTS3
  have HK3 := hide' hK3
  have HL3 := hide' hL3
  clear hTS3 hK3 hL3 hst3 pf rf
  go_wp2_with fail
  obtain ⟨y0, y1, y2, y3, y4, _⟩ := Hk5.out
  refine bodyPost_ret (v := .agg #[.int .i64 vk, .int .i64 vn, .slice (some ⟨gS, 0, none⟩) vs.length vs.length, .slice aK nK pK, .slice aL nL pL]) (by simp [results, Tryd.results7, go_sem, y0, y1, y2, y3, y4]) rfl ?_
  have hA := grown1 w3 (w.heap.size + 1 + 1) 4 (.slice aL nL pL)
  have hsz3 : (w3.setCell ⟨w.heap.size + 1 + 1, 4, none⟩ (.slice aL nL pL)).heap.size = w3.heap.size := by simp [World.setCell]
  have hB5 := set5_grown (w3.setCell ⟨w.heap.size + 1 + 1, 4, none⟩ (.slice aL nL pL)) (w.heap.size + 1) 0 (.int .i64 vk) (.int .i64 vn) (.slice (some ⟨gS, 0, none⟩) vs.length vs.length) (.slice aK nK pK) (.slice aL nL pL)
  have hsz4 := set5_size (w3.setCell ⟨w.heap.size + 1 + 1, 4, none⟩ (.slice aL nL pL)) (w.heap.size + 1) 0 (.int .i64 vk) (.int .i64 vn) (.slice (some ⟨gS, 0, none⟩) vs.length vs.length) (.slice aK nK pK) (.slice aL nL pL)
  have hb : ∀ b, w.heap.size + 3 ≤ b → b < w3.heap.size → (set5 (w3.setCell ⟨w.heap.size + 1 + 1, 4, none⟩ (.slice aL nL pL)) (w.heap.size + 1) 0 (.int .i64 vk) (.int .i64 vn) (.slice (some ⟨gS, 0, none⟩) vs.length vs.length) (.slice aK nK pK) (.slice aL nL pL)).heap[b]? = w3.heap[b]? := by
    intro b h1 h2
    rw [hB5.block b (by omega) (by simp; omega)]
    exact hA.block b h2 (by simp; omega)
  have hBf : Below w.heap.size w (set5 (w3.setCell ⟨w.heap.size + 1 + 1, 4, none⟩ (.slice aL nL pL)) (w.heap.size + 1) 0 (.int .i64 vk) (.int .i64 vn) (.slice (some ⟨gS, 0, none⟩) vs.length vs.length) (.slice aK nK pK) (.slice aL nL pL)) :=
    (B3.grown hA B3.size (by intro j hj; simp at hj; omega)).grown hB5 (by omega) (by intro j hj; simp at hj; omega)
  have hTf := HT3.out.agree (w' := set5 (w3.setCell ⟨w.heap.size + 1 + 1, 4, none⟩ (.slice aL nL pL)) (w.heap.size + 1) 0 (.int .i64 vk) (.int .i64 vn) (.slice (some ⟨gS, 0, none⟩) vs.length vs.length) (.slice aK nK pK) (.slice aL nL pL)) fun b h => hb b (by simp at h; omega) (by simp at h; omega)
  have hKf := HK3.out.agree (w' := set5 (w3.setCell ⟨w.heap.size + 1 + 1, 4, none⟩ (.slice aL nL pL)) (w.heap.size + 1) 0 (.int .i64 vk) (.int .i64 vn) (.slice (some ⟨gS, 0, none⟩) vs.length vs.length) (.slice aK nK pK) (.slice aL nL pL)) fun b h => hb b (by have := hBK b h; omega) (by have := hBK b h; omega)
  have hLf := HL3.out.agree (w' := set5 (w3.setCell ⟨w.heap.size + 1 + 1, 4, none⟩ (.slice aL nL pL)) (w.heap.size + 1) 0 (.int .i64 vk) (.int .i64 vn) (.slice (some ⟨gS, 0, none⟩) vs.length vs.length) (.slice aK nK pK) (.slice aL nL pL)) fun b h => hb b (by have := hBL b h; omega) (by have := hBL b h; omega)
  refine ⟨_, _, _, _, _, rfl, [gS] ++ (BK ++ BL), (VOwn_succ _ _ _ _ _).2 ⟨rfl, rfl, [gS], BK, BL, hTf, hKf, hLf, rfl, ?_⟩, ?_, hBf⟩
  · rw [List.nodup_append, List.nodup_append]
    refine ⟨by simp, ⟨HK3.out.nodup, HL3.out.nodup, fun b h1 c h2 => ?_⟩, fun b h1 c h2 => ?_⟩
    · have := hBK b h1
      have := hBL c h2
      omega
    · simp at h1
      rcases List.mem_append.1 h2 with h3 | h3
      · have := hBK c h3; omega
      · have := hBL c h3; omega
  · intro b hbm
    show w.heap.size ≤ b ∧ b < (set5 (w3.setCell ⟨w.heap.size + 1 + 1, 4, none⟩ (.slice aL nL pL)) (w.heap.size + 1) 0 (.int .i64 vk) (.int .i64 vn) (.slice (some ⟨gS, 0, none⟩) vs.length vs.length) (.slice aK nK pK) (.slice aL nL pL)).heap.size
    rw [hsz4, hsz3]
    rcases List.mem_append.1 hbm with h3 | h3
    · simp at h3; omega
    · rcases List.mem_append.1 h3 with h4 | h4
      · have := hBK b h4; omega
      · have := hBL b h4; omega

theorem toValue_any (d : Nat) : ToAt d := by
  induction d with
  | zero => intro N c v w hv; exact hv.elim
  | succ d ih => exact toValue_succ d ih
end Go.Proofs.YtcgmfmdoconecaaDoor
/-
  eqByteSS, eqValueS, eqValue of the laws: of two readings of the same they answer true, and turn nothing old.
-/
namespace Go.Proofs.YtcgmfmdoconecaaDoor
open Go.RowKit
set_option linter.unusedVariables false

set_option maxHeartbeats 1600000 in
theorem eqByteSS_same (N : Nat) (x y : Value) (ks : List (List Int)) (w : World) (hx : KSeg (fun b => b < N) w x ks) (hy : KSeg (fun b => b < N) w y ks) (hN : N ≤ w.heap.size) (hz : szK ks ≤ 1048576) :
    Calls Tryd.prog 9 #[x, y] w fun e w' => e = .returned (.bool true) ∧ Below w.heap.size w w' := by
  obtain ⟨a, cap, rfl, hlc, hcm, ka, hc⟩ := hx
  obtain ⟨a', cap', rfl, hlc', hcm', ka', hc'⟩ := hy
  have hn : ks.length ≤ 1048576 := by unfold szK at hz; omega
  have hel : ∀ k, k < ks.length → (ks.getD k []).length ≤ 1048576 := by
    intro k hk
    have h1 := pre_succ List.length ks k hk
    have h2 := pre_le List.length ks (k + 1)
    have h3 : ks.getD k [] = ks[k] := by simp [List.getD_eq_getElem?_getD, hk]
    rw [h3]
    unfold szK at hz
    omega
  have HE := hide' hel
  have HC : Hid (ks = [] ∨ ∃ b off, a = some ⟨b, off, none⟩ ∧ b < N ∧ ∀ i, i < ks.length → ∃ u, w.cell? ⟨b, off + i, none⟩ = some u ∧ TSeg (fun b => b < N) w u (ks.getD i [])) := hc
  have HC' : Hid (ks = [] ∨ ∃ b off, a' = some ⟨b, off, none⟩ ∧ b < N ∧ ∀ i, i < ks.length → ∃ u, w.cell? ⟨b, off + i, none⟩ = some u ∧ TSeg (fun b => b < N) w u (ks.getD i [])) := hc'
  clear hc hc' hel hz
  unfold maxLen at hcm hcm'
  go_enter Tryd.func9, Tryd.ntmps9
  go_wp2
  go_loopw [5] (fun i wr => ∃ k : Nat, k ≤ ks.length ∧ i = .int .i64 k ∧ Below w.heap.size w wr) (fun i _ => ks.length - (intOf i).toNat)
  case atStart => exact ⟨0, Nat.zero_le _, rfl, Below.refl _ _⟩
  case round =>
    obtain ⟨k, hk, rfl, hbel⟩ := hrel
    have hsz2 := hbel.size
    by_cases hlt : k < ks.length
    · have ag : Agree (fun b => b < N) w wr := agree_below (hbel.mono hN)
      have hcell : ∃ b off u, a = some ⟨b, off, none⟩ ∧ wr.cell? ⟨b, off + k, none⟩ = some u ∧ TSeg (fun b => b < N) wr u (ks.getD k []) := by
        rcases HC.out with e | ⟨b, off, e, hb, hc⟩
        · rw [e] at hlt; simp at hlt
        · obtain ⟨u, hu, ht⟩ := hc k hlt
          exact ⟨b, off, u, e, (cell_agree ag hb).trans hu, ht.agree ag⟩
      have hcell' : ∃ b off u, a' = some ⟨b, off, none⟩ ∧ wr.cell? ⟨b, off + k, none⟩ = some u ∧ TSeg (fun b => b < N) wr u (ks.getD k []) := by
        rcases HC'.out with e | ⟨b, off, e, hb, hc⟩
        · rw [e] at hlt; simp at hlt
        · obtain ⟨u, hu, ht⟩ := hc k hlt
          exact ⟨b, off, u, e, (cell_agree ag hb).trans hu, ht.agree ag⟩
      obtain ⟨b, off, u, rfl, hu, a2, p2, rfl, s2, _, _, _, _⟩ := hcell
      obtain ⟨b', off', u', rfl, hu', a3, p3, rfl, s3, _, _, _, _⟩ := hcell'
      have hlt' : (k : Int) < (ks.length : Int) := by omega
      have hlk := HE.out k hlt
      generalize ks.getD k [] = ys at *
      have hE := hide' (eqByteS_same a2 a3 p2 p3 ys wr.drew s2 s3 (by omega))
      clear s2 s3 ag
      go_wp2_with fail
      go_region_with (go_at_call 26; refine hE.out.mono ?_; rintro e w1 ⟨rfl, b1⟩)
      all_goals
        have B1 : Below w.heap.size w w1 := Below.on hbel.drew b1
        go_wp2
        go_roundw
        case rel => exact ⟨k + 1, by omega, by go_num, B1⟩
        case measure => simp [intOf]; omega
    · have hlt' : ¬ (k : Int) < (ks.length : Int) := by omega
      go_wp2
      go_ret
      exact ⟨rfl, hbel⟩
/-- The contract of eqValue at depth d, of two readings of one value. -/
def EqAt (d : Nat) : Prop := ∀ (N : Nat) (c c' : Value × Value × Value × Value × Value) (v : Vl d) (w : World), VSeg (fun b => b < N) w d c v → VSeg (fun b => b < N) w d c' v → N ≤ w.heap.size → szV d v ≤ 1048576 →
  Calls Tryd.prog 10 #[.agg #[c.1, c.2.1, c.2.2.1, c.2.2.2.1, c.2.2.2.2], .agg #[c'.1, c'.2.1, c'.2.2.1, c'.2.2.2.1, c'.2.2.2.2]] w fun e w' => e = .returned (.bool true) ∧ Below w.heap.size w w'

set_option maxHeartbeats 1600000 in
theorem eqValueS_of (d : Nat) (ih : EqAt d) (N : Nat) (x y : Value) (l : List (Vl d)) (w : World) (hx : LSeg (fun b => b < N) w d x l) (hy : LSeg (fun b => b < N) w d y l) (hN : N ≤ w.heap.size) (hz : szL d l ≤ 1048576) :
    Calls Tryd.prog 27 #[x, y] w fun e w' => e = .returned (.bool true) ∧ Below w.heap.size w w' := by
  obtain ⟨a, cap, rfl, hlc, hcm, ka, hc⟩ := hx
  obtain ⟨a', cap', rfl, hlc', hcm', ka', hc'⟩ := hy
  have hn : l.length ≤ 1048576 := by unfold szL at hz; omega
  have HI := hide' ih
  have HZ := hide' hz
  have HC : Hid (l = [] ∨ ∃ b off, a = some ⟨b, off, none⟩ ∧ b < N ∧ ∀ i (h : i < l.length), ∃ e, Five w b (off + i * 5) e ∧ VSeg (fun b => b < N) w d e (l[i])) := hc
  have HC' : Hid (l = [] ∨ ∃ b off, a' = some ⟨b, off, none⟩ ∧ b < N ∧ ∀ i (h : i < l.length), ∃ e, Five w b (off + i * 5) e ∧ VSeg (fun b => b < N) w d e (l[i])) := hc'
  clear hc hc' ih hz
  unfold maxLen at hcm hcm'
  go_enter Tryd.func27, Tryd.ntmps27
  go_wp2
  go_loopw [5] (fun i wr => ∃ k : Nat, k ≤ l.length ∧ i = .int .i64 k ∧ Below w.heap.size w wr) (fun i _ => l.length - (intOf i).toNat)
  case atStart => exact ⟨0, Nat.zero_le _, rfl, Below.refl _ _⟩
  case round =>
    obtain ⟨k, hk, rfl, hbel⟩ := hrel
    have hsz2 := hbel.size
    by_cases hlt : k < l.length
    · have ag : Agree (fun b => b < N) w wr := agree_below (hbel.mono hN)
      have hcell : ∃ b off e, a = some ⟨b, off, none⟩ ∧ Five wr b (off + k * 5) e ∧ VSeg (fun b => b < N) wr d e (l[k]) := by
        rcases HC.out with e | ⟨b, off, e, hb, hc⟩
        · rw [e] at hlt; simp at hlt
        · obtain ⟨c, h5, hv⟩ := hc k hlt
          exact ⟨b, off, c, e, h5.agree ag hb, VSeg.agree ag d hv⟩
      have hcell' : ∃ b off e, a' = some ⟨b, off, none⟩ ∧ Five wr b (off + k * 5) e ∧ VSeg (fun b => b < N) wr d e (l[k]) := by
        rcases HC'.out with e | ⟨b, off, e, hb, hc⟩
        · rw [e] at hlt; simp at hlt
        · obtain ⟨c, h5, hv⟩ := hc k hlt
          exact ⟨b, off, c, e, h5.agree ag hb, VSeg.agree ag d hv⟩
      obtain ⟨b, off, c, rfl, h5, hv⟩ := hcell
      obtain ⟨b', off', c', rfl, h5', hv'⟩ := hcell'
      obtain ⟨c0, c1, c2, c3, c4⟩ := c
      obtain ⟨e0, e1, e2, e3, e4⟩ := c'
      obtain ⟨q0, q1, q2, q3, q4⟩ := h5
      obtain ⟨r0, r1, r2, r3, r4⟩ := h5'
      simp only at q0 q1 q2 q3 q4 r0 r1 r2 r3 r4
      have hlt' : (k : Int) < (l.length : Int) := by omega
      have hzk : szV d l[k] ≤ 1048576 := Nat.le_trans (sz_elem hlt) HZ.out
      have hE := hide' (HI.out N (c0, c1, c2, c3, c4) (e0, e1, e2, e3, e4) l[k] wr.drew (VSeg.agree (w := wr) (w' := wr.drew) (fun b _ => rfl) d hv) (VSeg.agree (w := wr) (w' := wr.drew) (fun b _ => rfl) d hv') (by show N ≤ wr.heap.size; omega) hzk)
      clear hv hv' ag hzk
      go_wp2_with fail
      go_region_with (go_at_call 10; refine hE.out.mono ?_; rintro e w1 ⟨rfl, b1⟩)
      all_goals
        have B1 : Below w.heap.size w w1 := Below.on hbel.drew b1
        clear q0 q1 q2 q3 q4 r0 r1 r2 r3 r4
        go_wp2
        go_roundw
        case rel => exact ⟨k + 1, by omega, by go_num, B1⟩
        case measure => simp [intOf]; omega
    · have hlt' : ¬ (k : Int) < (l.length : Int) := by omega
      go_wp2
      go_ret
      exact ⟨rfl, hbel⟩

set_option maxHeartbeats 1600000 in
theorem eqValue_succ (d : Nat) (ih : EqAt d) : EqAt (d + 1) := by
  intro N c c' v w hv hv' hN hz
  obtain ⟨c0, c1, c2, c3, c4⟩ := c
  obtain ⟨g0, g1, g2, g3, g4⟩ := c'
  obtain ⟨vk, vn, vs, vK, vL⟩ := v
  obtain ⟨e0, e1, ht, hk, hl⟩ := (VSeg_succ _ _ _ _ _).1 hv
  obtain ⟨f0, f1, ht', hk', hl'⟩ := (VSeg_succ _ _ _ _ _).1 hv'
  simp only at e0 e1 ht hk hl f0 f1 ht' hk' hl'
  subst e0
  subst e1
  subst f0
  subst f1
  have hsz : szV (d + 1) (vk, vn, vs, vK, vL) = vs.length + szK vK + szL d vL := rfl
  rw [hsz] at hz
  clear hsz hv hv'
  simp only
  have hz1 : vs.length ≤ 1048576 := by omega
  have hz2 : szK vK ≤ 1048576 := by omega
  have hz3 : szL d vL ≤ 1048576 := by omega
  have Hk : Hid (∀ wx, Below w.heap.size w wx → KSeg (fun b => b < N) wx c3 vK ∧ KSeg (fun b => b < N) wx g3 vK) := fun wx hb => ⟨hk.agree (agree_below (hb.mono hN)), hk'.agree (agree_below (hb.mono hN))⟩
  have Hl : Hid (∀ wx, Below w.heap.size w wx → LSeg (fun b => b < N) wx d c4 vL ∧ LSeg (fun b => b < N) wx d g4 vL) := fun wx hb => ⟨hl.agree (agree_below (hb.mono hN)), hl'.agree (agree_below (hb.mono hN))⟩
  have HI := hide' ih
  have Hb : Hid (∀ o o' : Obj, Below w.heap.size w ((w.alloc o).alloc o')) := fun o o' => ((Below.refl _ _).alloc (Nat.le_refl _) o).alloc (by simp) o'
  obtain ⟨a3, cp3, rfl, _, _, _, _⟩ := hk
  obtain ⟨a4, cp4, rfl, _, _, _, _⟩ := hl
  obtain ⟨a3', cp3', rfl, _, _, _, _⟩ := hk'
  obtain ⟨a4', cp4', rfl, _, _, _, _⟩ := hl'
  have Ht : Hid (∀ wx, Below w.heap.size w wx → TSeg (fun b => b < N) wx c2 vs ∧ TSeg (fun b => b < N) wx g2 vs) := fun wx hb => ⟨ht.agree (agree_below (hb.mono hN)), ht'.agree (agree_below (hb.mono hN))⟩
  obtain ⟨a2, cp2, rfl, s2, hl2, hm2, _, _⟩ := ht
  obtain ⟨a2', cp2', rfl, s2', hl2', hm2', _, _⟩ := ht'
  have Hs : Hid (∀ wx, Below w.heap.size w wx → Seg wx a2 vs ∧ Seg wx a2' vs) := by
    intro wx hb
    obtain ⟨x1, x2⟩ := Ht.out wx hb
    obtain ⟨_, _, y1, y2, _⟩ := x1
    obtain ⟨_, _, z1, z2, _⟩ := x2
    simp at y1 z1
    exact ⟨y1.1 ▸ y2, z1.1 ▸ z2⟩
  clear ih Ht s2 s2'
  go_enter Tryd.func10, Tryd.ntmps10
  go_wp2_with fail
  have q1 := Hb.out (.cells #[.int .i64 vk, .int .i64 vn, .slice a2 vs.length cp2, .slice a3 vK.length cp3, .slice a4 vL.length cp4] 31) (.cells #[.int .i64 vk, .int .i64 vn, .slice a2' vs.length cp2', .slice a3' vK.length cp3', .slice a4' vL.length cp4'] 31)
  have r1 : ∀ o o' : Obj, ((w.alloc o).alloc o').heap[w.heap.size]? = some o ∧ ((w.alloc o).alloc o').heap[w.heap.size + 1]? = some o' := two_boxes w
  have R1 := r1 (.cells #[.int .i64 vk, .int .i64 vn, .slice a2 vs.length cp2, .slice a3 vK.length cp3, .slice a4 vL.length cp4] 31) (.cells #[.int .i64 vk, .int .i64 vn, .slice a2' vs.length cp2', .slice a3' vK.length cp3', .slice a4' vL.length cp4'] 31)
  refine (eqByteS_same _ _ _ _ vs _ (Hs.out _ q1).1 (Hs.out _ q1).2 (by omega)).mono ?_
  rintro e w1 ⟨rfl, b1⟩
  have B1 := Below.on q1 b1
  have R1a := (b1.block _ (by rw [size2]; omega)).trans R1.1
  have R1b := (b1.block _ (by rw [size2]; omega)).trans R1.2
  obtain ⟨_, _, _, x3, x4, _⟩ := row5 R1a
  obtain ⟨_, _, _, y3, y4, _⟩ := row5 R1b
  have hz1 : w.heap.size + 2 ≤ w1.heap.size := by have := b1.size; rw [size2] at this; omega
  have HK := hide' (eqByteSS_same N _ _ vK w1 (Hk.out _ B1).1 (Hk.out _ B1).2 (by omega) hz2)
  have HRa := hide' R1a
  have HRb := hide' R1b
  clear q1 r1 R1 b1 R1a R1b Hs
  go_wp2_with fail
  refine HK.out.mono ?_
  rintro e w2 ⟨rfl, b2⟩
  have B2 := Below.on B1 b2
  have hz2 := b2.size
  obtain ⟨_, _, _, _, x4, _⟩ := row5 ((b2.block _ (by omega)).trans HRa.out)
  obtain ⟨_, _, _, _, y4, _⟩ := row5 ((b2.block _ (by omega)).trans HRb.out)
  have HL := hide' (eqValueS_of d HI.out N _ _ vL w2 (Hl.out _ B2).1 (Hl.out _ B2).2 (by omega) hz3)
  clear b2 HRa HRb HK B1 Hk Hl
  go_wp2_with fail
  refine HL.out.mono ?_
  rintro e w3 ⟨rfl, b3⟩
  have B3 := Below.on B2 b3
  go_wp2
  go_ret
  exact ⟨rfl, B3⟩
theorem eqValue_any (d : Nat) : EqAt d := by
  induction d with
  | zero => intro N c c' v w hv; exact hv.elim
  | succ d ih => exact eqValue_succ d ih
end Go.Proofs.YtcgmfmdoconecaaDoor
/-
  A text, a number of a value, names that ascend: textOk, ascendingNames of the program, l2text, l2int of the specification; they only read.
-/
namespace Go.Proofs.YtcgmfmdoconecaaDoor
open Go.RowKit
set_option linter.unusedVariables false

/-- A byte of a text. -/
def chrB (c : Int) : Bool := decide (32 ≤ c) && decide (c ≤ 126)
/-- A text. -/
def textB (xs : List Int) : Bool := decide (xs.length ≤ 20) && xs.all chrB
theorem textB_long (xs : List Int) (h : 20 < xs.length) : textB xs = false := by simp [textB]; omega
theorem textB_all (xs : List Int) (h2 : xs.length ≤ 20) : textB xs = xs.all chrB := by simp [textB, h2]

set_option maxHeartbeats 800000 in
theorem impl_textOk_any (a : Option Addr) (c1 : Nat) (xs : List Int) (w : World) (ha : Seg w a xs) (hl : xs.length ≤ maxLen) :
    Calls Tryd.prog 63 #[.slice a xs.length c1] w fun e w' => e = .returned (.bool (textB xs)) ∧ w = w' := by
  unfold maxLen at hl
  by_cases h2 : 20 < xs.length
  · have HO : Hid (textB xs = false) := textB_long xs h2
    have h2' : (20 : Int) < (xs.length : Int) := by omega
    go_enter Tryd.func63, Tryd.ntmps63
    go_wp2
    go_ret
    exact ⟨ret_bool HO.out.symm, rfl⟩
  have HO : Hid (textB xs = xs.all chrB) := textB_all xs (by omega)
  have hb := getD_byt ha.1
  generalize hn : xs.length = n at *
  have Hn : Hid (xs.length = n) := hn
  have h2' : ¬ (20 : Int) < (n : Int) := by omega
  clear hn
  go_enter Tryd.func63, Tryd.ntmps63
  go_wp2
  go_loopw [10] (fun i wr => ∃ k : Nat, k ≤ n ∧ i = .int .i64 k ∧ fstAll chrB xs k ∧ wr = w) (fun i _ => n - (intOf i).toNat)
  case atStart => exact ⟨0, Nat.zero_le _, rfl, fstAll_zero _ _, rfl⟩
  case round =>
    obtain ⟨k, hk, rfl, hall, rfl⟩ := hrel
    by_cases hlt : k < n
    · obtain ⟨b1, o1, rfl, hc1⟩ := ha.at (k := k) (by have := Hn.out; omega)
      have hbk := hb k
      have HS : Hid (chrB (xs.getD k 0) = true → fstAll chrB xs (k + 1)) := fun h => fstAll_succ hall h
      have HN : Hid (chrB (xs.getD k 0) = false → xs.all chrB = false) := fun h => not_all_of (by have := Hn.out; omega) h
      generalize xs.getD k 0 = c at hc1 hbk HS HN
      have hlt' : (k : Int) < (n : Int) := by omega
      obtain ⟨hb1, hb2⟩ := hbk
      by_cases hc : c < 32
      · have HF : Hid (xs.all chrB = false) := HN.out (by simp [chrB]; omega)
        go_wp2
        go_ret
        exact ⟨ret_bool (by rw [HO.out, HF.out]), rfl⟩
      · by_cases hd : 126 < c
        · have HF : Hid (xs.all chrB = false) := HN.out (by simp [chrB]; omega)
          go_wp2
          go_ret
          exact ⟨ret_bool (by rw [HO.out, HF.out]), rfl⟩
        · have HF : Hid (fstAll chrB xs (k + 1)) := HS.out (by simp [chrB]; omega)
          go_wp2
          go_roundw
          case rel => exact ⟨k + 1, by omega, by go_num, HF.out, by first | rfl | trivial⟩
          case measure => simp [intOf]; omega
    · have HF : Hid (xs.all chrB = true) := all_of_fstAll (by rw [Hn.out]; have e : k = n := by omega
                                                              rw [← e]; exact hall)
      have hlt' : ¬ (k : Int) < (n : Int) := by omega
      go_wp2
      go_ret
      exact ⟨ret_bool (by rw [HO.out, HF.out]), rfl⟩

set_option maxHeartbeats 800000 in
theorem spec_l2text_any (a : Option Addr) (c1 : Nat) (xs : List Int) (w : World) (ha : Seg w a xs) (hl : xs.length ≤ maxLen) :
    Calls Tryd.prog 37 #[.slice a xs.length c1] w fun e w' => e = .returned (.bool (textB xs)) ∧ w = w' := by
  unfold maxLen at hl
  by_cases h2 : 20 < xs.length
  · have HO : Hid (textB xs = false) := textB_long xs h2
    have h2' : (20 : Int) < (xs.length : Int) := by omega
    go_enter Tryd.func37, Tryd.ntmps37
    go_wp2
    go_ret
    exact ⟨ret_bool HO.out.symm, rfl⟩
  have HO : Hid (textB xs = xs.all chrB) := textB_all xs (by omega)
  have hb := getD_byt ha.1
  generalize hn : xs.length = n at *
  have Hn : Hid (xs.length = n) := hn
  have h2' : ¬ (20 : Int) < (n : Int) := by omega
  clear hn
  go_enter Tryd.func37, Tryd.ntmps37
  go_wp2
  go_loopw [3] (fun i wr => ∃ k : Nat, k ≤ n ∧ i = .int .i64 k ∧ fstAll chrB xs k ∧ wr = w) (fun i _ => n - (intOf i).toNat)
  case atStart => exact ⟨0, Nat.zero_le _, rfl, fstAll_zero _ _, rfl⟩
  case round =>
    obtain ⟨k, hk, rfl, hall, rfl⟩ := hrel
    by_cases hlt : k < n
    · obtain ⟨b1, o1, rfl, hc1⟩ := ha.at (k := k) (by have := Hn.out; omega)
      have hbk := hb k
      have HS : Hid (chrB (xs.getD k 0) = true → fstAll chrB xs (k + 1)) := fun h => fstAll_succ hall h
      have HN : Hid (chrB (xs.getD k 0) = false → xs.all chrB = false) := fun h => not_all_of (by have := Hn.out; omega) h
      generalize xs.getD k 0 = c at hc1 hbk HS HN
      have hlt' : (k : Int) < (n : Int) := by omega
      obtain ⟨hb1, hb2⟩ := hbk
      by_cases hc : c < 32
      · have HF : Hid (xs.all chrB = false) := HN.out (by simp [chrB]; omega)
        go_wp2
        go_ret
        exact ⟨ret_bool (by rw [HO.out, HF.out]), rfl⟩
      · by_cases hd : 126 < c
        · have HF : Hid (xs.all chrB = false) := HN.out (by simp [chrB]; omega)
          go_wp2
          go_ret
          exact ⟨ret_bool (by rw [HO.out, HF.out]), rfl⟩
        · have HF : Hid (fstAll chrB xs (k + 1)) := HS.out (by simp [chrB]; omega)
          go_wp2
          go_roundw
          case rel => exact ⟨k + 1, by omega, by go_num, HF.out, by first | rfl | trivial⟩
          case measure => simp [intOf]; omega
    · have HF : Hid (xs.all chrB = true) := all_of_fstAll (by rw [Hn.out]; have e : k = n := by omega
                                                              rw [← e]; exact hall)
      have hlt' : ¬ (k : Int) < (n : Int) := by omega
      go_wp2
      go_ret
      exact ⟨ret_bool (by rw [HO.out, HF.out]), rfl⟩

/-- The name at place i is one, and behind the one ahead of it. -/
def stepB (ks : List (List Int)) (i : Nat) : Bool := nameB (ks.getD i []) && (i == 0 || ltS (ks.getD (i - 1) []) (ks.getD i []))
/-- Names that ascend. -/
def ascB (ks : List (List Int)) : Bool := (List.range ks.length).all (stepB ks)
theorem ascB_yes {ks : List (List Int)} (h : ∀ i, i < ks.length → stepB ks i = true) : ascB ks = true := by
  rw [ascB, List.all_eq_true]
  intro i hi
  exact h i (List.mem_range.1 hi)
theorem ascB_no {ks : List (List Int)} {i : Nat} (hi : i < ks.length) (h : stepB ks i = false) : ascB ks = false := by
  rw [ascB, List.all_eq_false]
  exact ⟨i, List.mem_range.2 hi, by simp [h]⟩
theorem ascB_at {ks : List (List Int)} (h : ascB ks = true) {i : Nat} (hi : i < ks.length) : stepB ks i = true := by
  rw [ascB, List.all_eq_true] at h
  exact h i (List.mem_range.2 hi)

theorem KSeg.at {R : Nat → Prop} {w : World} {a : Option Addr} {n cap : Nat} {ks : List (List Int)} (h : KSeg R w (.slice a n cap) ks) {k : Nat} (hk : k < ks.length) :
    ∃ b off, a = some ⟨b, off, none⟩ ∧ ∀ i, i < ks.length → ∃ a2 c2, w.cell? ⟨b, off + i, none⟩ = some (.slice a2 (ks.getD i []).length c2) ∧ Seg w a2 (ks.getD i []) ∧ (ks.getD i []).length ≤ maxLen := by
  obtain ⟨a', cap', h1, h2, h3, h4, h5⟩ := h
  simp only [Value.slice.injEq] at h1
  obtain ⟨rfl, _, _⟩ := h1
  rcases h5 with h0 | ⟨b, off, rfl, _, hc⟩
  · subst h0; simp at hk
  · refine ⟨b, off, rfl, fun i hi => ?_⟩
    obtain ⟨u, hu, a2, c2, rfl, s2, l2, m2, _⟩ := hc i hi
    exact ⟨a2, c2, hu, s2, by omega⟩

set_option maxHeartbeats 1600000 in
theorem ascendingNames_any (R : Nat → Prop) (x : Value) (ks : List (List Int)) (w : World) (hx : KSeg R w x ks) :
    Calls Tryd.prog 48 #[x] w fun e w' => e = .returned (.bool (ascB ks)) ∧ w = w' := by
  have HX : Hid (KSeg R w x ks) := hx
  obtain ⟨a, cap, rfl, hlc, hcm, ka, hc⟩ := hx
  unfold maxLen at hcm
  clear hc
  have HY : Hid ((∀ i, i < ks.length → stepB ks i = true) → ascB ks = true) := ascB_yes
  have HNo : Hid (∀ i, i < ks.length → stepB ks i = false → ascB ks = false) := fun i hi h => ascB_no hi h
  go_enter Tryd.func48, Tryd.ntmps48
  go_wp2
  go_loopw [7] (fun i wr => ∃ k : Nat, k ≤ ks.length ∧ i = .int .i64 k ∧ (∀ j, j < k → stepB ks j = true) ∧ wr = w) (fun i _ => ks.length - (intOf i).toNat)
  case atStart => exact ⟨0, Nat.zero_le _, rfl, fun j h => by omega, rfl⟩
  case round =>
    obtain ⟨k, hk, rfl, hall, rfl⟩ := hrel
    by_cases hlt : k < ks.length
    · obtain ⟨b, off, rfl, hat⟩ := HX.out.at hlt
      have hlt' : (k : Int) < (ks.length : Int) := by omega
      obtain ⟨a2, c2, hu, s2, m2⟩ := hat k hlt
      by_cases hn : nameB (ks.getD k []) = true
      · cases k with
        | zero =>
          have HS : Hid (stepB ks 0 = true) := by simp [Hid, stepB]; simpa using hn
          have HN := hide' (impl_NameOk_any a2 c2 (ks.getD 0 []) wr s2 m2)
          rw [hn] at HN
          generalize (ks.getD 0 []) = ys at *
          simp only [Nat.add_zero] at hu
          clear hat
          go_wp2_with fail
          refine HN.out.mono ?_
          rintro e w1 ⟨rfl, e1⟩
          obtain rfl := e1
          go_wp2
          go_roundw
          case rel => exact ⟨1, by omega, by go_num, fun j hj => by obtain rfl : j = 0 := by omega
                                                                    exact HS.out, by first | rfl | trivial⟩
          case measure => simp [intOf]; omega
        | succ j =>
          obtain ⟨a3, c3, hu3, s3, m3⟩ := hat j (by omega)
          have hst : stepB ks (j + 1) = ltS (ks.getD j []) (ks.getD (j + 1) []) := by simp only [stepB, hn]; simp
          have HN := hide' (impl_NameOk_any a2 c2 (ks.getD (j + 1) []) wr s2 m2)
          rw [hn] at HN
          have HC := hide' (bytes_Compare_any a3 a2 c3 c2 (ks.getD j []) (ks.getD (j + 1) []) wr s3 s2)
          have hlc : ltS (ks.getD j []) (ks.getD (j + 1) []) = decide (Lib.compareBytes (u8s (ks.getD j [])) (u8s (ks.getD (j + 1) [])) < 0) := less_cmp _ _
          rw [hlc] at hst
          have hcr := cmp_range (u8s (ks.getD j [])) (u8s (ks.getD (j + 1) []))
          have HS := hide' hst
          generalize Lib.compareBytes (u8s (ks.getD j [])) (u8s (ks.getD (j + 1) [])) = q at *
          generalize (ks.getD (j + 1) []) = ys at *
          generalize (ks.getD j []) = zs at *
          clear hat hst hlc hn s2 s3
          go_wp2_with fail
          refine HN.out.mono ?_
          rintro e w1 ⟨rfl, e1⟩
          obtain rfl := e1
          go_wp2_with fail
          refine HC.out.mono ?_
          rintro e w1 ⟨rfl, e1⟩
          obtain rfl := e1
          by_cases hq : 0 ≤ q
          · have HF : Hid (ascB ks = false) := HNo.out (j + 1) (by omega) (by rw [HS.out]; simpa using hq)
            go_wp2
            go_ret
            exact ⟨ret_bool HF.out.symm, rfl⟩
          · have HF : Hid (stepB ks (j + 1) = true) := by show stepB ks (j + 1) = true; rw [HS.out]; simpa using hq
            go_wp2
            go_roundw
            case rel => exact ⟨j + 2, by omega, by go_num, fun i hi => by
                                by_cases e : i = j + 1
                                · rw [e]; exact HF.out
                                · exact hall i (by omega), by first | rfl | trivial⟩
            case measure => simp [intOf]; omega
      · have hn' : nameB (ks.getD k []) = false := by simpa using hn
        have HF : Hid (ascB ks = false) := HNo.out k hlt (by unfold stepB; rw [hn']; rfl)
        have HN := hide' (impl_NameOk_any a2 c2 (ks.getD k []) wr s2 m2)
        rw [hn'] at HN
        generalize (ks.getD k []) = ys at *
        clear hat hn hn'
        go_wp2_with fail
        refine HN.out.mono ?_
        rintro e w1 ⟨rfl, e1⟩
        obtain rfl := e1
        go_wp2
        go_ret
        exact ⟨ret_bool HF.out.symm, rfl⟩
    · have HF : Hid (ascB ks = true) := HY.out (fun i hi => hall i (by omega))
      have hlt' : ¬ (k : Int) < (ks.length : Int) := by omega
      go_wp2
      go_ret
      exact ⟨ret_bool HF.out.symm, rfl⟩
end Go.Proofs.YtcgmfmdoconecaaDoor
/-
  heldByteSS of the laws: it finds the running numbers in a list of texts that was marked.
-/
namespace Go.Proofs.YtcgmfmdoconecaaDoor
open Go.RowKit
set_option linter.unusedVariables false
set_option linter.unusedSimpArgs false

theorem mkKs_at : ∀ (l : List (List Int)) (k i : Nat) (h : i < l.length), (mkKs l k).getD i [] = marks (k + pre List.length l i) l[i].length
  | [], _, _, h => by simp at h
  | x :: r, k, 0, _ => by simp [mkKs, pre]
  | x :: r, k, i + 1, h => by
    have ih := mkKs_at r (k + x.length) i (by simpa using h)
    have e : pre List.length (x :: r) (i + 1) = x.length + pre List.length r i := by simp [pre]
    rw [e]
    simp only [mkKs, List.getD_cons_succ, List.getElem_cons_succ]
    rw [ih, Nat.add_assoc]

set_option maxHeartbeats 1600000 in
theorem heldByteSS_any (N : Nat) (v : Value) (ks : List (List Int)) (m : Nat) (w : World) (h : KSeg (fun b => b < N) w v (mkKs ks m)) (hN : N ≤ w.heap.size) (hs : szK ks ≤ 2097152) (hm : m + (ks.map List.length).sum ≤ 1125899906842624) :
    Calls Tryd.prog 13 #[v, .int .i64 m] w fun e w' => e = .returned (.int .i64 ((m + (ks.map List.length).sum : Nat) : Int)) ∧ Below w.heap.size w w' := by
  have hsz : szK ks = ks.length + (ks.map List.length).sum := rfl
  have H0 := hide' h
  obtain ⟨a, c, rfl, _⟩ := h
  rw [length_mkKs] at H0 ⊢
  have HP : Hid (∀ k (hk : k < ks.length), pre List.length ks (k + 1) = pre List.length ks k + ks[k].length) := fun k hk => pre_succ List.length ks k hk
  have HL : Hid (∀ k, pre List.length ks k ≤ (ks.map List.length).sum) := pre_le List.length ks
  have HA : Hid (pre List.length ks ks.length = (ks.map List.length).sum) := pre_all _ _
  have hn : ks.length ≤ 2097152 := by omega
  have hsum : (ks.map List.length).sum ≤ 2097152 := by omega
  have hmm : m + (ks.map List.length).sum ≤ 1125899906842624 := by omega
  clear hs hsz hm
  go_enter Tryd.func13, Tryd.ntmps13
  go_wp2
  go_loopw [1, 5] (fun m' i wr => ∃ k : Nat, k ≤ ks.length ∧ i = .int .i64 k ∧ m' = .int .i64 ((m + pre List.length ks k : Nat) : Int) ∧ Below w.heap.size w wr) (fun _ i _ => ks.length - (intOf i).toNat)
  case atStart => exact ⟨0, Nat.zero_le _, rfl, by rw [pre_zero]; simp, Below.refl _ _⟩
  case round =>
    obtain ⟨k, hk, rfl, rfl, hbel⟩ := hrel
    have hpk := HL.out k
    by_cases hlt : k < ks.length
    · have hlt' : (k : Int) < (ks.length : Int) := by omega
      have hps := HP.out k hlt
      have hpk1 := HL.out (k + 1)
      obtain ⟨b, off, rfl, hc⟩ := (H0.out.agree (agree_below (hbel.mono hN))).at (k := k) (by rw [length_mkKs]; exact hlt)
      obtain ⟨a2, c2, hcell, hseg, _⟩ := hc k (by rw [length_mkKs]; exact hlt)
      rw [mkKs_at ks m k hlt, length_marks] at hcell
      rw [mkKs_at ks m k hlt] at hseg
      have HM := hide' (heldByteS_any a2 c2 (m + pre List.length ks k) ks[k].length wr hseg (by omega) (by omega))
      have Hps := hide' hps
      clear hseg hc hps
      generalize ks[k].length = nk at *
      generalize pre List.length ks k = q at *
      go_wp2_with fail
      refine HM.out.mono ?_
      rintro e w' ⟨rfl, b'⟩
      have B' := Below.on hbel b'
      clear hcell HM b'
      go_wp2
      go_roundw
      case rel => exact ⟨k + 1, by omega, by go_num, by rw [Hps.out]; go_num, B'⟩
      case measure => simp [intOf]; omega
    · have hkn : k = ks.length := by omega
      have hkn' : ¬ (k : Int) < (ks.length : Int) := by omega
      have HQ : Hid (pre List.length ks k = (ks.map List.length).sum) := by show pre List.length ks k = _; rw [hkn]; exact HA.out
      clear hkn
      go_wp2
      go_ret
      exact ⟨ret_i64 (by rw [HQ.out]), hbel⟩
end Go.Proofs.YtcgmfmdoconecaaDoor
