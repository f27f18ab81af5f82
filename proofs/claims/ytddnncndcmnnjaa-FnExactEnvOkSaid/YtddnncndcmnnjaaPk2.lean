/-
  Texts that a law leans on, one behind the other; no statement is proved here.
-/
import Derived.Test.YtddnncndcmnnjaaPk1
import Derived.Deep.RegionWith
import Derived.Test.YtddnncndcmnnjaaPk0
import Derived.Laws.IdiomStrings
import Derived.Lib.Bytealg
/-
  toValue of the laws at every depth.
-/
namespace Go.Proofs.Ytddnncndcmnnjaa
open Go.RowKit
set_option linter.unusedVariables false

theorem KOwn.nodup {w : World} {v : Value} {ks : List (List Int)} {B : List Nat} (h : KOwn w v ks B) : B.Nodup := by
  rcases h with ⟨_, _, rfl⟩ | ⟨_, _, _, _, _, _, _, _, _, _, _, _, hn⟩
  · simp
  · exact hn
theorem LOwn.nodup {w : World} {d : Nat} {x : Value} {l : List (Vl d)} {B : List Nat} (h : LOwn w d x l B) : B.Nodup := by
  rcases h with ⟨_, _, rfl⟩ | ⟨_, _, _, _, _, _, _, _, _, _, _, _, hn⟩
  · simp
  · exact hn

set_option maxHeartbeats 3200000 in
theorem toValue_succ (d : Nat) (ih : ToAt d) : ToAt (d + 1) := by
  intro N c v w hv hN hz
  obtain ⟨c0, c1, c2, c3, c4⟩ := c
  obtain ⟨vk, vn, vs, vK, vL⟩ := v
  obtain ⟨e0, e1, ht, hk, hl⟩ := (VSeg_succ _ _ _ _ _).1 hv
  simp only at e0 e1 ht hk hl
  subst e0
  subst e1
  have hsz : szV (d + 1) (vk, vn, vs, vK, vL) = vs.length + szK vK + szL d vL := rfl
  have hzs : vs.length ≤ 1048576 := by omega
  have hzK : szK vK ≤ 1048576 := by omega
  have hzL : szL d vL ≤ 1048576 := by omega
  have hKn : vK.length ≤ 1048576 := by unfold szK at hzK; omega
  have hKe : ∀ t ∈ vK, t.length ≤ 1048576 := by
    intro t ht
    obtain ⟨i, hi, rfl⟩ := List.getElem_of_mem ht
    have h1 := pre_succ List.length vK i hi
    have h2 := pre_le List.length vK (i + 1)
    unfold szK at hzK
    omega
  clear hsz hv hz
  simp only
  have HK : Hid (∀ t ∈ vK, t.length ≤ 1048576) := hKe
  have HI : Hid (ToAt d) := ih
  clear hKe ih
  have hagree : ∀ w' : World, Below w.heap.size w w' → Agree (fun b => b < N) w w' := fun w' h => agree_below (h.mono hN)
  have Hk : Hid (∀ w' : World, Below w.heap.size w w' → KSeg (fun b => b < N) w' c3 vK) := fun w' h => hk.agree (hagree w' h)
  have Hl : Hid (∀ w' : World, Below w.heap.size w w' → LSeg (fun b => b < N) w' d c4 vL) := fun w' h => hl.agree (hagree w' h)
  have Ht : Hid (∀ w' : World, Below w.heap.size w w' → TSeg (fun b => b < N) w' c2 vs) := fun w' h => ht.agree (hagree w' h)
  obtain ⟨a3, cp3, rfl, _, _, _, _⟩ := hk
  obtain ⟨a4, cp4, rfl, _, _, _, _⟩ := hl
  obtain ⟨a2, cp2, rfl, s2, hl2, hm2, _, _⟩ := ht
  clear hagree s2
  have hst0 := st_start w #[.int .i64 vk, .int .i64 vn, .slice a2 vs.length cp2, .slice a3 vK.length cp3, .slice a4 vL.length cp4] vk vn _ _ rfl rfl
  have Hst0 := hst0
  have H0 : Hid (St w #[.int .i64 vk, .int .i64 vn, .slice a2 vs.length cp2, .slice a3 vK.length cp3, .slice a4 vL.length cp4] vk vn (((w.alloc (.cells #[.int .i64 vk, .int .i64 vn, .slice a2 vs.length cp2, .slice a3 vK.length cp3, .slice a4 vL.length cp4] 26)).alloc (.cells #[.int .i64 0, .int .i64 0, .slice none 0 0, .slice none 0 0, .slice none 0 0] 33)).alloc (.cells #[.int .i64 vk, .int .i64 vn, .slice none 0 0, .slice none 0 0, .slice none 0 0] 33)) (.slice none 0 0) (.slice none 0 0) (.slice none 0 0)) := hst0
  clear hst0 Hst0
  go_enter Try.func11, Try.ntmps11
  go_wp2_with fail
  obtain ⟨a2', cp2', e2, sT, _⟩ := Ht.out _ H0.out.1
  simp only [Value.slice.injEq, true_and] at e2
  obtain ⟨rfl, rfl⟩ := e2
  refine (toByteS_any _ _ vs _ sT (by omega)).mono ?_
  rintro e w1 ⟨rfl, hB1, b1⟩
  have hst1 := st_below H0.out b1
  have hgS : w.heap.size + 3 ≤ (((w.alloc (.cells #[.int .i64 vk, .int .i64 vn, .slice a2 vs.length cp2, .slice a3 vK.length cp3, .slice a4 vL.length cp4] 26)).alloc (.cells #[.int .i64 0, .int .i64 0, .slice none 0 0, .slice none 0 0, .slice none 0 0] 33)).alloc (.cells #[.int .i64 vk, .int .i64 vn, .slice none 0 0, .slice none 0 0, .slice none 0 0] 33)).heap.size := by simp
  have hT1 := tOwn_new hB1
  generalize (((w.alloc (.cells #[.int .i64 vk, .int .i64 vn, .slice a2 vs.length cp2, .slice a3 vK.length cp3, .slice a4 vL.length cp4] 26)).alloc (.cells #[.int .i64 0, .int .i64 0, .slice none 0 0, .slice none 0 0, .slice none 0 0] 33)).alloc (.cells #[.int .i64 vk, .int .i64 vn, .slice none 0 0, .slice none 0 0, .slice none 0 0] 33)).heap.size = gS at *
  have z1 := hst1.2.2.2.2
  have hltS := hT1.lt gS (by simp)
  clear b1 hB1 sT H0
  -- the text is stored
  have hs1 := st_set hst1 2 (.slice (some ⟨gS, 0, none⟩) vs.length vs.length) (.slice (some ⟨gS, 0, none⟩) vs.length vs.length) (.slice none 0 0) (.slice none 0 0) rfl
  have hg1 := grown1 w1 (w.heap.size + 1 + 1) 2 (.slice (some ⟨gS, 0, none⟩) vs.length vs.length)
  have hT1' : TOwn (w1.setCell ⟨w.heap.size + 1 + 1, 2, none⟩ (.slice (some ⟨gS, 0, none⟩) vs.length vs.length)) (.slice (some ⟨gS, 0, none⟩) vs.length vs.length) vs [gS] := hT1.agree fun b hb => hg1.block b (hT1.lt b hb) (by simp at hb ⊢; omega)
  obtain ⟨p0, p1, p2, p3, p4, pf⟩ := row5 hst1.2.2.2.1
  obtain ⟨q0, q1, q2, q3, q4, qf⟩ := row5 hst1.2.1
  have pf2 := pf 2
  have hsz1 : (w1.setCell ⟨w.heap.size + 1 + 1, 2, none⟩ (.slice (some ⟨gS, 0, none⟩) vs.length vs.length)).heap.size = w1.heap.size := by simp [World.setCell]
  have HKc := toByteSS_any N _ vK _ (Hk.out _ hs1.1) (by rw [hsz1]; omega) hKn HK.out
  have HKc' := hide' HKc
  have Hs1 := hide' hs1
  have HT1 := hide' hT1'
  clear hs1 hT1' HKc pf qf hg1 hT1 hst1
  go_wp2_with fail
  refine HKc'.out.mono ?_
  rintro e w2 ⟨uK, rfl, BK, hK2, hBK, b2⟩
  have hst2 := st_below Hs1.out b2
  have hTS2 : TOwn w2 (.slice (some ⟨gS, 0, none⟩) vs.length vs.length) vs [gS] := HT1.out.agree fun b hb => b2.block b (HT1.out.lt b hb)
  have hKform : ∃ (a : Option Addr) (n p : Nat), uK = .slice a n p := by
    rcases hK2 with ⟨h1, _⟩ | ⟨g, cap, cur, Bs, h1, _⟩
    · exact ⟨_, _, _, h1⟩
    · exact ⟨_, _, _, h1⟩
  obtain ⟨aK, nK, pK, rfl⟩ := hKform
  rw [hsz1] at hBK
  clear HKc' Hs1 HT1 b2 p0 p1 p2 p3 p4 q0 q1 q2 q3 q4 pf2
  -- the list of texts is stored
  have hs2 := st_set hst2 3 (.slice aK nK pK) (.slice (some ⟨gS, 0, none⟩) vs.length vs.length) (.slice aK nK pK) (.slice none 0 0) rfl
  have hg2 := grown1 w2 (w.heap.size + 1 + 1) 3 (.slice aK nK pK)
  have hTS2' : TOwn (w2.setCell ⟨w.heap.size + 1 + 1, 3, none⟩ (.slice aK nK pK)) (.slice (some ⟨gS, 0, none⟩) vs.length vs.length) vs [gS] := hTS2.agree fun b hb => hg2.block b (hTS2.lt b hb) (by simp at hb ⊢; omega)
  have hK2' : KOwn (w2.setCell ⟨w.heap.size + 1 + 1, 3, none⟩ (.slice aK nK pK)) (.slice aK nK pK) vK BK := hK2.agree fun b hb => hg2.block b (hK2.lt b hb) (by have := hBK b hb; simp; omega)
  obtain ⟨p0, p1, p2, p3, p4, pf⟩ := row5 hst2.2.2.2.1
  obtain ⟨q0, q1, q2, q3, q4, qf⟩ := row5 hst2.2.1
  have pf3 := pf 3
  have z2 := hst2.2.2.2.2
  have hsz2 : (w2.setCell ⟨w.heap.size + 1 + 1, 3, none⟩ (.slice aK nK pK)).heap.size = w2.heap.size := by simp [World.setCell]
  have HLc := toValueS_of d HI.out N _ vL _ (Hl.out _ hs2.1) (by rw [hsz2]; omega) hzL
  have HLc' := hide' HLc
  have Hs2 := hide' hs2
  have HT2 := hide' hTS2'
  have HK2 := hide' hK2'
  have hltS2 := hTS2.lt gS (by simp)
  clear hs2 hTS2' hK2' HLc pf qf hg2 hTS2 hK2 hst2
  go_wp2_with fail
  refine HLc'.out.mono ?_
  rintro e w3 ⟨uL, rfl, BL, hL3, hBL, b3⟩
  have hst3 := st_below Hs2.out b3
  have hTS3 : TOwn w3 (.slice (some ⟨gS, 0, none⟩) vs.length vs.length) vs [gS] := HT2.out.agree fun b hb => b3.block b (HT2.out.lt b hb)
  have hK3 : KOwn w3 (.slice aK nK pK) vK BK := HK2.out.agree fun b hb => b3.block b (HK2.out.lt b hb)
  have hLform : ∃ (a : Option Addr) (n p : Nat), uL = .slice a n p := by
    rcases hL3 with ⟨h1, _⟩ | ⟨g, cap, cur, Bs, h1, _⟩
    · exact ⟨_, _, _, h1⟩
    · exact ⟨_, _, _, h1⟩
  obtain ⟨aL, nL, pL, rfl⟩ := hLform
  have z23 := b3.size
  rw [hsz2] at hBL z23
  clear HLc' Hs2 HT2 HK2 b3 p0 p1 p2 p3 p4 q0 q1 q2 q3 q4 pf3
  obtain ⟨p0, p1, p2, p3, p4, pf⟩ := row5 hst3.2.2.2.1
  obtain ⟨r0, r1, r2, r3, r4, rf⟩ := row5 hst3.2.2.1
  have pf4 := pf 4
  have rf0 := rf 0
  have rf1 := rf 1
  have rf2 := rf 2
  have rf3 := rf 3
  have rf4 := rf 4
  have z3 := hst3.2.2.2.2
  have B3 := hst3.1
  have hrow : (set5 (w3.setCell ⟨w.heap.size + 1 + 1, 4, none⟩ (.slice aL nL pL)) (w.heap.size + 1) 0 (.int .i64 vk) (.int .i64 vn) (.slice (some ⟨gS, 0, none⟩) vs.length vs.length) (.slice aK nK pK) (.slice aL nL pL)).heap[w.heap.size + 1]? = some (.cells #[.int .i64 vk, .int .i64 vn, .slice (some ⟨gS, 0, none⟩) vs.length vs.length, .slice aK nK pK, .slice aL nL pL] 33 (0, 0)) :=
    set5_heap _ _ _ _ _ ((Below.heap_setCell w3 _ _ _ (by show w.heap.size + 1 ≠ w.heap.size + 1 + 1; omega)).trans hst3.2.2.1)
  have hk5 := row5 hrow
  simp only [set5, Nat.zero_add] at hk5
  have Hk5 := hide' hk5
  clear hrow hk5
  have hltS3 := hTS3.lt gS (by simp)
  have HT3 := hide' hTS3
  have HK3 := hide' hK3
  have HL3 := hide' hL3
  clear hTS3 hK3 hL3 hst3 pf rf
  go_wp2_with fail
  obtain ⟨y0, y1, y2, y3, y4, _⟩ := Hk5.out
  refine bodyPost_ret (v := .agg #[.int .i64 vk, .int .i64 vn, .slice (some ⟨gS, 0, none⟩) vs.length vs.length, .slice aK nK pK, .slice aL nL pL]) (by simp [results, Try.results11, go_sem, y0, y1, y2, y3, y4]) rfl ?_
  have hA := grown1 w3 (w.heap.size + 1 + 1) 4 (.slice aL nL pL)
  have hsz3 : (w3.setCell ⟨w.heap.size + 1 + 1, 4, none⟩ (.slice aL nL pL)).heap.size = w3.heap.size := by simp [World.setCell]
  have hB5 := set5_grown (w3.setCell ⟨w.heap.size + 1 + 1, 4, none⟩ (.slice aL nL pL)) (w.heap.size + 1) 0 (.int .i64 vk) (.int .i64 vn) (.slice (some ⟨gS, 0, none⟩) vs.length vs.length) (.slice aK nK pK) (.slice aL nL pL)
  have hsz4 := set5_size (w3.setCell ⟨w.heap.size + 1 + 1, 4, none⟩ (.slice aL nL pL)) (w.heap.size + 1) 0 (.int .i64 vk) (.int .i64 vn) (.slice (some ⟨gS, 0, none⟩) vs.length vs.length) (.slice aK nK pK) (.slice aL nL pL)
  have hb : ∀ b, w.heap.size + 3 ≤ b → b < w3.heap.size → (set5 (w3.setCell ⟨w.heap.size + 1 + 1, 4, none⟩ (.slice aL nL pL)) (w.heap.size + 1) 0 (.int .i64 vk) (.int .i64 vn) (.slice (some ⟨gS, 0, none⟩) vs.length vs.length) (.slice aK nK pK) (.slice aL nL pL)).heap[b]? = w3.heap[b]? := by
    intro b h1 h2
    rw [hB5.block b (by omega) (by simp; omega)]
    exact hA.block b h2 (by simp; omega)
  have hBf : Below w.heap.size w (set5 (w3.setCell ⟨w.heap.size + 1 + 1, 4, none⟩ (.slice aL nL pL)) (w.heap.size + 1) 0 (.int .i64 vk) (.int .i64 vn) (.slice (some ⟨gS, 0, none⟩) vs.length vs.length) (.slice aK nK pK) (.slice aL nL pL)) :=
    (B3.grown hA B3.size (by intro j hj; simp at hj; omega)).grown hB5 (by omega) (by intro j hj; simp at hj; omega)
  have hTf := HT3.out.agree (w' := set5 (w3.setCell ⟨w.heap.size + 1 + 1, 4, none⟩ (.slice aL nL pL)) (w.heap.size + 1) 0 (.int .i64 vk) (.int .i64 vn) (.slice (some ⟨gS, 0, none⟩) vs.length vs.length) (.slice aK nK pK) (.slice aL nL pL)) fun b h => hb b (by simp at h; omega) (by simp at h; omega)
  have hKf := HK3.out.agree (w' := set5 (w3.setCell ⟨w.heap.size + 1 + 1, 4, none⟩ (.slice aL nL pL)) (w.heap.size + 1) 0 (.int .i64 vk) (.int .i64 vn) (.slice (some ⟨gS, 0, none⟩) vs.length vs.length) (.slice aK nK pK) (.slice aL nL pL)) fun b h => hb b (by have := hBK b h; omega) (by have := hBK b h; omega)
  have hLf := HL3.out.agree (w' := set5 (w3.setCell ⟨w.heap.size + 1 + 1, 4, none⟩ (.slice aL nL pL)) (w.heap.size + 1) 0 (.int .i64 vk) (.int .i64 vn) (.slice (some ⟨gS, 0, none⟩) vs.length vs.length) (.slice aK nK pK) (.slice aL nL pL)) fun b h => hb b (by have := hBL b h; omega) (by have := hBL b h; omega)
  refine ⟨_, _, _, _, _, rfl, [gS] ++ (BK ++ BL), (VOwn_succ _ _ _ _ _).2 ⟨rfl, rfl, [gS], BK, BL, hTf, hKf, hLf, rfl, ?_⟩, ?_, hBf⟩
  · rw [List.nodup_append, List.nodup_append]
    refine ⟨by simp, ⟨HK3.out.nodup, HL3.out.nodup, fun b h1 c h2 => ?_⟩, fun b h1 c h2 => ?_⟩
    · have := hBK b h1
      have := hBL c h2
      omega
    · simp at h1
      rcases List.mem_append.1 h2 with h3 | h3
      · have := hBK c h3; omega
      · have := hBL c h3; omega
  · intro b hbm
    show w.heap.size ≤ b ∧ b < (set5 (w3.setCell ⟨w.heap.size + 1 + 1, 4, none⟩ (.slice aL nL pL)) (w.heap.size + 1) 0 (.int .i64 vk) (.int .i64 vn) (.slice (some ⟨gS, 0, none⟩) vs.length vs.length) (.slice aK nK pK) (.slice aL nL pL)).heap.size
    rw [hsz4, hsz3]
    rcases List.mem_append.1 hbm with h3 | h3
    · simp at h3; omega
    · rcases List.mem_append.1 h3 with h4 | h4
      · have := hBK b h4; omega
      · have := hBL b h4; omega

theorem toValue_any (d : Nat) : ToAt d := by
  induction d with
  | zero => intro N c v w hv; exact hv.elim
  | succ d ih => exact toValue_succ d ih
end Go.Proofs.Ytddnncndcmnnjaa
/-
  eqByteSS, eqValueS, eqValue of the laws: of two readings of the same they answer true, and turn nothing old.
-/
namespace Go.Proofs.Ytddnncndcmnnjaa
open Go.RowKit
set_option linter.unusedVariables false

set_option maxHeartbeats 1600000 in
theorem eqByteSS_same (N : Nat) (x y : Value) (ks : List (List Int)) (w : World) (hx : KSeg (fun b => b < N) w x ks) (hy : KSeg (fun b => b < N) w y ks) (hN : N ≤ w.heap.size) (hz : szK ks ≤ 1048576) :
    Calls Try.prog 24 #[x, y] w fun e w' => e = .returned (.bool true) ∧ Below w.heap.size w w' := by
  obtain ⟨a, cap, rfl, hlc, hcm, ka, hc⟩ := hx
  obtain ⟨a', cap', rfl, hlc', hcm', ka', hc'⟩ := hy
  have hn : ks.length ≤ 1048576 := by unfold szK at hz; omega
  have hel : ∀ k, k < ks.length → (ks.getD k []).length ≤ 1048576 := by
    intro k hk
    have h1 := pre_succ List.length ks k hk
    have h2 := pre_le List.length ks (k + 1)
    have h3 : ks.getD k [] = ks[k] := by simp [List.getD_eq_getElem?_getD, hk]
    rw [h3]
    unfold szK at hz
    omega
  have HE := hide' hel
  have HC : Hid (ks = [] ∨ ∃ b off, a = some ⟨b, off, none⟩ ∧ b < N ∧ ∀ i, i < ks.length → ∃ u, w.cell? ⟨b, off + i, none⟩ = some u ∧ TSeg (fun b => b < N) w u (ks.getD i [])) := hc
  have HC' : Hid (ks = [] ∨ ∃ b off, a' = some ⟨b, off, none⟩ ∧ b < N ∧ ∀ i, i < ks.length → ∃ u, w.cell? ⟨b, off + i, none⟩ = some u ∧ TSeg (fun b => b < N) w u (ks.getD i [])) := hc'
  clear hc hc' hel hz
  unfold maxLen at hcm hcm'
  go_enter Try.func24, Try.ntmps24
  go_wp2
  go_loopw [5] (fun i wr => ∃ k : Nat, k ≤ ks.length ∧ i = .int .i64 k ∧ Below w.heap.size w wr) (fun i _ => ks.length - (intOf i).toNat)
  case atStart => exact ⟨0, Nat.zero_le _, rfl, Below.refl _ _⟩
  case round =>
    obtain ⟨k, hk, rfl, hbel⟩ := hrel
    have hsz2 := hbel.size
    by_cases hlt : k < ks.length
    · have ag : Agree (fun b => b < N) w wr := agree_below (hbel.mono hN)
      have hcell : ∃ b off u, a = some ⟨b, off, none⟩ ∧ wr.cell? ⟨b, off + k, none⟩ = some u ∧ TSeg (fun b => b < N) wr u (ks.getD k []) := by
        rcases HC.out with e | ⟨b, off, e, hb, hc⟩
        · rw [e] at hlt; simp at hlt
        · obtain ⟨u, hu, ht⟩ := hc k hlt
          exact ⟨b, off, u, e, (cell_agree ag hb).trans hu, ht.agree ag⟩
      have hcell' : ∃ b off u, a' = some ⟨b, off, none⟩ ∧ wr.cell? ⟨b, off + k, none⟩ = some u ∧ TSeg (fun b => b < N) wr u (ks.getD k []) := by
        rcases HC'.out with e | ⟨b, off, e, hb, hc⟩
        · rw [e] at hlt; simp at hlt
        · obtain ⟨u, hu, ht⟩ := hc k hlt
          exact ⟨b, off, u, e, (cell_agree ag hb).trans hu, ht.agree ag⟩
      obtain ⟨b, off, u, rfl, hu, a2, p2, rfl, s2, _, _, _, _⟩ := hcell
      obtain ⟨b', off', u', rfl, hu', a3, p3, rfl, s3, _, _, _, _⟩ := hcell'
      have hlt' : (k : Int) < (ks.length : Int) := by omega
      have hlk := HE.out k hlt
      generalize ks.getD k [] = ys at *
      have hE := hide' (eqByteS_same a2 a3 p2 p3 ys wr.drew s2 s3 (by omega))
      clear s2 s3 ag
      go_wp2_with fail
      go_region_with (go_at_call 23; refine hE.out.mono ?_; rintro e w1 ⟨rfl, b1⟩)
      all_goals
        have B1 : Below w.heap.size w w1 := Below.on hbel.drew b1
        go_wp2
        go_roundw
        case rel => exact ⟨k + 1, by omega, by go_num, B1⟩
        case measure => simp [intOf]; omega
    · have hlt' : ¬ (k : Int) < (ks.length : Int) := by omega
      go_wp2
      go_ret
      exact ⟨rfl, hbel⟩
/-- The contract of eqValue at depth d, of two readings of one value. -/
def EqAt (d : Nat) : Prop := ∀ (N : Nat) (c c' : Value × Value × Value × Value × Value) (v : Vl d) (w : World), VSeg (fun b => b < N) w d c v → VSeg (fun b => b < N) w d c' v → N ≤ w.heap.size → szV d v ≤ 1048576 →
  Calls Try.prog 13 #[.agg #[c.1, c.2.1, c.2.2.1, c.2.2.2.1, c.2.2.2.2], .agg #[c'.1, c'.2.1, c'.2.2.1, c'.2.2.2.1, c'.2.2.2.2]] w fun e w' => e = .returned (.bool true) ∧ Below w.heap.size w w'

set_option maxHeartbeats 1600000 in
theorem eqValueS_of (d : Nat) (ih : EqAt d) (N : Nat) (x y : Value) (l : List (Vl d)) (w : World) (hx : LSeg (fun b => b < N) w d x l) (hy : LSeg (fun b => b < N) w d y l) (hN : N ≤ w.heap.size) (hz : szL d l ≤ 1048576) :
    Calls Try.prog 25 #[x, y] w fun e w' => e = .returned (.bool true) ∧ Below w.heap.size w w' := by
  obtain ⟨a, cap, rfl, hlc, hcm, ka, hc⟩ := hx
  obtain ⟨a', cap', rfl, hlc', hcm', ka', hc'⟩ := hy
  have hn : l.length ≤ 1048576 := by unfold szL at hz; omega
  have HI := hide' ih
  have HZ := hide' hz
  have HC : Hid (l = [] ∨ ∃ b off, a = some ⟨b, off, none⟩ ∧ b < N ∧ ∀ i (h : i < l.length), ∃ e, Five w b (off + i * 5) e ∧ VSeg (fun b => b < N) w d e (l[i])) := hc
  have HC' : Hid (l = [] ∨ ∃ b off, a' = some ⟨b, off, none⟩ ∧ b < N ∧ ∀ i (h : i < l.length), ∃ e, Five w b (off + i * 5) e ∧ VSeg (fun b => b < N) w d e (l[i])) := hc'
  clear hc hc' ih hz
  unfold maxLen at hcm hcm'
  go_enter Try.func25, Try.ntmps25
  go_wp2
  go_loopw [5] (fun i wr => ∃ k : Nat, k ≤ l.length ∧ i = .int .i64 k ∧ Below w.heap.size w wr) (fun i _ => l.length - (intOf i).toNat)
  case atStart => exact ⟨0, Nat.zero_le _, rfl, Below.refl _ _⟩
  case round =>
    obtain ⟨k, hk, rfl, hbel⟩ := hrel
    have hsz2 := hbel.size
    by_cases hlt : k < l.length
    · have ag : Agree (fun b => b < N) w wr := agree_below (hbel.mono hN)
      have hcell : ∃ b off e, a = some ⟨b, off, none⟩ ∧ Five wr b (off + k * 5) e ∧ VSeg (fun b => b < N) wr d e (l[k]) := by
        rcases HC.out with e | ⟨b, off, e, hb, hc⟩
        · rw [e] at hlt; simp at hlt
        · obtain ⟨c, h5, hv⟩ := hc k hlt
          exact ⟨b, off, c, e, h5.agree ag hb, VSeg.agree ag d hv⟩
      have hcell' : ∃ b off e, a' = some ⟨b, off, none⟩ ∧ Five wr b (off + k * 5) e ∧ VSeg (fun b => b < N) wr d e (l[k]) := by
        rcases HC'.out with e | ⟨b, off, e, hb, hc⟩
        · rw [e] at hlt; simp at hlt
        · obtain ⟨c, h5, hv⟩ := hc k hlt
          exact ⟨b, off, c, e, h5.agree ag hb, VSeg.agree ag d hv⟩
      obtain ⟨b, off, c, rfl, h5, hv⟩ := hcell
      obtain ⟨b', off', c', rfl, h5', hv'⟩ := hcell'
      obtain ⟨c0, c1, c2, c3, c4⟩ := c
      obtain ⟨e0, e1, e2, e3, e4⟩ := c'
      obtain ⟨q0, q1, q2, q3, q4⟩ := h5
      obtain ⟨r0, r1, r2, r3, r4⟩ := h5'
      simp only at q0 q1 q2 q3 q4 r0 r1 r2 r3 r4
      have hlt' : (k : Int) < (l.length : Int) := by omega
      have hzk : szV d l[k] ≤ 1048576 := Nat.le_trans (sz_elem hlt) HZ.out
      have hE := hide' (HI.out N (c0, c1, c2, c3, c4) (e0, e1, e2, e3, e4) l[k] wr.drew (VSeg.agree (w := wr) (w' := wr.drew) (fun b _ => rfl) d hv) (VSeg.agree (w := wr) (w' := wr.drew) (fun b _ => rfl) d hv') (by show N ≤ wr.heap.size; omega) hzk)
      clear hv hv' ag hzk
      go_wp2_with fail
      go_region_with (go_at_call 13; refine hE.out.mono ?_; rintro e w1 ⟨rfl, b1⟩)
      all_goals
        have B1 : Below w.heap.size w w1 := Below.on hbel.drew b1
        clear q0 q1 q2 q3 q4 r0 r1 r2 r3 r4
        go_wp2
        go_roundw
        case rel => exact ⟨k + 1, by omega, by go_num, B1⟩
        case measure => simp [intOf]; omega
    · have hlt' : ¬ (k : Int) < (l.length : Int) := by omega
      go_wp2
      go_ret
      exact ⟨rfl, hbel⟩

set_option maxHeartbeats 1600000 in
theorem eqValue_succ (d : Nat) (ih : EqAt d) : EqAt (d + 1) := by
  intro N c c' v w hv hv' hN hz
  obtain ⟨c0, c1, c2, c3, c4⟩ := c
  obtain ⟨g0, g1, g2, g3, g4⟩ := c'
  obtain ⟨vk, vn, vs, vK, vL⟩ := v
  obtain ⟨e0, e1, ht, hk, hl⟩ := (VSeg_succ _ _ _ _ _).1 hv
  obtain ⟨f0, f1, ht', hk', hl'⟩ := (VSeg_succ _ _ _ _ _).1 hv'
  simp only at e0 e1 ht hk hl f0 f1 ht' hk' hl'
  subst e0
  subst e1
  subst f0
  subst f1
  have hsz : szV (d + 1) (vk, vn, vs, vK, vL) = vs.length + szK vK + szL d vL := rfl
  rw [hsz] at hz
  clear hsz hv hv'
  simp only
  have hz1 : vs.length ≤ 1048576 := by omega
  have hz2 : szK vK ≤ 1048576 := by omega
  have hz3 : szL d vL ≤ 1048576 := by omega
  have Hk : Hid (∀ wx, Below w.heap.size w wx → KSeg (fun b => b < N) wx c3 vK ∧ KSeg (fun b => b < N) wx g3 vK) := fun wx hb => ⟨hk.agree (agree_below (hb.mono hN)), hk'.agree (agree_below (hb.mono hN))⟩
  have Hl : Hid (∀ wx, Below w.heap.size w wx → LSeg (fun b => b < N) wx d c4 vL ∧ LSeg (fun b => b < N) wx d g4 vL) := fun wx hb => ⟨hl.agree (agree_below (hb.mono hN)), hl'.agree (agree_below (hb.mono hN))⟩
  have HI := hide' ih
  have Hb : Hid (∀ o o' : Obj, Below w.heap.size w ((w.alloc o).alloc o')) := fun o o' => ((Below.refl _ _).alloc (Nat.le_refl _) o).alloc (by simp) o'
  obtain ⟨a3, cp3, rfl, _, _, _, _⟩ := hk
  obtain ⟨a4, cp4, rfl, _, _, _, _⟩ := hl
  obtain ⟨a3', cp3', rfl, _, _, _, _⟩ := hk'
  obtain ⟨a4', cp4', rfl, _, _, _, _⟩ := hl'
  have Ht : Hid (∀ wx, Below w.heap.size w wx → TSeg (fun b => b < N) wx c2 vs ∧ TSeg (fun b => b < N) wx g2 vs) := fun wx hb => ⟨ht.agree (agree_below (hb.mono hN)), ht'.agree (agree_below (hb.mono hN))⟩
  obtain ⟨a2, cp2, rfl, s2, hl2, hm2, _, _⟩ := ht
  obtain ⟨a2', cp2', rfl, s2', hl2', hm2', _, _⟩ := ht'
  have Hs : Hid (∀ wx, Below w.heap.size w wx → Seg wx a2 vs ∧ Seg wx a2' vs) := by
    intro wx hb
    obtain ⟨x1, x2⟩ := Ht.out wx hb
    obtain ⟨_, _, y1, y2, _⟩ := x1
    obtain ⟨_, _, z1, z2, _⟩ := x2
    simp at y1 z1
    exact ⟨y1.1 ▸ y2, z1.1 ▸ z2⟩
  clear ih Ht s2 s2'
  go_enter Try.func13, Try.ntmps13
  go_wp2_with fail
  have q1 := Hb.out (.cells #[.int .i64 vk, .int .i64 vn, .slice a2 vs.length cp2, .slice a3 vK.length cp3, .slice a4 vL.length cp4] 33) (.cells #[.int .i64 vk, .int .i64 vn, .slice a2' vs.length cp2', .slice a3' vK.length cp3', .slice a4' vL.length cp4'] 33)
  have r1 : ∀ o o' : Obj, ((w.alloc o).alloc o').heap[w.heap.size]? = some o ∧ ((w.alloc o).alloc o').heap[w.heap.size + 1]? = some o' := two_boxes w
  have R1 := r1 (.cells #[.int .i64 vk, .int .i64 vn, .slice a2 vs.length cp2, .slice a3 vK.length cp3, .slice a4 vL.length cp4] 33) (.cells #[.int .i64 vk, .int .i64 vn, .slice a2' vs.length cp2', .slice a3' vK.length cp3', .slice a4' vL.length cp4'] 33)
  refine (eqByteS_same _ _ _ _ vs _ (Hs.out _ q1).1 (Hs.out _ q1).2 (by omega)).mono ?_
  rintro e w1 ⟨rfl, b1⟩
  have B1 := Below.on q1 b1
  have R1a := (b1.block _ (by rw [size2]; omega)).trans R1.1
  have R1b := (b1.block _ (by rw [size2]; omega)).trans R1.2
  obtain ⟨_, _, _, x3, x4, _⟩ := row5 R1a
  obtain ⟨_, _, _, y3, y4, _⟩ := row5 R1b
  have hz1 : w.heap.size + 2 ≤ w1.heap.size := by have := b1.size; rw [size2] at this; omega
  have HK := hide' (eqByteSS_same N _ _ vK w1 (Hk.out _ B1).1 (Hk.out _ B1).2 (by omega) hz2)
  have HRa := hide' R1a
  have HRb := hide' R1b
  clear q1 r1 R1 b1 R1a R1b Hs
  go_wp2_with fail
  refine HK.out.mono ?_
  rintro e w2 ⟨rfl, b2⟩
  have B2 := Below.on B1 b2
  have hz2 := b2.size
  obtain ⟨_, _, _, _, x4, _⟩ := row5 ((b2.block _ (by omega)).trans HRa.out)
  obtain ⟨_, _, _, _, y4, _⟩ := row5 ((b2.block _ (by omega)).trans HRb.out)
  have HL := hide' (eqValueS_of d HI.out N _ _ vL w2 (Hl.out _ B2).1 (Hl.out _ B2).2 (by omega) hz3)
  clear b2 HRa HRb HK B1 Hk Hl
  go_wp2_with fail
  refine HL.out.mono ?_
  rintro e w3 ⟨rfl, b3⟩
  have B3 := Below.on B2 b3
  go_wp2
  go_ret
  exact ⟨rfl, B3⟩
theorem eqValue_any (d : Nat) : EqAt d := by
  induction d with
  | zero => intro N c c' v w hv; exact hv.elim
  | succ d ih => exact eqValue_succ d ih
end Go.Proofs.Ytddnncndcmnnjaa
/-
  Small laws on calls that turn nothing, on the box of a value, on lists of values; no statement is proved here.
-/
namespace Go.Proofs.Ytddnncndcmnnjaa
open Go.RowKit
set_option linter.unusedVariables false
set_option linter.unusedSimpArgs false

theorem quiet_same {P : Program} {f : FuncId} {args : Array Value} {w : World} {n : Nat} {v : Value}
    (h : Calls P f args (w.drewN n) fun e w' => e = .returned v ∧ w.drewN n = w') : Calls P f args (w.drewN n) fun e w'' => e = .returned v ∧ ∃ m, w'' = w.drewN m :=
  Calls.quiet_of_same (h.mono fun _ _ ⟨he, hm⟩ => ⟨he, hm.symm⟩)

/-- The box of a value that was handed in. -/
theorem box_row {w wr : World} {o : Obj} (h : Below (w.alloc o).heap.size (w.alloc o) wr) : wr.heap[w.heap.size]? = some o :=
  (h.block w.heap.size (by simp)).trans (MapKept.heap_alloc w o).1

theorem LSeg.at {N : Nat} {w wr : World} {d : Nat} {a : Option Addr} {n cap : Nat} {l : List (Vl d)} (h : LSeg (fun b => b < N) w d (.slice a n cap) l) (hb : Below w.heap.size w wr) (hN : N ≤ w.heap.size) {k : Nat} (hk : k < l.length) :
    ∃ b off c, a = some ⟨b, off, none⟩ ∧ Five wr b (off + k * 5) c ∧ ∀ wx, Below w.heap.size w wx → VSeg (fun b => b < N) wx d c (l[k]) := by
  obtain ⟨a', cap', h1, h2, h3, h4, h5⟩ := h
  simp only [Value.slice.injEq] at h1
  obtain ⟨rfl, _, _⟩ := h1
  rcases h5 with h0 | ⟨b, off, rfl, hR, hc⟩
  · subst h0; simp at hk
  · obtain ⟨c, h5, hv⟩ := hc k hk
    exact ⟨b, off, c, rfl, h5.agree (agree_below (hb.mono hN)) hR, fun wx hx => VSeg.agree (agree_below (hx.mono hN)) d hv⟩

theorem VSeg.form {R : Nat → Prop} {w : World} (d : Nat) {c0 c1 c2 c3 c4 : Value} {v : Vl d} (h : VSeg R w d (c0, c1, c2, c3, c4) v) :
    ∃ (k n : Int) (a2 : Option Addr) (l2 p2 : Nat) (a3 : Option Addr) (l3 p3 : Nat) (a4 : Option Addr) (l4 p4 : Nat), c0 = .int .i64 k ∧ c1 = .int .i64 n ∧ c2 = .slice a2 l2 p2 ∧ c3 = .slice a3 l3 p3 ∧ c4 = .slice a4 l4 p4 := by
  cases d with
  | zero => exact h.elim
  | succ d =>
    obtain ⟨e0, e1, ⟨a2, p2, e2, _⟩, ⟨a3, p3, e3, _⟩, a4, p4, e4, _⟩ := h
    exact ⟨_, _, _, _, _, _, _, _, _, _, _, e0, e1, e2, e3, e4⟩
end Go.Proofs.Ytddnncndcmnnjaa
/-
  szEnv: five values are not too great.
-/
namespace Go.Proofs.Ytddnncndcmnnjaa
open Go.RowKit
set_option linter.unusedVariables false
set_option linter.unusedSimpArgs false

/-- Five sizes, none too great. -/
def AllSz (d : Nat) (v0 v1 v2 v3 v4 : Vl d) : Prop := szV d v0 ≤ 1048576 ∧ szV d v1 ≤ 1048576 ∧ szV d v2 ≤ 1048576 ∧ szV d v3 ≤ 1048576 ∧ szV d v4 ≤ 1048576

set_option maxHeartbeats 3200000 in
set_option maxRecDepth 100000 in
theorem szEnv_any (d N : Nat) (c00 c01 c02 c03 c04 c10 c11 c12 c13 c14 c20 c21 c22 c23 c24 c30 c31 c32 c33 c34 c40 c41 c42 c43 c44 : Value) (v0 v1 v2 v3 v4 : Vl d) (w : World) (hv0 : VSeg (fun b => b < N) w d (c00, c01, c02, c03, c04) v0) (hv1 : VSeg (fun b => b < N) w d (c10, c11, c12, c13, c14) v1) (hv2 : VSeg (fun b => b < N) w d (c20, c21, c22, c23, c24) v2) (hv3 : VSeg (fun b => b < N) w d (c30, c31, c32, c33, c34) v3) (hv4 : VSeg (fun b => b < N) w d (c40, c41, c42, c43, c44) v4) (hN : N ≤ w.heap.size) :
    Calls Try.prog 4 #[.agg #[c00, c01, c02, c03, c04, c10, c11, c12, c13, c14, c20, c21, c22, c23, c24, c30, c31, c32, c33, c34, c40, c41, c42, c43, c44], .int .i64 1048576] w fun e w' => (e = .returned (.int .i64 (-1)) ∨ ∃ n : Int, 0 ≤ n ∧ n ≤ 1048576 ∧ e = .returned (.int .i64 n) ∧ AllSz d v0 v1 v2 v3 v4) ∧ Below w.heap.size w w' := by
  have b0 : ∀ o : Obj, Below w.heap.size w (w.alloc o) := fun o => (Below.refl _ _).alloc (Nat.le_refl _) o
  have Hb := hide' b0
  have Hbox : Hid (∀ o wx, Below (w.alloc o).heap.size (w.alloc o) wx → wx.heap[w.heap.size]? = some o) := fun o wx h => box_row h
  have HS0 : Hid (∀ (n : Int) wx, 0 ≤ n → n ≤ 1048576 → Below w.heap.size w wx → Calls Try.prog 9 #[.agg #[c00, c01, c02, c03, c04], .int .i64 n] wx fun e w' => e = .returned (.int .i64 (less n (szV d v0))) ∧ Below wx.heap.size wx w') := fun n wx hn hm hb =>
    szValue_any d N (c00, c01, c02, c03, c04) v0 n wx (VSeg.agree (agree_below (hb.mono hN)) d hv0) (by have := hb.size; omega) (by omega) (by omega)
  have HS1 : Hid (∀ (n : Int) wx, 0 ≤ n → n ≤ 1048576 → Below w.heap.size w wx → Calls Try.prog 9 #[.agg #[c10, c11, c12, c13, c14], .int .i64 n] wx fun e w' => e = .returned (.int .i64 (less n (szV d v1))) ∧ Below wx.heap.size wx w') := fun n wx hn hm hb =>
    szValue_any d N (c10, c11, c12, c13, c14) v1 n wx (VSeg.agree (agree_below (hb.mono hN)) d hv1) (by have := hb.size; omega) (by omega) (by omega)
  have HS2 : Hid (∀ (n : Int) wx, 0 ≤ n → n ≤ 1048576 → Below w.heap.size w wx → Calls Try.prog 9 #[.agg #[c20, c21, c22, c23, c24], .int .i64 n] wx fun e w' => e = .returned (.int .i64 (less n (szV d v2))) ∧ Below wx.heap.size wx w') := fun n wx hn hm hb =>
    szValue_any d N (c20, c21, c22, c23, c24) v2 n wx (VSeg.agree (agree_below (hb.mono hN)) d hv2) (by have := hb.size; omega) (by omega) (by omega)
  have HS3 : Hid (∀ (n : Int) wx, 0 ≤ n → n ≤ 1048576 → Below w.heap.size w wx → Calls Try.prog 9 #[.agg #[c30, c31, c32, c33, c34], .int .i64 n] wx fun e w' => e = .returned (.int .i64 (less n (szV d v3))) ∧ Below wx.heap.size wx w') := fun n wx hn hm hb =>
    szValue_any d N (c30, c31, c32, c33, c34) v3 n wx (VSeg.agree (agree_below (hb.mono hN)) d hv3) (by have := hb.size; omega) (by omega) (by omega)
  have HS4 : Hid (∀ (n : Int) wx, 0 ≤ n → n ≤ 1048576 → Below w.heap.size w wx → Calls Try.prog 9 #[.agg #[c40, c41, c42, c43, c44], .int .i64 n] wx fun e w' => e = .returned (.int .i64 (less n (szV d v4))) ∧ Below wx.heap.size wx w') := fun n wx hn hm hb =>
    szValue_any d N (c40, c41, c42, c43, c44) v4 n wx (VSeg.agree (agree_below (hb.mono hN)) d hv4) (by have := hb.size; omega) (by omega) (by omega)
  obtain ⟨ck0, cn0, ca0, cl0, cp0, cb0, cm0, cq0, cd0, co0, cr0, rfl, rfl, rfl, rfl, rfl⟩ := VSeg.form d hv0
  obtain ⟨ck1, cn1, ca1, cl1, cp1, cb1, cm1, cq1, cd1, co1, cr1, rfl, rfl, rfl, rfl, rfl⟩ := VSeg.form d hv1
  obtain ⟨ck2, cn2, ca2, cl2, cp2, cb2, cm2, cq2, cd2, co2, cr2, rfl, rfl, rfl, rfl, rfl⟩ := VSeg.form d hv2
  obtain ⟨ck3, cn3, ca3, cl3, cp3, cb3, cm3, cq3, cd3, co3, cr3, rfl, rfl, rfl, rfl, rfl⟩ := VSeg.form d hv3
  obtain ⟨ck4, cn4, ca4, cl4, cp4, cb4, cm4, cq4, cd4, co4, cr4, rfl, rfl, rfl, rfl, rfl⟩ := VSeg.form d hv4
  clear b0 hv0 hv1 hv2 hv3 hv4
  unfold AllSz
  generalize szV d v0 = s0 at *
  generalize szV d v1 = s1 at *
  generalize szV d v2 = s2 at *
  generalize szV d v3 = s3 at *
  generalize szV d v4 = s4 at *
  go_enter Try.func4, Try.ntmps4
  go_wp2_with fail
  refine (HS0.out 1048576 _ (by omega) (by omega) (Hb.out _)).mono ?_
  rintro e w1 ⟨rfl, b1⟩
  have B1 := hide' b1
  clear b1 HS0
  by_cases h0 : (1048576 : Int) < s0
  · have hl : less (1048576 : Int) s0 = -1 := less_no _ _ h0
    rw [hl]
    clear hl
    go_wp2
    go_ret
    exact ⟨.inl rfl, Below.on (Hb.out _) B1.out⟩
  have hl0 : less (1048576 : Int) s0 = 1048576 - s0 := less_yes _ _ h0
  rw [hl0]
  clear hl0
  obtain ⟨n1, hn1⟩ : ∃ n : Int, n = 1048576 - (s0 : Int) := ⟨_, rfl⟩
  rw [← hn1]
  have hm1 : n1 ≤ 1048576 := by omega
  have hp1 : 0 ≤ n1 := by omega
  have hs0 : s0 ≤ 1048576 := by omega
  clear hn1 h0
  have hrow := Hbox.out _ _ B1.out
  have y10 : w1.cell? ⟨w.heap.size, 5, none⟩ = some (.int .i64 ck1) := by rw [cell_of_row w1 w.heap.size 5 _ _ _ hrow]; rfl
  have y11 : w1.cell? ⟨w.heap.size, 6, none⟩ = some (.int .i64 cn1) := by rw [cell_of_row w1 w.heap.size 6 _ _ _ hrow]; rfl
  have y12 : w1.cell? ⟨w.heap.size, 7, none⟩ = some (.slice ca1 cl1 cp1) := by rw [cell_of_row w1 w.heap.size 7 _ _ _ hrow]; rfl
  have y13 : w1.cell? ⟨w.heap.size, 8, none⟩ = some (.slice cb1 cm1 cq1) := by rw [cell_of_row w1 w.heap.size 8 _ _ _ hrow]; rfl
  have y14 : w1.cell? ⟨w.heap.size, 9, none⟩ = some (.slice cd1 co1 cr1) := by rw [cell_of_row w1 w.heap.size 9 _ _ _ hrow]; rfl
  clear hrow
  go_wp2_with fail
  refine (HS1.out n1 _ hp1 hm1 (Below.on (Hb.out _) B1.out)).mono ?_
  rintro e w2 ⟨rfl, b2⟩
  have B2 := hide' (Below.on B1.out b2)
  clear b2 HS1
  by_cases h1 : (n1 : Int) < s1
  · have hl : less (n1 : Int) s1 = -1 := less_no _ _ h1
    rw [hl]
    clear hl
    go_wp2
    go_ret
    exact ⟨.inl rfl, Below.on (Hb.out _) B2.out⟩
  have hl1 : less (n1 : Int) s1 = n1 - s1 := less_yes _ _ h1
  rw [hl1]
  clear hl1
  obtain ⟨n2, hn2⟩ : ∃ n : Int, n = n1 - (s1 : Int) := ⟨_, rfl⟩
  rw [← hn2]
  have hm2 : n2 ≤ 1048576 := by omega
  have hp2 : 0 ≤ n2 := by omega
  have hs1 : s1 ≤ 1048576 := by omega
  clear hn2 h1
  have hrow := Hbox.out _ _ B2.out
  have y20 : w2.cell? ⟨w.heap.size, 10, none⟩ = some (.int .i64 ck2) := by rw [cell_of_row w2 w.heap.size 10 _ _ _ hrow]; rfl
  have y21 : w2.cell? ⟨w.heap.size, 11, none⟩ = some (.int .i64 cn2) := by rw [cell_of_row w2 w.heap.size 11 _ _ _ hrow]; rfl
  have y22 : w2.cell? ⟨w.heap.size, 12, none⟩ = some (.slice ca2 cl2 cp2) := by rw [cell_of_row w2 w.heap.size 12 _ _ _ hrow]; rfl
  have y23 : w2.cell? ⟨w.heap.size, 13, none⟩ = some (.slice cb2 cm2 cq2) := by rw [cell_of_row w2 w.heap.size 13 _ _ _ hrow]; rfl
  have y24 : w2.cell? ⟨w.heap.size, 14, none⟩ = some (.slice cd2 co2 cr2) := by rw [cell_of_row w2 w.heap.size 14 _ _ _ hrow]; rfl
  clear hrow
  go_wp2_with fail
  refine (HS2.out n2 _ hp2 hm2 (Below.on (Hb.out _) B2.out)).mono ?_
  rintro e w3 ⟨rfl, b3⟩
  have B3 := hide' (Below.on B2.out b3)
  clear b3 HS2
  by_cases h2 : (n2 : Int) < s2
  · have hl : less (n2 : Int) s2 = -1 := less_no _ _ h2
    rw [hl]
    clear hl
    go_wp2
    go_ret
    exact ⟨.inl rfl, Below.on (Hb.out _) B3.out⟩
  have hl2 : less (n2 : Int) s2 = n2 - s2 := less_yes _ _ h2
  rw [hl2]
  clear hl2
  obtain ⟨n3, hn3⟩ : ∃ n : Int, n = n2 - (s2 : Int) := ⟨_, rfl⟩
  rw [← hn3]
  have hm3 : n3 ≤ 1048576 := by omega
  have hp3 : 0 ≤ n3 := by omega
  have hs2 : s2 ≤ 1048576 := by omega
  clear hn3 h2
  have hrow := Hbox.out _ _ B3.out
  have y30 : w3.cell? ⟨w.heap.size, 15, none⟩ = some (.int .i64 ck3) := by rw [cell_of_row w3 w.heap.size 15 _ _ _ hrow]; rfl
  have y31 : w3.cell? ⟨w.heap.size, 16, none⟩ = some (.int .i64 cn3) := by rw [cell_of_row w3 w.heap.size 16 _ _ _ hrow]; rfl
  have y32 : w3.cell? ⟨w.heap.size, 17, none⟩ = some (.slice ca3 cl3 cp3) := by rw [cell_of_row w3 w.heap.size 17 _ _ _ hrow]; rfl
  have y33 : w3.cell? ⟨w.heap.size, 18, none⟩ = some (.slice cb3 cm3 cq3) := by rw [cell_of_row w3 w.heap.size 18 _ _ _ hrow]; rfl
  have y34 : w3.cell? ⟨w.heap.size, 19, none⟩ = some (.slice cd3 co3 cr3) := by rw [cell_of_row w3 w.heap.size 19 _ _ _ hrow]; rfl
  clear hrow
  go_wp2_with fail
  refine (HS3.out n3 _ hp3 hm3 (Below.on (Hb.out _) B3.out)).mono ?_
  rintro e w4 ⟨rfl, b4⟩
  have B4 := hide' (Below.on B3.out b4)
  clear b4 HS3
  by_cases h3 : (n3 : Int) < s3
  · have hl : less (n3 : Int) s3 = -1 := less_no _ _ h3
    rw [hl]
    clear hl
    go_wp2
    go_ret
    exact ⟨.inl rfl, Below.on (Hb.out _) B4.out⟩
  have hl3 : less (n3 : Int) s3 = n3 - s3 := less_yes _ _ h3
  rw [hl3]
  clear hl3
  obtain ⟨n4, hn4⟩ : ∃ n : Int, n = n3 - (s3 : Int) := ⟨_, rfl⟩
  rw [← hn4]
  have hm4 : n4 ≤ 1048576 := by omega
  have hp4 : 0 ≤ n4 := by omega
  have hs3 : s3 ≤ 1048576 := by omega
  clear hn4 h3
  have hrow := Hbox.out _ _ B4.out
  have y40 : w4.cell? ⟨w.heap.size, 20, none⟩ = some (.int .i64 ck4) := by rw [cell_of_row w4 w.heap.size 20 _ _ _ hrow]; rfl
  have y41 : w4.cell? ⟨w.heap.size, 21, none⟩ = some (.int .i64 cn4) := by rw [cell_of_row w4 w.heap.size 21 _ _ _ hrow]; rfl
  have y42 : w4.cell? ⟨w.heap.size, 22, none⟩ = some (.slice ca4 cl4 cp4) := by rw [cell_of_row w4 w.heap.size 22 _ _ _ hrow]; rfl
  have y43 : w4.cell? ⟨w.heap.size, 23, none⟩ = some (.slice cb4 cm4 cq4) := by rw [cell_of_row w4 w.heap.size 23 _ _ _ hrow]; rfl
  have y44 : w4.cell? ⟨w.heap.size, 24, none⟩ = some (.slice cd4 co4 cr4) := by rw [cell_of_row w4 w.heap.size 24 _ _ _ hrow]; rfl
  clear hrow
  go_wp2_with fail
  refine (HS4.out n4 _ hp4 hm4 (Below.on (Hb.out _) B4.out)).mono ?_
  rintro e w5 ⟨rfl, b5⟩
  have B5 := hide' (Below.on B4.out b5)
  clear b5 HS4
  by_cases h4 : (n4 : Int) < s4
  · have hl : less (n4 : Int) s4 = -1 := less_no _ _ h4
    rw [hl]
    clear hl
    go_wp2
    go_ret
    exact ⟨.inl rfl, Below.on (Hb.out _) B5.out⟩
  have hl4 : less (n4 : Int) s4 = n4 - s4 := less_yes _ _ h4
  rw [hl4]
  clear hl4
  obtain ⟨n5, hn5⟩ : ∃ n : Int, n = n4 - (s4 : Int) := ⟨_, rfl⟩
  rw [← hn5]
  have hm5 : n5 ≤ 1048576 := by omega
  have hp5 : 0 ≤ n5 := by omega
  have hs4 : s4 ≤ 1048576 := by omega
  clear hn5 h4
  go_wp2
  go_ret
  exact ⟨.inr ⟨n5, by omega, by omega, rfl, hs0, hs1, hs2, hs3, hs4⟩, Below.on (Hb.out _) B5.out⟩
end Go.Proofs.Ytddnncndcmnnjaa
/-
  string(b) of a slice of bytes; the order of two such.
-/
namespace Go.Proofs.Ytddnncndcmnnjaa
open Go.RowKit
set_option linter.unusedVariables false

/-- The bytes as a string. -/
def strOf (xs : List Int) : ByteArray := ⟨(xs.map fun n => UInt8.ofNat n.toNat).toArray⟩

theorem map_byt_inj {xs ys : List Int} (hx : ∀ x ∈ xs, Byt x) (hy : ∀ y ∈ ys, Byt y) (h : (xs.map fun n => UInt8.ofNat n.toNat) = ys.map fun n => UInt8.ofNat n.toNat) : xs = ys := by
  induction xs generalizing ys with
  | nil => simpa using h.symm
  | cons x xs ih =>
    cases ys with
    | nil => simp at h
    | cons y ys =>
      simp only [List.map_cons, List.cons.injEq] at h
      have h1 : x = y := by
        have hx0 := hx x (by simp)
        have hy0 := hy y (by simp)
        unfold Byt at hx0 hy0
        have := congrArg UInt8.toNat h.1
        simp at this
        omega
      rw [h1, ih (fun z hz => hx z (by simp [hz])) (fun z hz => hy z (by simp [hz])) h.2]

theorem strOf_eq {xs ys : List Int} (hx : ∀ x ∈ xs, Byt x) (hy : ∀ y ∈ ys, Byt y) : ((strOf xs).toList == (strOf ys).toList) = decide (xs = ys) := by
  rw [strOf, strOf, ByteArray.toList_mk, ByteArray.toList_mk]
  by_cases h : xs = ys
  · simp [h]
  · have : (xs.map fun n => UInt8.ofNat n.toNat) ≠ ys.map fun n => UInt8.ofNat n.toNat := fun e => h (map_byt_inj hx hy e)
    simp [h, this]

theorem conv_seg {w : World} {a : Option Addr} {xs : List Int} (cap : Nat) (h : Seg w a xs) : (convert 22 9 (.slice a xs.length cap)).run Try.prog w = .ok (.string (strOf xs)) w := by
  cases a with
  | none =>
    have hx : xs = [] := by
      rcases h.2 with h0 | ⟨b, off, h1, _⟩
      · exact h0
      · simp at h1
    subst hx
    rw [run_convert_bytes_string w 22 9 5 none _ cap Try.underlying22 Try.underlying5 Try.underlying9]
    rfl
  | some ad =>
    have hl : (xs.map fun n => UInt8.ofNat n.toNat).length = xs.length := by simp
    have := run_convert_bytes_back (P := Try.prog) w 22 9 5 ad cap (xs.map fun n => UInt8.ofNat n.toNat) Try.underlying22 Try.underlying5 Try.underlying9 (by
      intro j hj
      rcases h.2 with h0 | ⟨b, off, h1, h2⟩
      · subst h0; simp at hj
      · simp at h1
        subst h1
        have hj' : j < xs.length := by simpa using hj
        rw [Addr.add_lit, h2 j hj']
        have hb := h.1 xs[j] (List.getElem_mem hj')
        unfold Byt at hb
        simp [hj']
        omega)
    rw [hl] at this
    exact this

theorem ret_bool {x y : Bool} (h : x = y) : Ending.returned (.bool x) = .returned (.bool y) := by rw [h]


/-- The bytes as such. -/
def u8s (xs : List Int) : List UInt8 := xs.map fun n => UInt8.ofNat n.toNat
theorem strOf_list (xs : List Int) : (strOf xs).toList = u8s xs := by rw [strOf, ByteArray.toList_mk]; rfl
theorem strOf_data (xs : List Int) : (strOf xs).data.toList = u8s xs := rfl

/-- One text is ahead of another one. -/
def ltS (xs ys : List Int) : Bool := Op.bytesLess (u8s xs) (u8s ys)

theorem less_cmp : ∀ (a b : List UInt8), Op.bytesLess a b = decide (Lib.compareBytes a b < 0)
  | [], [] => by simp [Op.bytesLess, Lib.compareBytes]
  | [], _ :: _ => by simp [Op.bytesLess, Lib.compareBytes]
  | _ :: _, [] => by simp [Op.bytesLess, Lib.compareBytes]
  | x :: a, y :: b => by
    have ih := less_cmp a b
    unfold Op.bytesLess Lib.compareBytes
    by_cases h1 : x < y
    · simp [h1]
    · by_cases h2 : y < x
      · have h3 : ¬ x = y := fun e => by subst e; exact absurd h2 (UInt8.lt_irrefl _)
        simp [h1, h2, h3]
      · have h3 : x = y := UInt8.le_antisymm (UInt8.not_lt.1 h2) (UInt8.not_lt.1 h1)
        subst h3
        simp [h1, ih]

theorem cmp_range : ∀ (a b : List UInt8), -1 ≤ Lib.compareBytes a b ∧ Lib.compareBytes a b ≤ 1
  | [], [] => by simp [Lib.compareBytes]
  | [], _ :: _ => by simp [Lib.compareBytes]
  | _ :: _, [] => by simp [Lib.compareBytes]
  | x :: a, y :: b => by
    have ih := cmp_range a b
    unfold Lib.compareBytes
    split
    · omega
    · split
      · omega
      · exact ih

theorem load_bytes {P : Program} (w : World) (xs : List Int) : ∀ (b off : Nat) (acc : ByteArray), (∀ i, i < xs.length → w.cell? ⟨b, off + i, none⟩ = some (.int .u8 (xs.getD i 0))) →
    (Extern.Bytes.loadBytes ⟨b, off, none⟩ xs.length acc).run P w = .ok ⟨acc.data ++ (u8s xs).toArray⟩ w := by
  induction xs with
  | nil => intro b off acc _; simp [Extern.Bytes.loadBytes, u8s]
  | cons x xs ih =>
    intro b off acc h
    have h0 := h 0 (by simp)
    simp only [Nat.add_zero, List.getD_cons_zero] at h0
    have h1 := ih b (off + 1) (acc.push x.toNat.toUInt8) (fun i hi => by
      have := h (i + 1) (by simp; omega)
      rw [show off + 1 + i = off + (i + 1) from by omega, this]
      simp)
    have e : (⟨b, off, none⟩ : Addr).add 1 = ⟨b, off + 1, none⟩ := Addr.add_lit b off 1
    simp only [List.length_cons, Extern.Bytes.loadBytes, Sem.run_bind, run_load, h0, Result.andThen, e]
    rw [h1]
    congr 1
    apply ByteArray.ext
    simp [ByteArray.push, u8s]

theorem bytes_of_seg {P : Program} {w : World} {a : Option Addr} {xs : List Int} (cap : Nat) (h : Seg w a xs) : (Extern.Bytes.bytesOf (.slice a xs.length cap)).run P w = .ok (strOf xs) w := by
  cases a with
  | none =>
    have hx : xs = [] := by
      rcases h.2 with h0 | ⟨b, off, h1, _⟩
      · exact h0
      · simp at h1
    subst hx
    rfl
  | some ad =>
    rcases h.2 with h0 | ⟨b, off, h1, h2⟩
    · subst h0
      rfl
    · simp at h1
      subst h1
      have := load_bytes (P := P) w xs b off .empty h2
      have he : (⟨ByteArray.empty.data ++ (u8s xs).toArray⟩ : ByteArray) = strOf xs := by
        apply ByteArray.ext
        show (#[] : Array UInt8) ++ (u8s xs).toArray = _
        simp [strOf, u8s]
      rw [he] at this
      exact this

theorem run_compare_seg {P : Program} {w : World} {a b : Option Addr} {xs ys : List Int} (c1 c2 : Nat) (ha : Seg w a xs) (hb : Seg w b ys) :
    (Extern.BytealgCompare.compare #[.slice a xs.length c1, .slice b ys.length c2]).run P w = .ok (.int .i64 (Lib.compareBytes (u8s xs) (u8s ys))) w := by
  change Sem.run P (do pure (goInt (Extern.BytealgCompare.cmp (← Extern.Bytes.bytesOf (.slice a xs.length c1)) (← Extern.Bytes.bytesOf (.slice b ys.length c2))))) w = _
  simp only [Sem.run_bind, bytes_of_seg c1 ha, bytes_of_seg c2 hb, Sem.run_pure, Result.andThen]
  rw [Lib.cmp_eq]
  rfl

end Go.Proofs.Ytddnncndcmnnjaa
