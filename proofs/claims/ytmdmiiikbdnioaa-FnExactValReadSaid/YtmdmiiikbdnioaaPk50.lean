/-
  Texts that a law leans on, one behind the other; no statement is proved here.
-/
import Derived.Test.YtmdmiiikbdnioaaPk49
import Derived.Test.YtmdmiiikbdnioaaPk10
import Derived.Test.YtmdmiiikbdnioaaPk46
import Derived.Test.YtmdmiiikbdnioaaPk1
/-
  FnExactValRead answers true, whatever slice of bytes it is handed; it makes new memory and turns nothing old.
-/
namespace Go.Proofs.Ytmdmiiikbdnioaa
open Go.RowKit Go.Shelf
set_option linter.unusedVariables false
set_option linter.unusedSimpArgs false

/-- One value, owned, read at another depth. -/
theorem sim_own {w : World} : ∀ (d D : Nat) (v : Vl d) (u : Vl D) (c : Value × Value × Value × Value × Value) (B : List Nat), SimV d D v u → VOwn w d c v B → VOwn w D c u B
  | 0, _, v, _, _, _, h, _ => v.elim
  | _ + 1, 0, _, u, _, _, h, _ => u.elim
  | d + 1, D + 1, (vk, vn, vs, vK, vL), (uk, un, us, uK, uL), c, B, h, hv => by
    obtain ⟨h1, h2, h3, h4, hl, hk⟩ := h
    simp only at h1 h2 h3 h4 hl hk
    subst h1 h2 h3 h4
    obtain ⟨a0, a1, Bs, Bk, Bl, hT, hK, hL, hB⟩ := hv
    refine ⟨a0, a1, Bs, Bk, Bl, hT, hK, ?_, hB⟩
    rcases hL with ⟨e1, e2, e3⟩ | ⟨g, cap, cur, Bi, e1, e2, e3, e4, e5, e6, e7, e8⟩
    · refine .inl ⟨e1, ?_, e3⟩
      simp only at e2 ⊢
      rw [← List.length_eq_zero_iff, ← hl, e2]
      rfl
    · refine .inr ⟨g, cap, cur, Bi, by rw [e1]; simp only [hl], e2, by simp only at e3 ⊢; omega, e4, e5, by simp only at e6 ⊢; omega, fun i hi => ?_, e8⟩
      obtain ⟨e, he, hve⟩ := e7 i (by simp only at hi ⊢; omega)
      exact ⟨e, he, sim_own d D _ _ e _ (hk i (by simp only at hi; omega) hi) hve⟩

/-- What both answer: one value, or nothing. -/
def readV (xs : List Int) : Vl 6 := if isS xs = true then (rdS xs).1 else vNil 5
theorem readV_sz (xs : List Int) : szV 6 (readV xs) ≤ 1048576 := by
  unfold readV
  split
  · next h => have := ok_sz ((isS_iff xs).1 h).2.1; omega
  · rw [sz_vNil]; omega

theorem ans_of {d : Nat} {v : Vl d} {ok : Bool} {A : Vl 6} {w w' : World} {e : Ending} (h : ReadEnd d v ok w e w') (hy : ok = true → SimV d 6 v A) (hn : ok = false → A = vNil 5) : Ans 5 A ok w e w' := by
  obtain ⟨hb, ⟨rfl, uk, un, s2, n2, r2, s3, n3, r3, s4, n4, r4, rfl, B, ho, hB⟩ | ⟨rfl, rfl⟩⟩ := h
  · exact ⟨_, _, _, _, _, rfl, B, sim_own d 6 _ _ _ _ (hy rfl) ho, hB, hb⟩
  · rw [hn rfl]
    exact ⟨_, _, _, _, _, rfl, [], own_vNil 5 w', by simp, hb⟩

theorem sim_refl : ∀ (d : Nat) (v : Vl d), SimV d d v v
  | 0, v => v.elim
  | d + 1, (vk, vn, vs, vK, vL) => ⟨rfl, rfl, rfl, rfl, rfl, fun i hi hj => sim_refl d _⟩

theorem spec_ans (xs : List Int) (g : Nat) (wy : World) (hl : xs.length ≤ 1048576) (hB : Bts wy g (.slice (some ⟨g, 0, none⟩) xs.length xs.length) xs) : Calls Try.prog 4 #[.slice (some ⟨g, 0, none⟩) xs.length xs.length] wy (Ans 5 (readV xs) (isS xs) wy) :=
  (spec_ValRead_any _ _ xs wy hB.seg (Nat.le_refl _) (by unfold maxLen; omega) hl (fun x hx _ => by cases hx; exact (hB.lt _ rfl).2)).mono fun e w' h => ans_of h (fun hy => by unfold readV; rw [if_pos hy]; exact sim_refl _ _) (fun hn => by unfold readV; rw [hn]; rfl)

theorem impl_ans (xs : List Int) (g : Nat) (wy : World) (hl : xs.length ≤ 1048576) (hB : Bts wy g (.slice (some ⟨g, 0, none⟩) xs.length xs.length) xs) : Calls Try.prog 6 #[.slice (some ⟨g, 0, none⟩) xs.length xs.length] wy (Ans 5 (readV xs) (isS xs) wy) := by
  obtain ⟨h1, h2⟩ := rd_both xs
  refine (impl_ValRead_any _ _ xs wy hB.seg (Nat.le_refl _) (by unfold maxLen; omega) hl (fun x hx _ => by cases hx; exact (hB.lt _ rfl).2)).mono fun e w' h => ?_
  rw [← h1] at h
  exact ans_of h (fun hy => by unfold readV; rw [if_pos hy]; exact h2 hy) (fun hn => by unfold readV; rw [hn]; rfl)

set_option maxHeartbeats 12800000 in
set_option maxRecDepth 100000 in
theorem walk_read (D : Nat) (a : Vl (D + 1)) (bb : Bool) (key : List Int) (ka : Option Addr) (kc : Nat) (w : World) (hS : Seg w ka key) (hkl : key.length ≤ 1048576) (hza : szV (D + 1) a ≤ 1048576)
    (HSp : Hid (∀ g wy, Bts wy g (.slice (some ⟨g, 0, none⟩) key.length key.length) key → Calls Try.prog 4 #[.slice (some ⟨g, 0, none⟩) key.length key.length] wy (Ans D a bb wy)))
    (HIm : Hid (∀ g wy, Bts wy g (.slice (some ⟨g, 0, none⟩) key.length key.length) key → Calls Try.prog 6 #[.slice (some ⟨g, 0, none⟩) key.length key.length] wy (Ans D a bb wy))) :
    Calls Try.prog 3 #[.slice ka key.length kc] w fun e w' => e = .returned (.bool true) ∧ Below w.heap.size w w' := by
  have Hbox : Hid (∀ o wx, Below (w.alloc o).heap.size (w.alloc o) wx → wx.heap[w.heap.size]? = some o) := fun o wx h => box_row h
  have hca := cV_le D a
  have HKS : Hid (∀ wx, Below w.heap.size w wx → Seg wx ka key) := fun wx hb => hS.below hb hS.lt
  have HTB : Hid (∀ wx, Below w.heap.size w wx → Calls Try.prog 5 #[.slice ka key.length kc] wx fun e w' => e = .returned (.slice (some ⟨wx.heap.size, 0, none⟩) key.length key.length) ∧ Bts w' wx.heap.size (.slice (some ⟨wx.heap.size, 0, none⟩) key.length key.length) key ∧ Below wx.heap.size wx w') := fun wx hb => toByteS_any ka kc key wx (HKS.out wx hb) (by omega)
  have HEA : Hid (∀ (u0 u1 u2 u3 u4 v0 v1 v2 v3 v4 : Value) (B B' : List Nat) (wx : World), VOwn wx (D + 1) (u0, u1, u2, u3, u4) a B → VOwn wx (D + 1) (v0, v1, v2, v3, v4) a B' → Calls Try.prog 7 #[.agg #[u0, u1, u2, u3, u4], .agg #[v0, v1, v2, v3, v4]] wx fun e w' => e = .returned (.bool true) ∧ Below wx.heap.size wx w') := fun u0 u1 u2 u3 u4 v0 v1 v2 v3 v4 B B' wx h h' => eqValue_any (D + 1) wx.heap.size (u0, u1, u2, u3, u4) (v0, v1, v2, v3, v4) a wx h.read h'.read (Nat.le_refl _) hza
  have HEB : Hid (∀ (xa ya : Option Addr) (xc yc : Nat) (wx : World), Seg wx xa key → Seg wx ya key → Calls Try.prog 8 #[.slice xa key.length xc, .slice ya key.length yc] wx fun e w' => e = .returned (.bool true) ∧ Below wx.heap.size wx w') := fun xa ya xc yc wx h h' => eqByteS_same xa ya xc yc key wx h h' (by omega)
  have HMB : Hid (∀ base xa (q : Nat) wx, q ≤ 2097153 → Bts wx base (.slice xa key.length key.length) key → Calls Try.prog 9 #[.slice xa key.length key.length, .int .i64 q] wx fun e w' => e = .returned (.int .i64 ((q + key.length : Nat) : Int)) ∧ wx.grownBy w' (Value.slice xa key.length key.length).ownBlock) := fun base xa q wx hq h => (markByteS_any base xa key.length key q wx h (by omega) (by omega)).mono fun e w' h => ⟨h.1, h.2.2⟩
  have HMA : Hid (∀ x0 x1 x2 x3 x4 B wx, VOwn wx (D + 1) (x0, x1, x2, x3, x4) a B → Calls Try.prog 10 #[.agg #[x0, x1, x2, x3, x4], .int .i64 1] wx fun e w' => e = .returned (.int .i64 ((1 + cV D a : Nat) : Int)) ∧ VOwn w' (D + 1) (x0, x1, x2, x3, x4) (mkV D a 1) B ∧ Turned B wx w') := fun x0 x1 x2 x3 x4 B wx h => markValue_any D x0 x1 x2 x3 x4 a B 1 wx h hza (by omega)
  have HHA : Hid (∀ x0 x1 x2 x3 x4 B wx, VOwn wx (D + 1) (x0, x1, x2, x3, x4) (mkV D a 1) B → Calls Try.prog 11 #[.agg #[x0, x1, x2, x3, x4], .int .i64 1] wx fun e w' => e = .returned (.int .i64 ((1 + cV D a : Nat) : Int)) ∧ Below wx.heap.size wx w') := fun x0 x1 x2 x3 x4 B wx h => heldValue_any D wx.heap.size x0 x1 x2 x3 x4 a 1 wx h.read (Nat.le_refl _) hza (by omega)
  have hkl' : ¬ (1048576 : Int) < (key.length : Int) := by omega
  generalize hcm : cV D a = cn2 at *
  generalize hkn : key.length = kn at *
  have Hkn : Hid (key.length = kn) := hkn
  generalize hq2 : 1 + cn2 = q2 at *
  have HMC := hide' (fun base xa wx => HMB.out base xa 1 wx (by omega))
  generalize hq3 : 1 + kn = q3 at *
  have hq2' : 0 ≤ (q2 : Int) := by omega
  have hq3' : 0 ≤ (q3 : Int) := by omega
  clear HMB hq2 hq3 hca hcm hkn hS hza
  have HT1 := hide' (HTB.out w (Below.refl _ _))
  go_enter Try.func3, Try.ntmps3
  go_wp2_with fail
  refine HT1.out.mono ?_
  rintro e w2 ⟨rfl, hK2, bk2⟩
  have hS2 := hide' (HSp.out _ w2 hK2)
  have b12 := hide' bk2
  have hz2 : w.heap.size < w2.heap.size := (hK2.lt _ rfl).2
  clear HT1 hK2 bk2
  go_wp2_with fail
  refine hS2.out.mono ?_
  rintro e w3 ⟨W0, W1, W2, W3, W4, rfl, Bw, hW3, hBw, b3⟩
  obtain ⟨wk, wn, t2, g2, h2, t3, g3, h3, t4, g4, h4, rfl, rfl, rfl, rfl, rfl⟩ := VOwn.form (D + 1) hW3
  have balW : Below w3.heap.size w3 (w3.alloc (.cells #[.int .i64 wk, .int .i64 wn, .slice t2 g2 h2, .slice t3 g3 h3, .slice t4 g4 h4] 26)) := (Below.refl _ _).alloc (Nat.le_refl _) _
  have b13 := Below.on (Below.on b12.out b3) balW
  have HTB4 := hide' (HTB.out _ b13)
  have HW3 := hide' (hW3.on balW)
  have HrW : Hid ((w3.alloc (.cells #[.int .i64 wk, .int .i64 wn, .slice t2 g2 h2, .slice t3 g3 h3, .slice t4 g4 h4] 26)).heap[w3.heap.size]? = some (.cells #[.int .i64 wk, .int .i64 wn, .slice t2 g2 h2, .slice t3 g3 h3, .slice t4 g4 h4] 26)) := (MapKept.heap_alloc w3 _).1
  have HBw := hide' hBw
  have Hb13 := hide' b13
  have hz23 : w2.heap.size ≤ w3.heap.size := b3.size
  clear b12 b3 b13 hS2 hW3 hBw balW
  go_wp2_with fail
  refine HTB4.out.mono ?_
  rintro e w5 ⟨rfl, hK5, b5⟩
  simp only [World.size_alloc] at hK5
  have hI5 := hide' (HIm.out _ w5 hK5)
  have HK5 := hide' hK5
  have HW5 := hide' (HW3.out.on b5)
  have HrW5 := hide' (row_on HrW.out b5)
  have Hb15 := hide' (Below.on Hb13.out b5)
  have hz35 : w3.heap.size + 2 ≤ w5.heap.size := by have h := (hK5.lt _ rfl).2; simp only at h; omega
  clear hK5 b5 HTB4 HW3 HrW Hb13
  go_wp2_with fail
  refine hI5.out.mono ?_
  rintro e w6 ⟨G0, G1, G2, G3, G4, rfl, Bg, hG6, hBg, b6⟩
  obtain ⟨gk, gn, r2, f2, e2, r3, f3, e3, r4, f4, e4, rfl, rfl, rfl, rfl, rfl⟩ := VOwn.form (D + 1) hG6
  have balG : Below w6.heap.size w6 (w6.alloc (.cells #[.int .i64 gk, .int .i64 gn, .slice r2 f2 e2, .slice r3 f3 e3, .slice r4 f4 e4] 26)) := (Below.refl _ _).alloc (Nat.le_refl _) _
  have b56 := Below.on b6 balG
  have hE6 := hide' (HEA.out _ _ _ _ _ _ _ _ _ _ _ _ _ (hG6.on balG) (HW5.out.on b56))
  have HG6 := hide' (hG6.on balG)
  have HW6 := hide' (HW5.out.on b56)
  have HK6 := hide' (HK5.out.grow b56)
  have HrW6 := hide' (row_on HrW5.out b56)
  have HrG6 : Hid ((w6.alloc (.cells #[.int .i64 gk, .int .i64 gn, .slice r2 f2 e2, .slice r3 f3 e3, .slice r4 f4 e4] 26)).heap[w6.heap.size]? = some (.cells #[.int .i64 gk, .int .i64 gn, .slice r2 f2 e2, .slice r3 f3 e3, .slice r4 f4 e4] 26)) := (MapKept.heap_alloc w6 _).1
  have Hb16 := hide' (Below.on Hb15.out b56)
  have HBg := hide' hBg
  have hz56 : w5.heap.size ≤ w6.heap.size := b6.size
  obtain ⟨i0, i1, i2, i3, i4, _⟩ := row5 HrW6.out
  obtain ⟨jj0, jj1, jj2, jj3, jj4, _⟩ := row5 HrG6.out
  clear hI5 hG6 hBg b6 balG b56 HW5 HK5 HrW5 Hb15
  go_wp2_with fail
  refine hE6.out.mono ?_
  rintro e w7 ⟨rfl, b7⟩
  have HB19 := hide' (Below.on Hb16.out b7)
  have HG9 := hide' (HG6.out.on b7)
  have HW9 := hide' (HW6.out.on b7)
  have HK9 := hide' (HK6.out.grow b7)
  have HrW9 := hide' (row_on HrW6.out b7)
  have HrG9 := hide' (row_on HrG6.out b7)
  have HTB9 := hide' (HTB.out w7 HB19.out)
  clear hE6 b7 HG6 HW6 HK6 HrW6 HrG6 Hb16 i0 i1 i2 i3 i4 jj0 jj1 jj2 jj3 jj4
  go_wp2_with fail
  refine HTB9.out.mono ?_
  rintro e w10 ⟨rfl, hK10, b10⟩
  have hE10 := HEB.out _ (some ⟨w7.heap.size, 0, none⟩) kn kn w10 (HK9.out.grow b10).seg (hK10.seg)
  replace hE10 := hide' hE10
  have HB110 := hide' (Below.on HB19.out b10)
  have Hb910 := hide' b10
  clear HTB9 hK10 b10 HB19
  go_wp2_with fail
  refine hE10.out.mono ?_
  rintro e w11 ⟨rfl, b11⟩
  have b911 := Below.on Hb910.out b11
  have HG12 := hide' (HG9.out.on b911)
  have HW12 := hide' (HW9.out.on b911)
  have hK12 := HK9.out.grow b911
  have HrW12 := hide' (row_on HrW9.out b911)
  have HrG12 := hide' (row_on HrG9.out b911)
  have HB112 := hide' (Below.on HB110.out b11)
  have hM12 := hide' (HMC.out _ _ _ hK12)
  clear hE10 b11 b911 Hb910 HB110 HG9 HW9 HK9 HrW9 HrG9 hK12
  go_wp2_with fail
  refine hM12.out.mono ?_
  rintro e w13 ⟨rfl, g13⟩
  have hT13 : Turned [w3.heap.size + 1] w11 w13 := Turned.of_grown g13 (fun g hg => by simp [Value.ownBlock] at hg; simp [hg])
  have hG13 := HG12.out.far hT13 (fun b hb hm => by have h1 := HBg.out b hb; simp at hm; omega)
  have hW13 := HW12.out.far hT13 (fun b hb hm => by have h1 := HBw.out b hb; simp at hm; omega)
  have hrW13 := row_far HrW12.out hT13 (fun hm => by simp at hm <;> omega)
  have hrG13 := row_far HrG12.out hT13 (fun hm => by simp at hm; omega)
  have HB113 := hide' (Turned.below HB112.out hT13 (Nat.le_refl _) (fun b hb => by simp at hb; omega))
  obtain ⟨i0, i1, i2, i3, i4, _⟩ := row5 hrW13
  obtain ⟨j0, j1, j2, j3, j4, _⟩ := row5 hrG13
  have hE13 := hide' (HEA.out _ _ _ _ _ _ _ _ _ _ _ _ _ hG13 hW13)
  have HG13 := hide' hG13
  have HW13 := hide' hW13
  have HrW13 := hide' hrW13
  have HrG13 := hide' hrG13
  clear hM12 g13 hT13 HG12 HW12 HrW12 HrG12 HB112 hG13 hW13 hrW13 hrG13
  go_wp2_with fail
  refine hE13.out.mono ?_
  rintro e w14 ⟨rfl, b14⟩
  have hrG14 := row_on HrG13.out b14
  obtain ⟨k0, k1, k2, k3, k4, _⟩ := row5 hrG14
  have hM14 := hide' (HMA.out _ _ _ _ _ _ _ (HG13.out.on b14))
  have HW14 := hide' (HW13.out.on b14)
  have HrW14 := hide' (row_on HrW13.out b14)
  have HrG14 := hide' hrG14
  have HB114 := hide' (Below.on HB113.out b14)
  clear hE13 b14 hrG14 HG13 HW13 HrW13 HrG13 HB113 i0 i1 i2 i3 i4 j0 j1 j2 j3 j4
  go_wp2_with fail
  refine hM14.out.mono ?_
  rintro e w15 ⟨rfl, hG15, hT15⟩
  have hrG15 := row_far HrG14.out hT15 (fun hm => by have h2 := HBg.out _ hm; omega)
  have HW15 := hide' (HW14.out.far hT15 (fun b hb hm => by have h1 := HBw.out b hb; have h2 := HBg.out b hm; omega))
  have HrW15 := hide' (row_far HrW14.out hT15 (fun hm => by have h2 := HBg.out _ hm; omega))
  have HB115 := hide' (Turned.below HB114.out hT15 (Nat.le_refl _) (fun b hb => by have h1 := HBg.out b hb; omega))
  obtain ⟨j0, j1, j2, j3, j4, _⟩ := row5 hrG15
  have hH15 := hide' (HHA.out _ _ _ _ _ _ _ hG15)
  have HG15 := hide' hG15
  have HrG15 := hide' hrG15
  clear hM14 hT15 hG15 hrG15 HW14 HrW14 HrG14 HB114 k0 k1 k2 k3 k4
  go_wp2_with fail
  refine hH15.out.mono ?_
  rintro e w16 ⟨rfl, b16⟩
  have HG16 := hide' (HG15.out.on b16)
  have HW16 := hide' (HW15.out.on b16)
  have HrW16 := hide' (row_on HrW15.out b16)
  have HrG16 := hide' (row_on HrG15.out b16)
  have HB116 := hide' (Below.on HB115.out b16)
  have HTB17 := hide' (HTB.out w16 HB116.out)
  clear hH15 b16 HG15 HW15 HrW15 HrG15 HB115 j0 j1 j2 j3 j4
  go_wp2_with fail
  refine HTB17.out.mono ?_
  rintro e w18 ⟨rfl, hK18, b18⟩
  have hI18 := hide' (HIm.out _ w18 hK18)
  have Hb18 := hide' b18
  clear HTB17 hK18 b18
  go_wp2_with fail
  refine hI18.out.mono ?_
  rintro e w19 ⟨H0, H1, H2, H3, H4, rfl, Bh, hH19, hBh, b19⟩
  obtain ⟨hk, hn, o2, c2', d2', o3, c3', d3', o4, c4', d4', rfl, rfl, rfl, rfl, rfl⟩ := VOwn.form (D + 1) hH19
  have balH : Below w19.heap.size w19 (w19.alloc (.cells #[.int .i64 hk, .int .i64 hn, .slice o2 c2' d2', .slice o3 c3' d3', .slice o4 c4' d4'] 26)) := (Below.refl _ _).alloc (Nat.le_refl _) _
  have b1619 := Below.on (Below.on Hb18.out b19) balH
  obtain ⟨i0, i1, i2, i3, i4, _⟩ := row5 (row_on HrW16.out b1619)
  have hE19 := hide' (HEA.out _ _ _ _ _ _ _ _ _ _ _ _ _ (hH19.on balH) (HW16.out.on b1619))
  have HG19 := hide' (HG16.out.on b1619)
  have HrG19 := hide' (row_on HrG16.out b1619)
  have HB119 := hide' (Below.on HB116.out b1619)
  clear hI18 Hb18 hH19 hBh b19 balH b1619 HG16 HW16 HrW16 HrG16 HB116
  go_wp2_with fail
  refine hE19.out.mono ?_
  rintro e w20 ⟨rfl, b20⟩
  obtain ⟨j0, j1, j2, j3, j4, _⟩ := row5 (row_on HrG19.out b20)
  have hH20 := hide' (HHA.out _ _ _ _ _ _ _ (HG19.out.on b20))
  have HB120 := hide' (Below.on HB119.out b20)
  clear hE19 b20 HG19 HrG19 HB119 i0 i1 i2 i3 i4
  go_wp2_with fail
  refine hH20.out.mono ?_
  rintro e w21 ⟨rfl, b21⟩
  have HB121 := hide' (Below.on HB120.out b21)
  clear hH20 b21 HB120 j0 j1 j2 j3 j4
  go_wp2
  go_ret
  exact ⟨rfl, HB121.out⟩

set_option maxHeartbeats 1600000 in
theorem walk_FnExactValRead (a : Option Addr) (cap : Nat) (xs : List Int) (w : World) (hS : Seg w a xs) (hm : xs.length ≤ maxLen) :
    Calls Try.prog 3 #[.slice a xs.length cap] w fun e w' => e = .returned (.bool true) ∧ Below w.heap.size w w' := by
  by_cases hl : 1048576 < xs.length
  · have hl' : (1048576 : Int) < (xs.length : Int) := by omega
    go_enter Try.func3, Try.ntmps3
    go_wp2
    go_ret
    exact ⟨rfl, Below.refl _ _⟩
  · exact walk_read 5 (readV xs) (isS xs) xs a cap w hS (by omega) (readV_sz xs) (hide' fun g wy h => spec_ans xs g wy (by omega) h) (hide' fun g wy h => impl_ans xs g wy (by omega) h)
end Go.Proofs.Ytmdmiiikbdnioaa
