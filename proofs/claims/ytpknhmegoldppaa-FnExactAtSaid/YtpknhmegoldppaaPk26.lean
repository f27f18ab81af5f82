/-
  Texts that a law leans on, one behind the other; no statement is proved here.
-/
import Derived.Test.YtpknhmegoldppaaPk25
import Derived.Test.YtpknhmegoldppaaPk18
import Derived.Deep.RegionWith
import Derived.Test.YtpknhmegoldppaaPk24
import Derived.Test.YtpknhmegoldppaaPk15
import Derived.Test.YtpknhmegoldppaaPk23
/-
  At of the specification: what is at the path, on the call's own memory; no statement is proved here.
-/
namespace Go.Proofs.Ytpknhmegoldppaa
open Go.RowKit Go.Shelf
set_option linter.unusedVariables false
set_option linter.unusedSimpArgs false

set_option maxHeartbeats 3200000 in
theorem spec_l3kid_any (d N : Nat) (c0 c1 c2 c3 c4 s0 s1 s2 : Value) (v : Vl (d + 1)) (s : Stp) (w : World) (hv : VSeg (fun b => b < N) w (d + 1) (c0, c1, c2, c3, c4) v) (hs : StSeg (fun b => b < N) w (s0, s1, s2) s) (hN : N ≤ w.heap.size) (hz : szV (d + 1) v ≤ 1048576) :
    Calls Try.prog 46 #[.agg #[c0, c1, c2, c3, c4], .agg #[s0, s1, s2]] w fun e w' => e = .returned (.int .i64 (kidI d v s)) ∧ Below w.heap.size w w' := by
  obtain ⟨ck, cn, a2, l2, p2, a3, l3, p3, a4, l4, p4, rfl, rfl, rfl, rfl, rfl⟩ := VSeg.form (d + 1) hv
  obtain ⟨vk, vn, vs, vK, vL⟩ := v
  obtain ⟨e0, e1, hT, hK, hL⟩ := (VSeg_succ _ _ _ _ _).1 hv
  simp only at e0 e1 hT hK hL
  have hck : ck = vk := by simpa using e0
  subst hck
  obtain rfl : l4 = vL.length := by obtain ⟨a, c, e, _⟩ := hL; simp at e; exact e.2.1
  have hl4 : vL.length ≤ maxLen := by obtain ⟨a, c, e, h1, h2, _⟩ := hL; omega
  obtain ⟨sk, ss, si⟩ := s
  obtain ⟨g0, gt, g2⟩ := hs
  simp only at g0 gt g2
  subst g0
  subst g2
  obtain ⟨sa, sc, rfl, hS, _, _, _, hSb⟩ := gt
  have HA : Hid (∀ o o' : Obj, Below w.heap.size w ((w.alloc o).alloc o')) := fun o o' => ((Below.refl _ _).alloc (Nat.le_refl _) o).alloc (by simp) o'
  have hkz : vK.length ≤ 1048576 := by
    have h2 : szV (d + 1) (ck, vn, vs, vK, vL) = szT vs + szK vK + szL d vL := rfl
    have h3 : szK vK = vK.length + (vK.map List.length).sum := rfl
    omega
  have HF : Hid (∀ wx, Below w.heap.size w wx → Calls Try.prog 56 #[.agg #[.int .i64 ck, .int .i64 cn, .slice a2 l2 p2, .slice a3 l3 p3, .slice a4 vL.length p4], .slice sa ss.length sc] wx fun e w' => e = .returned (.int .i64 (findK vK ss)) ∧ Below wx.heap.size wx w') := fun wx hb => spec_l2find_any N _ _ _ _ a3 l3 p3 vK sa sc ss wx (hK.agree (agree_below (hb.mono hN))) (by have := hb.size; omega) hkz (hS.below hb (fun x hx he => by have := hSb x hx he; omega)) (fun x hx he => by have := hSb x hx he; have := hb.size; omega) ⟨_, _, _, _, _, _, _, _, rfl, rfl, rfl, rfl⟩
  clear hv hT hK hL hS hSb e0 e1
  unfold maxLen at hl4
  by_cases h1 : sk = 0 ∧ ck = 5
  · obtain ⟨rfl, rfl⟩ := h1
    have HE : Hid (kidI d ((5 : Int), vn, vs, vK, vL) (0, ss, si) = findK vK ss) := if_pos ⟨rfl, rfl⟩
    go_enter Try.func46, Try.ntmps46
    go_wp2_with fail
    refine (HF.out _ (HA.out _ _)).mono ?_
    rintro e w1 ⟨rfl, b1⟩
    have B1 := Below.on (HA.out _ _) b1
    clear b1 HF
    generalize findK vK ss = fk at *
    go_wp2
    go_ret
    exact ⟨ret_i64 HE.out.symm, B1⟩
  · by_cases h2 : sk = 1 ∧ ck = 4
    · obtain ⟨rfl, rfl⟩ := h2
      clear HF
      by_cases h3 : si < (vL.length : Int)
      · have HE : Hid (kidI d ((4 : Int), vn, vs, vK, vL) (1, ss, si) = si) := (if_neg h1).trans (if_pos ⟨rfl, rfl, h3⟩)
        clear h1
        go_enter Try.func46, Try.ntmps46
        go_wp2
        go_ret
        exact ⟨ret_i64 HE.out.symm, HA.out _ _⟩
      · have HE : Hid (kidI d ((4 : Int), vn, vs, vK, vL) (1, ss, si) = -1) := (if_neg h1).trans (if_neg fun h => h3 h.2.2)
        clear h1
        go_enter Try.func46, Try.ntmps46
        go_wp2
        go_ret
        exact ⟨ret_i64 HE.out.symm, HA.out _ _⟩
    · have HE : Hid (kidI d (ck, vn, vs, vK, vL) (sk, ss, si) = -1) := (if_neg h1).trans (if_neg fun h => h2 ⟨h.1, h.2.1⟩)
      clear HF
      by_cases hs0 : sk = 0
      · subst hs0
        have hc5 : ¬ ck = 5 := fun h => h1 ⟨rfl, h⟩
        clear h1 h2
        go_enter Try.func46, Try.ntmps46
        go_wp2
        go_ret
        exact ⟨ret_i64 HE.out.symm, HA.out _ _⟩
      · by_cases hs1 : sk = 1
        · subst hs1
          have hc4 : ¬ ck = 4 := fun h => h2 ⟨rfl, h⟩
          clear h1 h2
          go_enter Try.func46, Try.ntmps46
          go_wp2
          go_ret
          exact ⟨ret_i64 HE.out.symm, HA.out _ _⟩
        · clear h1 h2
          go_enter Try.func46, Try.ntmps46
          go_wp2
          go_ret
          exact ⟨ret_i64 HE.out.symm, HA.out _ _⟩

/-- The place of a step lies in the list of parts, where the value's shape is right. -/
theorem kid_in {d : Nat} {v : Vl (d + 1)} {s : Stp} {dp j : Nat} (hg : goodB (d + 1) v dp = true) (h : kidI d v s = j) : j < v.2.2.2.2.length := by
  obtain ⟨vk, vn, vs, vK, vL⟩ := v
  obtain ⟨_, hsh, _⟩ := (good_succ _ _ _ _ _ _ _).1 hg
  unfold kidI at h
  by_cases h1 : s.1 = 0 ∧ vk = 5
  · rw [if_pos h1] at h
    obtain ⟨_, rfl⟩ := h1
    obtain ⟨hKL, _⟩ := shape_mapB hsh
    simp only at h ⊢
    obtain ⟨k, hkK, _, _, hfk⟩ | ⟨_, hfk⟩ := find_cases vK s.2.1
    · rw [hfk] at h; omega
    · rw [hfk] at h; omega
  · rw [if_neg h1] at h
    by_cases h2 : s.1 = 1 ∧ vk = 4 ∧ s.2.2 < vL.length
    · rw [if_pos h2] at h
      simp only
      omega
    · rw [if_neg h2] at h
      omega

/-- What the loop keeps: the value at the first k steps stands in v's block. -/
def AtInv (w : World) (N d : Nat) (v : Vl d) (l : List Stp) (k : Nat) (wr : World) : Prop :=
  ∃ (D : Nat) (x : Vl D) (e0 e1 e2 e3 e4 : Value), alongN (some ⟨d, v⟩) (l.take k) = some ⟨D, x⟩ ∧ wr.heap[w.heap.size]? = some (.cells #[e0, e1, e2, e3, e4] 30 (0, 0)) ∧
    wr.heap[w.heap.size + 1]? = some (.cells #[.int .i64 0, .int .i64 0, .slice none 0 0, .slice none 0 0, .slice none 0 0] 30 (0, 0)) ∧
    VSeg (fun b => b < N) wr D (e0, e1, e2, e3, e4) x ∧ szV D x ≤ 1048576 ∧ (∃ dp, goodB D x dp = true) ∧ Below w.heap.size w wr

set_option maxHeartbeats 6400000 in
set_option maxRecDepth 100000 in
theorem spec_At_any (d N : Nat) (c0 c1 c2 c3 c4 : Value) (v : Vl d) (x : Value) (l : List Stp) (w : World) (hv : VSeg (fun b => b < N) w d (c0, c1, c2, c3, c4) v) (hx : PthSeg (fun b => b < N) w x l) (hN : N ≤ w.heap.size) (hz : szV d v ≤ 1048576) :
    Calls Try.prog 19 #[.agg #[c0, c1, c2, c3, c4], x] w (AnsN (atN d v l) w) := by
  have HA : Hid (∀ o o' : Obj, Below w.heap.size w ((w.alloc o).alloc o') ∧ ((w.alloc o).alloc o').heap[w.heap.size + 1]? = some o' ∧ ((w.alloc o).alloc o').heap[w.heap.size]? = some o) := fun o o' => ⟨((Below.refl _ _).alloc (Nat.le_refl _) o).alloc (by simp) o', by have := (MapKept.heap_alloc (w.alloc o) o').1; simpa using this, (Below.heap_alloc _ _ _ (by simp)).trans (MapKept.heap_alloc w o).1⟩
  have HV : Hid (∀ wx, Below w.heap.size w wx → VSeg (fun b => b < N) wx d (c0, c1, c2, c3, c4) v) := fun wx hb => VSeg.agree (fun b (h : b < N) => hb.block b (by omega)) d hv
  have HP : Hid (∀ wx, Below w.heap.size w wx → Calls Try.prog 27 #[.agg #[c0, c1, c2, c3, c4]] wx fun e w' => e = .returned (.bool (okB d v)) ∧ Below wx.heap.size wx w') := fun wx hb => spec_ValOk_any d N _ _ _ _ _ v wx (HV.out wx hb) (by have := hb.size; omega)
  have HX : Hid (∀ wx, Below w.heap.size w wx → PthSeg (fun b => b < N) wx x l) := fun wx hb => hx.agree (fun b (h : b < N) => hb.block b (by omega))
  have HZ := hide' hz
  obtain ⟨ck, cn, a2, l2, p2, a3, l3, p3, a4, l4, p4, rfl, rfl, rfl, rfl, rfl⟩ := VSeg.form d hv
  obtain ⟨xa, xc, rfl, hxl, hxm, _⟩ := hx
  have hll : l.length ≤ maxLen := by omega
  unfold maxLen at hll
  clear hv hz hxl hxm
  go_enter Try.func19, Try.ntmps19
  go_wp2_with fail
  refine (HP.out _ (HA.out _ _).1).mono ?_
  rintro e w1 ⟨rfl, b1⟩
  have HB1 := hide' (Below.on (HA.out _ _).1 b1)
  have HR1 : Hid (w1.heap[w.heap.size + 1]? = some (.cells #[.int .i64 0, .int .i64 0, .slice none 0 0, .slice none 0 0, .slice none 0 0] 30 (0, 0))) := (b1.block _ (by simp)).trans (HA.out _ _).2.1
  have HV1 : Hid (w1.heap[w.heap.size]? = some (.cells #[.int .i64 ck, .int .i64 cn, .slice a2 l2 p2, .slice a3 l3 p3, .slice a4 l4 p4] 30 (0, 0))) := (b1.block _ (by simp; omega)).trans (HA.out _ _).2.2
  have hlt : w.heap.size + 1 < w1.heap.size := (Array.getElem?_eq_some_iff.1 HR1.out).1
  clear b1 HP HA
  by_cases hok : okB d v = true
  · rw [hok]
    have HPk := hide' (spec_PathOk_any N (.slice xa l.length xc) l w1 (HX.out w1 HB1.out) (by omega))
    go_wp2_with fail
    refine HPk.out.mono ?_
    rintro e w2 ⟨rfl, b2⟩
    have HB2 := hide' (Below.on HB1.out b2)
    have HR2 := hide' ((b2.block _ hlt).trans HR1.out)
    have HV2 := hide' ((b2.block w.heap.size (by omega)).trans HV1.out)
    by_cases hpk : pathB l = true
    · rw [hpk]
      have HAt : Hid (atN d v l = alongN (some ⟨d, v⟩) l) := if_pos ⟨hok, hpk⟩
      have HI0 : Hid (AtInv w N d v l 0 w2) := by
        have hok' := hok
        simp only [okB, Bool.and_eq_true, decide_eq_true_eq] at hok'
        exact ⟨d, v, _, _, _, _, _, rfl, HV2.out, HR2.out, HV.out w2 HB2.out, HZ.out, ⟨1, hok'.1⟩, HB2.out⟩
      clear hok HPk b2 HR1 HV1 HR2 HV2 HV HZ HB1
      go_wp2_with fail
      go_loopw [6] (fun i wr => ∃ k : Nat, k ≤ l.length ∧ i = .int .i64 k ∧ Hid (AtInv w N d v l k wr)) (fun i _ => l.length - (intOf i).toNat)
      case atStart => exact ⟨0, Nat.zero_le _, rfl, HI0⟩
      case round =>
        obtain ⟨k, hk, rfl, hI⟩ := hrel
        obtain ⟨D, y, e0, e1, e2, e3, e4, hAl, hVr, hRr, hy, hzy, ⟨dp, hgy⟩, hbel⟩ := hI.out
        have hsz := hbel.size
        by_cases hlk : k < l.length
        · have hlk' : (k : Int) < (l.length : Int) := by omega
          cases D with
          | zero => exact hy.elim
          | succ D =>
            obtain ⟨b, off, s0, s1, s2, rfl, _, h3, hsv⟩ := ((HX.out wr hbel)).at hlk
            obtain ⟨q0, q1, q2⟩ := h3
            simp only at q0 q1 q2
            have HE := hide' (spec_l3kid_any D N e0 e1 e2 e3 e4 s0 s1 s2 y l[k] wr.drew (VSeg.agree (w := wr) (w' := wr.drew) (fun b _ => rfl) (D + 1) hy) (hsv.agree (w' := wr.drew) (fun b _ => rfl)) (by show N ≤ wr.heap.size; omega) hzy)
            obtain ⟨ek, en, y2, m2, r2, y3, m3, r3, y4, m4, r4, rfl, rfl, rfl, rfl, rfl⟩ := VSeg.form (D + 1) hy
            obtain ⟨z0, z1, z2, z3, z4, zf⟩ := row5 hVr
            obtain ⟨g0, gt, g2⟩ := hsv
            obtain ⟨sa, sc, g1, _⟩ := gt
            simp only at g0 g1 g2
            subst g0
            subst g1
            subst g2
            have HAl := hide' hAl
            have HVr := hide' hVr
            have HRr := hide' hRr
            have Hy := hide' hy
            have Hbel := hide' hbel
            have hltr : w.heap.size + 1 < wr.heap.size := (Array.getElem?_eq_some_iff.1 hRr).1
            have HTk := hide' (alongN_take (some ⟨d, v⟩) l k hlk)
            generalize hkI : kidI D y l[k] = kI at *
            generalize (l[k]).1 = gk at *
            generalize (l[k]).2.1.length = gn at *
            generalize (l[k]).2.2 = gi at *
            clear hI hAl hVr hRr hy hbel zf
            go_wp2_with fail
            go_region_with (go_at_call 46; refine HE.out.mono ?_; rintro e w3 ⟨rfl, b3⟩)
            all_goals
              have HB3 := hide' (Below.on Hbel.out.drew b3)
              have HR3 : Hid (w3.heap[w.heap.size + 1]? = some (.cells #[.int .i64 0, .int .i64 0, .slice none 0 0, .slice none 0 0, .slice none 0 0] 30 (0, 0))) := (b3.block _ hltr).trans HRr.out
              have HV3 : Hid (w3.heap[w.heap.size]? = some (.cells #[.int .i64 ek, .int .i64 en, .slice y2 m2 r2, .slice y3 m3 r3, .slice y4 m4 r4] 30 (0, 0))) := (b3.block w.heap.size (by show w.heap.size < wr.heap.size; omega)).trans HVr.out
              have hz3 : wr.heap.size ≤ w3.heap.size := b3.size
              have Hy3 : Hid (VSeg (fun b => b < N) w3 (D + 1) (.int .i64 ek, .int .i64 en, .slice y2 m2 r2, .slice y3 m3 r3, .slice y4 m4 r4) y) := VSeg.agree (w := wr) (fun b (h : b < N) => b3.block b (by show b < wr.heap.size; omega)) (D + 1) Hy.out
              clear q0 q1 q2 z0 z1 z2 z3 z4 b3 HE HVr HRr Hy Hbel
              by_cases hneg : kI < 0
              · have HNo : Hid (atN d v l = none) := by
                  refine HAt.out.trans (alongN_stop (k := k + 1) ?_)
                  rw [HTk.out, HAl.out]
                  exact stepN_none (by rw [hkI]; exact hneg)
                obtain ⟨x0, x1, x2, x3, x4, xf⟩ := row5 HR3.out
                have f0 := xf 0
                have f1 := xf 1
                have f2 := xf 2
                have f3 := xf 3
                have f4 := xf 4
                clear xf
                go_wp2_with fail
                have hfin := row5 (set5_heap (j := 0) (.int .i64 0) (.int .i64 0) (.slice none 0 0) (.slice none 0 0) (.slice none 0 0) HR3.out)
                simp only [set5, Nat.zero_add] at hfin
                obtain ⟨o0, o1, o2, o3, o4, _⟩ := hfin
                refine bodyPost_ret (v := .tuple #[.agg #[.int .i64 0, .int .i64 0, .slice none 0 0, .slice none 0 0, .slice none 0 0], .bool false]) (by simp [results, Try.results19, go_sem, o0, o1, o2, o3, o4]) rfl ?_
                exact ansN_none HNo.out HB3.out (by omega)
              · obtain ⟨j, rfl⟩ : ∃ j : Nat, kI = j := ⟨kI.toNat, by omega⟩
                have hjl : j < y.2.2.2.2.length := kid_in hgy hkI
                obtain ⟨_, _, _, _, hL3⟩ := (VSeg_succ _ _ _ _ _).1 Hy3.out
                simp only at hL3
                obtain rfl : m4 = y.2.2.2.2.length := by obtain ⟨a, c, e, _⟩ := hL3; simp at e; exact e.2.1
                obtain ⟨bL, oL, cc, rfl, hF5, hvj⟩ := hL3.at (Below.refl _ _) (by omega) hjl
                obtain ⟨d0, d1, d2, d3, d4⟩ := cc
                obtain ⟨dk, dn, i2, j2, k2, i3, j3, k3, i4, j4, k4, rfl, rfl, rfl, rfl, rfl⟩ := VSeg.form D (hvj w3 (Below.refl _ _))
                obtain ⟨t0, t1, t2, t3, t4⟩ := hF5
                simp only at t0 t1 t2 t3 t4
                obtain ⟨v0, v1, v2, v3, v4, vf⟩ := row5 HV3.out
                have f0 := vf 0
                have f1 := vf 1
                have f2 := vf 2
                have f3 := vf 3
                have f4 := vf 4
                have hj' : (j : Int) < (y.2.2.2.2.length : Int) := by omega
                have hj0 : (0 : Int) ≤ (j : Int) := Int.natCast_nonneg _
                have HNx : Hid (AtInv w N d v l (k + 1) (set5 w3 w.heap.size 0 (.int .i64 dk) (.int .i64 dn) (.slice i2 j2 k2) (.slice i3 j3 k3) (.slice i4 j4 k4))) := by
                  have hB5 := set5_grown w3 w.heap.size 0 (.int .i64 dk) (.int .i64 dn) (.slice i2 j2 k2) (.slice i3 j3 k3) (.slice i4 j4 k4)
                  have hrow := set5_heap (j := 0) (.int .i64 dk) (.int .i64 dn) (.slice i2 j2 k2) (.slice i3 j3 k3) (.slice i4 j4 k4) HV3.out
                  obtain ⟨vk, vn, vs, vK, vL⟩ := y
                  refine ⟨D, vL[j]'hjl, _, _, _, _, _, ?_, hrow, (hB5.block _ (by omega) (by simp)).trans HR3.out, VSeg.agree (fun b (h : b < N) => hB5.block b (by omega) (by simp; omega)) D (hvj w3 (Below.refl _ _)), ?_, ⟨dp + 1, ((good_succ _ _ _ _ _ _ _).1 hgy).2.2 j hjl⟩, HB3.out.grown hB5 HB3.out.size (by intro i hi; simp at hi; omega)⟩
                  · rw [HTk.out, HAl.out]
                    exact stepN_some hjl hkI
                  · have h1 : szV D (vL[j]'hjl) ≤ szL D vL := sz_elem (d := D) hjl
                    have h2 : szV (D + 1) (vk, vn, vs, vK, vL) = szT vs + szK vK + szL D vL := rfl
                    omega
                clear hL3 hvj vf HAl HTk HV3 HR3 hkI hgy
                generalize y.2.2.2.2.length = ln at *
                go_wp2
                go_roundw
                case rel => exact ⟨k + 1, by omega, by go_num, HNx⟩
                case measure => simp [intOf]; omega
        · have hkn : k = l.length := by omega
          have hkn' : ¬ (k : Int) < (l.length : Int) := by omega
          have HYes : Hid (atN d v l = some ⟨D, y⟩) := by
            refine HAt.out.trans ?_
            rw [hkn, List.take_length] at hAl
            exact hAl
          have HE := hide' (l2own_any D N _ _ _ _ _ y wr hy (by omega) hzy)
          obtain ⟨ek, en, y2, m2, r2, y3, m3, r3, y4, m4, r4, rfl, rfl, rfl, rfl, rfl⟩ := VSeg.form D hy
          obtain ⟨z0, z1, z2, z3, z4, zf⟩ := row5 hVr
          have HRr := hide' hRr
          have Hbel := hide' hbel
          have hltr : w.heap.size + 1 < wr.heap.size := (Array.getElem?_eq_some_iff.1 hRr).1
          clear hI hAl hVr hRr hy hbel zf hgy hkn
          go_wp2_with fail
          refine HE.out.mono ?_
          rintro e w5 ⟨u0, u1, u2, u3, u4, rfl, B, hO, hB, hb5⟩
          obtain ⟨uk, un, s2, n2, x2, s3, n3, x3, s4, n4, x4, rfl, rfl, rfl, rfl, rfl⟩ := VOwn.form D hO
          have HR4 := hide' ((hb5.block _ hltr).trans HRr.out)
          have HB4 := hide' (Below.on Hbel.out hb5)
          have HO4 := hide' hO
          have HBb : Hid (∀ b ∈ B, w.heap.size ≤ b ∧ b < w5.heap.size ∧ b ≠ w.heap.size + 1) := fun b hb => by have := hB b hb; omega
          obtain ⟨x0, x1, x2', x3', x4', rf⟩ := row5 HR4.out
          have f0 := rf 0
          have f1 := rf 1
          have f2 := rf 2
          have f3 := rf 3
          have f4 := rf 4
          clear rf hO hB hb5 HRr Hbel z0 z1 z2 z3 z4 HE
          go_wp2_with fail
          have hfin := row5 (set5_heap (j := 0) (.int .i64 uk) (.int .i64 un) (.slice s2 n2 x2) (.slice s3 n3 x3) (.slice s4 n4 x4) HR4.out)
          simp only [set5, Nat.zero_add] at hfin
          obtain ⟨o0, o1, o2, o3, o4, _⟩ := hfin
          refine bodyPost_ret (v := .tuple #[.agg #[.int .i64 uk, .int .i64 un, .slice s2 n2 x2, .slice s3 n3 x3, .slice s4 n4 x4], .bool true]) (by simp [results, Try.results19, go_sem, o0, o1, o2, o3, o4]) rfl ?_
          exact ansN_some (n := ⟨D, y⟩) HYes.out HO4.out HBb.out HB4.out (by omega)
    · have hpk' : pathB l = false := by simpa using hpk
      rw [hpk']
      have HE : Hid (atN d v l = none) := if_neg fun h => hpk h.2
      obtain ⟨r0, r1, r2, r3, r4, rf⟩ := row5 HR2.out
      have f0 := rf 0
      have f1 := rf 1
      have f2 := rf 2
      have f3 := rf 3
      have f4 := rf 4
      clear rf hpk hpk' HPk b2 HR1 hok
      go_wp2_with fail
      have hfin := row5 (set5_heap (j := 0) (.int .i64 0) (.int .i64 0) (.slice none 0 0) (.slice none 0 0) (.slice none 0 0) HR2.out)
      simp only [set5, Nat.zero_add] at hfin
      obtain ⟨o0, o1, o2, o3, o4, _⟩ := hfin
      refine bodyPost_ret (v := .tuple #[.agg #[.int .i64 0, .int .i64 0, .slice none 0 0, .slice none 0 0, .slice none 0 0], .bool false]) (by simp [results, Try.results19, go_sem, o0, o1, o2, o3, o4]) rfl ?_
      exact ansN_none HE.out HB2.out (by omega)
  · have hno : okB d v = false := by simpa using hok
    rw [hno]
    have HE : Hid (atN d v l = none) := if_neg fun h => hok h.1
    obtain ⟨r0, r1, r2, r3, r4, rf⟩ := row5 HR1.out
    have f0 := rf 0
    have f1 := rf 1
    have f2 := rf 2
    have f3 := rf 3
    have f4 := rf 4
    clear rf hok hno
    go_wp2_with fail
    have hfin := row5 (set5_heap (j := 0) (.int .i64 0) (.int .i64 0) (.slice none 0 0) (.slice none 0 0) (.slice none 0 0) HR1.out)
    simp only [set5, Nat.zero_add] at hfin
    obtain ⟨o0, o1, o2, o3, o4, _⟩ := hfin
    refine bodyPost_ret (v := .tuple #[.agg #[.int .i64 0, .int .i64 0, .slice none 0 0, .slice none 0 0, .slice none 0 0], .bool false]) (by simp [results, Try.results19, go_sem, o0, o1, o2, o3, o4]) rfl ?_
    exact ansN_none HE.out HB1.out (by omega)
end Go.Proofs.Ytpknhmegoldppaa
/-
  FnExactAt answers true, whatever value and path it is handed: the too large, what is there and what is not.
-/
namespace Go.Proofs.Ytpknhmegoldppaa
open Go.RowKit Go.Shelf
set_option linter.unusedVariables false
set_option linter.unusedSimpArgs false

theorem step_sz {n m : Nod} {s : Stp} (h : stepN n s = some m) : szV m.1 m.2 ≤ szV n.1 n.2 := by
  obtain ⟨d, v⟩ := n
  cases d with
  | zero => exact v.elim
  | succ d =>
    obtain ⟨vk, vn, vs, vK, vL⟩ := v
    by_cases hp : 0 ≤ kidI d (vk, vn, vs, vK, vL) s ∧ (kidI d (vk, vn, vs, vK, vL) s).toNat < vL.length
    · have e : stepN ⟨d + 1, (vk, vn, vs, vK, vL)⟩ s = some ⟨d, vL[(kidI d (vk, vn, vs, vK, vL) s).toNat]'hp.2⟩ := dif_pos hp
      rw [e] at h
      obtain rfl : _ = m := by simpa using h
      have h1 : szV d (vL[(kidI d (vk, vn, vs, vK, vL) s).toNat]'hp.2) ≤ szL d vL := sz_elem (d := d) hp.2
      have h2 : szV (d + 1) (vk, vn, vs, vK, vL) = szT vs + szK vK + szL d vL := rfl
      show szV d (vL[(kidI d (vk, vn, vs, vK, vL) s).toNat]'hp.2) ≤ szV (d + 1) (vk, vn, vs, vK, vL)
      omega
    · have e : stepN ⟨d + 1, (vk, vn, vs, vK, vL)⟩ s = none := dif_neg hp
      rw [e] at h
      simp at h

theorem along_sz : ∀ (l : List Stp) (n m : Nod), alongN (some n) l = some m → szV m.1 m.2 ≤ szV n.1 n.2
  | [], n, m, h => by
    have e : some n = some m := h
    obtain rfl : n = m := by simpa using e
    exact Nat.le_refl _
  | s :: l, n, m, h => by
    have h1 : alongN (stepN n s) l = some m := h
    cases hs : stepN n s with
    | none => rw [hs, alongN_none] at h1; simp at h1
    | some k =>
      rw [hs] at h1
      exact Nat.le_trans (along_sz l k m h1) (step_sz hs)

theorem at_sz {d : Nat} {v : Vl d} {l : List Stp} {m : Nod} (h : atN d v l = some m) : szV m.1 m.2 ≤ szV d v := by
  by_cases hp : okB d v = true ∧ pathB l = true
  · rw [show atN d v l = alongN (some ⟨d, v⟩) l from if_pos hp] at h
    exact along_sz l ⟨d, v⟩ m h
  · rw [show atN d v l = none from if_neg hp] at h
    simp at h

set_option maxHeartbeats 3200000 in
set_option maxRecDepth 100000 in
theorem at_big (d : Nat) (v : Vl (d + 1)) (xa : Option Addr) (xn xc : Nat) (c0 c1 c2 c3 c4 : Value) (w : World) (hv : VSeg (fun b => b < w.heap.size) w (d + 1) (c0, c1, c2, c3, c4) v) (hz : (1048576 : Int) < szV (d + 1) v) :
    Calls Try.prog 5 #[.agg #[c0, c1, c2, c3, c4], .slice xa xn xc] w fun e w' => e = .returned (.bool true) ∧ Below w.heap.size w w' := by
  have b0 : ∀ o : Obj, Below w.heap.size w (w.alloc o) := fun o => (Below.refl _ _).alloc (Nat.le_refl _) o
  have HS : Hid (∀ wx, Below w.heap.size w wx → Calls Try.prog 6 #[.agg #[c0, c1, c2, c3, c4], .int .i64 1048576] wx fun e w' => e = .returned (.int .i64 (less 1048576 (szV (d + 1) v))) ∧ Below wx.heap.size wx w') := fun wx hb =>
    szValue_any (d + 1) w.heap.size (c0, c1, c2, c3, c4) v 1048576 wx (VSeg.agree (agree_below hb) (d + 1) hv) hb.size (by omega) (by omega)
  have Hb := hide' b0
  obtain ⟨ck, cn, a2, l2, p2, a3, l3, p3, a4, l4, p4, rfl, rfl, rfl, rfl, rfl⟩ := VSeg.form (d + 1) hv
  have hl : less 1048576 (szV (d + 1) v) = -1 := less_no _ _ hz
  rw [hl] at HS
  clear hl b0 hv hz
  go_enter Try.func5, Try.ntmps5
  go_wp2_with fail
  refine (HS.out _ (Hb.out _)).mono ?_
  rintro e w1 ⟨rfl, b1⟩
  have B1 := Below.on (Hb.out _) b1
  clear b1
  go_wp2
  go_ret
  exact ⟨rfl, B1⟩

set_option maxHeartbeats 3200000 in
set_option maxRecDepth 100000 in
theorem at_long (d : Nat) (v : Vl (d + 1)) (x : Value) (l : List Stp) (c0 c1 c2 c3 c4 : Value) (w : World) (hv : VSeg (fun b => b < w.heap.size) w (d + 1) (c0, c1, c2, c3, c4) v) (hx : PthSeg (fun b => b < w.heap.size) w x l) (hz : ¬ (1048576 : Int) < szV (d + 1) v) (hp : (1048576 : Int) - szV (d + 1) v < szP l) :
    Calls Try.prog 5 #[.agg #[c0, c1, c2, c3, c4], x] w fun e w' => e = .returned (.bool true) ∧ Below w.heap.size w w' := by
  have b0 : ∀ o : Obj, Below w.heap.size w (w.alloc o) := fun o => (Below.refl _ _).alloc (Nat.le_refl _) o
  have HS : Hid (∀ wx, Below w.heap.size w wx → Calls Try.prog 6 #[.agg #[c0, c1, c2, c3, c4], .int .i64 1048576] wx fun e w' => e = .returned (.int .i64 (less 1048576 (szV (d + 1) v))) ∧ Below wx.heap.size wx w') := fun wx hb =>
    szValue_any (d + 1) w.heap.size (c0, c1, c2, c3, c4) v 1048576 wx (VSeg.agree (agree_below hb) (d + 1) hv) hb.size (by omega) (by omega)
  have HSP : Hid (∀ wx, Below w.heap.size w wx → Calls Try.prog 18 #[x, .int .i64 (1048576 - szV (d + 1) v)] wx fun e w' => e = .returned (.int .i64 (less (1048576 - szV (d + 1) v) (szP l))) ∧ Below wx.heap.size wx w') := fun wx hb => szStepS_any w.heap.size x l _ wx (hx.agree (agree_below hb)) hb.size (by omega) (by omega)
  have Hb := hide' b0
  obtain ⟨ck, cn, a2, l2, p2, a3, l3, p3, a4, l4, p4, rfl, rfl, rfl, rfl, rfl⟩ := VSeg.form (d + 1) hv
  obtain ⟨xa, xc, rfl, _, _, _⟩ := hx
  have hl : less 1048576 (szV (d + 1) v) = 1048576 - szV (d + 1) v := less_yes _ _ hz
  have hl2 : less (1048576 - szV (d + 1) v) (szP l) = -1 := less_no _ _ hp
  rw [hl] at HS
  rw [hl2] at HSP
  have hz0 : 0 ≤ (1048576 : Int) - szV (d + 1) v := by omega
  have hz1 : (1048576 : Int) - szV (d + 1) v ≤ 1048576 := by omega
  clear hl hl2 b0 hv hz hp
  generalize szV (d + 1) v = sz at *
  go_enter Try.func5, Try.ntmps5
  go_wp2_with fail
  refine (HS.out _ (Hb.out _)).mono ?_
  rintro e w1 ⟨rfl, b1⟩
  have B1 := hide' (Below.on (Hb.out _) b1)
  clear b1
  go_wp2_with fail
  refine (HSP.out _ B1.out).mono ?_
  rintro e w2 ⟨rfl, b2⟩
  have B2 := Below.on B1.out b2
  clear b2
  go_wp2
  go_ret
  exact ⟨rfl, B2⟩

theorem walk_FnExactAt (d : Nat) (c0 c1 c2 c3 c4 : Value) (v : Vl d) (x : Value) (l : List Stp) (w : World) (hv : VSeg (fun b => b < w.heap.size) w d (c0, c1, c2, c3, c4) v) (hx : PthSeg (fun b => b < w.heap.size) w x l) :
    Calls Try.prog 5 #[.agg #[c0, c1, c2, c3, c4], x] w fun e w' => e = .returned (.bool true) ∧ Below w.heap.size w w' := by
  cases d with
  | zero => exact hv.elim
  | succ d =>
    by_cases hz : (1048576 : Int) < szV (d + 1) v
    · obtain ⟨xa, xc, rfl, _⟩ := hx
      exact at_big d v xa _ xc c0 c1 c2 c3 c4 w hv hz
    by_cases hp : (1048576 : Int) - szV (d + 1) v < szP l
    · exact at_long d v x l c0 c1 c2 c3 c4 w hv hx hz hp
    have hz' : szV (d + 1) v ≤ 1048576 := by omega
    have hp' : szP l + szV (d + 1) v ≤ 1048576 := by omega
    have hSp : ∀ u0 u1 u2 u3 u4 B wx wy z Bz, VOwn wx (d + 1) (u0, u1, u2, u3, u4) v B → Below wx.heap.size wx wy → PthOwn wy z l Bz → Calls Try.prog 19 #[.agg #[u0, u1, u2, u3, u4], z] wy (AnsN (atN (d + 1) v l) wy) := fun u0 u1 u2 u3 u4 B wx wy z Bz hO hb hP =>
      spec_At_any (d + 1) wy.heap.size u0 u1 u2 u3 u4 v z l wy (VSeg.mono (fun b (h : b < wx.heap.size) => Nat.lt_of_lt_of_le h hb.size) (d + 1) (hO.below hb)) (hP.below (Below.refl _ _)) (Nat.le_refl _) hz'
    have hIm : ∀ u0 u1 u2 u3 u4 B wx wy z Bz, VOwn wx (d + 1) (u0, u1, u2, u3, u4) v B → Below wx.heap.size wx wy → PthOwn wy z l Bz → Calls Try.prog 21 #[.agg #[u0, u1, u2, u3, u4], z] wy (AnsN (atN (d + 1) v l) wy) := fun u0 u1 u2 u3 u4 B wx wy z Bz hO hb hP =>
      impl_At_any (d + 1) wy.heap.size u0 u1 u2 u3 u4 v z l wy (VSeg.mono (fun b (h : b < wx.heap.size) => Nat.lt_of_lt_of_le h hb.size) (d + 1) (hO.below hb)) (hP.below (Below.refl _ _)) (Nat.le_refl _)
    cases hA : atN (d + 1) v l with
    | none =>
      rw [hA] at hSp hIm
      exact walk_at d 0 v (vNil 0) false l x c0 c1 c2 c3 c4 w hv hx hp' (by rw [sz_vNil]; omega) hz' (hide' hSp) (hide' hIm)
    | some n =>
      have hsn := at_sz hA
      obtain ⟨D, a⟩ := n
      cases D with
      | zero => exact a.elim
      | succ D =>
        rw [hA] at hSp hIm
        exact walk_at d D v a true l x c0 c1 c2 c3 c4 w hv hx hp' (Nat.le_trans hsn hz') hz' (hide' hSp) (hide' hIm)
end Go.Proofs.Ytpknhmegoldppaa
/-
  A path that came in, as its reading has it, can be read: 'PthSeg'.
-/
namespace Go.Proofs.Ytpknhmegoldppaa
open Go.ChangeShapes Go.WideShapes Go.ChangeAt Go.RowKit
set_option linter.unusedVariables false
set_option linter.unusedSimpArgs false
set_option maxRecDepth 100000

theorem cellsS : Try.prog.cellsOf 73 = 3 := by kernel_rfl
variable {H : Type} {enc : TypeId × Value → H} {w : World}

theorem read_step3 {fuel : Nat} {cs : List Value} {x : DataW H × List MemPlace} (h : DataW.trod enc Try.prog w 0 (fun _ => true) true fuel 73 cs = some x) :
    ∃ c0 c1 c2, ∃ s : Stp, cs = [c0, c1, c2] ∧ StSeg (fun b => b < w.heap.size) w (c0, c1, c2) s := by
  cases fuel with
  | zero => simp [DataW.trod] at h
  | succ fuel =>
    unfold DataW.trod at h
    rw [Try.underlying73] at h
    simp only [cellsS] at h
    split at h
    · next hlen =>
      match cs, hlen with
      | [c0, c1, c2], _ =>
        simp [cellsT, cellsI, List.mapM_cons, Option.bind_eq_some_iff] at h
        obtain ⟨a0, b0, h0, _, ⟨a1, b1, h1, _, ⟨a2, b2, h2, _⟩, _⟩, _⟩ := h
        obtain ⟨n0, e0, _, _⟩ := DataW.trod_int Try.underlying3 h0
        obtain ⟨u1, xs, e1, hT⟩ := read_text h1
        obtain ⟨n2, e2, _, _⟩ := DataW.trod_int Try.underlying3 h2
        simp at e0 e1 e2
        subst e0 e1 e2
        exact ⟨_, _, _, (n0, xs, n2), rfl, rfl, hT, rfl⟩
    · simp at h

/-- A path that came in. -/
theorem read_path {fuel : Nat} {cs : List Value} {x : DataW H × List MemPlace} (h : DataW.trod enc Try.prog w 0 (fun _ => true) true fuel 42 cs = some x) : ∃ u l, cs = [u] ∧ PthSeg (fun b => b < w.heap.size) w u l := by
  rcases DataW.trod_slice Try.underlying42 h with ⟨rfl, _⟩ | ⟨a, len, cap, elems, rest, n, _, rfl, _, hb, hl, hm, hlen, hel, hsp, hns⟩
  · exact ⟨_, [], rfl, none, 0, rfl, Nat.le_refl _, Nat.zero_le _, fun _ => rfl, .inl rfl⟩
  · have hq : ∀ i, i < len → ∃ s : Stp, ∃ c0 c1 c2, (∀ j, j < 3 → w.cell? ((a.add (i * 3)).add j) = [c0, c1, c2][j]?) ∧ StSeg (fun b => b < w.heap.size) w (c0, c1, c2) s := by
      intro i hi
      have h1 := hel i hi
      rw [cellsS, List.getElem?_eq_getElem (by omega)] at h1
      obtain ⟨cs', hc, ht⟩ := Option.bind_eq_some_iff.1 h1
      obtain ⟨d0, d1, d2, s, rfl, hv⟩ := read_step3 ht
      exact ⟨s, d0, d1, d2, (World.cells?_some hc).2.2, hv⟩
    obtain ⟨l, hll, hls⟩ := list_of len hq
    subst hll
    refine ⟨_, l, rfl, some a, cap, rfl, hl, hm, by simp, ?_⟩
    by_cases he : l = []
    · exact .inl he
    · have hp : 0 < l.length := List.length_pos_iff.2 he
      obtain ⟨b, off, spot⟩ := a
      obtain ⟨d0, d1, d2, hu0, _⟩ := hls 0 hp
      have hu := hu0 0 (by omega)
      simp [Addr.add] at hu
      have hspot : spot = none := by simpa using World.cell?_spot hu
      subst hspot
      refine .inr ⟨b, off, rfl, World.block_lt_of_cell? w _ hu, fun i hi => ?_⟩
      obtain ⟨d0, d1, d2, hu, hv⟩ := hls i hi
      have e : ∀ j, j < 3 → w.cell? ⟨b, off + i * 3 + j, none⟩ = [d0, d1, d2][j]? := by
        intro j hj
        have := hu j hj
        rw [Addr.add_lit, Addr.add_lit] at this
        exact this
      exact ⟨(d0, d1, d2), ⟨e 0 (by omega), e 1 (by omega), e 2 (by omega)⟩, hv⟩

/-- As an argument. -/
theorem read_path_arg {a : Option Addr} {n c : Nat} {d : DataW H} {ps : List MemPlace} (h : DataW.Trod enc Try.prog w 0 (fun _ => true) true 42 (.slice a n c) d ps) : ∃ l, PthSeg (fun b => b < w.heap.size) w (.slice a n c) l := by
  obtain ⟨fuel, hf⟩ := h
  obtain ⟨u, l, e, hl⟩ := read_path hf
  simp [Value.cells] at e
  subst e
  exact ⟨l, hl⟩
end Go.Proofs.Ytpknhmegoldppaa
