/-
  ValGet of the specification.
-/
import Derived.Test.YtkklhdeecamifaaGetI
import Derived.Test.YtkklhdeecamifaaKeyB
import Derived.Test.YtkklhdeecamifaaOwnL1
namespace Go.Proofs.Ytkklhdeecamifaa
open Go.RowKit Go.Shelf
set_option linter.unusedVariables false
set_option linter.unusedSimpArgs false

set_option maxHeartbeats 3200000 in
set_option maxRecDepth 100000 in
theorem spec_ValGet_any (d N : Nat) (ck cn : Int) (a2 : Option Addr) (l2 p2 : Nat) (a3 : Option Addr) (l3 p3 : Nat) (a4 : Option Addr) (l4 p4 : Nat) (v : Vl (d + 1)) (ka : Option Addr) (kc : Nat) (key : List Int) (w : World) (hv : VSeg (fun b => b < N) w (d + 1) (.int .i64 ck, .int .i64 cn, .slice a2 l2 p2, .slice a3 l3 p3, .slice a4 l4 p4) v) (hN : N ≤ w.heap.size) (hS : Seg w ka key) (hSb : ∀ x, ka = some x → key ≠ [] → x.block < w.heap.size) (hsz : szV (d + 1) v ≤ 1048576) :
    Calls Try.prog 8 #[.agg #[.int .i64 ck, .int .i64 cn, .slice a2 l2 p2, .slice a3 l3 p3, .slice a4 l4 p4], .slice ka key.length kc] w (GetEnd d v key w) := by
  have HA : Hid (∀ o o' : Obj, Below w.heap.size w ((w.alloc o).alloc o') ∧ ((w.alloc o).alloc o').heap[w.heap.size + 1]? = some o' ∧ ((w.alloc o).alloc o').heap[w.heap.size]? = some o) := fun o o' => ⟨((Below.refl _ _).alloc (Nat.le_refl _) o).alloc (by simp) o', by have := (MapKept.heap_alloc (w.alloc o) o').1; simpa using this, (Below.heap_alloc _ _ _ (by simp)).trans (MapKept.heap_alloc w o).1⟩
  have HV : Hid (∀ wx, Below w.heap.size w wx → VSeg (fun b => b < N) wx (d + 1) (.int .i64 ck, .int .i64 cn, .slice a2 l2 p2, .slice a3 l3 p3, .slice a4 l4 p4) v) := fun wx hb => VSeg.agree (fun b (h : b < N) => hb.block b (by omega)) (d + 1) hv
  have HP : Hid (∀ wx, Below w.heap.size w wx → Calls Try.prog 26 #[.agg #[.int .i64 ck, .int .i64 cn, .slice a2 l2 p2, .slice a3 l3 p3, .slice a4 l4 p4]] wx fun e w' => e = .returned (.bool (okB (d + 1) v)) ∧ Below wx.heap.size wx w') := fun wx hb => spec_ValOk_any (d + 1) N _ _ _ _ _ v wx (HV.out wx hb) (by have := hb.size; omega)
  obtain ⟨vk, vn, vs, vK, vL⟩ := v
  obtain ⟨e0, e1, hT, hK, hL⟩ := (VSeg_succ _ _ _ _ _).1 hv
  simp only at e0 e1 hT hK hL
  have hck : ck = vk := by simpa using e0
  subst hck
  have HF : Hid (∀ wx, Below w.heap.size w wx → vK.length ≤ 1000 → Calls Try.prog 27 #[.agg #[.int .i64 ck, .int .i64 cn, .slice a2 l2 p2, .slice a3 l3 p3, .slice a4 l4 p4], .slice ka key.length kc] wx fun e w' => e = .returned (.int .i64 (findK vK key)) ∧ Below wx.heap.size wx w') := fun wx hb hkl => spec_l2find_any N _ _ _ _ a3 l3 p3 vK ka kc key wx (hK.agree (agree_below (hb.mono hN))) (by have := hb.size; omega) hkl (hS.below hb hSb) (fun x hx he => by have := hSb x hx he; have := hb.size; omega) ⟨_, _, _, _, _, _, _, _, rfl, rfl, rfl, rfl⟩
  have Hl4 : Hid (l4 = vL.length) := by obtain ⟨a, c, e, _⟩ := hL; simp at e; exact e.2.1
  have HL := hide' hL
  have hzz : ∀ i (h : i < vL.length), szV d vL[i] ≤ 1048576 := fun i hi => by
    have h1 := sz_elem hi
    have h2 : szV (d + 1) (ck, vn, vs, vK, vL) = szT vs + szK vK + szL d vL := rfl
    omega
  have HZ := hide' hzz
  clear hv e0 e1 hT hK hL hS hSb hzz HV
  go_enter Try.func8, Try.ntmps8
  go_wp2_with fail
  refine (HP.out _ (HA.out _ _).1).mono ?_
  rintro e w2 ⟨rfl, b2⟩
  have hR2 : w2.heap[w.heap.size + 1]? = some (.cells #[.int .i64 0, .int .i64 0, .slice none 0 0, .slice none 0 0, .slice none 0 0] 30 (0, 0)) := (b2.block _ (by simp)).trans (HA.out _ _).2.1
  have hP2 : w2.heap[w.heap.size]? = some (.cells #[.int .i64 ck, .int .i64 cn, .slice a2 l2 p2, .slice a3 l3 p3, .slice a4 l4 p4] 30 (0, 0)) := (b2.block _ (by simp; omega)).trans (HA.out _ _).2.2
  have hlt : w.heap.size + 1 < w2.heap.size := (Array.getElem?_eq_some_iff.1 hR2).1
  have HB2 := hide' (Below.on (HA.out _ _).1 b2)
  have HR2 := hide' hR2
  have HP2 := hide' hP2
  obtain ⟨q0, q1, q2, q3, q4, _⟩ := row5 hP2
  clear hR2 hP2 b2 HP HA
  by_cases hok : okB (d + 1) (ck, vn, vs, vK, vL) = true
  · rw [hok]
    by_cases hk5 : ck = 5
    · subst hk5
      have hkb := (keys_bound hok).1
      have HFd := hide' (HF.out w2 HB2.out (by omega))
      go_wp2_with fail
      refine HFd.out.mono ?_
      rintro e w3 ⟨rfl, b3⟩
      have HB3 := hide' (Below.on HB2.out b3)
      have HR3 := hide' ((b3.block _ hlt).trans HR2.out)
      have HP3 := (b3.block w.heap.size (by omega)).trans HP2.out
      obtain ⟨t0, t1, t2, t3, t4, _⟩ := row5 HP3
      have hlt3 : w.heap.size + 1 < w3.heap.size := (Array.getElem?_eq_some_iff.1 HR3.out).1
      clear b3 HFd HF q0 q1 q2 q3 q4 HP3
      obtain ⟨k, hkK, hke, hkn, hfk⟩ | ⟨hnone, hfk⟩ := find_cases vK key
      · have hok' := hok
        simp only [okB, Bool.and_eq_true, decide_eq_true_eq] at hok'
        obtain ⟨_, hsh, _⟩ := (good_succ _ _ _ _ _ _ _).1 hok'.1
        obtain ⟨hKL, _⟩ := shape_mapB hsh
        have hkL : k < vL.length := by omega
        obtain ⟨b, off, c, rfl, h5', hv5⟩ := HL.out.at HB3.out hN hkL
        obtain ⟨z0, z1, z2, z3, z4⟩ := c
        obtain ⟨ek, en, s2, e2, r2, s3, e3, r3, s4, e4, r4, rfl, rfl, rfl, rfl, rfl⟩ := VSeg.form d (hv5 w3 HB3.out)
        obtain ⟨g0, g1, g2, g3, g4⟩ := h5'
        simp only at g0 g1 g2 g3 g4
        have HE := hide' (l2own_any d N _ _ _ _ _ _ w3 (hv5 w3 HB3.out) (by have := HB3.out.size; omega) (HZ.out k hkL))
        have HF' := hide' (And.intro hok hfk)
        have hfi : findK vK key = (k : Int) := hfk
        rw [hfi]
        have hk0 : ¬ (k : Int) < 0 := by omega
        have hk1 : (k : Int) < (l4 : Int) := by have := Hl4.out; omega
        have hkk : (0 : Int) ≤ (k : Int) := by omega
        clear hv5 hok hok' hsh hfk hfi hke hkn
        go_wp2_with fail
        refine HE.out.mono ?_
        rintro e w5 ⟨u0, u1, u2, u3, u4, rfl, B, hO, hB, hb5⟩
        obtain ⟨uk, un, y2, n2, x2, y3, n3, x3, y4, n4, x4, rfl, rfl, rfl, rfl, rfl⟩ := VOwn.form d hO
        have hR5 := (hb5.block _ hlt3).trans HR3.out
        obtain ⟨r0', r1', r2', r3', r4', rf⟩ := row5 hR5
        have f0 := rf 0
        have f1 := rf 1
        have f2 := rf 2
        have f3 := rf 3
        have f4 := rf 4
        have HR5 := hide' hR5
        have HO := hide' hO
        have HB := hide' hB
        have HBf := hide' (Below.on HB3.out hb5)
        have hz5 := hb5.size
        clear rf hR5 hO hB hb5 HE
        go_wp2_with fail
        have hrow := set5_heap (j := 0) (.int .i64 uk) (.int .i64 un) (.slice y2 n2 x2) (.slice y3 n3 x3) (.slice y4 n4 x4) HR5.out
        have hfin := row5 hrow
        simp only [set5, Nat.zero_add] at hfin
        obtain ⟨o0, o1, o2, o3, o4, _⟩ := hfin
        refine bodyPost_ret (v := .tuple #[.agg #[.int .i64 uk, .int .i64 un, .slice y2 n2 x2, .slice y3 n3 x3, .slice y4 n4 x4], .bool true]) (by simp [results, Try.results8, go_sem, o0, o1, o2, o3, o4]) rfl ?_
        have hB5 := set5_grown w5 (w.heap.size + 1) 0 (.int .i64 uk) (.int .i64 un) (.slice y2 n2 x2) (.slice y3 n3 x3) (.slice y4 n4 x4)
        have hsz4 := set5_size w5 (w.heap.size + 1) 0 (.int .i64 uk) (.int .i64 un) (.slice y2 n2 x2) (.slice y3 n3 x3) (.slice y4 n4 x4)
        refine ⟨HBf.out.grown hB5 (by have := HBf.out.size; omega) (by intro j hj; simp at hj; omega), .inl ⟨k, hkL, HF'.out.1, rfl, HF'.out.2, _, _, _, _, _, rfl, B, ?_, fun b hb => ?_⟩⟩
        · exact VOwn.agree d HO.out fun b hb => hB5.block b (HB.out b hb).2 (by have := HB.out b hb; simp; omega)
        · have := HB.out b hb
          show w.heap.size ≤ b ∧ b < (set5 _ _ _ _ _ _ _ _).heap.size
          omega
      · rw [hfk]
        have HF' := hide' hfk
        clear hnone hfk hok
        obtain ⟨r0, r1, r2, r3, r4, rf⟩ := row5 HR3.out
        have f0 := rf 0
        have f1 := rf 1
        have f2 := rf 2
        have f3 := rf 3
        have f4 := rf 4
        obtain ⟨s0, s1, s2, s3, s4, sf⟩ := box_later HR3.out
        clear rf
        go_wp2_with fail
        have hfin := box_later (set5_heap (j := 0) (.int .i64 0) (.int .i64 0) (.slice none 0 0) (.slice none 0 0) (.slice none 0 0) HR3.out)
        have hfin2 := row5 (set5_heap (j := 0) (.int .i64 0) (.int .i64 0) (.slice none 0 0) (.slice none 0 0) (.slice none 0 0) HR3.out)
        simp only [set5, Nat.zero_add] at hfin hfin2
        obtain ⟨y0, y1, y2, y3, y4, _⟩ := hfin
        obtain ⟨o0, o1, o2, o3, o4, _⟩ := hfin2
        have hB5 := set5_grown w3 (w.heap.size + 1) 0 (.int .i64 0) (.int .i64 0) (.slice none 0 0) (.slice none 0 0) (.slice none 0 0)
        have hsz4 := set5_size w3 (w.heap.size + 1) 0 (.int .i64 0) (.int .i64 0) (.slice none 0 0) (.slice none 0 0) (.slice none 0 0)
        have hbf := HB3.out.grown hB5 (by have := HB3.out.size; omega) (by intro j hj; simp at hj; omega)
        refine bodyPost_ret (v := .tuple #[.agg #[.int .i64 0, .int .i64 0, .slice none 0 0, .slice none 0 0, .slice none 0 0], .bool false]) (by simp [results, Try.results8, go_sem, y0, y1, y2, y3, y4, o0, o1, o2, o3, o4]) rfl ?_
        exact ⟨by first | exact hbf | exact hbf.alloc (by have := HB3.out.size; omega) _, .inr ⟨fun h => by have h3 := h.2.2; simp only at h3; rw [HF'.out] at h3; omega, rfl⟩⟩
    · have hk5b : (ck != 5) = true := by simp [hk5]
      obtain ⟨r0, r1, r2, r3, r4, rf⟩ := row5 HR2.out
      have f0 := rf 0
      have f1 := rf 1
      have f2 := rf 2
      have f3 := rf 3
      have f4 := rf 4
      obtain ⟨s0, s1, s2, s3, s4, sf⟩ := box_later HR2.out
      clear rf hok
      go_wp2_with fail
      have hfin := box_later (set5_heap (j := 0) (.int .i64 0) (.int .i64 0) (.slice none 0 0) (.slice none 0 0) (.slice none 0 0) HR2.out)
      have hfin2 := row5 (set5_heap (j := 0) (.int .i64 0) (.int .i64 0) (.slice none 0 0) (.slice none 0 0) (.slice none 0 0) HR2.out)
      simp only [set5, Nat.zero_add] at hfin hfin2
      obtain ⟨y0, y1, y2, y3, y4, _⟩ := hfin
      obtain ⟨o0, o1, o2, o3, o4, _⟩ := hfin2
      have hB5 := set5_grown w2 (w.heap.size + 1) 0 (.int .i64 0) (.int .i64 0) (.slice none 0 0) (.slice none 0 0) (.slice none 0 0)
      have hsz4 := set5_size w2 (w.heap.size + 1) 0 (.int .i64 0) (.int .i64 0) (.slice none 0 0) (.slice none 0 0) (.slice none 0 0)
      have hbf := HB2.out.grown hB5 (by have := HB2.out.size; omega) (by intro j hj; simp at hj; omega)
      refine bodyPost_ret (v := .tuple #[.agg #[.int .i64 0, .int .i64 0, .slice none 0 0, .slice none 0 0, .slice none 0 0], .bool false]) (by simp [results, Try.results8, go_sem, y0, y1, y2, y3, y4, o0, o1, o2, o3, o4]) rfl ?_
      exact ⟨by first | exact hbf | exact hbf.alloc (by have := HB2.out.size; omega) _, .inr ⟨fun h => hk5 h.2.1, rfl⟩⟩
  · have hno : okB (d + 1) (ck, vn, vs, vK, vL) = false := by simpa using hok
    rw [hno]
    obtain ⟨r0, r1, r2, r3, r4, rf⟩ := row5 HR2.out
    have f0 := rf 0
    have f1 := rf 1
    have f2 := rf 2
    have f3 := rf 3
    have f4 := rf 4
    obtain ⟨s0, s1, s2, s3, s4, sf⟩ := box_later HR2.out
    have HN := hide' hok
    clear rf hok hno
    go_wp2_with fail
    have hfin := box_later (set5_heap (j := 0) (.int .i64 0) (.int .i64 0) (.slice none 0 0) (.slice none 0 0) (.slice none 0 0) HR2.out)
    have hfin2 := row5 (set5_heap (j := 0) (.int .i64 0) (.int .i64 0) (.slice none 0 0) (.slice none 0 0) (.slice none 0 0) HR2.out)
    simp only [set5, Nat.zero_add] at hfin hfin2
    obtain ⟨y0, y1, y2, y3, y4, _⟩ := hfin
    obtain ⟨o0, o1, o2, o3, o4, _⟩ := hfin2
    have hB5 := set5_grown w2 (w.heap.size + 1) 0 (.int .i64 0) (.int .i64 0) (.slice none 0 0) (.slice none 0 0) (.slice none 0 0)
    have hsz4 := set5_size w2 (w.heap.size + 1) 0 (.int .i64 0) (.int .i64 0) (.slice none 0 0) (.slice none 0 0) (.slice none 0 0)
    have hbf := HB2.out.grown hB5 (by have := HB2.out.size; omega) (by intro j hj; simp at hj; omega)
    refine bodyPost_ret (v := .tuple #[.agg #[.int .i64 0, .int .i64 0, .slice none 0 0, .slice none 0 0, .slice none 0 0], .bool false]) (by simp [results, Try.results8, go_sem, y0, y1, y2, y3, y4, o0, o1, o2, o3, o4]) rfl ?_
    exact ⟨by first | exact hbf | exact hbf.alloc (by have := HB2.out.size; omega) _, .inr ⟨fun h => HN.out h.1, rfl⟩⟩
end Go.Proofs.Ytkklhdeecamifaa
