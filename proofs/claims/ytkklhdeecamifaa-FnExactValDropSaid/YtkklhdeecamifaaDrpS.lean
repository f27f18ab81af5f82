/-
  ValDrop of the specification, once l2drop's end is known; no statement is proved here.
-/
import Derived.Test.YtkklhdeecamifaaDrpW
import Derived.Test.YtkklhdeecamifaaKeyB
import Derived.Test.YtkklhdeecamifaaOwnL1
namespace Go.Proofs.Ytkklhdeecamifaa
open Go.RowKit Go.Shelf
set_option linter.unusedVariables false
set_option linter.unusedSimpArgs false

/-- What l2drop leaves: a value that reads as the map without its k-th key. -/
def DropAt : Prop := ∀ (d N k : Nat) (ck cn : Int) (a2 : Option Addr) (l2 p2 : Nat) (a3 : Option Addr) (l3 p3 : Nat) (a4 : Option Addr) (l4 p4 : Nat) (v : Vl (d + 1)) (w : World), VSeg (fun b => b < N) w (d + 1) (.int .i64 ck, .int .i64 cn, .slice a2 l2 p2, .slice a3 l3 p3, .slice a4 l4 p4) v → N ≤ w.heap.size → k < v.2.2.2.1.length → k < v.2.2.2.2.length → v.2.2.2.1.length ≤ 40 → v.2.2.2.2.length ≤ 40 →
  Calls Try.prog 43 #[.agg #[.int .i64 ck, .int .i64 cn, .slice a2 l2 p2, .slice a3 l3 p3, .slice a4 l4 p4], .int .i64 k] w fun e w' => ∃ u0 u1 u2 u3 u4, e = .returned (.agg #[u0, u1, u2, u3, u4]) ∧ VSeg (fun b => b < w'.heap.size) w' (d + 1) (u0, u1, u2, u3, u4) (dropV d v k) ∧ Below w.heap.size w w'

set_option maxHeartbeats 3200000 in
set_option maxRecDepth 100000 in
theorem spec_ValDrop_of (d N : Nat) (ck cn : Int) (a2 : Option Addr) (l2 p2 : Nat) (a3 : Option Addr) (l3 p3 : Nat) (a4 : Option Addr) (l4 p4 : Nat) (v : Vl (d + 1)) (ka : Option Addr) (kc : Nat) (key : List Int) (w : World) (hv : VSeg (fun b => b < N) w (d + 1) (.int .i64 ck, .int .i64 cn, .slice a2 l2 p2, .slice a3 l3 p3, .slice a4 l4 p4) v) (hN : N ≤ w.heap.size) (hS : Seg w ka key) (hSb : ∀ x, ka = some x → key ≠ [] → x.block < w.heap.size) (hsz : szV (d + 1) v ≤ 1048576) (hD : DropAt) :
    Calls Try.prog 19 #[.agg #[.int .i64 ck, .int .i64 cn, .slice a2 l2 p2, .slice a3 l3 p3, .slice a4 l4 p4], .slice ka key.length kc] w (Ans d (dropA d v key) (dropF d v key) w) := by
  have HA : Hid (∀ o o' : Obj, Below w.heap.size w ((w.alloc o).alloc o') ∧ ((w.alloc o).alloc o').heap[w.heap.size + 1]? = some o' ∧ ((w.alloc o).alloc o').heap[w.heap.size]? = some o) := fun o o' => ⟨((Below.refl _ _).alloc (Nat.le_refl _) o).alloc (by simp) o', by have := (MapKept.heap_alloc (w.alloc o) o').1; simpa using this, (Below.heap_alloc _ _ _ (by simp)).trans (MapKept.heap_alloc w o).1⟩
  have HV : Hid (∀ wx, Below w.heap.size w wx → VSeg (fun b => b < N) wx (d + 1) (.int .i64 ck, .int .i64 cn, .slice a2 l2 p2, .slice a3 l3 p3, .slice a4 l4 p4) v) := fun wx hb => VSeg.agree (fun b (h : b < N) => hb.block b (by omega)) (d + 1) hv
  have HP : Hid (∀ wx, Below w.heap.size w wx → Calls Try.prog 26 #[.agg #[.int .i64 ck, .int .i64 cn, .slice a2 l2 p2, .slice a3 l3 p3, .slice a4 l4 p4]] wx fun e w' => e = .returned (.bool (okB (d + 1) v)) ∧ Below wx.heap.size wx w') := fun wx hb => spec_ValOk_any (d + 1) N _ _ _ _ _ v wx (HV.out wx hb) (by have := hb.size; omega)
  obtain ⟨vk, vn, vs, vK, vL⟩ := v
  obtain ⟨e0, e1, hT, hK, hL⟩ := (VSeg_succ _ _ _ _ _).1 hv
  simp only at e0 e1 hT hK hL
  have hck : ck = vk := by simpa using e0
  subst hck
  have HF : Hid (∀ wx, Below w.heap.size w wx → vK.length ≤ 1000 → Calls Try.prog 27 #[.agg #[.int .i64 ck, .int .i64 cn, .slice a2 l2 p2, .slice a3 l3 p3, .slice a4 l4 p4], .slice ka key.length kc] wx fun e w' => e = .returned (.int .i64 (findK vK key)) ∧ Below wx.heap.size wx w') := fun wx hb hkl => spec_l2find_any N _ _ _ _ a3 l3 p3 vK ka kc key wx (hK.agree (agree_below (hb.mono hN))) (by have := hb.size; omega) hkl (hS.below hb hSb) (fun x hx he => by have := hSb x hx he; have := hb.size; omega) ⟨_, _, _, _, _, _, _, _, rfl, rfl, rfl, rfl⟩
  have Hl4 : Hid (l4 = vL.length) := by obtain ⟨a, c, e, _⟩ := hL; simp at e; exact e.2.1
  have HL := hide' hL
  have hzz : ∀ i (h : i < vL.length), szV d vL[i] ≤ 1048576 := fun i hi => by
    have h1 := sz_elem hi
    have h2 : szV (d + 1) (ck, vn, vs, vK, vL) = szT vs + szK vK + szL d vL := rfl
    omega
  have HZ := hide' hzz
  have HSZ : Hid (szV (d + 1) (ck, vn, vs, vK, vL) ≤ 1048576) := hsz
  clear hv e0 e1 hT hK hL hS hSb hzz hsz
  go_enter Try.func19, Try.ntmps19
  go_wp2_with fail
  refine (HP.out _ (HA.out _ _).1).mono ?_
  rintro e w2 ⟨rfl, b2⟩
  have hR2 : w2.heap[w.heap.size + 1]? = some (.cells #[.int .i64 0, .int .i64 0, .slice none 0 0, .slice none 0 0, .slice none 0 0] 30 (0, 0)) := (b2.block _ (by simp)).trans (HA.out _ _).2.1
  have hP2 : w2.heap[w.heap.size]? = some (.cells #[.int .i64 ck, .int .i64 cn, .slice a2 l2 p2, .slice a3 l3 p3, .slice a4 l4 p4] 30 (0, 0)) := (b2.block _ (by simp; omega)).trans (HA.out _ _).2.2
  have hlt : w.heap.size + 1 < w2.heap.size := (Array.getElem?_eq_some_iff.1 hR2).1
  have HB2 := hide' (Below.on (HA.out _ _).1 b2)
  have HR2 := hide' hR2
  have HP2 := hide' hP2
  obtain ⟨q0, q1, q2, q3, q4, _⟩ := row5 hP2
  clear hR2 hP2 b2 HP HA
  by_cases hok : okB (d + 1) (ck, vn, vs, vK, vL) = true
  · rw [hok]
    by_cases hk5 : ck = 5
    · subst hk5
      have hkb := (keys_bound hok).1
      have HFd := hide' (HF.out w2 HB2.out (by omega))
      go_wp2_with fail
      refine HFd.out.mono ?_
      rintro e w3 ⟨rfl, b3⟩
      have HB3 := hide' (Below.on HB2.out b3)
      have HR3 := hide' ((b3.block _ hlt).trans HR2.out)
      have HP3 := (b3.block w.heap.size (by omega)).trans HP2.out
      obtain ⟨t0, t1, t2, t3, t4, _⟩ := row5 HP3
      have hlt3 : w.heap.size + 1 < w3.heap.size := (Array.getElem?_eq_some_iff.1 HR3.out).1
      clear b3 HFd HF q0 q1 q2 q3 q4 HP3
      obtain ⟨k, hkK, hke, hkn, hfk⟩ | ⟨hnone, hfk⟩ := find_cases vK key
      · have hok' := hok
        simp only [okB, Bool.and_eq_true, decide_eq_true_eq] at hok'
        obtain ⟨_, hsh, _⟩ := (good_succ _ _ _ _ _ _ _).1 hok'.1
        obtain ⟨hKL, _⟩ := shape_mapB hsh
        have hkL : k < vL.length := by omega
        have HE := hide' (hD d N k 5 cn a2 l2 p2 a3 l3 p3 a4 l4 p4 (5, vn, vs, vK, vL) w3 (HV.out w3 HB3.out) (by have := HB3.out.size; omega) hkK hkL hkb (by show vL.length ≤ 40; omega))
        have HF' := hide' (dropA_yes (d := d) (v := (5, vn, vs, vK, vL)) hok rfl hfk)
        have hfi : findK vK key = (k : Int) := hfk
        rw [hfi]
        have hk0 : ¬ (k : Int) < 0 := by omega
        clear hok hok' hsh hfk hfi hke hkn
        go_wp2_with fail
        refine HE.out.mono ?_
        rintro e w4 ⟨m0, m1, m2, m3, m4, rfl, hM, hb4⟩
        have HB4 := hide' (Below.on HB3.out hb4)
        have hR4 := hide' ((hb4.block _ hlt3).trans HR3.out)
        have hlt4 : w.heap.size + 1 < w4.heap.size := by have := hb4.size; omega
        have HE4 := hide' (l2own_any (d + 1) w4.heap.size _ _ _ _ _ _ w4 hM (Nat.le_refl _) (Nat.le_trans (drop_sz d (5, vn, vs, vK, vL) k) HSZ.out))
        clear HE hM hb4
        go_wp2_with fail
        refine HE4.out.mono ?_
        rintro e w5 ⟨u0, u1, u2, u3, u4, rfl, B, hO, hB, hb5⟩
        obtain ⟨uk, un, y2, n2, x2, y3, n3, x3, y4, n4, x4, rfl, rfl, rfl, rfl, rfl⟩ := VOwn.form (d + 1) hO
        have hR5 := (hb5.block _ hlt4).trans hR4.out
        obtain ⟨r0', r1', r2', r3', r4', rf⟩ := row5 hR5
        have f0 := rf 0
        have f1 := rf 1
        have f2 := rf 2
        have f3 := rf 3
        have f4 := rf 4
        have HR5 := hide' hR5
        have HO := hide' hO
        have HB := hide' hB
        have HBf := hide' (Below.on HB4.out hb5)
        have hz5 := hb5.size
        clear rf hR5 hO hB hb5 HE4
        go_wp2_with fail
        have hrow := set5_heap (j := 0) (.int .i64 uk) (.int .i64 un) (.slice y2 n2 x2) (.slice y3 n3 x3) (.slice y4 n4 x4) HR5.out
        have hfin := row5 hrow
        simp only [set5, Nat.zero_add] at hfin
        obtain ⟨o0, o1, o2, o3, o4, _⟩ := hfin
        refine bodyPost_ret (v := .tuple #[.agg #[.int .i64 uk, .int .i64 un, .slice y2 n2 x2, .slice y3 n3 x3, .slice y4 n4 x4], .bool true]) (by simp [results, Try.results19, go_sem, o0, o1, o2, o3, o4]) rfl ?_
        have hB5 := set5_grown w5 (w.heap.size + 1) 0 (.int .i64 uk) (.int .i64 un) (.slice y2 n2 x2) (.slice y3 n3 x3) (.slice y4 n4 x4)
        have hsz4 := set5_size w5 (w.heap.size + 1) 0 (.int .i64 uk) (.int .i64 un) (.slice y2 n2 x2) (.slice y3 n3 x3) (.slice y4 n4 x4)
        rw [HF'.out.1, HF'.out.2]
        refine ⟨_, _, _, _, _, rfl, B, ?_, fun b hb => ?_, HBf.out.grown hB5 (by have := HBf.out.size; omega) (by intro j hj; simp at hj; omega)⟩
        · exact VOwn.agree (d + 1) HO.out fun b hb => hB5.block b (HB.out b hb).2 (by have := HB.out b hb; simp; omega)
        · have := HB.out b hb
          show w.heap.size ≤ b ∧ b < (set5 _ _ _ _ _ _ _ _).heap.size
          have := HBf.out.size
          omega
      · have HF' := hide' (dropA_none (d := d) (v := (5, vn, vs, vK, vL)) hok rfl hfk)
        have HE := hide' (l2own_any (d + 1) N _ _ _ _ _ _ w3 (HV.out w3 HB3.out) (by have := HB3.out.size; omega) HSZ.out)
        rw [hfk]
        clear hnone hfk hok
        go_wp2_with fail
        refine HE.out.mono ?_
        rintro e w5 ⟨u0, u1, u2, u3, u4, rfl, B, hO, hB, hb5⟩
        obtain ⟨uk, un, y2, n2, x2, y3, n3, x3, y4, n4, x4, rfl, rfl, rfl, rfl, rfl⟩ := VOwn.form (d + 1) hO
        have hR5 := (hb5.block _ hlt3).trans HR3.out
        obtain ⟨r0', r1', r2', r3', r4', rf⟩ := row5 hR5
        have f0 := rf 0
        have f1 := rf 1
        have f2 := rf 2
        have f3 := rf 3
        have f4 := rf 4
        have HR5 := hide' hR5
        have HO := hide' hO
        have HB := hide' hB
        have HBf := hide' (Below.on HB3.out hb5)
        have hz5 := hb5.size
        clear rf hR5 hO hB hb5 HE
        go_wp2_with fail
        have hrow := set5_heap (j := 0) (.int .i64 uk) (.int .i64 un) (.slice y2 n2 x2) (.slice y3 n3 x3) (.slice y4 n4 x4) HR5.out
        have hfin := row5 hrow
        simp only [set5, Nat.zero_add] at hfin
        obtain ⟨o0, o1, o2, o3, o4, _⟩ := hfin
        refine bodyPost_ret (v := .tuple #[.agg #[.int .i64 uk, .int .i64 un, .slice y2 n2 x2, .slice y3 n3 x3, .slice y4 n4 x4], .bool false]) (by simp [results, Try.results19, go_sem, o0, o1, o2, o3, o4]) rfl ?_
        have hB5 := set5_grown w5 (w.heap.size + 1) 0 (.int .i64 uk) (.int .i64 un) (.slice y2 n2 x2) (.slice y3 n3 x3) (.slice y4 n4 x4)
        have hsz4 := set5_size w5 (w.heap.size + 1) 0 (.int .i64 uk) (.int .i64 un) (.slice y2 n2 x2) (.slice y3 n3 x3) (.slice y4 n4 x4)
        rw [HF'.out.1, HF'.out.2]
        refine ⟨_, _, _, _, _, rfl, B, ?_, fun b hb => ?_, HBf.out.grown hB5 (by have := HBf.out.size; omega) (by intro j hj; simp at hj; omega)⟩
        · exact VOwn.agree (d + 1) HO.out fun b hb => hB5.block b (HB.out b hb).2 (by have := HB.out b hb; simp; omega)
        · have := HB.out b hb
          show w.heap.size ≤ b ∧ b < (set5 _ _ _ _ _ _ _ _).heap.size
          have := HBf.out.size
          omega
    · have hk5b : (ck != 5) = true := by simp [hk5]
      obtain ⟨r0, r1, r2, r3, r4, rf⟩ := row5 HR2.out
      have f0 := rf 0
      have f1 := rf 1
      have f2 := rf 2
      have f3 := rf 3
      have f4 := rf 4
      obtain ⟨s0, s1, s2, s3, s4, sf⟩ := box_later HR2.out
      clear rf hok
      go_wp2_with fail
      have hfin := box_later (set5_heap (j := 0) (.int .i64 0) (.int .i64 0) (.slice none 0 0) (.slice none 0 0) (.slice none 0 0) HR2.out)
      have hfin2 := row5 (set5_heap (j := 0) (.int .i64 0) (.int .i64 0) (.slice none 0 0) (.slice none 0 0) (.slice none 0 0) HR2.out)
      simp only [set5, Nat.zero_add] at hfin hfin2
      obtain ⟨y0, y1, y2, y3, y4, _⟩ := hfin
      obtain ⟨o0, o1, o2, o3, o4, _⟩ := hfin2
      have hB5 := set5_grown w2 (w.heap.size + 1) 0 (.int .i64 0) (.int .i64 0) (.slice none 0 0) (.slice none 0 0) (.slice none 0 0)
      have hsz4 := set5_size w2 (w.heap.size + 1) 0 (.int .i64 0) (.int .i64 0) (.slice none 0 0) (.slice none 0 0) (.slice none 0 0)
      have hbf := HB2.out.grown hB5 (by have := HB2.out.size; omega) (by intro j hj; simp at hj; omega)
      refine bodyPost_ret (v := .tuple #[.agg #[.int .i64 0, .int .i64 0, .slice none 0 0, .slice none 0 0, .slice none 0 0], .bool false]) (by simp [results, Try.results19, go_sem, y0, y1, y2, y3, y4, o0, o1, o2, o3, o4]) rfl ?_
      rw [(dropA_no (d := d) (v := (ck, vn, vs, vK, vL)) (fun h => hk5 h.2)).1, (dropA_no (d := d) (v := (ck, vn, vs, vK, vL)) (fun h => hk5 h.2)).2]
      exact ⟨_, _, _, _, _, rfl, [], own_vNil d _, by simp, by first | exact hbf | exact hbf.alloc (by have := HB2.out.size; omega) _⟩
  · have hno : okB (d + 1) (ck, vn, vs, vK, vL) = false := by simpa using hok
    rw [hno]
    obtain ⟨r0, r1, r2, r3, r4, rf⟩ := row5 HR2.out
    have f0 := rf 0
    have f1 := rf 1
    have f2 := rf 2
    have f3 := rf 3
    have f4 := rf 4
    obtain ⟨s0, s1, s2, s3, s4, sf⟩ := box_later HR2.out
    have HN := hide' hok
    clear rf hok hno
    go_wp2_with fail
    have hfin := box_later (set5_heap (j := 0) (.int .i64 0) (.int .i64 0) (.slice none 0 0) (.slice none 0 0) (.slice none 0 0) HR2.out)
    have hfin2 := row5 (set5_heap (j := 0) (.int .i64 0) (.int .i64 0) (.slice none 0 0) (.slice none 0 0) (.slice none 0 0) HR2.out)
    simp only [set5, Nat.zero_add] at hfin hfin2
    obtain ⟨y0, y1, y2, y3, y4, _⟩ := hfin
    obtain ⟨o0, o1, o2, o3, o4, _⟩ := hfin2
    have hB5 := set5_grown w2 (w.heap.size + 1) 0 (.int .i64 0) (.int .i64 0) (.slice none 0 0) (.slice none 0 0) (.slice none 0 0)
    have hsz4 := set5_size w2 (w.heap.size + 1) 0 (.int .i64 0) (.int .i64 0) (.slice none 0 0) (.slice none 0 0) (.slice none 0 0)
    have hbf := HB2.out.grown hB5 (by have := HB2.out.size; omega) (by intro j hj; simp at hj; omega)
    refine bodyPost_ret (v := .tuple #[.agg #[.int .i64 0, .int .i64 0, .slice none 0 0, .slice none 0 0, .slice none 0 0], .bool false]) (by simp [results, Try.results19, go_sem, y0, y1, y2, y3, y4, o0, o1, o2, o3, o4]) rfl ?_
    rw [(dropA_no (d := d) (v := (ck, vn, vs, vK, vL)) (fun h => HN.out h.1)).1, (dropA_no (d := d) (v := (ck, vn, vs, vK, vL)) (fun h => HN.out h.1)).2]
    exact ⟨_, _, _, _, _, rfl, [], own_vNil d _, by simp, by first | exact hbf | exact hbf.alloc (by have := HB2.out.size; omega) _⟩
end Go.Proofs.Ytkklhdeecamifaa
