/-
  Texts that a law leans on, one behind the other; no statement is proved here.
-/
import Derived.Test.YtbeekbkambkgoaaPk17
import Derived.Test.YtbeekbkambkgoaaPk10
import Derived.Test.YtbeekbkambkgoaaPk14
import Derived.Test.YtbeekbkambkgoaaPk18
/-
  ValDrop of the specification, once l2drop's end is known; no statement is proved here.
-/
namespace Go.Proofs.Ytbeekbkambkgoaa
open Go.RowKit Go.Shelf
set_option linter.unusedVariables false
set_option linter.unusedSimpArgs false

/-- What l2drop leaves: a value that reads as the map without its k-th key. -/
def DropAt : Prop := ∀ (d N k : Nat) (ck cn : Int) (a2 : Option Addr) (l2 p2 : Nat) (a3 : Option Addr) (l3 p3 : Nat) (a4 : Option Addr) (l4 p4 : Nat) (v : Vl (d + 1)) (w : World), VSeg (fun b => b < N) w (d + 1) (.int .i64 ck, .int .i64 cn, .slice a2 l2 p2, .slice a3 l3 p3, .slice a4 l4 p4) v → N ≤ w.heap.size → k < v.2.2.2.1.length → k < v.2.2.2.2.length → v.2.2.2.1.length ≤ 40 → v.2.2.2.2.length ≤ 40 →
  Calls Try.prog 37 #[.agg #[.int .i64 ck, .int .i64 cn, .slice a2 l2 p2, .slice a3 l3 p3, .slice a4 l4 p4], .int .i64 k] w fun e w' => ∃ u0 u1 u2 u3 u4, e = .returned (.agg #[u0, u1, u2, u3, u4]) ∧ VSeg (fun b => b < w'.heap.size) w' (d + 1) (u0, u1, u2, u3, u4) (dropV d v k) ∧ Below w.heap.size w w'

set_option maxHeartbeats 3200000 in
set_option maxRecDepth 100000 in
theorem spec_ValDrop_of (d N : Nat) (ck cn : Int) (a2 : Option Addr) (l2 p2 : Nat) (a3 : Option Addr) (l3 p3 : Nat) (a4 : Option Addr) (l4 p4 : Nat) (v : Vl (d + 1)) (ka : Option Addr) (kc : Nat) (key : List Int) (w : World) (hv : VSeg (fun b => b < N) w (d + 1) (.int .i64 ck, .int .i64 cn, .slice a2 l2 p2, .slice a3 l3 p3, .slice a4 l4 p4) v) (hN : N ≤ w.heap.size) (hS : Seg w ka key) (hSb : ∀ x, ka = some x → key ≠ [] → x.block < w.heap.size) (hsz : szV (d + 1) v ≤ 1048576) (hD : DropAt) :
    Calls Try.prog 16 #[.agg #[.int .i64 ck, .int .i64 cn, .slice a2 l2 p2, .slice a3 l3 p3, .slice a4 l4 p4], .slice ka key.length kc] w (Ans d (dropA d v key) (dropF d v key) w) := by
  have HA : Hid (∀ o o' : Obj, Below w.heap.size w ((w.alloc o).alloc o') ∧ ((w.alloc o).alloc o').heap[w.heap.size + 1]? = some o' ∧ ((w.alloc o).alloc o').heap[w.heap.size]? = some o) := fun o o' => ⟨((Below.refl _ _).alloc (Nat.le_refl _) o).alloc (by simp) o', by have := (MapKept.heap_alloc (w.alloc o) o').1; simpa using this, (Below.heap_alloc _ _ _ (by simp)).trans (MapKept.heap_alloc w o).1⟩
  have HV : Hid (∀ wx, Below w.heap.size w wx → VSeg (fun b => b < N) wx (d + 1) (.int .i64 ck, .int .i64 cn, .slice a2 l2 p2, .slice a3 l3 p3, .slice a4 l4 p4) v) := fun wx hb => VSeg.agree (fun b (h : b < N) => hb.block b (by omega)) (d + 1) hv
  have HP : Hid (∀ wx, Below w.heap.size w wx → Calls Try.prog 26 #[.agg #[.int .i64 ck, .int .i64 cn, .slice a2 l2 p2, .slice a3 l3 p3, .slice a4 l4 p4]] wx fun e w' => e = .returned (.bool (okB (d + 1) v)) ∧ Below wx.heap.size wx w') := fun wx hb => spec_ValOk_any (d + 1) N _ _ _ _ _ v wx (HV.out wx hb) (by have := hb.size; omega)
  obtain ⟨vk, vn, vs, vK, vL⟩ := v
  obtain ⟨e0, e1, hT, hK, hL⟩ := (VSeg_succ _ _ _ _ _).1 hv
  simp only at e0 e1 hT hK hL
  have hck : ck = vk := by simpa using e0
  subst hck
  have HF : Hid (∀ wx, Below w.heap.size w wx → vK.length ≤ 1000 → Calls Try.prog 27 #[.agg #[.int .i64 ck, .int .i64 cn, .slice a2 l2 p2, .slice a3 l3 p3, .slice a4 l4 p4], .slice ka key.length kc] wx fun e w' => e = .returned (.int .i64 (findK vK key)) ∧ Below wx.heap.size wx w') := fun wx hb hkl => spec_l2find_any N _ _ _ _ a3 l3 p3 vK ka kc key wx (hK.agree (agree_below (hb.mono hN))) (by have := hb.size; omega) (Nat.le_trans hkl (by omega)) (hS.below hb hSb) (fun x hx he => by have := hSb x hx he; have := hb.size; omega) ⟨_, _, _, _, _, _, _, _, rfl, rfl, rfl, rfl⟩
  have Hl4 : Hid (l4 = vL.length) := by obtain ⟨a, c, e, _⟩ := hL; simp at e; exact e.2.1
  have HL := hide' hL
  have hzz : ∀ i (h : i < vL.length), szV d vL[i] ≤ 1048576 := fun i hi => by
    have h1 := sz_elem hi
    have h2 : szV (d + 1) (ck, vn, vs, vK, vL) = szT vs + szK vK + szL d vL := rfl
    omega
  have HZ := hide' hzz
  have HSZ : Hid (szV (d + 1) (ck, vn, vs, vK, vL) ≤ 1048576) := hsz
  clear hv e0 e1 hT hK hL hS hSb hzz hsz
  go_enter Try.func16, Try.ntmps16
  go_wp2_with fail
  refine (HP.out _ (HA.out _ _).1).mono ?_
  rintro e w2 ⟨rfl, b2⟩
  have hR2 : w2.heap[w.heap.size + 1]? = some (.cells #[.int .i64 0, .int .i64 0, .slice none 0 0, .slice none 0 0, .slice none 0 0] 30 (0, 0)) := (b2.block _ (by simp)).trans (HA.out _ _).2.1
  have hP2 : w2.heap[w.heap.size]? = some (.cells #[.int .i64 ck, .int .i64 cn, .slice a2 l2 p2, .slice a3 l3 p3, .slice a4 l4 p4] 30 (0, 0)) := (b2.block _ (by simp; omega)).trans (HA.out _ _).2.2
  have hlt : w.heap.size + 1 < w2.heap.size := (Array.getElem?_eq_some_iff.1 hR2).1
  have HB2 := hide' (Below.on (HA.out _ _).1 b2)
  have HR2 := hide' hR2
  have HP2 := hide' hP2
  obtain ⟨q0, q1, q2, q3, q4, _⟩ := row5 hP2
  clear hR2 hP2 b2 HP HA
  by_cases hok : okB (d + 1) (ck, vn, vs, vK, vL) = true
  · rw [hok]
    by_cases hk5 : ck = 5
    · subst hk5
      have hkb := (keys_bound hok).1
      have HFd := hide' (HF.out w2 HB2.out (by omega))
      go_wp2_with fail
      refine HFd.out.mono ?_
      rintro e w3 ⟨rfl, b3⟩
      have HB3 := hide' (Below.on HB2.out b3)
      have HR3 := hide' ((b3.block _ hlt).trans HR2.out)
      have HP3 := (b3.block w.heap.size (by omega)).trans HP2.out
      obtain ⟨t0, t1, t2, t3, t4, _⟩ := row5 HP3
      have hlt3 : w.heap.size + 1 < w3.heap.size := (Array.getElem?_eq_some_iff.1 HR3.out).1
      clear b3 HFd HF q0 q1 q2 q3 q4 HP3
      obtain ⟨k, hkK, hke, hkn, hfk⟩ | ⟨hnone, hfk⟩ := find_cases vK key
      · have hok' := hok
        simp only [okB, Bool.and_eq_true, decide_eq_true_eq] at hok'
        obtain ⟨_, hsh, _⟩ := (good_succ _ _ _ _ _ _ _).1 hok'.1
        obtain ⟨hKL, _⟩ := shape_mapB hsh
        have hkL : k < vL.length := by omega
        have HE := hide' (hD d N k 5 cn a2 l2 p2 a3 l3 p3 a4 l4 p4 (5, vn, vs, vK, vL) w3 (HV.out w3 HB3.out) (by have := HB3.out.size; omega) hkK hkL hkb (by show vL.length ≤ 40; omega))
        have HF' := hide' (dropA_yes (d := d) (v := (5, vn, vs, vK, vL)) hok rfl hfk)
        have hfi : findK vK key = (k : Int) := hfk
        rw [hfi]
        have hk0 : ¬ (k : Int) < 0 := by omega
        clear hok hok' hsh hfk hfi hke hkn
        go_wp2_with fail
        refine HE.out.mono ?_
        rintro e w4 ⟨m0, m1, m2, m3, m4, rfl, hM, hb4⟩
        have HB4 := hide' (Below.on HB3.out hb4)
        have hR4 := hide' ((hb4.block _ hlt3).trans HR3.out)
        have hlt4 : w.heap.size + 1 < w4.heap.size := by have := hb4.size; omega
        have HE4 := hide' (l2own_any (d + 1) w4.heap.size _ _ _ _ _ _ w4 hM (Nat.le_refl _) (Nat.le_trans (drop_sz d (5, vn, vs, vK, vL) k) HSZ.out))
        clear HE hM hb4
        go_wp2_with fail
        refine HE4.out.mono ?_
        rintro e w5 ⟨u0, u1, u2, u3, u4, rfl, B, hO, hB, hb5⟩
        obtain ⟨uk, un, y2, n2, x2, y3, n3, x3, y4, n4, x4, rfl, rfl, rfl, rfl, rfl⟩ := VOwn.form (d + 1) hO
        have hR5 := (hb5.block _ hlt4).trans hR4.out
        obtain ⟨r0', r1', r2', r3', r4', rf⟩ := row5 hR5
        have f0 := rf 0
        have f1 := rf 1
        have f2 := rf 2
        have f3 := rf 3
        have f4 := rf 4
        have HR5 := hide' hR5
        have HO := hide' hO
        have HB := hide' hB
        have HBf := hide' (Below.on HB4.out hb5)
        have hz5 := hb5.size
        clear rf hR5 hO hB hb5 HE4
        go_wp2_with fail
        have hrow := set5_heap (j := 0) (.int .i64 uk) (.int .i64 un) (.slice y2 n2 x2) (.slice y3 n3 x3) (.slice y4 n4 x4) HR5.out
        have hfin := row5 hrow
        simp only [set5, Nat.zero_add] at hfin
        obtain ⟨o0, o1, o2, o3, o4, _⟩ := hfin
        refine bodyPost_ret (v := .tuple #[.agg #[.int .i64 uk, .int .i64 un, .slice y2 n2 x2, .slice y3 n3 x3, .slice y4 n4 x4], .bool true]) (by simp [results, Try.results16, go_sem, o0, o1, o2, o3, o4]) rfl ?_
        have hB5 := set5_grown w5 (w.heap.size + 1) 0 (.int .i64 uk) (.int .i64 un) (.slice y2 n2 x2) (.slice y3 n3 x3) (.slice y4 n4 x4)
        have hsz4 := set5_size w5 (w.heap.size + 1) 0 (.int .i64 uk) (.int .i64 un) (.slice y2 n2 x2) (.slice y3 n3 x3) (.slice y4 n4 x4)
        rw [HF'.out.1, HF'.out.2]
        refine ⟨_, _, _, _, _, rfl, B, ?_, fun b hb => ?_, HBf.out.grown hB5 (by have := HBf.out.size; omega) (by intro j hj; simp at hj; omega)⟩
        · exact VOwn.agree (d + 1) HO.out fun b hb => hB5.block b (HB.out b hb).2 (by have := HB.out b hb; simp; omega)
        · have := HB.out b hb
          show w.heap.size ≤ b ∧ b < (set5 _ _ _ _ _ _ _ _).heap.size
          have := HBf.out.size
          omega
      · have HF' := hide' (dropA_none (d := d) (v := (5, vn, vs, vK, vL)) hok rfl hfk)
        have HE := hide' (l2own_any (d + 1) N _ _ _ _ _ _ w3 (HV.out w3 HB3.out) (by have := HB3.out.size; omega) HSZ.out)
        rw [hfk]
        clear hnone hfk hok
        go_wp2_with fail
        refine HE.out.mono ?_
        rintro e w5 ⟨u0, u1, u2, u3, u4, rfl, B, hO, hB, hb5⟩
        obtain ⟨uk, un, y2, n2, x2, y3, n3, x3, y4, n4, x4, rfl, rfl, rfl, rfl, rfl⟩ := VOwn.form (d + 1) hO
        have hR5 := (hb5.block _ hlt3).trans HR3.out
        obtain ⟨r0', r1', r2', r3', r4', rf⟩ := row5 hR5
        have f0 := rf 0
        have f1 := rf 1
        have f2 := rf 2
        have f3 := rf 3
        have f4 := rf 4
        have HR5 := hide' hR5
        have HO := hide' hO
        have HB := hide' hB
        have HBf := hide' (Below.on HB3.out hb5)
        have hz5 := hb5.size
        clear rf hR5 hO hB hb5 HE
        go_wp2_with fail
        have hrow := set5_heap (j := 0) (.int .i64 uk) (.int .i64 un) (.slice y2 n2 x2) (.slice y3 n3 x3) (.slice y4 n4 x4) HR5.out
        have hfin := row5 hrow
        simp only [set5, Nat.zero_add] at hfin
        obtain ⟨o0, o1, o2, o3, o4, _⟩ := hfin
        refine bodyPost_ret (v := .tuple #[.agg #[.int .i64 uk, .int .i64 un, .slice y2 n2 x2, .slice y3 n3 x3, .slice y4 n4 x4], .bool false]) (by simp [results, Try.results16, go_sem, o0, o1, o2, o3, o4]) rfl ?_
        have hB5 := set5_grown w5 (w.heap.size + 1) 0 (.int .i64 uk) (.int .i64 un) (.slice y2 n2 x2) (.slice y3 n3 x3) (.slice y4 n4 x4)
        have hsz4 := set5_size w5 (w.heap.size + 1) 0 (.int .i64 uk) (.int .i64 un) (.slice y2 n2 x2) (.slice y3 n3 x3) (.slice y4 n4 x4)
        rw [HF'.out.1, HF'.out.2]
        refine ⟨_, _, _, _, _, rfl, B, ?_, fun b hb => ?_, HBf.out.grown hB5 (by have := HBf.out.size; omega) (by intro j hj; simp at hj; omega)⟩
        · exact VOwn.agree (d + 1) HO.out fun b hb => hB5.block b (HB.out b hb).2 (by have := HB.out b hb; simp; omega)
        · have := HB.out b hb
          show w.heap.size ≤ b ∧ b < (set5 _ _ _ _ _ _ _ _).heap.size
          have := HBf.out.size
          omega
    · have hk5b : (ck != 5) = true := by simp [hk5]
      obtain ⟨r0, r1, r2, r3, r4, rf⟩ := row5 HR2.out
      have f0 := rf 0
      have f1 := rf 1
      have f2 := rf 2
      have f3 := rf 3
      have f4 := rf 4
      obtain ⟨s0, s1, s2, s3, s4, sf⟩ := box_later HR2.out
      clear rf hok
      go_wp2_with fail
      have hfin := box_later (set5_heap (j := 0) (.int .i64 0) (.int .i64 0) (.slice none 0 0) (.slice none 0 0) (.slice none 0 0) HR2.out)
      have hfin2 := row5 (set5_heap (j := 0) (.int .i64 0) (.int .i64 0) (.slice none 0 0) (.slice none 0 0) (.slice none 0 0) HR2.out)
      simp only [set5, Nat.zero_add] at hfin hfin2
      obtain ⟨y0, y1, y2, y3, y4, _⟩ := hfin
      obtain ⟨o0, o1, o2, o3, o4, _⟩ := hfin2
      have hB5 := set5_grown w2 (w.heap.size + 1) 0 (.int .i64 0) (.int .i64 0) (.slice none 0 0) (.slice none 0 0) (.slice none 0 0)
      have hsz4 := set5_size w2 (w.heap.size + 1) 0 (.int .i64 0) (.int .i64 0) (.slice none 0 0) (.slice none 0 0) (.slice none 0 0)
      have hbf := HB2.out.grown hB5 (by have := HB2.out.size; omega) (by intro j hj; simp at hj; omega)
      refine bodyPost_ret (v := .tuple #[.agg #[.int .i64 0, .int .i64 0, .slice none 0 0, .slice none 0 0, .slice none 0 0], .bool false]) (by simp [results, Try.results16, go_sem, y0, y1, y2, y3, y4, o0, o1, o2, o3, o4]) rfl ?_
      rw [(dropA_no (d := d) (v := (ck, vn, vs, vK, vL)) (fun h => hk5 h.2)).1, (dropA_no (d := d) (v := (ck, vn, vs, vK, vL)) (fun h => hk5 h.2)).2]
      exact ⟨_, _, _, _, _, rfl, [], own_vNil d _, by simp, by first | exact hbf | exact hbf.alloc (by have := HB2.out.size; omega) _⟩
  · have hno : okB (d + 1) (ck, vn, vs, vK, vL) = false := by simpa using hok
    rw [hno]
    obtain ⟨r0, r1, r2, r3, r4, rf⟩ := row5 HR2.out
    have f0 := rf 0
    have f1 := rf 1
    have f2 := rf 2
    have f3 := rf 3
    have f4 := rf 4
    obtain ⟨s0, s1, s2, s3, s4, sf⟩ := box_later HR2.out
    have HN := hide' hok
    clear rf hok hno
    go_wp2_with fail
    have hfin := box_later (set5_heap (j := 0) (.int .i64 0) (.int .i64 0) (.slice none 0 0) (.slice none 0 0) (.slice none 0 0) HR2.out)
    have hfin2 := row5 (set5_heap (j := 0) (.int .i64 0) (.int .i64 0) (.slice none 0 0) (.slice none 0 0) (.slice none 0 0) HR2.out)
    simp only [set5, Nat.zero_add] at hfin hfin2
    obtain ⟨y0, y1, y2, y3, y4, _⟩ := hfin
    obtain ⟨o0, o1, o2, o3, o4, _⟩ := hfin2
    have hB5 := set5_grown w2 (w.heap.size + 1) 0 (.int .i64 0) (.int .i64 0) (.slice none 0 0) (.slice none 0 0) (.slice none 0 0)
    have hsz4 := set5_size w2 (w.heap.size + 1) 0 (.int .i64 0) (.int .i64 0) (.slice none 0 0) (.slice none 0 0) (.slice none 0 0)
    have hbf := HB2.out.grown hB5 (by have := HB2.out.size; omega) (by intro j hj; simp at hj; omega)
    refine bodyPost_ret (v := .tuple #[.agg #[.int .i64 0, .int .i64 0, .slice none 0 0, .slice none 0 0, .slice none 0 0], .bool false]) (by simp [results, Try.results16, go_sem, y0, y1, y2, y3, y4, o0, o1, o2, o3, o4]) rfl ?_
    rw [(dropA_no (d := d) (v := (ck, vn, vs, vK, vL)) (fun h => HN.out h.1)).1, (dropA_no (d := d) (v := (ck, vn, vs, vK, vL)) (fun h => HN.out h.1)).2]
    exact ⟨_, _, _, _, _, rfl, [], own_vNil d _, by simp, by first | exact hbf | exact hbf.alloc (by have := HB2.out.size; omega) _⟩
end Go.Proofs.Ytbeekbkambkgoaa
/-
  l2drop, whatever map it is handed; no statement is proved here.
-/
namespace Go.Proofs.Ytbeekbkambkgoaa
open Go.RowKit Go.Shelf
set_option linter.unusedVariables false
set_option linter.unusedSimpArgs false

theorem below_app {w1 w2 : World} (hg : w1.drew.grownBy w2 (Value.slice none 0 0).ownBlock) : Below w1.heap.size w1 w2 := ⟨hg.os, hg.tape, hg.output, hg.size, fun b hb => hg.block b hb (by simp [Value.ownBlock])⟩
theorem below_app2 {w1 w2 w3 : World} {e : TypeId} {s n : Nat} {v : Value} {xs : List Value} (hb : Below w1.heap.size w1 w2) (hv : w2.ownsRow w1.heap.size e s v n xs) (hg : w2.grownBy w3 v.ownBlock) : Below w1.heap.size w1 w3 :=
  hb.grown hg hb.size fun j hj => (hv.lt j hj).1

/-- Behind one field of the new map: what was there is as it was, but for the new map's own block. -/
def FDone (w1 : World) (O : Nat) (c3 c4 : Value) (wx : World) : Prop := wx.heap[O]? = some (.cells #[.int .i64 5, .int .i64 0, .slice none 0 0, c3, c4] 30 (0, 0)) ∧ w1.grownBy wx (some O)

def KDone (w1 : World) (O n : Nat) (us : List Value) (wx : World) : Prop := ∃ a c, FDone w1 O (.slice a n c) (.slice none 0 0) wx ∧ wx.ownsRow w1.heap.size 22 1 (.slice a n c) n us
def LDone (w1 : World) (O n : Nat) (c3 : Value) (us : List Value) (wx : World) : Prop := ∃ a c, FDone w1 O c3 (.slice a n c) wx ∧ wx.ownsRow w1.heap.size 30 5 (.slice a n c) n us

theorem set_done {w1 w3 : World} {O j : Nat} {cs : Array Value} {x : Value} {e : TypeId} {s n : Nat} {xs : List Value} (hb : Below w1.heap.size w1 w3) (hO : w1.heap[O]? = some (.cells cs 30 (0, 0))) (hv : w3.ownsRow w1.heap.size e s x n xs) :
    (w3.setCell ⟨O, j, none⟩ x).heap[O]? = some (.cells (cs.setIfInBounds j x) 30 (0, 0)) ∧ w1.grownBy (w3.setCell ⟨O, j, none⟩ x) (some O) ∧ (w3.setCell ⟨O, j, none⟩ x).ownsRow w1.heap.size e s x n xs := by
  have hlt : O < w1.heap.size := (Array.getElem?_eq_some_iff.1 hO).1
  have hg : w3.grownBy (w3.setCell ⟨O, j, none⟩ x) (some O) := ⟨rfl, rfl, rfl, by simp [World.setCell], fun b _ hne => Below.heap_setCell w3 ⟨O, j, none⟩ x b (fun e => hne (by simp [e]))⟩
  refine ⟨heap_setCell_same w3 O j cs _ x ((hb.block O hlt).trans hO), ⟨hg.os.trans hb.os, hg.tape.trans hb.tape, hg.output.trans hb.output, Nat.le_trans hb.size hg.size, fun b hl hne => (hg.block b (by have := hb.size; omega) hne).trans (hb.block b hl)⟩, hv.kept hg ?_⟩
  cases h : x.ownBlock with
  | none => exact .inl rfl
  | some g => exact .inr fun e => by have := (hv.lt g h).1; simp at e; omega

theorem kfin {N k n base : Nat} {w wf : World} {v : Value} {us : List Value} {vK : List (List Int)} (hrow : wf.ownsRow base 22 1 v n (us.take k ++ us.drop (k + 1))) (hn : n = vK.length - 1) (hus : us.length = vK.length) (hk : k < vK.length) (hT : ∀ i (h : i < us.length), TSeg (fun b => b < N) w us[i] (vK.getD i [])) (hN : N ≤ w.heap.size) (hb : Below w.heap.size w wf) : KSeg (fun b => b < wf.heap.size) wf v (vK.eraseIdx k) := by
  rw [← List.eraseIdx_eq_take_drop_succ] at hrow
  refine kseg_of hrow (by rw [hn, List.length_eraseIdx_of_lt hk]) fun i hi => ?_
  have hz := hb.size
  have hT' : ∀ i (h : i < us.length), TSeg (fun b => b < wf.heap.size) wf us[i] (vK.getD i []) := fun i h => ((hT i h).agree (fun b (hb' : b < N) => hb.block b (by omega))).mono (fun b (hb' : b < N) => by omega)
  rw [getD_erase, List.getElem_eraseIdx]
  by_cases h : i < k
  · rw [if_pos h, dif_pos h]; exact hT' i _
  · rw [if_neg h, dif_neg h]; exact hT' (i + 1) _

theorem lfin {N k n base d : Nat} {w wf : World} {v : Value} {fs : List V5} {vL : List (Vl d)} (hrow : wf.ownsRow base 30 5 v n (((fs.map enc5).flatten).take (k * 5) ++ ((fs.map enc5).flatten).drop ((k + 1) * 5))) (hn : n = vL.length - 1) (hfs : fs.length = vL.length) (hk : k < vL.length) (hV : ∀ i (h : i < fs.length) (h' : i < vL.length), VSeg (fun b => b < N) w d fs[i] vL[i]) (hN : N ≤ w.heap.size) (hb : Below w.heap.size w wf) : LSeg (fun b => b < wf.heap.size) wf d v (vL.eraseIdx k) := by
  rw [flat_erase] at hrow
  refine lseg_of hrow (by rw [hn, List.length_eraseIdx_of_lt hk]) fun i hi hi' => ?_
  have hz := hb.size
  have hV' : ∀ i (h : i < fs.length) (h' : i < vL.length), VSeg (fun b => b < wf.heap.size) wf d fs[i] vL[i] := fun i h h' => VSeg.mono (fun b (hb' : b < N) => by omega) d (VSeg.agree (fun b (hb' : b < N) => hb.block b (by omega)) d (hV i h h'))
  rw [List.getElem_eraseIdx, List.getElem_eraseIdx]
  by_cases h : i < k
  · rw [dif_pos h, dif_pos h]; exact hV' i _ _
  · rw [dif_neg h, dif_neg h]; exact hV' (i + 1) _ _

theorem tseg_nil (w : World) : TSeg (fun b => b < w.heap.size) w (.slice none 0 0) [] := ⟨none, 0, rfl, ⟨by simp, .inl rfl⟩, by simp, by simp, fun _ => rfl, by simp⟩

theorem row_kept {w w' : World} {base n s O : Nat} {e : TypeId} {v : Value} {xs : List Value} (h : w.ownsRow base e s v n xs) (hg : w.grownBy w' (some O)) (hO : O < base) : w'.ownsRow base e s v n xs := by
  refine h.kept hg ?_
  cases hx : v.ownBlock with
  | none => exact .inl rfl
  | some g => exact .inr fun e => by have := (h.lt g hx).1; simp at e; omega

set_option maxHeartbeats 6400000 in
set_option maxRecDepth 100000 in
theorem l2drop_any : DropAt := by
  intro d N k ck cn a2 l2 p2 a3 l3 p3 a4 l4 p4 v w hv hN hkK hkL hK40 hL40
  obtain ⟨vk, vn, vs, vK, vL⟩ := v
  obtain ⟨e0, e1, hT, hK, hL⟩ := (VSeg_succ _ _ _ _ _).1 hv
  simp only at e0 e1 hT hK hL hkK hkL hK40 hL40
  obtain ⟨rfl, hp3, b3, o3, us, rfl, hb3, hus, hli3, hoc3, hTs⟩ := hK.lie (by intro h; simp [h] at hkK)
  obtain ⟨rfl, hp4, b4, o4, fs, rfl, hb4, hfs, hli4, hoc4, hVs⟩ := hL.lie (by intro h; simp [h] at hkL)
  obtain ⟨iT, hiT, hy0, hy1, hy2⟩ := info_parts infoT
  obtain ⟨iV, hiV, hz0, hz1', hz2⟩ := info_parts info_valueT
  have HA : Hid (∀ o o' o'' : Obj, Below w.heap.size w (((w.alloc o).alloc o').alloc o'') ∧ (((w.alloc o).alloc o').alloc o'').heap[w.heap.size]? = some o ∧ (((w.alloc o).alloc o').alloc o'').heap[w.heap.size + 1]? = some o' ∧ (((w.alloc o).alloc o').alloc o'').heap[w.heap.size + 1 + 1]? = some o'') := fun o o' o'' => ⟨(((Below.refl _ _).alloc (Nat.le_refl _) o).alloc (by simp) o').alloc (by simp; omega) o'', (Below.heap_alloc _ _ _ (by simp; omega)).trans ((Below.heap_alloc _ _ _ (by simp)).trans (MapKept.heap_alloc w o).1), (Below.heap_alloc _ _ _ (by simp)).trans (by have := (MapKept.heap_alloc (w.alloc o) o').1; simpa using this), by have := (MapKept.heap_alloc ((w.alloc o).alloc o') o'').1; simpa using this⟩
  have hsK1 : ∀ wx : World, (Instr.slice 23 (.slice (some ⟨b3, o3, none⟩) vK.length p3) none (some (.int .i64 k)) none).run Try.prog wx = .ok (.slice (some ⟨b3, o3, none⟩) k p3) wx := fun wx => sliceK_to wx _ _ _ k (by omega)
  have hsL1 : ∀ wx : World, (Instr.slice 28 (.slice (some ⟨b4, o4, none⟩) vL.length p4) none (some (.int .i64 k)) none).run Try.prog wx = .ok (.slice (some ⟨b4, o4, none⟩) k p4) wx := fun wx => sliceL_to wx _ _ _ k (by omega)
  have hwr : IntKind.i64.wrap ((k : Int) + 1) = (k : Int) + 1 := by rw [IntKind.wrap_i64]; omega
  have hk1 : (0 : Int) ≤ (k : Int) + 1 := by omega
  have hk2 : (k : Int) + 1 ≤ (vK.length : Int) := by omega
  have hk3 : (k : Int) + 1 ≤ (vL.length : Int) := by omega
  obtain ⟨A3, hite3, hA3⟩ : ∃ A3 : Addr, (if p3 = k + 1 then some (⟨b3, o3, none⟩ : Addr) else some ⟨b3, o3 + (k + 1), none⟩) = some A3 ∧ Hid (∀ wx, Lie wx b3 o3 us → ∀ j u, (us.drop (k + 1))[j]? = some u → wx.cell? (A3.add j) = some u) := by
    by_cases hc : p3 = k + 1
    · exact ⟨_, if_pos hc, fun wx h j u hu => by rw [List.drop_eq_nil_of_le (by omega)] at hu; simp at hu⟩
    · exact ⟨_, if_neg hc, fun wx h j u hu => h.drop (k + 1) j u hu⟩
  obtain ⟨A4, hite4, hA4⟩ : ∃ A4 : Addr, (if p4 = k + 1 then some (⟨b4, o4, none⟩ : Addr) else some ⟨b4, o4 + (k + 1) * 5, none⟩) = some A4 ∧ Hid (∀ wx, Lie wx b4 o4 ((fs.map enc5).flatten) → ∀ j u, (((fs.map enc5).flatten).drop ((k + 1) * 5))[j]? = some u → wx.cell? (A4.add j) = some u) := by
    by_cases hc : p4 = k + 1
    · exact ⟨_, if_pos hc, fun wx h j u hu => by rw [List.drop_eq_nil_of_le (by rw [flat_len]; omega)] at hu; simp at hu⟩
    · exact ⟨_, if_neg hc, fun wx h j u hu => h.drop ((k + 1) * 5) j u hu⟩
  clear hv hK hL hT
  go_enter Try.func37, Try.ntmps37
  go_wp2_with fail
  have HW := HA.out (.cells #[.int .i64 ck, .int .i64 cn, .slice a2 l2 p2, .slice (some ⟨b3, o3, none⟩) vK.length p3, .slice (some ⟨b4, o4, none⟩) vL.length p4] 30) (.cells #[.int .i64 0, .int .i64 0, .slice none 0 0, .slice none 0 0, .slice none 0 0] 30) (.cells #[.int .i64 5, .int .i64 0, .slice none 0 0, .slice none 0 0, .slice none 0 0] 30)
  generalize hw1 : ((w.alloc (.cells #[.int .i64 ck, .int .i64 cn, .slice a2 l2 p2, .slice (some ⟨b3, o3, none⟩) vK.length p3, .slice (some ⟨b4, o4, none⟩) vL.length p4] 30)).alloc (.cells #[.int .i64 0, .int .i64 0, .slice none 0 0, .slice none 0 0, .slice none 0 0] 30)).alloc (.cells #[.int .i64 5, .int .i64 0, .slice none 0 0, .slice none 0 0, .slice none 0 0] 30) = w1 at HW ⊢
  obtain ⟨hB1, hP1, hR1, hO1⟩ := HW
  have hz1 : w1.heap.size = w.heap.size + 1 + 1 + 1 := by rw [← hw1]; simp
  obtain ⟨p0, p1, p2', p3', p4', _⟩ := row5 hP1
  obtain ⟨q0, q1, q2, q3, q4, _⟩ := row5 hO1
  have HLi3 := hide' (hli3.on (hB1.block b3 (by omega)))
  have HP1 := hide' hP1
  have HR1 := hide' hR1
  have HO1 := hide' hO1
  have HB1 := hide' hB1
  have HTs := hide' hTs
  have HVs := hide' hVs
  have HLi4 := hide' hli4
  have hoT := fun u (h : u ∈ us.take k) => hoc3 u (List.mem_of_mem_take h)
  have hoD := fun u (h : u ∈ us.drop (k + 1)) => hoc3 u (List.mem_of_mem_drop h)
  clear hw1 hP1 hR1 hO1 hB1 hli3 hli4 HA hTs hVs
  go_cut [7] from 8 to 20 (fun s7 wx => KDone w1 (w.heap.size + 1 + 1) (k + (vK.length - (k + 1))) (us.take k ++ us.drop (k + 1)) wx)
  case first =>
    go_region_law (first
      | (refine step_append_part (by rfl) (.tmp 8) (.tmp 12) 23 (by rfl) w1.heap.size 22 iT (.slice none 0 0) 1 24 Try.underlying23 hiT hy0 hy1 hy2 rfl (by decide) (.slice none 0 0) 0 [] (by rfl) (World.ownsRow_nil _ _ _ _) ⟨b3, o3, none⟩ k p3 (us.take k) (by rfl) (by simp; omega) (by exact (HLi3.out.on rfl).take k) hoT (by unfold maxLen; omega) (by omega) (by first | exact Nat.le_refl _ | simp) ?_; intro v2 w2 hv2 hg2; rw [Nat.zero_add, List.nil_append] at hv2; obtain ⟨vp, vc, rfl⟩ := row_shape hv2; have hb2 := hide' (below_app hg2); obtain ⟨s0, s1, s2, s3, s4, _⟩ := row5 (row_on HP1.out hb2.out); obtain ⟨t0, t1, t2, t3, t4, _⟩ := row5 (row_on HO1.out hb2.out); replace hv2 := hide' hv2; clear hg2)
      | (refine step_append_part (by rfl) (.tmp 13) (.tmp 18) 23 (by rfl) w1.heap.size 22 iT (.slice none 0 0) 1 24 Try.underlying23 hiT hy0 hy1 hy2 rfl (by decide) (.slice vp k vc) k (us.take k) (by rfl) (by exact hv2.out) A3 (vK.length - (k + 1)) (p3 - (k + 1)) (us.drop (k + 1)) (by rfl) (by simp; omega) (by exact hA3.out _ (HLi3.out.on (hb2.out.block b3 (by omega)))) hoD (by unfold maxLen; omega) (by omega) (by have := hb2.out.size; omega) ?_; intro v3 w3 hv3 hg3; obtain ⟨yp, yc, rfl⟩ := row_shape hv3; have hb3' := hide' (below_app2 hb2.out hv2.out hg3); obtain ⟨m0, m1, m2, m3, m4, mf⟩ := row5 (row_on HO1.out hb3'.out); have mf3 := mf 3; replace hv3 := hide' hv3; clear hg3 mf))
    all_goals (go_wp2_with fail; go_meet; have hd := set_done (j := 3) hb3'.out HO1.out hv3.out; exact ⟨_, _, ⟨hd.1, hd.2.1⟩, hd.2.2⟩)
  case rest =>
  obtain ⟨wk, hwk⟩ : ∃ wk, wk = wc := ⟨_, rfl⟩
  subst hwk
  obtain ⟨a5, c5, ⟨hOc, hgc⟩, hvK⟩ := hcut
  have hzc := hgc.size
  have HPc := hide' ((hgc.block w.heap.size (by omega) (by simp; omega)).trans HP1.out)
  have HRc := hide' ((hgc.block (w.heap.size + 1) (by omega) (by simp)).trans HR1.out)
  have HLc := hide' (HLi4.out.on ((hgc.block b4 (by omega) (by simp; omega)).trans (HB1.out.block b4 (by omega))))
  obtain ⟨_, _, _, _, p4c, _⟩ := row5 HPc.out
  obtain ⟨_, _, _, _, q4c, _⟩ := row5 hOc
  have HOc := hide' hOc
  have Hgc := hide' hgc
  have HvK := hide' hvK
  have hfl := flat_len fs
  generalize hL4 : (fs.map enc5).flatten = L4 at *
  have hoT4 := fun u (h : u ∈ L4.take (k * 5)) => hoc4 u (List.mem_of_mem_take h)
  have hoD4 := fun u (h : u ∈ L4.drop ((k + 1) * 5)) => hoc4 u (List.mem_of_mem_drop h)
  clear hOc hgc hvK p0 p1 p2' p3' p4' q0 q1 q2 q3 q4
  go_wp2_with fail
  go_cut [21] from 22 to 34 (fun s21 wx => LDone wk (w.heap.size + 1 + 1) (k + (vL.length - (k + 1))) (.slice a5 (k + (vK.length - (k + 1))) c5) (L4.take (k * 5) ++ L4.drop ((k + 1) * 5)) wx)
  case first =>
    go_region_law (first
      | (refine step_append_part (by rfl) (.tmp 22) (.tmp 26) 28 (by rfl) wk.heap.size 30 iV _ 5 88 Try.underlying28 hiV hz0 hz1' hz2 rfl (by decide) (.slice none 0 0) 0 [] (by rfl) (World.ownsRow_nil _ _ _ _) ⟨b4, o4, none⟩ k p4 (L4.take (k * 5)) (by rfl) (by simp; omega) (by exact (HLc.out.on rfl).take (k * 5)) hoT4 (by unfold maxLen; omega) (by omega) (by first | exact Nat.le_refl _ | simp) ?_; intro v2 w2 hv2 hg2; rw [Nat.zero_add, List.nil_append] at hv2; obtain ⟨vp, vc, rfl⟩ := row_shape hv2; have hb2 := hide' (below_app hg2); obtain ⟨s0, s1, s2, s3, s4, _⟩ := row5 (row_on HPc.out hb2.out); obtain ⟨t0, t1, t2, t3, t4, _⟩ := row5 (row_on HOc.out hb2.out); replace hv2 := hide' hv2; clear hg2)
      | (refine step_append_part (by rfl) (.tmp 27) (.tmp 32) 28 (by rfl) wk.heap.size 30 iV _ 5 88 Try.underlying28 hiV hz0 hz1' hz2 rfl (by decide) (.slice vp k vc) k (L4.take (k * 5)) (by rfl) (by exact hv2.out) A4 (vL.length - (k + 1)) (p4 - (k + 1)) (L4.drop ((k + 1) * 5)) (by rfl) (by simp; omega) (by exact hA4.out _ (HLc.out.on (hb2.out.block b4 (by omega)))) hoD4 (by unfold maxLen; omega) (by omega) (by have := hb2.out.size; omega) ?_; intro v3 w3 hv3 hg3; obtain ⟨yp, yc, rfl⟩ := row_shape hv3; have hb3' := hide' (below_app2 hb2.out hv2.out hg3); obtain ⟨m0, m1, m2, m3, m4, mf⟩ := row5 (row_on HOc.out hb3'.out); have mf4 := mf 4; replace hv3 := hide' hv3; clear hg3 mf))
    all_goals (go_wp2_with fail; go_meet; have hd := set_done (j := 4) hb3'.out HOc.out hv3.out; exact ⟨_, _, ⟨hd.1, hd.2.1⟩, hd.2.2⟩)
  case rest =>
  obtain ⟨a6, c6, ⟨hOd, hgd⟩, hvL⟩ := hcut
  have hzd := hgd.size
  have hRd := (hgd.block (w.heap.size + 1) (by omega) (by simp)).trans HRc.out
  obtain ⟨x0, x1, x2, x3, x4, _⟩ := row5 hOd
  obtain ⟨r0, r1, r2, r3, r4, rf⟩ := row5 hRd
  have f0 := rf 0
  have f1 := rf 1
  have f2 := rf 2
  have f3 := rf 3
  have f4 := rf 4
  rw [← hL4] at hvL
  have HRd := hide' hRd
  have Hgd := hide' hgd
  have HvL := hide' hvL
  generalize hn3 : k + (vK.length - (k + 1)) = n3 at *
  generalize hn4 : k + (vL.length - (k + 1)) = n4 at *
  clear rf hRd hgd hOd hvL
  go_wp2_with fail
  have hrow := set5_heap (j := 0) (.int .i64 5) (.int .i64 0) (.slice none 0 0) (.slice a5 n3 c5) (.slice a6 n4 c6) HRd.out
  have hfin := row5 hrow
  simp only [set5, Nat.zero_add] at hfin
  obtain ⟨y0, y1, y2, y3, y4, _⟩ := hfin
  refine bodyPost_ret (v := .agg #[.int .i64 5, .int .i64 0, .slice none 0 0, .slice a5 n3 c5, .slice a6 n4 c6]) (by simp [results, Try.results37, go_sem, y0, y1, y2, y3, y4]) rfl ?_
  have hB5 := set5_grown wc (w.heap.size + 1) 0 (.int .i64 5) (.int .i64 0) (.slice none 0 0) (.slice a5 n3 c5) (.slice a6 n4 c6)
  have hbc : Below w.heap.size w wk := HB1.out.grown Hgc.out (by omega) (by intro j hj; simp at hj; omega)
  have hbd : Below w.heap.size w wc := hbc.grown Hgd.out (by omega) (by intro j hj; simp at hj; omega)
  have hbf := hbd.grown hB5 (by omega) (by intro j hj; simp at hj; omega)
  have hnK : n3 = vK.length - 1 := by omega
  have hnL : n4 = vL.length - 1 := by omega
  exact ⟨_, _, _, _, _, rfl, (VSeg_succ _ _ _ _ _).2 ⟨rfl, rfl, tseg_nil _, kfin (row_kept (row_kept HvK.out Hgd.out (by omega)) hB5 (by omega)) hnK hus hkK HTs.out hN hbf, lfin (row_kept HvL.out hB5 (by omega)) hnL hfs hkL HVs.out hN hbf⟩, hbf⟩
end Go.Proofs.Ytbeekbkambkgoaa
/-
  FnExactValDrop answers true, whatever value and key it is handed: the too large, the map with the key, the map without it, and what is no map.
-/
namespace Go.Proofs.Ytbeekbkambkgoaa
open Go.RowKit Go.Shelf
set_option linter.unusedVariables false
set_option linter.unusedSimpArgs false

set_option maxHeartbeats 3200000 in
set_option maxRecDepth 100000 in
theorem drop_long (c0 c1 c2 c3 c4 : Value) (ka : Option Addr) (kn kc : Nat) (w : World) (hf : ∃ (ck cn : Int) (a2 : Option Addr) (l2 p2 : Nat) (a3 : Option Addr) (l3 p3 : Nat) (a4 : Option Addr) (l4 p4 : Nat), c0 = .int .i64 ck ∧ c1 = .int .i64 cn ∧ c2 = .slice a2 l2 p2 ∧ c3 = .slice a3 l3 p3 ∧ c4 = .slice a4 l4 p4) (hkl : (1048576 : Int) < (kn : Int)) :
    Calls Try.prog 4 #[.agg #[c0, c1, c2, c3, c4], .slice ka kn kc] w fun e w' => e = .returned (.bool true) ∧ Below w.heap.size w w' := by
  have b0 : ∀ o : Obj, Below w.heap.size w (w.alloc o) := fun o => (Below.refl _ _).alloc (Nat.le_refl _) o
  have Hb := hide' b0
  obtain ⟨ck, cn, a2, l2, p2, a3, l3, p3, a4, l4, p4, rfl, rfl, rfl, rfl, rfl⟩ := hf
  clear b0
  go_enter Try.func4, Try.ntmps4
  go_wp2
  go_ret
  exact ⟨rfl, Hb.out _⟩

set_option maxHeartbeats 3200000 in
set_option maxRecDepth 100000 in
theorem drop_big (d : Nat) (v : Vl (d + 1)) (ka : Option Addr) (kn kc : Nat) (c0 c1 c2 c3 c4 : Value) (w : World) (hv : VSeg (fun b => b < w.heap.size) w (d + 1) (c0, c1, c2, c3, c4) v) (hkl : ¬ (1048576 : Int) < (kn : Int)) (hz : (1048576 : Int) < szV (d + 1) v) :
    Calls Try.prog 4 #[.agg #[c0, c1, c2, c3, c4], .slice ka kn kc] w fun e w' => e = .returned (.bool true) ∧ Below w.heap.size w w' := by
  have b0 : ∀ o : Obj, Below w.heap.size w (w.alloc o) := fun o => (Below.refl _ _).alloc (Nat.le_refl _) o
  have HS : Hid (∀ wx, Below w.heap.size w wx → Calls Try.prog 6 #[.agg #[c0, c1, c2, c3, c4], .int .i64 1048576] wx fun e w' => e = .returned (.int .i64 (less 1048576 (szV (d + 1) v))) ∧ Below wx.heap.size wx w') := fun wx hb =>
    szValue_any (d + 1) w.heap.size (c0, c1, c2, c3, c4) v 1048576 wx (VSeg.agree (agree_below hb) (d + 1) hv) hb.size (by omega) (by omega)
  have Hb := hide' b0
  obtain ⟨ck, cn, a2, l2, p2, a3, l3, p3, a4, l4, p4, rfl, rfl, rfl, rfl, rfl⟩ := VSeg.form (d + 1) hv
  have hl : less 1048576 (szV (d + 1) v) = -1 := less_no _ _ hz
  rw [hl] at HS
  clear hl b0 hv hz
  go_enter Try.func4, Try.ntmps4
  go_wp2_with fail
  refine (HS.out _ (Hb.out _)).mono ?_
  rintro e w1 ⟨rfl, b1⟩
  have B1 := Below.on (Hb.out _) b1
  clear b1
  go_wp2
  go_ret
  exact ⟨rfl, B1⟩

theorem dropA_sz (d : Nat) (v : Vl (d + 1)) (key : List Int) : szV (d + 1) (dropA d v key) ≤ szV (d + 1) v := by
  by_cases h1 : okB (d + 1) v = true ∧ v.1 = 5
  · by_cases h2 : 0 ≤ findK v.2.2.2.1 key
    · rw [show dropA d v key = dropV d v (findK v.2.2.2.1 key).toNat from (if_pos h1).trans (if_pos h2)]
      exact drop_sz d v _
    · rw [show dropA d v key = v from (if_pos h1).trans (if_neg h2)]
      exact Nat.le_refl _
  · rw [(dropA_no h1).1, sz_vNil]
    exact Nat.zero_le _

theorem walk_FnExactValDrop (d : Nat) (c0 c1 c2 c3 c4 : Value) (v : Vl d) (key : List Int) (ka : Option Addr) (kc : Nat) (w : World) (hv : VSeg (fun b => b < w.heap.size) w d (c0, c1, c2, c3, c4) v) (hS : Seg w ka key) :
    Calls Try.prog 4 #[.agg #[c0, c1, c2, c3, c4], .slice ka key.length kc] w fun e w' => e = .returned (.bool true) ∧ Below w.heap.size w w' := by
  cases d with
  | zero => exact hv.elim
  | succ d =>
    by_cases hk : (1048576 : Int) < (key.length : Int)
    · exact drop_long c0 c1 c2 c3 c4 ka key.length kc w (VSeg.form (d + 1) hv) hk
    by_cases hz : (1048576 : Int) < szV (d + 1) v
    · exact drop_big d v ka key.length kc c0 c1 c2 c3 c4 w hv hk hz
    have hk' : key.length ≤ 1048576 := by omega
    have hz' : szV (d + 1) v ≤ 1048576 := by omega
    refine walk_drop d d v (dropA d v key) (dropF d v key) key ka kc c0 c1 c2 c3 c4 w hv hS hk' (Nat.le_trans (dropA_sz d v key) hz') hz' (hide' ?_) (hide' ?_)
    · intro u0 u1 u2 u3 u4 B wx wy xa xc hO hb hs
      obtain ⟨ck, cn, a2, l2, p2, a3, l3, p3, a4, l4, p4, rfl, rfl, rfl, rfl, rfl⟩ := VOwn.form (d + 1) hO
      exact spec_ValDrop_of d wx.heap.size ck cn a2 l2 p2 a3 l3 p3 a4 l4 p4 v xa xc key wy (hO.below hb) hb.size hs hs.lt hz' l2drop_any
    · intro u0 u1 u2 u3 u4 B wx wy xa xc hO hb hs
      exact impl_ValDrop_any d wx.heap.size u0 u1 u2 u3 u4 v xa xc key wy (hO.below hb) hb.size hs hs.lt (by unfold maxLen; omega)
end Go.Proofs.Ytbeekbkambkgoaa
