/-
  Texts that a law leans on, one behind the other; no statement is proved here.
-/
import Derived.Test.YtenfnbnhdmkhkaaPk42
import Derived.Test.YtenfnbnhdmkhkaaPk8
import Derived.Deep.CutRange
/-
  The law FnSets over whatever values are drawn.
-/
namespace Go.Proofs.Ytenfnbnhdmkhkaa
open Go.RowKit
set_option linter.unusedVariables false
set_option linter.unusedSimpArgs false

set_option maxHeartbeats 6400000 in
set_option maxRecDepth 100000 in
theorem walk_FnSets (a : Option Addr) (cap : Nat) (xs : List Int) (w : World) (ha : Seg w a xs) (hl : xs.length ≤ maxLen) :
    Calls Try.prog 4 #[.slice a xs.length cap] w fun e w' => e = .returned (.bool true) ∧ Below w.heap.size w w' := by
  have HD := hide' (DrawValSet_any a cap xs w ha hl)
  clear ha hl
  generalize xs.length = n at *
  go_enter Try.func4, Try.ntmps4
  go_wp2_with fail
  refine HD.out.mono ?_
  rintro e w1 ⟨ak, an, a2, a2n, a2c, a3, a3n, a3c, a4, a4n, a4c, ka, kn, kc, xk, xn, x2, x2n, x2c, x3, x3n, x3c, x4, x4n, x4c, rfl, hA1, hK1, hX1, hb1⟩
  have hbW : Below w1.heap.size w1 ((w1.alloc (.cells #[.int .i64 ak, .int .i64 an, .slice a2 a2n a2c, .slice a3 a3n a3c, .slice a4 a4n a4c] 26)).alloc (.cells #[.int .i64 xk, .int .i64 xn, .slice x2 x2n x2c, .slice x3 x3n x3c, .slice x4 x4n x4c] 26)) := ((Below.refl _ w1).alloc (Nat.le_refl _) _).alloc (by simp) _
  have h3 : (((w1.alloc (.cells #[.int .i64 ak, .int .i64 an, .slice a2 a2n a2c, .slice a3 a3n a3c, .slice a4 a4n a4c] 26)).alloc (.cells #[.int .i64 xk, .int .i64 xn, .slice x2 x2n x2c, .slice x3 x3n x3c, .slice x4 x4n x4c] 26))).heap[w1.heap.size]? = some (.cells #[.int .i64 ak, .int .i64 an, .slice a2 a2n a2c, .slice a3 a3n a3c, .slice a4 a4n a4c] 26 (0, 0)) := (Below.heap_alloc _ _ _ (by simp)).trans (heap_alloc_new w1 _)
  have h4 : (((w1.alloc (.cells #[.int .i64 ak, .int .i64 an, .slice a2 a2n a2c, .slice a3 a3n a3c, .slice a4 a4n a4c] 26)).alloc (.cells #[.int .i64 xk, .int .i64 xn, .slice x2 x2n x2c, .slice x3 x3n x3c, .slice x4 x4n x4c] 26))).heap[w1.heap.size + 1]? = some (.cells #[.int .i64 xk, .int .i64 xn, .slice x2 x2n x2c, .slice x3 x3n x3c, .slice x4 x4n x4c] 26 (0, 0)) := by
    have := heap_alloc_new (w1.alloc (.cells #[.int .i64 ak, .int .i64 an, .slice a2 a2n a2c, .slice a3 a3n a3c, .slice a4 a4n a4c] 26)) (.cells #[.int .i64 xk, .int .i64 xn, .slice x2 x2n x2c, .slice x3 x3n x3c, .slice x4 x4n x4c] 26)
    simpa using this
  obtain ⟨D, va, vx, ra, rx⟩ := rd_step (hA1.on hbW) (hX1.on hbW)
  obtain ⟨key, ⟨ka', kc', he, hS, _, _, _, hSb⟩, hkl⟩ := hK1.on hbW
  simp only [Value.slice.injEq] at he
  obtain ⟨rfl, rfl, rfl⟩ := he
  have sA := Std.of (c := (.int .i64 ak, .int .i64 an, .slice a2 a2n a2c, .slice a3 a3n a3c, .slice a4 a4n a4c)) h3 ra
  have sX := Std.of (c := (.int .i64 xk, .int .i64 xn, .slice x2 x2n x2c, .slice x3 x3n x3c, .slice x4 x4n x4c)) h4 rx
  have Hb1 := hide' (Below.on2 hb1 hbW hb1.size)
  have HsA := hide' sA
  have HsX := hide' sX
  have HS1 := hide' hS
  have HSb1 := hide' hSb
  have Hkl : Hid (key.length ≤ 100000) := hide' hkl
  have HM := hide' (sA.set sX (kc := kc) hS hSb (by omega))
  obtain ⟨o0, o1, o2, o3, o4, _⟩ := row5 h3
  obtain ⟨s0, s1, s2, s3, s4, _⟩ := row5 h4
  generalize hW1 : ((w1.alloc (.cells #[.int .i64 ak, .int .i64 an, .slice a2 a2n a2c, .slice a3 a3n a3c, .slice a4 a4n a4c] 26)).alloc (.cells #[.int .i64 xk, .int .i64 xn, .slice x2 x2n x2c, .slice x3 x3n x3c, .slice x4 x4n x4c] 26)) = W1 at HsA HsX HM Hb1 HS1 HSb1
  have HW1 := hide' hW1
  clear hA1 hK1 hX1 hb1 hbW h3 h4 sA sX HD ra rx hW1 hS hSb hkl
  generalize hkn : key.length = kn at *
  have Hkn := hide' hkn
  clear hkn
  go_wp2_with fail
  obtain rfl := HW1.out
  clear HW1
  refine (HM.out _ (Below.refl _ _)).mono ?_
  rintro e w2 ⟨hb2, _, yk, yn, y2, y2n, y2c, y3, y3n, y3c, y4, y4n, y4c, rfl, hY2⟩
  have hbm : Below w2.heap.size w2 (w2.alloc (.cells #[.int .i64 yk, .int .i64 yn, .slice y2 y2n y2c, .slice y3 y3n y3c, .slice y4 y4n y4c] 26)) := (Below.refl _ _).alloc (Nat.le_refl _) _
  have h5 := heap_alloc_new w2 (.cells #[.int .i64 yk, .int .i64 yn, .slice y2 y2n y2c, .slice y3 y3n y3c, .slice y4 y4n y4c] 26)
  have hb3 := Below.on2 hb2 hbm hb2.size
  have HsY := hide' (Std.of (c := (.int .i64 yk, .int .i64 yn, .slice y2 y2n y2c, .slice y3 y3n y3c, .slice y4 y4n y4c)) h5 (VSeg.mono (fun b hb => Nat.lt_of_lt_of_le hb hbm.size) _ (VSeg.agree (agree_below hbm) _ (VSeg.mono (fun b hb => hb.2) _ hY2))))
  have HsA2 := hide' (HsA.out.on hb3)
  have HsX2 := hide' (HsX.out.on hb3)
  have HS2 := hide' (HS1.out.below hb3 HSb1.out)
  have HSb2 : Hid (∀ x, ka = some x → key ≠ [] → x.block < (w2.alloc (.cells #[.int .i64 yk, .int .i64 yn, .slice y2 y2n y2c, .slice y3 y3n y3c, .slice y4 y4n y4c] 26)).heap.size) := hide' (fun x hx hne => Nat.lt_of_lt_of_le (HSb1.out x hx hne) hb3.size)
  have Hb2 := hide' (Below.on2 Hb1.out hb3 Hb1.out.size)
  obtain ⟨o0, o1, o2, o3, o4, _⟩ := row5 (HsA2.out.row _ (Below.refl _ _))
  simp only at o0 o1 o2 o3 o4
  obtain ⟨t0, t1, t2, t3, t4, _⟩ := row5 h5
  have HL4 : Hid (y4n = (setA D va key vx).2.2.2.2.length) := hide' (by
    obtain ⟨_, _, _, _, ad, cp, he, _⟩ := (VSeg_succ _ _ _ _ _).1 hY2
    simp at he
    exact he.2.1)
  have HN : Hid (setF D va key vx = false → (setA D va key vx).2.2.2.2 = [] ∨ (setA D va key vx = va ∧ sameV (D + 1) va va = true)) := hide' set_no
  have HG : Hid (setF D va key vx = true → Putd D va key vx (setA D va key vx)) := hide' (fun h => putd_of h HS2.out.1)
  clear hY2 hb2 hb3 hbm h5 HM HsA HsX Hb1 HS1 HSb1
  generalize setF D va key vx = bo at *
  generalize setA D va key vx = vy at *
  have HK1 := hide' (known_one (w2.alloc (.cells #[.int .i64 yk, .int .i64 yn, .slice y2 y2n y2c, .slice y3 y3n y3c, .slice y4 y4n y4c] 26)))
  generalize hW3 : w2.alloc (.cells #[.int .i64 yk, .int .i64 yn, .slice y2 y2n y2c, .slice y3 y3n y3c, .slice y4 y4n y4c] 26) = W3 at HsA2 HsX2 HsY HS2 HSb2 Hb2 HK1
  have HW3 := hide' hW3
  clear hW3
  cases bo
  · by_cases hy4 : y4n = 0
    · subst hy4
      go_wp2_with fail
      obtain rfl := HW3.out
      refine (num_any 1 _).mono ?_
      rintro e w8 ⟨rfl, hb8⟩
      have HB8 := hide' (hb8)
      clear hb8
      go_wp2_with fail
      refine (HK1.out w8 HB8.out).mono ?_
      rintro e w9 ⟨rfl, hb9⟩
      have HB9 := hide' (Hb2.out.trans (hb9.mono Hb2.out.size))
      clear hb9
      go_wp2_with fail
      go_ret
      exact ⟨rfl, HB9.out⟩
    · have hs := HN.out (by simp)
      obtain ⟨rfl, hsm⟩ : vy = va ∧ sameV (D + 1) va va = true := by
        rcases hs with h | h
        · have := HL4.out; rw [h] at this; simp at this; exact absurd this hy4
        · exact h
      have HSm := hide' (same_segs HsY.out.seg HsA2.out.seg)
      rw [hsm] at HSm
      clear hs hsm
      have hy4' : ¬ (y4n : Int) = 0 := by omega
      go_wp2_with fail
      obtain rfl := HW3.out
      refine (HSm.out _ (Below.refl _ _)).mono ?_
      rintro e w7 ⟨rfl, hb7⟩
      have HB7 := hide' hb7
      clear hb7
      go_wp2_with fail
      refine (num_any 1 w7).mono ?_
      rintro e w8 ⟨rfl, hb8⟩
      have HB8 := hide' (Below.on2 HB7.out hb8 HB7.out.size)
      clear hb8
      go_wp2_with fail
      refine (HK1.out w8 HB8.out).mono ?_
      rintro e w9 ⟨rfl, hb9⟩
      have HB9 := hide' (Hb2.out.trans (hb9.mono Hb2.out.size))
      clear hb9
      go_wp2_with fail
      go_ret
      exact ⟨rfl, HB9.out⟩
  · obtain ⟨vz, h1, h2, h3, h4, h5, h6, h7⟩ := putd_at (HG.out (by simp))
    have HP := hide' (HG.out (by simp))
    have HKl : Hid (key.length ≤ maxLen) := hide' (by unfold maxLen; have := Hkl.out; have := Hkn.out; omega)
    have HGy := hide' (HsY.out.gt_on (kc := kc) HS2.out HSb2.out HKl.out)
    rw [h1, Hkn.out] at HGy
    have H2 := hide' h2
    have H34 := hide' (And.intro h3 h4)
    have H5 := hide' h5
    have H6 := hide' h6
    have H7 := hide' h7
    clear h1 h2 h3 h4 h5 h6 h7 HN HG HL4 HK1
    go_wp2_with fail
    obtain rfl := HW3.out
    clear HW3
    refine (HGy.out _ (Below.refl _ _) _ (Below.refl _ _)).mono ?_
    rintro e w4 ⟨hb4, _, gk, gn, g2, g2n, g2c, g3, g3n, g3c, g4, g4n, g4c, rfl, hF4⟩
    obtain ⟨sG, hb5⟩ := Std.box hb4 (VSeg.mono (fun b hb => hb.2) _ (hF4 _ rfl))
    have HsG := hide' sG
    have HsA5 := hide' (HsA2.out.on hb5)
    have HsX5 := hide' (HsX2.out.on hb5)
    have HsY5 := hide' (HsY.out.on hb5)
    have HS5 := hide' (HS2.out.below hb5 HSb2.out)
    have HSb5 : Hid (∀ x, ka = some x → key ≠ [] → x.block < (w4.alloc (bx (.int .i64 gk, .int .i64 gn, .slice g2 g2n g2c, .slice g3 g3n g3c, .slice g4 g4n g4c))).heap.size) := hide' (fun x hx hne => Nat.lt_of_lt_of_le (HSb2.out x hx hne) hb5.size)
    have Hb5 := hide' (Below.on2 Hb2.out hb5 Hb2.out.size)
    have HDr := hide' (HsY5.out.drop (kc := kc) HS5.out HSb5.out HKl.out)
    rw [H34.out.1, H34.out.2, Hkn.out] at HDr
    obtain ⟨t0, t1, t2, t3, t4, _⟩ := row5 (HsY5.out.row _ (Below.refl _ _))
    simp only at t0 t1 t2 t3 t4
    try simp only [bx] at t0 t1 t2 t3 t4
    clear hb4 hF4 sG hb5 HGy HsA2 HsX2 HsY HS2 HSb2 Hb2 H34
    generalize hW5 : w4.alloc (.cells #[.int .i64 gk, .int .i64 gn, .slice g2 g2n g2c, .slice g3 g3n g3c, .slice g4 g4n g4c] 26) = W5 at HsG HsA5 HsX5 HsY5 HS5 HSb5 Hb5 HDr
    have HW5 := hide' hW5
    clear hW5
    go_wp2_with fail
    obtain rfl := HW5.out
    clear HW5
    refine (HDr.out _ (Below.refl _ _)).mono ?_
    rintro e w6 ⟨hb6, _, dk, dn, d2, d2n, d2c, d3, d3n, d3c, d4, d4n, d4c, rfl, hF6⟩
    obtain ⟨sD, hb7⟩ := Std.box hb6 (VSeg.mono (fun b hb => hb.2) _ hF6)
    have HsD := hide' sD
    have HsG7 := hide' (HsG.out.on hb7)
    have HsA7 := hide' (HsA5.out.on hb7)
    have HsX7 := hide' (HsX5.out.on hb7)
    have HsY7 := hide' (HsY5.out.on hb7)
    have HS7 := hide' (HS5.out.below hb7 HSb5.out)
    have HSb7 : Hid (∀ x, ka = some x → key ≠ [] → x.block < (w6.alloc (bx (.int .i64 dk, .int .i64 dn, .slice d2 d2n d2c, .slice d3 d3n d3c, .slice d4 d4n d4c))).heap.size) := hide' (fun x hx hne => Nat.lt_of_lt_of_le (HSb5.out x hx hne) hb7.size)
    have Hb7 := hide' (Below.on2 Hb5.out hb7 Hb5.out.size)
    have HGd := hide' (HsD.out.gt_on (kc := kc) HS7.out HSb7.out HKl.out)
    rw [H6.out, Hkn.out] at HGd
    obtain ⟨t0, t1, t2, t3, t4, _⟩ := row5 (HsD.out.row _ (Below.refl _ _))
    simp only at t0 t1 t2 t3 t4
    try simp only [bx] at t0 t1 t2 t3 t4
    clear hb6 hF6 sD hb7 HDr HsG HsA5 HsX5 HsY5 HS5 HSb5 Hb5 H6
    generalize hW7 : w6.alloc (.cells #[.int .i64 dk, .int .i64 dn, .slice d2 d2n d2c, .slice d3 d3n d3c, .slice d4 d4n d4c] 26) = W7 at HsD HsG7 HsA7 HsX7 HsY7 HS7 HSb7 Hb7 HGd
    have HW7 := hide' hW7
    clear hW7
    go_wp2_with fail
    obtain rfl := HW7.out
    clear HW7
    refine (HGd.out _ (Below.refl _ _) _ (Below.refl _ _)).mono ?_
    rintro e w8 ⟨hb8, _, zk, zn, z2, z2n, z2c, z3, z3n, z3c, z4, z4n, z4c, rfl, _⟩
    have hb9 : Below (w6.alloc (bx (.int .i64 dk, .int .i64 dn, .slice d2 d2n d2c, .slice d3 d3n d3c, .slice d4 d4n d4c))).heap.size (w6.alloc (bx (.int .i64 dk, .int .i64 dn, .slice d2 d2n d2c, .slice d3 d3n d3c, .slice d4 d4n d4c))) (w8.alloc (.cells #[.int .i64 zk, .int .i64 zn, .slice z2 z2n z2c, .slice z3 z3n z3c, .slice z4 z4n z4c] 26)) := hb8.alloc hb8.size _
    have HsD9 := hide' (HsD.out.on hb9)
    have HsG9 := hide' (HsG7.out.on hb9)
    have HsA9 := hide' (HsA7.out.on hb9)
    have HsX9 := hide' (HsX7.out.on hb9)
    have HsY9 := hide' (HsY7.out.on hb9)
    have HS9 := hide' (HS7.out.below hb9 HSb7.out)
    have HSb9 : Hid (∀ x, ka = some x → key ≠ [] → x.block < (w8.alloc (.cells #[.int .i64 zk, .int .i64 zn, .slice z2 z2n z2c, .slice z3 z3n z3c, .slice z4 z4n z4c] 26)).heap.size) := hide' (fun x hx hne => Nat.lt_of_lt_of_le (HSb7.out x hx hne) hb9.size)
    have Hb9 := hide' (Below.on2 Hb7.out hb9 Hb7.out.size)
    have HSm := hide' (same_segs HsG9.out.seg HsX9.out.seg)
    rw [H2.out] at HSm
    have HOy := hide' HsY9.out.okI
    rw [HP.out.ok] at HOy
    have HOd := hide' HsD9.out.okI
    rw [H5.out] at HOd
    obtain ⟨t0, t1, t2, t3, t4, _⟩ := row5 (HsG9.out.row _ (Below.refl _ _))
    simp only at t0 t1 t2 t3 t4
    obtain ⟨s0, s1, s2, s3, s4, _⟩ := row5 (HsX9.out.row _ (Below.refl _ _))
    simp only at s0 s1 s2 s3 s4
    try simp only [bx] at t0 t1 t2 t3 t4 s0 s1 s2 s3 s4
    clear hb8 hb9 HGd HsD HsG7 HsA7 HsX7 HsY7 HS7 HSb7 Hb7 H2 H5
    generalize hW9 : w8.alloc (.cells #[.int .i64 zk, .int .i64 zn, .slice z2 z2n z2c, .slice z3 z3n z3c, .slice z4 z4n z4c] 26) = W9 at HsD9 HsG9 HsA9 HsX9 HsY9 HS9 HSb9 Hb9 HSm HOy HOd
    have HW9 := hide' hW9
    clear hW9
    go_wp2_with fail
    obtain rfl := HW9.out
    clear HW9
    refine (HSm.out _ (Below.refl _ _)).mono ?_
    rintro e w10 ⟨rfl, hb10⟩
    have HB10 := hide' hb10
    obtain ⟨t0, t1, t2, t3, t4, _⟩ := row5 (HsY9.out.row w10 hb10)
    simp only at t0 t1 t2 t3 t4
    clear hb10 HSm
    go_wp2_with fail
    refine (HOy.out w10 HB10.out).mono ?_
    rintro e w11 ⟨rfl, hb11⟩
    have HB11 := hide' hb11
    obtain ⟨s0, s1, s2, s3, s4, _⟩ := row5 (HsD9.out.row w11 hb11)
    simp only at s0 s1 s2 s3 s4
    clear hb11 HOy HB10 t0 t1 t2 t3 t4
    go_wp2_with fail
    refine (HOd.out w11 HB11.out).mono ?_
    rintro e w12 ⟨rfl, hb12⟩
    have Hb12 := hide' (Below.on2 Hb9.out hb12 Hb9.out.size)
    have HsD12 := hide' (HsD9.out.on hb12)
    have HsG12 := hide' (HsG9.out.on hb12)
    have HsA12 := hide' (HsA9.out.on hb12)
    have HsX12 := hide' (HsX9.out.on hb12)
    have HsY12 := hide' (HsY9.out.on hb12)
    have HS12 := hide' (HS9.out.below hb12 HSb9.out)
    have HSb12 : Hid (∀ x, ka = some x → key ≠ [] → x.block < w12.heap.size) := hide' (fun x hx hne => Nat.lt_of_lt_of_le (HSb9.out x hx hne) hb12.size)
    clear hb12 HOd HB11 HsD9 HsG9 HsA9 HsX9 HsY9 HS9 HSb9 Hb9 s0 s1 s2 s3 s4
    obtain ⟨_, _, _, hKA, hLA⟩ := (VSeg_succ _ _ _ _ _).1 (HsA12.out.seg w12 (Below.refl _ _))
    have hNA : a3n = va.2.2.2.1.length := by
      obtain ⟨_, _, he, _⟩ := hKA
      simp at he
      exact he.2.1
    have hNI : (a3n : Int) ≤ 9223372036854775807 := by
      obtain ⟨_, c, he, h1, h2, _⟩ := hKA
      simp at he
      unfold maxLen at h2
      omega
    have HKA := hide' hKA
    have HLA := hide' hLA
    have HNA := hide' hNA
    clear hKA hLA hNA
    have HrA : Hid (∀ wx, Below w12.heap.size w12 wx → wx.heap[w1.heap.size]? = some (.cells #[.int .i64 ak, .int .i64 an, .slice a2 a2n a2c, .slice a3 a3n a3c, .slice a4 a4n a4c] 26 (0, 0))) := hide' HsA12.out.row
    have HrX : Hid (∀ wx, Below w12.heap.size w12 wx → wx.heap[w1.heap.size + 1]? = some (.cells #[.int .i64 xk, .int .i64 xn, .slice x2 x2n x2c, .slice x3 x3n x3c, .slice x4 x4n x4c] 26 (0, 0))) := hide' HsX12.out.row
    have HrY : Hid (∀ wx, Below w12.heap.size w12 wx → wx.heap[w2.heap.size]? = some (.cells #[.int .i64 yk, .int .i64 yn, .slice y2 y2n y2c, .slice y3 y3n y3c, .slice y4 y4n y4c] 26 (0, 0))) := hide' HsY12.out.row
    have HrD : Hid (∀ wx, Below w12.heap.size w12 wx → wx.heap[w6.heap.size]? = some (.cells #[.int .i64 dk, .int .i64 dn, .slice d2 d2n d2c, .slice d3 d3n d3c, .slice d4 d4n d4c] 26 (0, 0))) := hide' HsD12.out.row
    obtain ⟨o0, o1, o2, o3, o4, _⟩ := row5 (HrA.out w12 (Below.refl _ _))
    go_wp2_with fail
    clear o0 o1 o2 o3 o4
    go_loopw [14] (fun i wr => ∃ j : Nat, j ≤ a3n ∧ i = .int .i64 j ∧ Hid (Below w12.heap.size w12 wr)) (fun i _ => a3n - (intOf i).toNat)
    case atStart => exact ⟨0, Nat.zero_le _, rfl, hide' (Below.refl _ _)⟩
    case round =>
      obtain ⟨j, hj, rfl, hB⟩ := hrel
      obtain ⟨o0, o1, o2, o3, o4, _⟩ := row5 (HrA.out wr hB.out)
      by_cases hlt : j < a3n
      · have hlt' : (j : Int) < (a3n : Int) := by omega
        have hj0 : (0 : Int) ≤ (j : Int) := by omega
        obtain ⟨kb, ko, rfl, hat⟩ := keys_at HKA.out (j := j) (by have := HNA.out; omega)
        obtain ⟨lb, lo, rfl, hpt⟩ := parts_at HLA.out (j := j) (by have := HP.out.invV.1; have := HNA.out; omega)
        obtain ⟨c2, e2, hkc, hSj, hbj, hlj, _⟩ := hat j (by have := HNA.out; omega)
        obtain ⟨fk, fn, f2, f2n, f2c, f3, f3n, f3c, f4, f4n, f4c, hf5, hfv⟩ := hpt j (by have := HP.out.invV.1; have := HNA.out; omega)
        obtain ⟨z, hz1, hz2⟩ := putd_get HP.out (i := j) (by have := HP.out.invV.1; have := HNA.out; omega)
        have hl4 : (j : Int) < (a4n : Int) := by
          obtain ⟨_, _, he, _⟩ := HLA.out
          simp at he
          have := HP.out.invV.1; have := HNA.out; omega
        have HGm := hide' (HsY12.out.gt_on (kc := e2) hSj hbj hlj)
        rw [hz1] at HGm
        have HSB := hide' (fun wx (h : Below w12.heap.size w12 wx) => sameBy_any _ _ e2 kc _ key wx (hSj.below h hbj) (HS12.out.below h HSb12.out))
        rw [Hkn.out] at HSB
        have Hkc := hide' hkc
        have Hf5 := hide' hf5
        have Hfv := hide' hfv
        have Hz2 := hide' hz2
        clear hkc hSj hbj hlj hat hpt hf5 hfv hz1 hz2
        generalize va.2.2.2.1.getD j [] = kj at *
        generalize va.2.2.2.2[j]'_ = lj at *
        go_wp2_with fail
        clear o0 o1 o2 o3 o4
        go_cut [15, 16] from 88 to 126 (fun p b wx => b = .bool true ∧ ∃ (g : Nat) (gk gn : Int) (s2 : Option Addr) (n2 r2 : Nat) (s3 : Option Addr) (n3 r3 : Nat) (s4 : Option Addr) (n4 r4 : Nat), p = .pointer (some ⟨g, 0, none⟩) ∧ Hid (Got D w12 (some z) g (.int .i64 gk, .int .i64 gn, .slice s2 n2 r2, .slice s3 n3 r3, .slice s4 n4 r4) wx))
        case first =>
          refine wp_region_held_drew (S := (fun wx => Below w12.heap.size w12 wx)) (by kernel_rfl) hB.out.drew (fun hHeld => ?_)
          replace hB : Hid (Below w12.heap.size w12 wr.drew) := hB.out.drew
          generalize wr.drew = V0 at *
          refine take_yes (i := 0) 96 (v := ?_) rfl rfl (by kernel_rfl) (by kernel_rfl) (by kernel_rfl) (fun _ _ _ h => h) (by kernel_rfl) hHeld ?_ ?_
          rotate_left
          focus (intro w hSw; obtain ⟨z0, z1, z2, z3, z4, -⟩ := row5 (HrY.out w hSw); (try dsimp only at hSw); go_simp; (try with_reducible rfl))
          (try simp only [Act.put, List.setIfInBounds_toArray, List.set_cons_zero, List.set_cons_succ])
          refine take_yes (i := 1) 97 (v := ?_) rfl rfl (by kernel_rfl) (by kernel_rfl) (by kernel_rfl) (fun _ _ _ h => h) (by kernel_rfl) hHeld ?_ ?_
          rotate_left
          focus (intro w hSw; (try dsimp only at hSw); go_simp; (try with_reducible rfl))
          (try simp only [Act.put, List.setIfInBounds_toArray, List.set_cons_zero, List.set_cons_succ])
          refine take_yes (i := 2) 98 (v := ?_) rfl rfl (by kernel_rfl) (by kernel_rfl) (by kernel_rfl) (fun _ _ _ h => h) (by kernel_rfl) hHeld ?_ ?_
          rotate_left
          focus (intro w hSw; obtain ⟨z0, z1, z2, z3, z4, -⟩ := row5 (HrA.out w hSw); (try dsimp only at hSw); go_simp; (try with_reducible rfl))
          (try simp only [Act.put, List.setIfInBounds_toArray, List.set_cons_zero, List.set_cons_succ])
          refine take_yes (i := 3) 99 (v := ?_) rfl rfl (by kernel_rfl) (by kernel_rfl) (by kernel_rfl) (fun _ _ _ h => h) (by kernel_rfl) hHeld ?_ ?_
          rotate_left
          focus (intro w hSw; (try dsimp only at hSw); go_simp; (try with_reducible rfl))
          (try simp only [Act.put, List.setIfInBounds_toArray, List.set_cons_zero, List.set_cons_succ])
          refine take_yes (i := 4) 100 (v := ?_) rfl rfl (by kernel_rfl) (by kernel_rfl) (by kernel_rfl) (fun _ _ _ h => h) (by kernel_rfl) hHeld ?_ ?_
          rotate_left
          focus (intro w hSw; (try dsimp only at hSw); go_simp; (try with_reducible rfl))
          (try simp only [Act.put, List.setIfInBounds_toArray, List.set_cons_zero, List.set_cons_succ])
          refine take_yes (i := 5) 101 (v := ?_) rfl rfl (by kernel_rfl) (by kernel_rfl) (by kernel_rfl) (fun _ _ _ h => h) (by kernel_rfl) hHeld ?_ ?_
          rotate_left
          focus (intro w hSw; have zk := Hkc.out w hSw; (try dsimp only at hSw); go_simp; (try with_reducible rfl))
          (try simp only [Act.put, List.setIfInBounds_toArray, List.set_cons_zero, List.set_cons_succ])
          refine wpAnyH_ready (rs := [6, 10]) (by kernel_rfl) (by simp) ?_
          refine AllReadyH.cons rfl (fun K hK => ?_) (AllReadyH.cons rfl (fun K hK => ?_) AllReadyH.nil)
          · go_simp
            go_at_call 15
            refine (HGm.out w12 (Below.refl _ _) V0 hB.out).mono ?_
            rintro e V2 ⟨hB2, hN, gk, gn, s2, n2, r2, s3, n3, r3, s4, n4, r4, rfl, hF⟩
            have hB2 := hide' hB2; have hN := hide' hN; have hF := hide' hF
            go_wp2_with fail
            refine hK.out _ _ hB2.out (fun hHeld => ?_)
            clear hK
            (try simp only [Act.put, List.setIfInBounds_toArray, List.set_cons_zero, List.set_cons_succ])
            refine take_yes (i := 7) 95 (v := ?_) rfl rfl (by kernel_rfl) (by kernel_rfl) (by kernel_rfl) (fun _ _ _ h => h) (by kernel_rfl) hHeld ?_ ?_
            rotate_left
            focus (intro w hSw; (try dsimp only at hSw); go_simp; (try with_reducible rfl))
            (try simp only [Act.put, List.setIfInBounds_toArray, List.set_cons_zero, List.set_cons_succ])
            refine take_yes (i := 8) 103 (v := ?_) rfl rfl (by kernel_rfl) (by kernel_rfl) (by kernel_rfl) (fun _ _ _ h => h) (by kernel_rfl) hHeld ?_ ?_
            rotate_left
            focus (intro w hSw; (try dsimp only at hSw); go_simp; (try with_reducible rfl))
            (try simp only [Act.put, List.setIfInBounds_toArray, List.set_cons_zero, List.set_cons_succ])
            refine take_yes (i := 9) 104 (v := ?_) rfl rfl (by kernel_rfl) (by kernel_rfl) (by kernel_rfl) (fun _ _ _ h => h) (by kernel_rfl) hHeld ?_ ?_
            rotate_left
            focus (intro w hSw; (try dsimp only at hSw); go_simp; (try with_reducible rfl))
            (try simp only [Act.put, List.setIfInBounds_toArray, List.set_cons_zero, List.set_cons_succ])
            refine wpAnyH_ready (rs := [10]) (by kernel_rfl) (by simp) ?_
            refine AllReadyH.cons rfl (fun K hK => ?_) AllReadyH.nil
            go_simp
            have hr := hide' (heap_alloc_new V2 (.cells #[.int .i64 0, .int .i64 0, .slice none 0 0, .slice none 0 0, .slice none 0 0] 26))
            have hg := hide' hB2.out.size
            have hF3 := hide' (gt_new (.cells #[.int .i64 0, .int .i64 0, .slice none 0 0, .slice none 0 0, .slice none 0 0] 26) hF.out)
            replace hB2 := hide' (hB2.out.alloc hB2.out.size (.cells #[.int .i64 0, .int .i64 0, .slice none 0 0, .slice none 0 0, .slice none 0 0] 26))
            refine hK.out _ _ hB2.out (fun hHeld => ?_)
            clear hK
            (try simp only [Act.put, List.setIfInBounds_toArray, List.set_cons_zero, List.set_cons_succ])
            clear hF hN
            generalize V2.alloc (.cells #[.int .i64 0, .int .i64 0, .slice none 0 0, .slice none 0 0, .slice none 0 0] 26) = V3 at *
            generalize V2.heap.size = g at *
            obtain ⟨q0, q1, q2, q3, q4, qf⟩ := row5 hr.out
            have f0 := qf 0; have f1 := qf 1; have f2 := qf 2; have f3 := qf 3; have f4 := qf 4; clear qf
            have hE := hide' (got_store hB2.out hg.out hr.out hF3.out)
            have hS3 : Hid (Below w12.heap.size w12 (set5 V3 g 0 (.int .i64 gk) (.int .i64 gn) (.slice s2 n2 r2) (.slice s3 n3 r3) (.slice s4 n4 r4))) := hide' hE.out.1
            refine wpAnyH_ready (rs := [11]) (by kernel_rfl) (by simp) ?_
            refine AllReadyH.cons rfl (fun K hK => ?_) AllReadyH.nil
            go_simp
            refine hK.out _ _ (by have h := hS3.out; simp only [set5, Nat.zero_add] at h; with_reducible exact h) (fun hHeld => ?_)
            clear hK
            (try simp only [Act.put, List.setIfInBounds_toArray, List.set_cons_zero, List.set_cons_succ])
            refine take_yes (i := 12) 16 (v := ?_) rfl rfl (by kernel_rfl) (by kernel_rfl) (by kernel_rfl) (fun _ _ _ h => h) (by kernel_rfl) hHeld ?_ ?_
            rotate_left
            focus (intro w hSw; (try dsimp only at hSw); go_simp; (try with_reducible rfl))
            (try simp only [Act.put, List.setIfInBounds_toArray, List.set_cons_zero, List.set_cons_succ])
            refine wpAnyH_done (by kernel_rfl) ?_ _
            clear hHeld
            go_wp2_with fail
            go_meet
            exact ⟨rfl, g, gk, gn, s2, n2, r2, s3, n3, r3, s4, n4, r4, rfl, by have h := hE.out; simp only [set5, Nat.zero_add] at h; exact hide' h⟩
          · go_simp
            have hr := hide' (heap_alloc_new V0 (.cells #[.int .i64 0, .int .i64 0, .slice none 0 0, .slice none 0 0, .slice none 0 0] 26))
            have hg := hide' hB.out.size
            replace hB := hide' (hB.out.alloc hB.out.size (.cells #[.int .i64 0, .int .i64 0, .slice none 0 0, .slice none 0 0, .slice none 0 0] 26))
            have hlt : Hid (V0.heap.size < (V0.alloc (.cells #[.int .i64 0, .int .i64 0, .slice none 0 0, .slice none 0 0, .slice none 0 0] 26)).heap.size) := hide' (by simp)
            refine hK.out _ _ hB.out (fun hHeld => ?_)
            clear hK
            (try simp only [Act.put, List.setIfInBounds_toArray, List.set_cons_zero, List.set_cons_succ])
            generalize V0.alloc (.cells #[.int .i64 0, .int .i64 0, .slice none 0 0, .slice none 0 0, .slice none 0 0] 26) = V1 at *
            generalize V0.heap.size = g at *
            refine wpAnyH_ready (rs := [6]) (by kernel_rfl) (by simp) ?_
            refine AllReadyH.cons rfl (fun K hK => ?_) AllReadyH.nil
            go_simp
            go_at_call 15
            refine (HGm.out w12 (Below.refl _ _) V1 hB.out).mono ?_
            rintro e V2 ⟨hB2, hN, gk, gn, s2, n2, r2, s3, n3, r3, s4, n4, r4, rfl, hF⟩
            have hB2 := hide' hB2; have hN := hide' hN; have hF := hide' hF
            go_wp2_with fail
            refine hK.out _ _ hB2.out (fun hHeld => ?_)
            clear hK
            (try simp only [Act.put, List.setIfInBounds_toArray, List.set_cons_zero, List.set_cons_succ])
            refine take_yes (i := 7) 95 (v := ?_) rfl rfl (by kernel_rfl) (by kernel_rfl) (by kernel_rfl) (fun _ _ _ h => h) (by kernel_rfl) hHeld ?_ ?_
            rotate_left
            focus (intro w hSw; (try dsimp only at hSw); go_simp; (try with_reducible rfl))
            (try simp only [Act.put, List.setIfInBounds_toArray, List.set_cons_zero, List.set_cons_succ])
            refine take_yes (i := 8) 103 (v := ?_) rfl rfl (by kernel_rfl) (by kernel_rfl) (by kernel_rfl) (fun _ _ _ h => h) (by kernel_rfl) hHeld ?_ ?_
            rotate_left
            focus (intro w hSw; (try dsimp only at hSw); go_simp; (try with_reducible rfl))
            (try simp only [Act.put, List.setIfInBounds_toArray, List.set_cons_zero, List.set_cons_succ])
            refine take_yes (i := 9) 104 (v := ?_) rfl rfl (by kernel_rfl) (by kernel_rfl) (by kernel_rfl) (fun _ _ _ h => h) (by kernel_rfl) hHeld ?_ ?_
            rotate_left
            focus (intro w hSw; (try dsimp only at hSw); go_simp; (try with_reducible rfl))
            (try simp only [Act.put, List.setIfInBounds_toArray, List.set_cons_zero, List.set_cons_succ])
            have hF3 := hide' (gt_old hF.out hlt.out)
            replace hr := hide' ((hN.out.block _ hlt.out).trans hr.out)
            clear hF hN hlt
            obtain ⟨V3, hV3⟩ : ∃ V3, V3 = V2 := ⟨_, rfl⟩; subst hV3
            obtain ⟨q0, q1, q2, q3, q4, qf⟩ := row5 hr.out
            have f0 := qf 0; have f1 := qf 1; have f2 := qf 2; have f3 := qf 3; have f4 := qf 4; clear qf
            have hE := hide' (got_store hB2.out hg.out hr.out hF3.out)
            have hS3 : Hid (Below w12.heap.size w12 (set5 V3 g 0 (.int .i64 gk) (.int .i64 gn) (.slice s2 n2 r2) (.slice s3 n3 r3) (.slice s4 n4 r4))) := hide' hE.out.1
            refine wpAnyH_ready (rs := [11]) (by kernel_rfl) (by simp) ?_
            refine AllReadyH.cons rfl (fun K hK => ?_) AllReadyH.nil
            go_simp
            refine hK.out _ _ (by have h := hS3.out; simp only [set5, Nat.zero_add] at h; with_reducible exact h) (fun hHeld => ?_)
            clear hK
            (try simp only [Act.put, List.setIfInBounds_toArray, List.set_cons_zero, List.set_cons_succ])
            refine take_yes (i := 12) 16 (v := ?_) rfl rfl (by kernel_rfl) (by kernel_rfl) (by kernel_rfl) (fun _ _ _ h => h) (by kernel_rfl) hHeld ?_ ?_
            rotate_left
            focus (intro w hSw; (try dsimp only at hSw); go_simp; (try with_reducible rfl))
            (try simp only [Act.put, List.setIfInBounds_toArray, List.set_cons_zero, List.set_cons_succ])
            refine wpAnyH_done (by kernel_rfl) ?_ _
            clear hHeld
            go_wp2_with fail
            go_meet
            exact ⟨rfl, g, gk, gn, s2, n2, r2, s3, n3, r3, s4, n4, r4, rfl, by have h := hE.out; simp only [set5, Nat.zero_add] at h; exact hide' h⟩
        case rest =>
        obtain ⟨rfl, g1, pk, pn, p2, q2, r2, p3, q3, r3, p4, q4, r4, rfl, HE1⟩ := hcut
        have hBc := hide' HE1.out.1
        have Hr1 : Hid (∀ wx, Below wc.heap.size wc wx → wx.heap[g1]? = some (.cells #[.int .i64 pk, .int .i64 pn, .slice p2 q2 r2, .slice p3 q3 r3, .slice p4 q4 r4] 26 (0, 0))) := hide' (HE1.out.std rfl).row
        have HU : Hid (∀ wx, Below wc.heap.size wc wx → Below w12.heap.size w12 wx) := hide' (fun wx h => Below.on2 hBc.out h hBc.out.size)
        have HSm := hide' (same_segs (HE1.out.std rfl).seg (fun wx h => VSeg.mono (fun b hb => Nat.lt_of_lt_of_le hb hBc.out.size) _ (Hfv.out wx (HU.out wx h))))
        have hBB : Hid (Below wc.heap.size wc wc) := hide' (Below.refl _ _)
        go_wp2_with fail
        by_cases hkk : kj = key
        · rw [decide_eq_true hkk] at HSB
          clear hkk Hz2
          refine wp_region_held_drew (S := (fun wx => Below wc.heap.size wc wx)) (by kernel_rfl) hBB.out.drew (fun hHeld => ?_)
          refine take_yes (i := 0) 105 (v := ?_) rfl rfl (by kernel_rfl) (by kernel_rfl) (by kernel_rfl) (fun _ _ _ h => h) (by kernel_rfl) hHeld ?_ ?_
          rotate_left
          focus (intro w hSw; (try dsimp only at hSw); go_simp; (try with_reducible rfl))
          (try simp only [Act.put, List.setIfInBounds_toArray, List.set_cons_zero, List.set_cons_succ])
          refine take_yes (i := 1) 106 (v := ?_) rfl rfl (by kernel_rfl) (by kernel_rfl) (by kernel_rfl) (fun _ _ _ h => h) (by kernel_rfl) hHeld ?_ ?_
          rotate_left
          focus (intro w hSw; (try dsimp only at hSw); go_simp; (try with_reducible rfl))
          (try simp only [Act.put, List.setIfInBounds_toArray, List.set_cons_zero, List.set_cons_succ])
          refine take_yes (i := 2) 107 (v := ?_) rfl rfl (by kernel_rfl) (by kernel_rfl) (by kernel_rfl) (fun _ _ _ h => h) (by kernel_rfl) hHeld ?_ ?_
          rotate_left
          focus (intro w hSw; (try dsimp only at hSw); go_simp; (try with_reducible rfl))
          (try simp only [Act.put, List.setIfInBounds_toArray, List.set_cons_zero, List.set_cons_succ])
          refine take_yes (i := 3) 108 (v := ?_) rfl rfl (by kernel_rfl) (by kernel_rfl) (by kernel_rfl) (fun _ _ _ h => h) (by kernel_rfl) hHeld ?_ ?_
          rotate_left
          focus (intro w hSw; (try dsimp only at hSw); go_simp; (try with_reducible rfl))
          (try simp only [Act.put, List.setIfInBounds_toArray, List.set_cons_zero, List.set_cons_succ])
          refine take_yes (i := 4) 109 (v := ?_) rfl rfl (by kernel_rfl) (by kernel_rfl) (by kernel_rfl) (fun _ _ _ h => h) (by kernel_rfl) hHeld ?_ ?_
          rotate_left
          focus (intro w hSw; obtain ⟨z0, z1, z2, z3, z4, -⟩ := row5 (HrA.out w (HU.out w hSw)); (try dsimp only at hSw); go_simp; (try with_reducible rfl))
          (try simp only [Act.put, List.setIfInBounds_toArray, List.set_cons_zero, List.set_cons_succ])
          refine take_yes (i := 5) 110 (v := ?_) rfl rfl (by kernel_rfl) (by kernel_rfl) (by kernel_rfl) (fun _ _ _ h => h) (by kernel_rfl) hHeld ?_ ?_
          rotate_left
          focus (intro w hSw; (try dsimp only at hSw); go_simp; (try with_reducible rfl))
          (try simp only [Act.put, List.setIfInBounds_toArray, List.set_cons_zero, List.set_cons_succ])
          refine take_yes (i := 6) 111 (v := ?_) rfl rfl (by kernel_rfl) (by kernel_rfl) (by kernel_rfl) (fun _ _ _ h => h) (by kernel_rfl) hHeld ?_ ?_
          rotate_left
          focus (intro w hSw; (try dsimp only at hSw); go_simp; (try with_reducible rfl))
          (try simp only [Act.put, List.setIfInBounds_toArray, List.set_cons_zero, List.set_cons_succ])
          refine take_yes (i := 7) 112 (v := ?_) rfl rfl (by kernel_rfl) (by kernel_rfl) (by kernel_rfl) (fun _ _ _ h => h) (by kernel_rfl) hHeld ?_ ?_
          rotate_left
          focus (intro w hSw; have zk := Hkc.out w (HU.out w hSw); (try dsimp only at hSw); go_simp; (try with_reducible rfl))
          (try simp only [Act.put, List.setIfInBounds_toArray, List.set_cons_zero, List.set_cons_succ])
          refine take_yes (i := 8) 113 (v := ?_) rfl rfl (by kernel_rfl) (by kernel_rfl) (by kernel_rfl) (fun _ _ _ h => h) (by kernel_rfl) hHeld ?_ ?_
          rotate_left
          focus (intro w hSw; (try dsimp only at hSw); go_simp; (try with_reducible rfl))
          (try simp only [Act.put, List.setIfInBounds_toArray, List.set_cons_zero, List.set_cons_succ])
          refine wpAnyH_ready (rs := [9]) (by kernel_rfl) (by simp) ?_
          refine AllReadyH.cons rfl (fun K hK => ?_) AllReadyH.nil
          go_simp
          go_at_call 18
          refine (HSB.out _ (HU.out _ hHeld)).mono ?_
          rintro e V1 ⟨rfl, rfl⟩
          have hS := hHeld
          go_wp2_with fail
          refine hK.out _ _ hS (fun hHeld => ?_)
          clear hK
          (try simp only [Act.put, List.setIfInBounds_toArray, List.set_cons_zero, List.set_cons_succ])
          refine take_yes (i := 10) 115 (v := ?_) rfl rfl (by kernel_rfl) (by kernel_rfl) (by kernel_rfl) (fun _ _ _ h => h) (by kernel_rfl) hHeld ?_ ?_
          rotate_left
          focus (intro w hSw; (try dsimp only at hSw); go_simp; (try with_reducible rfl))
          (try simp only [Act.put, List.setIfInBounds_toArray, List.set_cons_zero, List.set_cons_succ])
          refine take_yes (i := 11) 116 (v := ?_) rfl rfl (by kernel_rfl) (by kernel_rfl) (by kernel_rfl) (fun _ _ _ h => h) (by kernel_rfl) hHeld ?_ ?_
          rotate_left
          focus (intro w hSw; (try dsimp only at hSw); go_simp; (try with_reducible rfl))
          (try simp only [Act.put, List.setIfInBounds_toArray, List.set_cons_zero, List.set_cons_succ])
          refine take_not (i := 12) 117 rfl rfl (by kernel_rfl) (by kernel_rfl) (by kernel_rfl) (fun _ _ _ h => h) (by kernel_rfl) hHeld ?_
          (try simp only [Act.put, List.setIfInBounds_toArray, List.set_cons_zero, List.set_cons_succ])
          refine take_not (i := 13) 118 rfl rfl (by kernel_rfl) (by kernel_rfl) (by kernel_rfl) (fun _ _ _ h => h) (by kernel_rfl) hHeld ?_
          (try simp only [Act.put, List.setIfInBounds_toArray, List.set_cons_zero, List.set_cons_succ])
          refine take_not (i := 14) 119 rfl rfl (by kernel_rfl) (by kernel_rfl) (by kernel_rfl) (fun _ _ _ h => h) (by kernel_rfl) hHeld ?_
          (try simp only [Act.put, List.setIfInBounds_toArray, List.set_cons_zero, List.set_cons_succ])
          refine take_not (i := 15) 120 rfl rfl (by kernel_rfl) (by kernel_rfl) (by kernel_rfl) (fun _ _ _ h => h) (by kernel_rfl) hHeld ?_
          (try simp only [Act.put, List.setIfInBounds_toArray, List.set_cons_zero, List.set_cons_succ])
          refine take_not (i := 16) 121 rfl rfl (by kernel_rfl) (by kernel_rfl) (by kernel_rfl) (fun _ _ _ h => h) (by kernel_rfl) hHeld ?_
          (try simp only [Act.put, List.setIfInBounds_toArray, List.set_cons_zero, List.set_cons_succ])
          refine take_not (i := 17) 122 rfl rfl (by kernel_rfl) (by kernel_rfl) (by kernel_rfl) (fun _ _ _ h => h) (by kernel_rfl) hHeld ?_
          (try simp only [Act.put, List.setIfInBounds_toArray, List.set_cons_zero, List.set_cons_succ])
          refine take_not (i := 18) 123 rfl rfl (by kernel_rfl) (by kernel_rfl) (by kernel_rfl) (fun _ _ _ h => h) (by kernel_rfl) hHeld ?_
          (try simp only [Act.put, List.setIfInBounds_toArray, List.set_cons_zero, List.set_cons_succ])
          refine take_not (i := 19) 124 rfl rfl (by kernel_rfl) (by kernel_rfl) (by kernel_rfl) (fun _ _ _ h => h) (by kernel_rfl) hHeld ?_
          (try simp only [Act.put, List.setIfInBounds_toArray, List.set_cons_zero, List.set_cons_succ])
          refine take_yes (i := 20) 125 (v := ?_) rfl rfl (by kernel_rfl) (by kernel_rfl) (by kernel_rfl) (fun _ _ _ h => h) (by kernel_rfl) hHeld ?_ ?_
          rotate_left
          focus (intro w hSw; (try dsimp only at hSw); go_simp; (try with_reducible rfl))
          (try simp only [Act.put, List.setIfInBounds_toArray, List.set_cons_zero, List.set_cons_succ])
          refine take_yes (i := 21) 126 (v := ?_) rfl rfl (by kernel_rfl) (by kernel_rfl) (by kernel_rfl) (fun _ _ _ h => h) (by kernel_rfl) hHeld ?_ ?_
          rotate_left
          focus (intro w hSw; (try dsimp only at hSw); go_simp; (try with_reducible rfl))
          (try simp only [Act.put, List.setIfInBounds_toArray, List.set_cons_zero, List.set_cons_succ])
          refine wpAnyH_done (by kernel_rfl) ?_ _
          go_wp2
          go_roundw
          case rel => exact ⟨j + 1, by omega, by go_num, hide' (HU.out _ hHeld)⟩
          case measure => simp [intOf]; omega
        · rw [decide_eq_false hkk] at HSB
          rw [Hz2.out hkk] at HSm
          clear hkk Hz2
          refine wp_region_held_drew (S := (fun wx => Below wc.heap.size wc wx)) (by kernel_rfl) hBB.out.drew (fun hHeld => ?_)
          refine take_yes (i := 0) 105 (v := ?_) rfl rfl (by kernel_rfl) (by kernel_rfl) (by kernel_rfl) (fun _ _ _ h => h) (by kernel_rfl) hHeld ?_ ?_
          rotate_left
          focus (intro w hSw; (try dsimp only at hSw); go_simp; (try with_reducible rfl))
          (try simp only [Act.put, List.setIfInBounds_toArray, List.set_cons_zero, List.set_cons_succ])
          refine take_yes (i := 1) 106 (v := ?_) rfl rfl (by kernel_rfl) (by kernel_rfl) (by kernel_rfl) (fun _ _ _ h => h) (by kernel_rfl) hHeld ?_ ?_
          rotate_left
          focus (intro w hSw; (try dsimp only at hSw); go_simp; (try with_reducible rfl))
          (try simp only [Act.put, List.setIfInBounds_toArray, List.set_cons_zero, List.set_cons_succ])
          refine take_yes (i := 2) 107 (v := ?_) rfl rfl (by kernel_rfl) (by kernel_rfl) (by kernel_rfl) (fun _ _ _ h => h) (by kernel_rfl) hHeld ?_ ?_
          rotate_left
          focus (intro w hSw; (try dsimp only at hSw); go_simp; (try with_reducible rfl))
          (try simp only [Act.put, List.setIfInBounds_toArray, List.set_cons_zero, List.set_cons_succ])
          refine take_yes (i := 3) 108 (v := ?_) rfl rfl (by kernel_rfl) (by kernel_rfl) (by kernel_rfl) (fun _ _ _ h => h) (by kernel_rfl) hHeld ?_ ?_
          rotate_left
          focus (intro w hSw; (try dsimp only at hSw); go_simp; (try with_reducible rfl))
          (try simp only [Act.put, List.setIfInBounds_toArray, List.set_cons_zero, List.set_cons_succ])
          refine take_yes (i := 4) 109 (v := ?_) rfl rfl (by kernel_rfl) (by kernel_rfl) (by kernel_rfl) (fun _ _ _ h => h) (by kernel_rfl) hHeld ?_ ?_
          rotate_left
          focus (intro w hSw; obtain ⟨z0, z1, z2, z3, z4, -⟩ := row5 (HrA.out w (HU.out w hSw)); (try dsimp only at hSw); go_simp; (try with_reducible rfl))
          (try simp only [Act.put, List.setIfInBounds_toArray, List.set_cons_zero, List.set_cons_succ])
          refine take_yes (i := 5) 110 (v := ?_) rfl rfl (by kernel_rfl) (by kernel_rfl) (by kernel_rfl) (fun _ _ _ h => h) (by kernel_rfl) hHeld ?_ ?_
          rotate_left
          focus (intro w hSw; (try dsimp only at hSw); go_simp; (try with_reducible rfl))
          (try simp only [Act.put, List.setIfInBounds_toArray, List.set_cons_zero, List.set_cons_succ])
          refine take_yes (i := 6) 111 (v := ?_) rfl rfl (by kernel_rfl) (by kernel_rfl) (by kernel_rfl) (fun _ _ _ h => h) (by kernel_rfl) hHeld ?_ ?_
          rotate_left
          focus (intro w hSw; (try dsimp only at hSw); go_simp; (try with_reducible rfl))
          (try simp only [Act.put, List.setIfInBounds_toArray, List.set_cons_zero, List.set_cons_succ])
          refine take_yes (i := 7) 112 (v := ?_) rfl rfl (by kernel_rfl) (by kernel_rfl) (by kernel_rfl) (fun _ _ _ h => h) (by kernel_rfl) hHeld ?_ ?_
          rotate_left
          focus (intro w hSw; have zk := Hkc.out w (HU.out w hSw); (try dsimp only at hSw); go_simp; (try with_reducible rfl))
          (try simp only [Act.put, List.setIfInBounds_toArray, List.set_cons_zero, List.set_cons_succ])
          refine take_yes (i := 8) 113 (v := ?_) rfl rfl (by kernel_rfl) (by kernel_rfl) (by kernel_rfl) (fun _ _ _ h => h) (by kernel_rfl) hHeld ?_ ?_
          rotate_left
          focus (intro w hSw; (try dsimp only at hSw); go_simp; (try with_reducible rfl))
          (try simp only [Act.put, List.setIfInBounds_toArray, List.set_cons_zero, List.set_cons_succ])
          refine wpAnyH_ready (rs := [9]) (by kernel_rfl) (by simp) ?_
          refine AllReadyH.cons rfl (fun K hK => ?_) AllReadyH.nil
          go_simp
          go_at_call 18
          refine (HSB.out _ (HU.out _ hHeld)).mono ?_
          rintro e V1 ⟨rfl, rfl⟩
          have hS := hHeld
          go_wp2_with fail
          refine hK.out _ _ hS (fun hHeld => ?_)
          clear hK
          (try simp only [Act.put, List.setIfInBounds_toArray, List.set_cons_zero, List.set_cons_succ])
          refine take_yes (i := 10) 115 (v := ?_) rfl rfl (by kernel_rfl) (by kernel_rfl) (by kernel_rfl) (fun _ _ _ h => h) (by kernel_rfl) hHeld ?_ ?_
          rotate_left
          focus (intro w hSw; (try dsimp only at hSw); go_simp; (try with_reducible rfl))
          (try simp only [Act.put, List.setIfInBounds_toArray, List.set_cons_zero, List.set_cons_succ])
          refine take_yes (i := 11) 116 (v := ?_) rfl rfl (by kernel_rfl) (by kernel_rfl) (by kernel_rfl) (fun _ _ _ h => h) (by kernel_rfl) hHeld ?_ ?_
          rotate_left
          focus (intro w hSw; (try dsimp only at hSw); go_simp; (try with_reducible rfl))
          (try simp only [Act.put, List.setIfInBounds_toArray, List.set_cons_zero, List.set_cons_succ])
          refine take_yes (i := 12) 117 (v := ?_) rfl rfl (by kernel_rfl) (by kernel_rfl) (by kernel_rfl) (fun _ _ _ h => h) (by kernel_rfl) hHeld ?_ ?_
          rotate_left
          focus (intro w hSw; obtain ⟨z0, z1, z2, z3, z4, -⟩ := row5 (Hr1.out w hSw); (try dsimp only at hSw); go_simp; (try with_reducible rfl))
          (try simp only [Act.put, List.setIfInBounds_toArray, List.set_cons_zero, List.set_cons_succ])
          refine take_yes (i := 13) 118 (v := ?_) rfl rfl (by kernel_rfl) (by kernel_rfl) (by kernel_rfl) (fun _ _ _ h => h) (by kernel_rfl) hHeld ?_ ?_
          rotate_left
          focus (intro w hSw; (try dsimp only at hSw); go_simp; (try with_reducible rfl))
          (try simp only [Act.put, List.setIfInBounds_toArray, List.set_cons_zero, List.set_cons_succ])
          refine take_yes (i := 14) 119 (v := ?_) rfl rfl (by kernel_rfl) (by kernel_rfl) (by kernel_rfl) (fun _ _ _ h => h) (by kernel_rfl) hHeld ?_ ?_
          rotate_left
          focus (intro w hSw; obtain ⟨z0, z1, z2, z3, z4, -⟩ := row5 (HrA.out w (HU.out w hSw)); (try dsimp only at hSw); go_simp; (try with_reducible rfl))
          (try simp only [Act.put, List.setIfInBounds_toArray, List.set_cons_zero, List.set_cons_succ])
          refine take_yes (i := 15) 120 (v := ?_) rfl rfl (by kernel_rfl) (by kernel_rfl) (by kernel_rfl) (fun _ _ _ h => h) (by kernel_rfl) hHeld ?_ ?_
          rotate_left
          focus (intro w hSw; (try dsimp only at hSw); go_simp; (try with_reducible rfl))
          (try simp only [Act.put, List.setIfInBounds_toArray, List.set_cons_zero, List.set_cons_succ])
          refine take_yes (i := 16) 121 (v := ?_) rfl rfl (by kernel_rfl) (by kernel_rfl) (by kernel_rfl) (fun _ _ _ h => h) (by kernel_rfl) hHeld ?_ ?_
          rotate_left
          focus (intro w hSw; (try dsimp only at hSw); go_simp; (try with_reducible rfl))
          (try simp only [Act.put, List.setIfInBounds_toArray, List.set_cons_zero, List.set_cons_succ])
          refine take_yes (i := 17) 122 (v := ?_) rfl rfl (by kernel_rfl) (by kernel_rfl) (by kernel_rfl) (fun _ _ _ h => h) (by kernel_rfl) hHeld ?_ ?_
          rotate_left
          focus (intro w hSw; obtain ⟨z0, z1, z2, z3, z4⟩ := Hf5.out w (HU.out w hSw); simp only at z0 z1 z2 z3 z4; (try dsimp only at hSw); go_simp; (try with_reducible rfl))
          (try simp only [Act.put, List.setIfInBounds_toArray, List.set_cons_zero, List.set_cons_succ])
          refine wpAnyH_ready (rs := [18]) (by kernel_rfl) (by simp) ?_
          refine AllReadyH.cons rfl (fun K hK => ?_) AllReadyH.nil
          go_simp
          go_at_call 11
          refine (HSm.out _ hHeld).mono ?_
          rintro e V2 ⟨rfl, hS⟩
          go_wp2_with fail
          refine hK.out _ _ hS (fun hHeld => ?_)
          clear hK
          (try simp only [Act.put, List.setIfInBounds_toArray, List.set_cons_zero, List.set_cons_succ])
          refine take_yes (i := 19) 124 (v := ?_) rfl rfl (by kernel_rfl) (by kernel_rfl) (by kernel_rfl) (fun _ _ _ h => h) (by kernel_rfl) hHeld ?_ ?_
          rotate_left
          focus (intro w hSw; (try dsimp only at hSw); go_simp; (try with_reducible rfl))
          (try simp only [Act.put, List.setIfInBounds_toArray, List.set_cons_zero, List.set_cons_succ])
          refine take_yes (i := 20) 125 (v := ?_) rfl rfl (by kernel_rfl) (by kernel_rfl) (by kernel_rfl) (fun _ _ _ h => h) (by kernel_rfl) hHeld ?_ ?_
          rotate_left
          focus (intro w hSw; (try dsimp only at hSw); go_simp; (try with_reducible rfl))
          (try simp only [Act.put, List.setIfInBounds_toArray, List.set_cons_zero, List.set_cons_succ])
          refine take_yes (i := 21) 126 (v := ?_) rfl rfl (by kernel_rfl) (by kernel_rfl) (by kernel_rfl) (fun _ _ _ h => h) (by kernel_rfl) hHeld ?_ ?_
          rotate_left
          focus (intro w hSw; (try dsimp only at hSw); go_simp; (try with_reducible rfl))
          (try simp only [Act.put, List.setIfInBounds_toArray, List.set_cons_zero, List.set_cons_succ])
          refine wpAnyH_done (by kernel_rfl) ?_ _
          go_wp2
          go_roundw
          case rel => exact ⟨j + 1, by omega, by go_num, hide' (HU.out _ hHeld)⟩
          case measure => simp [intOf]; omega
      · have hlt' : ¬ (j : Int) < (a3n : Int) := by omega
        have HKy := hide' HsY12.out.known
        have HKx := hide' HsX12.out.known
        have HKd := hide' HsD12.out.known
        rw [H7.out] at HKy
        generalize ansValKnown D vx = kx at *
        generalize ansValKnown (D + 1) vz = kd at *
        have HE : Hid (∀ wx, Below w12.heap.size w12 wx → Below w.heap.size w wx) := hide' (fun wx h => Hb12.out.trans (h.mono Hb12.out.size))
        go_wp2_with fail
        clear o0 o1 o2 o3 o4
        cases kx
        · skip
          refine wp_region_held_drew (S := (fun wx => Below w12.heap.size w12 wx)) (by kernel_rfl) hB.out.drew (fun hHeld => ?_)
          refine take_yes (i := 0) 127 (v := ?_) rfl rfl (by kernel_rfl) (by kernel_rfl) (by kernel_rfl) (fun _ _ _ h => h) (by kernel_rfl) hHeld ?_ ?_
          rotate_left
          focus (intro w hSw; obtain ⟨z0, z1, z2, z3, z4, -⟩ := row5 (HrY.out w hSw); (try dsimp only at hSw); go_simp; (try with_reducible rfl))
          (try simp only [Act.put, List.setIfInBounds_toArray, List.set_cons_zero, List.set_cons_succ])
          refine take_yes (i := 2) 129 (v := ?_) rfl rfl (by kernel_rfl) (by kernel_rfl) (by kernel_rfl) (fun _ _ _ h => h) (by kernel_rfl) hHeld ?_ ?_
          rotate_left
          focus (intro w hSw; obtain ⟨z0, z1, z2, z3, z4, -⟩ := row5 (HrX.out w hSw); (try dsimp only at hSw); go_simp; (try with_reducible rfl))
          (try simp only [Act.put, List.setIfInBounds_toArray, List.set_cons_zero, List.set_cons_succ])
          refine wpAnyH_ready (rs := [1]) (by kernel_rfl) (by simp) ?_
          refine AllReadyH.cons rfl (fun K hK => ?_) AllReadyH.nil
          go_simp
          go_at_call 14
          refine (HKy.out _ hHeld).mono ?_
          rintro e V1 ⟨rfl, hS⟩
          go_wp2_with fail
          refine hK.out _ _ hS (fun hHeld => ?_)
          clear hK
          (try simp only [Act.put, List.setIfInBounds_toArray, List.set_cons_zero, List.set_cons_succ])
          refine wpAnyH_ready (rs := [3]) (by kernel_rfl) (by simp) ?_
          refine AllReadyH.cons rfl (fun K hK => ?_) AllReadyH.nil
          go_simp
          go_at_call 14
          refine (HKx.out _ hHeld).mono ?_
          rintro e V2 ⟨rfl, hS⟩
          go_wp2_with fail
          refine hK.out _ _ hS (fun hHeld => ?_)
          clear hK
          (try simp only [Act.put, List.setIfInBounds_toArray, List.set_cons_zero, List.set_cons_succ])
          refine take_yes (i := 4) 131 (v := ?_) rfl rfl (by kernel_rfl) (by kernel_rfl) (by kernel_rfl) (fun _ _ _ h => h) (by kernel_rfl) hHeld ?_ ?_
          rotate_left
          focus (intro w hSw; (try dsimp only at hSw); go_simp; (try with_reducible rfl))
          (try simp only [Act.put, List.setIfInBounds_toArray, List.set_cons_zero, List.set_cons_succ])
          refine take_not (i := 5) 132 rfl rfl (by kernel_rfl) (by kernel_rfl) (by kernel_rfl) (fun _ _ _ h => h) (by kernel_rfl) hHeld ?_
          (try simp only [Act.put, List.setIfInBounds_toArray, List.set_cons_zero, List.set_cons_succ])
          refine take_not (i := 6) 133 rfl rfl (by kernel_rfl) (by kernel_rfl) (by kernel_rfl) (fun _ _ _ h => h) (by kernel_rfl) hHeld ?_
          (try simp only [Act.put, List.setIfInBounds_toArray, List.set_cons_zero, List.set_cons_succ])
          refine take_yes (i := 7) 134 (v := ?_) rfl rfl (by kernel_rfl) (by kernel_rfl) (by kernel_rfl) (fun _ _ _ h => h) (by kernel_rfl) hHeld ?_ ?_
          rotate_left
          focus (intro w hSw; (try dsimp only at hSw); go_simp; (try with_reducible rfl))
          (try simp only [Act.put, List.setIfInBounds_toArray, List.set_cons_zero, List.set_cons_succ])
          refine take_yes (i := 8) 135 (v := ?_) rfl rfl (by kernel_rfl) (by kernel_rfl) (by kernel_rfl) (fun _ _ _ h => h) (by kernel_rfl) hHeld ?_ ?_
          rotate_left
          focus (intro w hSw; (try dsimp only at hSw); go_simp; (try with_reducible rfl))
          (try simp only [Act.put, List.setIfInBounds_toArray, List.set_cons_zero, List.set_cons_succ])
          refine take_yes (i := 9) 2 (v := ?_) rfl rfl (by kernel_rfl) (by kernel_rfl) (by kernel_rfl) (fun _ _ _ h => h) (by kernel_rfl) hHeld ?_ ?_
          rotate_left
          focus (intro w hSw; (try dsimp only at hSw); go_simp; (try with_reducible rfl))
          (try simp only [Act.put, List.setIfInBounds_toArray, List.set_cons_zero, List.set_cons_succ])
          refine wpAnyH_done (by kernel_rfl) ?_ _
          go_wp2
          go_ret
          exact ⟨rfl, HE.out _ hHeld⟩
        · cases kd
          · skip
            refine wp_region_held_drew (S := (fun wx => Below w12.heap.size w12 wx)) (by kernel_rfl) hB.out.drew (fun hHeld => ?_)
            refine take_yes (i := 0) 127 (v := ?_) rfl rfl (by kernel_rfl) (by kernel_rfl) (by kernel_rfl) (fun _ _ _ h => h) (by kernel_rfl) hHeld ?_ ?_
            rotate_left
            focus (intro w hSw; obtain ⟨z0, z1, z2, z3, z4, -⟩ := row5 (HrY.out w hSw); (try dsimp only at hSw); go_simp; (try with_reducible rfl))
            (try simp only [Act.put, List.setIfInBounds_toArray, List.set_cons_zero, List.set_cons_succ])
            refine take_yes (i := 2) 129 (v := ?_) rfl rfl (by kernel_rfl) (by kernel_rfl) (by kernel_rfl) (fun _ _ _ h => h) (by kernel_rfl) hHeld ?_ ?_
            rotate_left
            focus (intro w hSw; obtain ⟨z0, z1, z2, z3, z4, -⟩ := row5 (HrX.out w hSw); (try dsimp only at hSw); go_simp; (try with_reducible rfl))
            (try simp only [Act.put, List.setIfInBounds_toArray, List.set_cons_zero, List.set_cons_succ])
            refine wpAnyH_ready (rs := [1]) (by kernel_rfl) (by simp) ?_
            refine AllReadyH.cons rfl (fun K hK => ?_) AllReadyH.nil
            go_simp
            go_at_call 14
            refine (HKy.out _ hHeld).mono ?_
            rintro e V1 ⟨rfl, hS⟩
            go_wp2_with fail
            refine hK.out _ _ hS (fun hHeld => ?_)
            clear hK
            (try simp only [Act.put, List.setIfInBounds_toArray, List.set_cons_zero, List.set_cons_succ])
            refine wpAnyH_ready (rs := [3]) (by kernel_rfl) (by simp) ?_
            refine AllReadyH.cons rfl (fun K hK => ?_) AllReadyH.nil
            go_simp
            go_at_call 14
            refine (HKx.out _ hHeld).mono ?_
            rintro e V2 ⟨rfl, hS⟩
            go_wp2_with fail
            refine hK.out _ _ hS (fun hHeld => ?_)
            clear hK
            (try simp only [Act.put, List.setIfInBounds_toArray, List.set_cons_zero, List.set_cons_succ])
            refine take_yes (i := 4) 131 (v := ?_) rfl rfl (by kernel_rfl) (by kernel_rfl) (by kernel_rfl) (fun _ _ _ h => h) (by kernel_rfl) hHeld ?_ ?_
            rotate_left
            focus (intro w hSw; (try dsimp only at hSw); go_simp; (try with_reducible rfl))
            (try simp only [Act.put, List.setIfInBounds_toArray, List.set_cons_zero, List.set_cons_succ])
            refine take_yes (i := 5) 132 (v := ?_) rfl rfl (by kernel_rfl) (by kernel_rfl) (by kernel_rfl) (fun _ _ _ h => h) (by kernel_rfl) hHeld ?_ ?_
            rotate_left
            focus (intro w hSw; obtain ⟨z0, z1, z2, z3, z4, -⟩ := row5 (HrD.out w hSw); (try dsimp only at hSw); go_simp; (try with_reducible rfl))
            (try simp only [Act.put, List.setIfInBounds_toArray, List.set_cons_zero, List.set_cons_succ])
            refine wpAnyH_ready (rs := [6]) (by kernel_rfl) (by simp) ?_
            refine AllReadyH.cons rfl (fun K hK => ?_) AllReadyH.nil
            go_simp
            go_at_call 14
            refine (HKd.out _ hHeld).mono ?_
            rintro e V3 ⟨rfl, hS⟩
            go_wp2_with fail
            refine hK.out _ _ hS (fun hHeld => ?_)
            clear hK
            (try simp only [Act.put, List.setIfInBounds_toArray, List.set_cons_zero, List.set_cons_succ])
            refine take_yes (i := 7) 134 (v := ?_) rfl rfl (by kernel_rfl) (by kernel_rfl) (by kernel_rfl) (fun _ _ _ h => h) (by kernel_rfl) hHeld ?_ ?_
            rotate_left
            focus (intro w hSw; (try dsimp only at hSw); go_simp; (try with_reducible rfl))
            (try simp only [Act.put, List.setIfInBounds_toArray, List.set_cons_zero, List.set_cons_succ])
            refine take_yes (i := 8) 135 (v := ?_) rfl rfl (by kernel_rfl) (by kernel_rfl) (by kernel_rfl) (fun _ _ _ h => h) (by kernel_rfl) hHeld ?_ ?_
            rotate_left
            focus (intro w hSw; (try dsimp only at hSw); go_simp; (try with_reducible rfl))
            (try simp only [Act.put, List.setIfInBounds_toArray, List.set_cons_zero, List.set_cons_succ])
            refine take_yes (i := 9) 2 (v := ?_) rfl rfl (by kernel_rfl) (by kernel_rfl) (by kernel_rfl) (fun _ _ _ h => h) (by kernel_rfl) hHeld ?_ ?_
            rotate_left
            focus (intro w hSw; (try dsimp only at hSw); go_simp; (try with_reducible rfl))
            (try simp only [Act.put, List.setIfInBounds_toArray, List.set_cons_zero, List.set_cons_succ])
            refine wpAnyH_done (by kernel_rfl) ?_ _
            go_wp2
            go_ret
            exact ⟨rfl, HE.out _ hHeld⟩
          · skip
            refine wp_region_held_drew (S := (fun wx => Below w12.heap.size w12 wx)) (by kernel_rfl) hB.out.drew (fun hHeld => ?_)
            refine take_yes (i := 0) 127 (v := ?_) rfl rfl (by kernel_rfl) (by kernel_rfl) (by kernel_rfl) (fun _ _ _ h => h) (by kernel_rfl) hHeld ?_ ?_
            rotate_left
            focus (intro w hSw; obtain ⟨z0, z1, z2, z3, z4, -⟩ := row5 (HrY.out w hSw); (try dsimp only at hSw); go_simp; (try with_reducible rfl))
            (try simp only [Act.put, List.setIfInBounds_toArray, List.set_cons_zero, List.set_cons_succ])
            refine take_yes (i := 2) 129 (v := ?_) rfl rfl (by kernel_rfl) (by kernel_rfl) (by kernel_rfl) (fun _ _ _ h => h) (by kernel_rfl) hHeld ?_ ?_
            rotate_left
            focus (intro w hSw; obtain ⟨z0, z1, z2, z3, z4, -⟩ := row5 (HrX.out w hSw); (try dsimp only at hSw); go_simp; (try with_reducible rfl))
            (try simp only [Act.put, List.setIfInBounds_toArray, List.set_cons_zero, List.set_cons_succ])
            refine wpAnyH_ready (rs := [1]) (by kernel_rfl) (by simp) ?_
            refine AllReadyH.cons rfl (fun K hK => ?_) AllReadyH.nil
            go_simp
            go_at_call 14
            refine (HKy.out _ hHeld).mono ?_
            rintro e V1 ⟨rfl, hS⟩
            go_wp2_with fail
            refine hK.out _ _ hS (fun hHeld => ?_)
            clear hK
            (try simp only [Act.put, List.setIfInBounds_toArray, List.set_cons_zero, List.set_cons_succ])
            refine wpAnyH_ready (rs := [3]) (by kernel_rfl) (by simp) ?_
            refine AllReadyH.cons rfl (fun K hK => ?_) AllReadyH.nil
            go_simp
            go_at_call 14
            refine (HKx.out _ hHeld).mono ?_
            rintro e V2 ⟨rfl, hS⟩
            go_wp2_with fail
            refine hK.out _ _ hS (fun hHeld => ?_)
            clear hK
            (try simp only [Act.put, List.setIfInBounds_toArray, List.set_cons_zero, List.set_cons_succ])
            refine take_yes (i := 4) 131 (v := ?_) rfl rfl (by kernel_rfl) (by kernel_rfl) (by kernel_rfl) (fun _ _ _ h => h) (by kernel_rfl) hHeld ?_ ?_
            rotate_left
            focus (intro w hSw; (try dsimp only at hSw); go_simp; (try with_reducible rfl))
            (try simp only [Act.put, List.setIfInBounds_toArray, List.set_cons_zero, List.set_cons_succ])
            refine take_yes (i := 5) 132 (v := ?_) rfl rfl (by kernel_rfl) (by kernel_rfl) (by kernel_rfl) (fun _ _ _ h => h) (by kernel_rfl) hHeld ?_ ?_
            rotate_left
            focus (intro w hSw; obtain ⟨z0, z1, z2, z3, z4, -⟩ := row5 (HrD.out w hSw); (try dsimp only at hSw); go_simp; (try with_reducible rfl))
            (try simp only [Act.put, List.setIfInBounds_toArray, List.set_cons_zero, List.set_cons_succ])
            refine wpAnyH_ready (rs := [6]) (by kernel_rfl) (by simp) ?_
            refine AllReadyH.cons rfl (fun K hK => ?_) AllReadyH.nil
            go_simp
            go_at_call 14
            refine (HKd.out _ hHeld).mono ?_
            rintro e V3 ⟨rfl, hS⟩
            go_wp2_with fail
            refine hK.out _ _ hS (fun hHeld => ?_)
            clear hK
            (try simp only [Act.put, List.setIfInBounds_toArray, List.set_cons_zero, List.set_cons_succ])
            refine take_yes (i := 7) 134 (v := ?_) rfl rfl (by kernel_rfl) (by kernel_rfl) (by kernel_rfl) (fun _ _ _ h => h) (by kernel_rfl) hHeld ?_ ?_
            rotate_left
            focus (intro w hSw; (try dsimp only at hSw); go_simp; (try with_reducible rfl))
            (try simp only [Act.put, List.setIfInBounds_toArray, List.set_cons_zero, List.set_cons_succ])
            refine take_yes (i := 8) 135 (v := ?_) rfl rfl (by kernel_rfl) (by kernel_rfl) (by kernel_rfl) (fun _ _ _ h => h) (by kernel_rfl) hHeld ?_ ?_
            rotate_left
            focus (intro w hSw; (try dsimp only at hSw); go_simp; (try with_reducible rfl))
            (try simp only [Act.put, List.setIfInBounds_toArray, List.set_cons_zero, List.set_cons_succ])
            refine take_yes (i := 9) 2 (v := ?_) rfl rfl (by kernel_rfl) (by kernel_rfl) (by kernel_rfl) (fun _ _ _ h => h) (by kernel_rfl) hHeld ?_ ?_
            rotate_left
            focus (intro w hSw; (try dsimp only at hSw); go_simp; (try with_reducible rfl))
            (try simp only [Act.put, List.setIfInBounds_toArray, List.set_cons_zero, List.set_cons_succ])
            refine wpAnyH_done (by kernel_rfl) ?_ _
            go_wp2
            go_ret
            exact ⟨rfl, HE.out _ hHeld⟩
end Go.Proofs.Ytenfnbnhdmkhkaa
