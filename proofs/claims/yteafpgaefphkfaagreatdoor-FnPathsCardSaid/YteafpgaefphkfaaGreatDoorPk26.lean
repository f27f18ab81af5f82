/-
  Texts that a law leans on, one behind the other; no statement is proved here.
-/
import Derived.Test.YteafpgaefphkfaaGreatDoorPk23
/-
  ValBytes of the specification: l2put of a number.
-/
namespace Go.Proofs.YteafpgaefphkfaaGreatDoor
open Go.RowKit
set_option linter.unusedVariables false
set_option linter.unusedSimpArgs false

theorem wrap_id (x : Int) (h : 0 ≤ x) (h2 : x ≤ 1000000000000) : wrap64 x = x := by unfold wrap64; omega
theorem wd_pos (n : Int) (h : 0 ≤ n) (h2 : n ≤ 1000000000000) : wrap64 (n.tdiv 1000000) = n / 1000000 := by
  rw [Int.tdiv_eq_ediv_of_nonneg h]; exact wrap_id _ (by omega) (by omega)
theorem wm_pos (n : Int) (h : 0 ≤ n) : n.tmod 1000000 = n % 1000000 := Int.tmod_eq_emod_of_nonneg h
theorem wmw_pos (n : Int) (h : 0 ≤ n) : wrap64 (n.tmod 1000000) = n % 1000000 := by rw [wm_pos n h]; exact wrap_id _ (by omega) (by omega)
theorem wd_neg (n : Int) (h : n < 0) (h2 : -n ≤ 1000000000000) : wrap64 (-n.tdiv 1000000) = -n / 1000000 := by
  rw [← Int.neg_tdiv]; exact wd_pos (-n) (by omega) h2
theorem wm_neg (n : Int) (h : n < 0) : -n.tmod 1000000 = -n % 1000000 := by rw [← Int.neg_tmod]; exact wm_pos (-n) (by omega)
theorem wmw_neg (n : Int) (h : n < 0) : wrap64 (-n.tmod 1000000) = -n % 1000000 := by rw [wm_neg n h]; exact wrap_id _ (by omega) (by omega)

set_option maxHeartbeats 1000000 in
set_option maxRecDepth 100000 in
theorem l2put_int (d N : Nat) (a : Option Addr) (cap : Nat) (xs : List Int) (vn : Int) (vs : List Int) (vK : List (List Int)) (vL : List (Vl d)) (a2 : Option Addr) (p2 : Nat) (c3 c4 : Value) (w : World) (hs : Seg w a xs) (ka : a = none → cap = 0) (hl : xs.length ≤ 1000000) (s2 : Seg w a2 vs) (k2 : a2 = none → p2 = 0) (m2 : vs.length ≤ 1000000)
    (h3 : ∃ b n p, c3 = .slice b n p) (h4 : ∃ b n p, c4 = .slice b n p) (hlo : -1000000000000 ≤ vn) (hhi : vn ≤ 1000000000000) :
    Calls Tryz.prog 47 #[.slice a xs.length cap, .agg #[.int .i64 2, .int .i64 vn, .slice a2 vs.length p2, c3, c4]] w fun e w' => ∃ u, e = .returned u ∧ Bts w' w.heap.size u (bytV (d + 1) (2, vn, vs, vK, vL) xs) ∧ Below w.heap.size w w' := by
  obtain ⟨b3, n3, q3, rfl⟩ := h3
  obtain ⟨b4, n4, q4, rfl⟩ := h4
  have b0 : ∀ o : Obj, Below w.heap.size w (w.alloc o) := fun o => (Below.refl _ _).alloc (Nat.le_refl _) o
  have Hb := hide' b0
  have H1 : Hid (∀ o : Obj, Calls Tryz.prog 58 #[.slice a xs.length cap, .int .i64 2] (w.alloc o) (PEnd (w.alloc o) (putNum xs 2))) := fun o => spec_PutNum_end a cap xs 2 _ (hs.grow (b0 o)) ka (by omega)
  have hpl := putNum_len xs 2
  have HS2 : Hid (∀ wx, Below w.heap.size w wx → Seg wx a2 vs) := fun wx hb => s2.grow hb
  have HP : Hid (∀ (a1 : Option Addr) (c1 : Nat) (ys : List Int) (n : Int) (wx : World), Bts wx 0 (.slice a1 ys.length c1) ys → (a1 = none → c1 = 0) → ys.length ≤ 2000000 → Calls Tryz.prog 58 #[.slice a1 ys.length c1, .int .i64 n] wx (PEnd wx (putNum ys n))) := fun a1 c1 ys n wx hB k hlen => spec_PutNum_end a1 c1 ys n wx hB.seg k (by omega)
  have HT : Hid (∀ (a1 : Option Addr) (c1 : Nat) (ys : List Int) (wx : World), Bts wx 0 (.slice a1 ys.length c1) ys → (a1 = none → c1 = 0) → ys.length ≤ 2000000 → Below w.heap.size w wx → Calls Tryz.prog 59 #[.slice a1 ys.length c1, .slice a2 vs.length p2] wx (PEnd wx (putText ys vs))) := fun a1 c1 ys wx hB k hlen hbw => spec_PutText_end a1 a2 c1 p2 ys vs wx hB.seg (HS2.out wx hbw) k k2 (by omega) (by omega)
  clear b0 hs s2
  by_cases hneg : vn < 0
  · have HF : Hid (bytV (d + 1) (2, vn, vs, vK, vL) xs = putNum (putNum (putNum (putNum xs 2) 1) (-vn / 1000000)) (-vn % 1000000)) := by show _ = _; rw [bytV_int, putI, if_pos hneg]
    have hp1 := putNum_len (putNum xs 2) 1
    have hp2 := putNum_len (putNum (putNum xs 2) 1) (-vn / 1000000)
    have hm0 : 0 ≤ -vn := by omega
    have hm1 : -vn ≤ 1000000000000 := by omega
    have hd : wrap64 (-vn.tdiv 1000000) = -vn / 1000000 := wd_neg vn (by omega) (by omega)
    have hm : -vn.tmod 1000000 = -vn % 1000000 := wm_neg vn (by omega)
    have hmw : wrap64 (-vn.tmod 1000000) = -vn % 1000000 := wmw_neg vn (by omega)
    have Hd := hide' hd
    have Hm := hide' hm
    have Hmw := hide' hmw
    clear hd hm hmw
    go_enter Tryz.func47, Tryz.ntmps47
    go_wp2_with fail
    refine (H1.out _).mono ?_
    rintro e w1 ⟨a1, c1, rfl, hB1, b1, k1⟩
    obtain ⟨y0, y1, y2, y3, y4, _⟩ := row5 (box_row b1)
    have B1 := Below.on (Hb.out _) b1
    have H2 := hide' (HP.out a1 c1 (putNum xs 2) 1 w1 (hB1.mono (by omega)) k1 (by omega))
    generalize putNum xs 2 = z1 at *
    generalize z1.length = n1 at *
    clear b1 hB1
    go_wp2_with fail
    refine H2.out.mono ?_
    rintro e w2 ⟨a2', c2', rfl, hB2, b2, k2'⟩
    have B2 := Below.on B1 b2
    have H3 := hide' (HP.out a2' c2' (putNum z1 1) (-vn / 1000000) w2 (hB2.mono (by omega)) k2' (by omega))
    generalize putNum z1 1 = z2 at *
    generalize z2.length = n2 at *
    clear b2 hB2 H2
    go_wp2_with fail
    try rw [Hd.out]
    refine H3.out.mono ?_
    rintro e w3 ⟨a3', c3', rfl, hB3, b3, k3'⟩
    have B3 := Below.on B2 b3
    have H4 := hide' (HP.out a3' c3' (putNum z2 (-vn / 1000000)) (-vn % 1000000) w3 (hB3.mono (by omega)) k3' (by omega))
    generalize putNum z2 (-vn / 1000000) = z3 at *
    generalize z3.length = n3' at *
    clear b3 hB3 H3
    go_wp2_with fail
    first | rw [Hmw.out] | rw [Hm.out] | skip
    refine H4.out.mono ?_
    rintro e w4 ⟨a4', c4', rfl, hB4, b4', k4'⟩
    have B4 := Below.on B3 b4'
    have HB4 := hide' (hB4.mono (base' := w.heap.size) B3.size)
    generalize (putNum z3 (-vn % 1000000)).length = n4' at *
    clear b4' hB4 H4
    go_wp2
    go_ret
    exact ⟨_, rfl, by rw [HF.out]; exact HB4.out, B4⟩
  · have HF : Hid (bytV (d + 1) (2, vn, vs, vK, vL) xs = putNum (putNum (putNum (putNum xs 2) 0) (vn / 1000000)) (vn % 1000000)) := by show _ = _; rw [bytV_int, putI, if_neg hneg]
    have hp1 := putNum_len (putNum xs 2) 0
    have hp2 := putNum_len (putNum (putNum xs 2) 0) (vn / 1000000)
    have hm0 : 0 ≤ vn := by omega
    have hd : wrap64 (vn.tdiv 1000000) = vn / 1000000 := wd_pos vn (by omega) (by omega)
    have hm : vn.tmod 1000000 = vn % 1000000 := wm_pos vn (by omega)
    have hmw : wrap64 (vn.tmod 1000000) = vn % 1000000 := wmw_pos vn (by omega)
    have Hd := hide' hd
    have Hm := hide' hm
    have Hmw := hide' hmw
    clear hd hm hmw
    go_enter Tryz.func47, Tryz.ntmps47
    go_wp2_with fail
    refine (H1.out _).mono ?_
    rintro e w1 ⟨a1, c1, rfl, hB1, b1, k1⟩
    obtain ⟨y0, y1, y2, y3, y4, _⟩ := row5 (box_row b1)
    have B1 := Below.on (Hb.out _) b1
    have H2 := hide' (HP.out a1 c1 (putNum xs 2) 0 w1 (hB1.mono (by omega)) k1 (by omega))
    generalize putNum xs 2 = z1 at *
    generalize z1.length = n1 at *
    clear b1 hB1
    go_wp2_with fail
    refine H2.out.mono ?_
    rintro e w2 ⟨a2', c2', rfl, hB2, b2, k2'⟩
    have B2 := Below.on B1 b2
    have H3 := hide' (HP.out a2' c2' (putNum z1 0) (vn / 1000000) w2 (hB2.mono (by omega)) k2' (by omega))
    generalize putNum z1 0 = z2 at *
    generalize z2.length = n2 at *
    clear b2 hB2 H2
    go_wp2_with fail
    try rw [Hd.out]
    refine H3.out.mono ?_
    rintro e w3 ⟨a3', c3', rfl, hB3, b3, k3'⟩
    have B3 := Below.on B2 b3
    have H4 := hide' (HP.out a3' c3' (putNum z2 (vn / 1000000)) (vn % 1000000) w3 (hB3.mono (by omega)) k3' (by omega))
    generalize putNum z2 (vn / 1000000) = z3 at *
    generalize z3.length = n3' at *
    clear b3 hB3 H3
    go_wp2_with fail
    first | rw [Hmw.out] | rw [Hm.out] | skip
    refine H4.out.mono ?_
    rintro e w4 ⟨a4', c4', rfl, hB4, b4', k4'⟩
    have B4 := Below.on B3 b4'
    have HB4 := hide' (hB4.mono (base' := w.heap.size) B3.size)
    generalize (putNum z3 (vn % 1000000)).length = n4' at *
    clear b4' hB4 H4
    go_wp2
    go_ret
    exact ⟨_, rfl, by rw [HF.out]; exact HB4.out, B4⟩
end Go.Proofs.YteafpgaefphkfaaGreatDoor
