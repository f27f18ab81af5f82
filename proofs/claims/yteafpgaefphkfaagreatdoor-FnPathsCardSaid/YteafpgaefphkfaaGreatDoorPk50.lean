/-
  Texts that a law leans on, one behind the other; no statement is proved here.
-/
import Derived.Test.YteafpgaefphkfaaGreatDoorPk46
import Derived.Deep.CutBlock
import Derived.Deep.CutRange
import Derived.Deep.RegionLaw
import Derived.Test.YteafpgaefphkfaaGreatDoorPk0
/-
  l2bent of the specification on a heap on which values are drawn. No statement is proved here.
-/
namespace Go.Proofs.YteafpgaefphkfaaGreatDoor
open Go.RowKit
set_option linter.unusedVariables false
set_option linter.unusedSimpArgs false

/-- The block that a pointer leads to. -/
def blkV : Value → Nat
  | .pointer (some x) => x.block
  | _ => 0

theorem PSt.downs {B M ρ : Nat} {rk rkx : Nat → Nat} {w wx : World} {g b off : Nat} {a : Option Addr} {cap : Nat} {cs : List Int} {k n : Int} {a2 : Option Addr} {l2 p2 : Nat} {a3 : Option Addr} {l3 p3 : Nat} {a4 : Option Addr} {l4 p4 : Nat} (h : PSt B M rk ρ w g a cap cs rkx b off wx) (hG : Grp B M rkx (rkx b) wx (.int .i64 k, .int .i64 n, .slice a2 l2 p2, .slice a3 l3 p3, .slice a4 l4 p4)) (h0 : 0 < l4) :
    ∃ c o, a4 = some ⟨c, o, none⟩ ∧ rkx c < rkx b ∧ ∀ j, j < l4 → PSt B M rk ρ w g a cap cs rkx c (o + j * 5) wx := by
  obtain ⟨c, rfl, hr, _⟩ := h.down hG h0
  refine ⟨c, 0, rfl, hr, fun j hj => ?_⟩
  obtain ⟨c', e, _, hP⟩ := h.down hG hj
  simp only [Option.some.injEq, Addr.mk.injEq, and_true] at e
  subst e
  rw [Nat.zero_add]
  exact hP

theorem two_bent {B M ρ : Nat} {rk : Nat → Nat} {w : World} {g : Nat} {a : Option Addr} {cap : Nat} {cs : List Int} {vk vn : Int} {a2 : Option Addr} {l2 p2 : Nat} {a3 : Option Addr} {l3 p3 : Nat} {a4 : Option Addr} {l4 p4 : Nat} (h : Hs B M rk w g a cap cs) (hv : Grp B M rk ρ w (.int .i64 vk, .int .i64 vn, .slice a2 l2 p2, .slice a3 l3 p3, .slice a4 l4 p4)) :
    ∃ rk1, BnS B M rk ρ w g a cap cs rk1 ((w.alloc (.cells #[.int .i64 vk, .int .i64 vn, .slice a2 l2 p2, .slice a3 l3 p3, .slice a4 l4 p4] 29)).alloc (.cells #[.int .i64 0, .int .i64 0, .slice none 0 0, .slice none 0 0, .slice none 0 0] 29)) ∧ (∀ b, 1 ≤ rk1 b) ∧ ((w.alloc (.cells #[.int .i64 vk, .int .i64 vn, .slice a2 l2 p2, .slice a3 l3 p3, .slice a4 l4 p4] 29)).alloc (.cells #[.int .i64 0, .int .i64 0, .slice none 0 0, .slice none 0 0, .slice none 0 0] 29)).heap[w.heap.size]? = some (.cells #[.int .i64 vk, .int .i64 vn, .slice a2 l2 p2, .slice a3 l3 p3, .slice a4 l4 p4] 29) ∧ Grp B M rk1 (ρ + 1) ((w.alloc (.cells #[.int .i64 vk, .int .i64 vn, .slice a2 l2 p2, .slice a3 l3 p3, .slice a4 l4 p4] 29)).alloc (.cells #[.int .i64 0, .int .i64 0, .slice none 0 0, .slice none 0 0, .slice none 0 0] 29)) (.int .i64 vk, .int .i64 vn, .slice a2 l2 p2, .slice a3 l3 p3, .slice a4 l4 p4) := by
  have hU : Hs B M (rkS rk) w g a cap cs := ⟨h.1.up, h.2⟩
  have hH0 := hU.1.alloc_v (ρ + 8) _ _ _ _ _ (hv.up.shp (Shp.refl _) (Rks.refl _ _) (by omega))
  have hH1 := hH0.alloc_v (ρ + 8) (.int .i64 0) (.int .i64 0) (.slice none 0 0) (.slice none 0 0) (.slice none 0 0) (grp_leaf _ _ _ _ _ _ _)
  have hBA : Below w.heap.size w ((w.alloc (.cells #[.int .i64 vk, .int .i64 vn, .slice a2 l2 p2, .slice a3 l3 p3, .slice a4 l4 p4] 29)).alloc (.cells #[.int .i64 0, .int .i64 0, .slice none 0 0, .slice none 0 0, .slice none 0 0] 29)) := ((Below.refl _ w).alloc (Nat.le_refl _) _).alloc (by simp) _
  have hSh : Shp w ((w.alloc (.cells #[.int .i64 vk, .int .i64 vn, .slice a2 l2 p2, .slice a3 l3 p3, .slice a4 l4 p4] 29)).alloc (.cells #[.int .i64 0, .int .i64 0, .slice none 0 0, .slice none 0 0, .slice none 0 0] 29)) := (Shp.alloc _ _).trans (Shp.alloc _ _)
  have hVh : ((w.alloc (.cells #[.int .i64 vk, .int .i64 vn, .slice a2 l2 p2, .slice a3 l3 p3, .slice a4 l4 p4] 29)).alloc (.cells #[.int .i64 0, .int .i64 0, .slice none 0 0, .slice none 0 0, .slice none 0 0] 29)).heap[w.heap.size]? = some (.cells #[.int .i64 vk, .int .i64 vn, .slice a2 l2 p2, .slice a3 l3 p3, .slice a4 l4 p4] 29) := (Below.heap_alloc _ _ _ (by simp)).trans (heap_alloc_new w _)
  have hRh : ((w.alloc (.cells #[.int .i64 vk, .int .i64 vn, .slice a2 l2 p2, .slice a3 l3 p3, .slice a4 l4 p4] 29)).alloc (.cells #[.int .i64 0, .int .i64 0, .slice none 0 0, .slice none 0 0, .slice none 0 0] 29)).heap[w.heap.size + 1]? = some (.cells #[.int .i64 0, .int .i64 0, .slice none 0 0, .slice none 0 0, .slice none 0 0] 29) := by
    have := heap_alloc_new (w.alloc (.cells #[.int .i64 vk, .int .i64 vn, .slice a2 l2 p2, .slice a3 l3 p3, .slice a4 l4 p4] 29)) (.cells #[.int .i64 0, .int .i64 0, .slice none 0 0, .slice none 0 0, .slice none 0 0] 29)
    simpa using this
  have hR : Rks (rkS rk) (rkUp (rkUp (rkS rk) w.heap.size (ρ + 8)) (w.alloc (.cells #[.int .i64 vk, .int .i64 vn, .slice a2 l2 p2, .slice a3 l3 p3, .slice a4 l4 p4] 29)).heap.size (ρ + 8)) w.heap.size := fun b hb => by
    simp only [rkUp, World.size_alloc]
    rw [if_neg (by omega), if_neg (by omega)]
  refine ⟨_, ⟨hU.below hH1 hBA, ⟨_, hVh, rfl⟩, ⟨_, hRh, rfl⟩, hBA.mono h.base, hR, hSh, by simp [rkUp], by simp [rkUp]⟩, fun b => ?_, hVh, hv.up.shp hSh hR (Nat.le_refl _)⟩
  simp only [rkUp, rkS]
  split
  · omega
  · split <;> omega

set_option maxHeartbeats 12800000 in
set_option maxRecDepth 100000 in
theorem l2bent_hs (B M ρ : Nat) (rk : Nat → Nat) (g : Nat) (a : Option Addr) (cap : Nat) (cs : List Int) (vk vn : Int) (a2 : Option Addr) (l2 p2 : Nat) (a3 : Option Addr) (l3 p3 : Nat) (a4 : Option Addr) (l4 p4 : Nat) (w : World) (h : Hs B M rk w g a cap cs) (hv : Grp B M rk ρ w (.int .i64 vk, .int .i64 vn, .slice a2 l2 p2, .slice a3 l3 p3, .slice a4 l4 p4)) (hM1 : 64 ≤ M) (hM2 : M ≤ 100000) :
    Calls Tryz.prog 19 #[.pointer (some ⟨g, 0, none⟩), .agg #[.int .i64 vk, .int .i64 vn, .slice a2 l2 p2, .slice a3 l3 p3, .slice a4 l4 p4]] w (BentEnd B M rk ρ g a cap cs w) := by
  have hgl := h.lt
  have hBw := h.base
  obtain ⟨rk1, hB0, h1r, hV0, hG0⟩ := two_bent h hv
  have HB0 := hide' hB0
  have H1r := hide' h1r
  have HV0 := hide' (And.intro hV0 hG0)
  have HO := hide' (l1Once_hs hB0.1 7 (by omega))
  clear h hv hB0 h1r hV0 hG0
  go_enter Tryz.func19, Tryz.ntmps19
  go_wp2_with fail
  refine HO.out.mono ?_
  rintro e w2 ⟨bo, rfl, hd2, hc2, hs2⟩
  have HB := hide' (HB0.out.cus hd2 hc2)
  have HV : Hid (w2.heap[w.heap.size]? = some (.cells #[.int .i64 vk, .int .i64 vn, .slice a2 l2 p2, .slice a3 l3 p3, .slice a4 l4 p4] 29) ∧ Grp B M rk1 (ρ + 1) w2 (.int .i64 vk, .int .i64 vn, .slice a2 l2 p2, .slice a3 l3 p3, .slice a4 l4 p4)) := hide' ⟨(hc2.1.block w.heap.size (by simp; omega) (by simp; omega)).trans HV0.out.1, HV0.out.2.shp hs2 (Rks.refl _ _) (Nat.le_refl _)⟩
  clear HO HB0 HV0 hd2 hc2 hs2
  cases bo
  · obtain ⟨yk, yn, s2, q2, t2, s3, q3, t3, s4, q4, t4, hVz, hGz⟩ := HB.out.2.1.form HB.out.1.1 hBw
    obtain ⟨zk, zn, u2, m2, o2, u3, m3, o3, u4, m4, o4, hRz, _⟩ := HB.out.2.2.1.form HB.out.1.1 (by omega)
    obtain ⟨v0, v1, v2, v3, v4, _⟩ := row5 hVz
    obtain ⟨r0, r1, r2, r3, r4, rf⟩ := row5 hRz
    have f0 := rf 0
    have f1 := rf 1
    have f2 := rf 2
    have f3 := rf 3
    have f4 := rf 4
    have HVz := hide' hVz
    have HGz := hide' hGz
    have HRz := hide' hRz
    clear rf hVz hGz hRz
    go_wp2_with fail
    have hfin := row5 (set5_heap (j := 0) (.int .i64 yk) (.int .i64 yn) (.slice s2 q2 t2) (.slice s3 q3 t3) (.slice s4 q4 t4) HRz.out)
    simp only [set5, Nat.zero_add] at hfin
    obtain ⟨y0, y1, y2, y3, y4, _⟩ := hfin
    refine bodyPost_ret (v := .agg #[.int .i64 yk, .int .i64 yn, .slice s2 q2 t2, .slice s3 q3 t3, .slice s4 q4 t4]) (by simp [results, Tryz.results19, go_sem, y0, y1, y2, y3, y4]) rfl ?_
    exact bent_end HB.out hBw HVz.out HGz.out HRz.out
  · go_upto_block 0 with fail
    go_cut [5] from 11 to 32 (fun s5 wx => ∃ b off : Nat, s5 = .pointer (some ⟨b, off, none⟩) ∧ Hid (PSt B M rk ρ w g a cap cs rk1 b off wx) ∧ Hid (wx.heap[w.heap.size]? = some (.cells #[.int .i64 vk, .int .i64 vn, .slice a2 l2 p2, .slice a3 l3 p3, .slice a4 l4 p4] 29) ∧ Grp B M rk1 (ρ + 1) wx (.int .i64 vk, .int .i64 vn, .slice a2 l2 p2, .slice a3 l3 p3, .slice a4 l4 p4)))
    case first =>
      go_wp2_with fail
      go_loopw [5] (fun s5 wr => ∃ b off : Nat, s5 = .pointer (some ⟨b, off, none⟩) ∧ Hid (PSt B M rk ρ w g a cap cs rk1 b off wr) ∧ Hid (wr.heap[w.heap.size]? = some (.cells #[.int .i64 vk, .int .i64 vn, .slice a2 l2 p2, .slice a3 l3 p3, .slice a4 l4 p4] 29) ∧ Grp B M rk1 (ρ + 1) wr (.int .i64 vk, .int .i64 vn, .slice a2 l2 p2, .slice a3 l3 p3, .slice a4 l4 p4))) (fun s5 _ => rk1 (blkV s5))
      case atStart => exact ⟨w.heap.size, 0, rfl, hide' ⟨HB.out, hBw, 0, _, rfl, HV.out.1, by simp⟩, HV⟩
      case round =>
        obtain ⟨b, off, rfl, hP, hVr⟩ := hrel
        obtain ⟨xk, xn, s2, q2, t2, s3, q3, t3, s4, q4, t4, ⟨x0, x1, x2, x3, x4⟩, hG, hf⟩ := hP.out.cells
        have HG := hide' hG
        have HO2 := hide' (l1Once_hs hP.out.1.1 2 (by omega))
        clear hG hf
        by_cases hq : q4 = 0
        · subst hq
          go_wp2
          go_meet
          exact ⟨_, _, rfl, hP, hVr⟩
        · have hq' : (0 : Int) < (q4 : Int) := by omega
          go_wp2_with fail
          refine HO2.out.mono ?_
          rintro e w3 ⟨bo, rfl, hd3, hc3, hs3⟩
          have hP3 := hide' (hP.out.cus hd3 hc3)
          have hbb : b < wr.heap.size ∧ b ≠ g := by obtain ⟨h1, _, _, _, _, h4, _⟩ := hP.out; exact ⟨(Array.getElem?_eq_some_iff.1 h4).1, h1.1.ne_row h4 row3_v⟩
          have hVl := (Array.getElem?_eq_some_iff.1 hVr.out.1).1
          have hV3 : Hid (w3.heap[w.heap.size]? = some (.cells #[.int .i64 vk, .int .i64 vn, .slice a2 l2 p2, .slice a3 l3 p3, .slice a4 l4 p4] 29) ∧ Grp B M rk1 (ρ + 1) w3 (.int .i64 vk, .int .i64 vn, .slice a2 l2 p2, .slice a3 l3 p3, .slice a4 l4 p4)) := hide' ⟨(hc3.1.block w.heap.size hVl (by simp; omega)).trans hVr.out.1, hVr.out.2.shp hs3 (Rks.refl _ _) (Nat.le_refl _)⟩
          cases bo
          · go_wp2
            go_meet
            exact ⟨_, _, rfl, hP3, hV3⟩
          · obtain ⟨c, o, rfl, hrc, hdn⟩ := hP3.out.downs (HG.out.shp hs3 (Rks.refl _ _) (Nat.le_refl _)) (by omega)
            have x4' : w3.cell? ⟨b, off + 4, none⟩ = some (.slice (some ⟨c, o, none⟩) q4 t4) := (World.cell?_of_block (hc3.1.block b hbb.1 (by simpa using hbb.2))).trans x4
            have hq4M : q4 ≤ 100001 := by obtain ⟨_, _, _, e, h1, _⟩ := HG.out.2.2.2.2; simp only [Value.slice.injEq] at e; omega
            have HDn := hide' hdn
            have hbl3 : b < w3.heap.size := by have := hc3.2; omega
            have HD3 := hide' hd3
            have HVl3 : Hid (w.heap.size < w3.heap.size) := hide' (by have := hc3.2; omega)
            have Hbb := hide' hbb
            clear x0 x1 x2 x3 x4 hdn hc3 hs3 hd3 hP HO2 hVr HG hVl hbb
            go_wp2_with fail
            go_region_law (first | (go_simp; go_at_call 18; refine (l1Below_hs (by exact HD3.out.heap rfl) (q4 : Int) (by omega)).mono ?_; rintro e w5 ⟨x, rfl, hj0, hj1, hj2, hd5, hc5, hs5⟩; obtain ⟨j, rfl⟩ : ∃ j : Nat, x = j := ⟨x.toNat, by omega⟩; have hj : j < q4 := (by have := hj1 (by omega); omega); have hjI : (j : Int) < (q4 : Int) := (by omega); have hj0' : (0 : Int) ≤ (j : Int) := (by omega); have x5 : w5.cell? ⟨b, off + 4, none⟩ = some (.slice (some ⟨c, o, none⟩) q4 t4) := (World.cell?_of_block (hc5.1.block b hbl3 (by simpa using Hbb.out.2))).trans x4'; have hP5 := hide' (((HDn.out j hj).heap (wy := w3.drew) rfl rfl rfl rfl).cus hd5 hc5); have hV5 : Hid (w5.heap[w.heap.size]? = some (.cells #[.int .i64 vk, .int .i64 vn, .slice a2 l2 p2, .slice a3 l3 p3, .slice a4 l4 p4] 29) ∧ Grp B M rk1 (ρ + 1) w5 (.int .i64 vk, .int .i64 vn, .slice a2 l2 p2, .slice a3 l3 p3, .slice a4 l4 p4)) := hide' ⟨(hc5.1.block w.heap.size HVl3.out (by simp; omega)).trans hV3.out.1, (hV3.out.2.shp (Shp.heap (w' := w3.drew) rfl) (Rks.refl _ _) (Nat.le_refl _)).shp hs5 (Rks.refl _ _) (Nat.le_refl _)⟩; clear hj1 hj2 hd5 hc5 hs5 hj0) | fail)
            all_goals (try simp only [Act.put, List.getElem_toArray, List.getElem_cons_zero, List.getElem_cons_succ, List.setIfInBounds_toArray, List.set_cons_zero, List.set_cons_succ])
            all_goals go_roundw
            all_goals first | exact ⟨_, _, rfl, hP5, hV5⟩ | exact ⟨_, _, _, _, _, _, _, _, _, _, _, _, _, _, _, _, _, _, _, _, _, _, _, ⟨_, _, rfl, hP5, hV5⟩, rfl⟩ | (show rk1 (blkV _) < rk1 (blkV _); exact hrc)
    case rest =>
    obtain ⟨b, off, rfl, hP, hVc⟩ := hcut
    clear HB HV
    have H7 := hide' (l1Below_hs hP.out.1.1 7 (by omega))
    go_wp2_with fail
    refine H7.out.mono ?_
    rintro e w4 ⟨k, rfl, hk0, hk7, _, hd4, hc4, hs4⟩
    have hk7' : k < 7 := hk7 (by omega)
    have hVl := (Array.getElem?_eq_some_iff.1 hVc.out.1).1
    have HP := hide' (hP.out.cus hd4 hc4)
    have HV : Hid (w4.heap[w.heap.size]? = some (.cells #[.int .i64 vk, .int .i64 vn, .slice a2 l2 p2, .slice a3 l3 p3, .slice a4 l4 p4] 29) ∧ Grp B M rk1 (ρ + 1) w4 (.int .i64 vk, .int .i64 vn, .slice a2 l2 p2, .slice a3 l3 p3, .slice a4 l4 p4)) := hide' ⟨(hc4.1.block w.heap.size hVl (by simp; omega)).trans hVc.out.1, hVc.out.2.shp hs4 (Rks.refl _ _) (Nat.le_refl _)⟩
    clear H7 hP hVc hd4 hc4 hs4 hk7 hVl
    obtain ⟨xk, xn, s2, q2, t2, s3, q3, t3, s4, q4, t4, ⟨x0, x1, x2, x3, x4⟩, hG, hf⟩ := HP.out.cells
    have HG := hide' hG
    have fz0 := hf off
    have fz1 := hf (off + 1)
    have fz2 := hf (off + 2)
    have fz3 := hf (off + 3)
    have fz4 := hf (off + 4)
    clear hG hf
    go_upto_block 2 with fail
    go_cut [6] from 40 to 101 (fun s6 wx => ∃ rk2, Hid (BnS B (M + 1) rk ρ w g a cap cs rk2 wx))
    case first =>
      obtain rfl | rfl | rfl | rfl | rfl | rfl | rfl : k = 0 ∨ k = 1 ∨ k = 2 ∨ k = 3 ∨ k = 4 ∨ k = 5 ∨ k = 6 := by omega
      · have H9 := hide' (l1Below_hs HP.out.1.1 9 (by omega))
        go_wp2_with fail
        refine H9.out.mono ?_
        rintro e w5 ⟨z, rfl, hz0, hz9, _, hd5, hc5, _⟩
        have hz9' : z < 9 := hz9 (by omega)
        have HP5 := hide' (HP.out.cus hd5 hc5)
        clear H9 hd5 hc5 hz9 x0 x1 x2 x3 x4 fz0 fz1 fz2 fz3 fz4
        obtain ⟨yk, yn, e2, d2, o2, e3, d3, o3, e4, d4, o4, ⟨y0, y1, y2, y3, y4⟩, _, hf5⟩ := HP5.out.cells
        have g0 := hf5 off
        have g1 := hf5 (off + 1)
        clear hf5
        go_wp2
        go_meet
        exact ⟨_, hide' ((HP5.out.set_int (f := 0) rfl (by omega)).more (Nat.le_succ M))⟩
      · have hA := HP.out.alloc (.cells #[.int .i64 2, .int .i64 (-1), .int .i64 1000000000001, .int .i64 (-1000000000001), .int .i64 (-9223372036854775808)] 3) (Rks.refl _ _) (HP.out.1.1.1.alloc_other _ 3 (0, 0) (by decide))
        have hgl4 := HP.out.1.1.lt
        have HC : Hid (∀ k, k < 5 → ∃ y : Int, (w4.alloc (.cells #[.int .i64 2, .int .i64 (-1), .int .i64 1000000000001, .int .i64 (-1000000000001), .int .i64 (-9223372036854775808)] 3)).cell? ⟨w4.heap.size, k, none⟩ = some (.int .i64 y)) := by
          intro k hk
          rw [cell_of_row _ w4.heap.size k _ 3 (0, 0) (heap_alloc_new w4 _)]
          obtain rfl | rfl | rfl | rfl | rfl : k = 0 ∨ k = 1 ∨ k = 2 ∨ k = 3 ∨ k = 4 := by omega
          all_goals exact ⟨_, rfl⟩
        have H9 := hide' (l1PickInt_hs hA.1.1 w4.heap.size 5 5 (by omega) (by omega) (by omega) (by simp) HC.out)
        have HA := hide' hA
        clear hA HC
        go_wp2_with fail
        refine H9.out.mono ?_
        rintro e w5 ⟨z, rfl, hd5, hc5, _⟩
        have HP5 := hide' (HA.out.cus hd5 hc5)
        clear H9 hd5 hc5 HA x0 x1 x2 x3 x4 fz0 fz1 fz2 fz3 fz4
        obtain ⟨yk, yn, e2, d2, o2, e3, d3, o3, e4, d4, o4, ⟨y0, y1, y2, y3, y4⟩, _, hf5⟩ := HP5.out.cells
        have g0 := hf5 off
        have g1 := hf5 (off + 1)
        clear hf5
        go_wp2
        go_meet
        exact ⟨_, hide' ((HP5.out.set_int (f := 1) rfl (by omega)).more (Nat.le_succ M))⟩
      · go_wp2_with (at_builtin; refine wpList_app_s rfl _ _ rfl HP.out HG.out hM2 (by rfl) (by rfl) ?_; intro g' cp' wb hu hfu hB; obtain ⟨u, hu⟩ := hu; replace hB := hide' hB)
        go_meet
        exact ⟨_, hB⟩
      · have hconv := conv_same_hw #[.int .u8 97] 1 rfl w4
        go_wp2_with (at_builtin; refine wpList_app_k rfl _ _ rfl HP.out HG.out hM1 hM2 (by rfl) (by rfl) ?_; intro g' cp' wb hu hfu hB; obtain ⟨u, hu⟩ := hu; replace hB := hide' hB)
        go_meet
        exact ⟨_, hB⟩
      · have x4a : ∀ o, (w4.alloc o).cell? ⟨b, off + 4, none⟩ = some (.slice s4 q4 t4) := fun o => (World.cell?_of_block (Below.heap_alloc w4 o b (World.block_lt_of_cell? w4 _ x4))).trans x4
        have hqi : (q4 : Int) < (q4 : Int) + 1 := by omega
        have hq0 : (0 : Int) ≤ (q4 : Int) := by omega
        have hq9 : q4 ≤ 100001 := by obtain ⟨_, _, _, e, h1, _⟩ := HG.out.2.2.2.2; simp only [Value.slice.injEq] at e; omega
        have hqw : IntKind.i64.wrap (q4 : Int) = (q4 : Int) := by rw [IntKind.wrap_i64]; omega
        go_wp2_with fail
        refine wp_region_held_drew (S := fun _ => True) (by kernel_rfl) trivial (fun hHeld => ?_)
        refine take_yes (i := 0) 82 (v := ?_) rfl rfl (by kernel_rfl) (by kernel_rfl) (by kernel_rfl) (fun _ _ _ h => h) (by kernel_rfl) hHeld ?_ ?_
        rotate_left
        focus (intro w hSw; (try dsimp only at hSw); go_simp; (try with_reducible rfl))
        simp only [Act.put, List.setIfInBounds_toArray, List.set_cons_zero, List.set_cons_succ]
        refine take_yes (i := 1) 83 (v := ?_) rfl rfl (by kernel_rfl) (by kernel_rfl) (by kernel_rfl) (fun _ _ _ h => h) (by kernel_rfl) hHeld ?_ ?_
        rotate_left
        focus (intro w hSw; (try dsimp only at hSw); go_simp; (try with_reducible rfl))
        simp only [Act.put, List.setIfInBounds_toArray, List.set_cons_zero, List.set_cons_succ]
        refine take_yes (i := 2) 84 (v := ?_) rfl rfl (by kernel_rfl) (by kernel_rfl) (by kernel_rfl) (fun _ _ _ h => h) (by kernel_rfl) hHeld ?_ ?_
        rotate_left
        focus (intro w hSw; (try dsimp only at hSw); go_simp; (try with_reducible rfl))
        simp only [Act.put, List.setIfInBounds_toArray, List.set_cons_zero, List.set_cons_succ]
        refine take_yes (i := 4) 86 (v := ?_) rfl rfl (by kernel_rfl) (by kernel_rfl) (by kernel_rfl) (fun _ _ _ h => h) (by kernel_rfl) hHeld ?_ ?_
        rotate_left
        focus (intro w hSw; (try dsimp only at hSw); go_simp; (try with_reducible rfl))
        simp only [Act.put, List.setIfInBounds_toArray, List.set_cons_zero, List.set_cons_succ]
        refine wpAnyH_ready (rs := [3, 6]) (by kernel_rfl) (by simp) ?_
        refine AllReadyH.cons rfl (fun K hK => ?_) (AllReadyH.cons rfl (fun K hK => ?_) AllReadyH.nil)
        focus
          go_simp
          refine hK.out _ _ trivial (fun hHeld => ?_)
          clear hK
          (try simp only [Act.put, List.setIfInBounds_toArray, List.set_cons_zero, List.set_cons_succ])
          refine take_yes (i := 5) 87 (v := ?_) rfl rfl (by kernel_rfl) (by kernel_rfl) (by kernel_rfl) (fun _ _ _ h => h) (by kernel_rfl) hHeld ?_ ?_
          rotate_left
          focus (intro w hSw; (try dsimp only at hSw); go_simp; (try with_reducible rfl))
          simp only [Act.put, List.setIfInBounds_toArray, List.set_cons_zero, List.set_cons_succ]
          refine wpAnyH_ready (rs := [6]) (by kernel_rfl) (by simp) ?_
          refine AllReadyH.cons rfl (fun K hK => ?_) AllReadyH.nil
          go_simp
          refine hK.out _ _ trivial (fun hHeld => ?_)
          clear hK
          (try simp only [Act.put, List.setIfInBounds_toArray, List.set_cons_zero, List.set_cons_succ])
        rotate_left
        focus
          go_simp
          refine hK.out _ _ trivial (fun hHeld => ?_)
          clear hK
          (try simp only [Act.put, List.setIfInBounds_toArray, List.set_cons_zero, List.set_cons_succ])
          refine wpAnyH_ready (rs := [3]) (by kernel_rfl) (by simp) ?_
          refine AllReadyH.cons rfl (fun K hK => ?_) AllReadyH.nil
          go_simp
          refine hK.out _ _ trivial (fun hHeld => ?_)
          clear hK
          (try simp only [Act.put, List.setIfInBounds_toArray, List.set_cons_zero, List.set_cons_succ])
          refine take_yes (i := 5) 87 (v := ?_) rfl rfl (by kernel_rfl) (by kernel_rfl) (by kernel_rfl) (fun _ _ _ h => h) (by kernel_rfl) hHeld ?_ ?_
          rotate_left
          focus (intro w hSw; (try dsimp only at hSw); go_simp; (try with_reducible rfl))
          simp only [Act.put, List.setIfInBounds_toArray, List.set_cons_zero, List.set_cons_succ]
        rotate_left
        focus
          refine wpAnyH_ready (rs := [7]) (by kernel_rfl) (by simp) ?_
          refine AllReadyH.cons rfl (fun K hK => ?_) AllReadyH.nil
          refine step_app_v (by rfl) _ _ (by rfl) HP.out HG.out (H1r.out b) hM2 (by rfl) (by rfl) ⟨rfl, rfl, rfl, rfl⟩ ?_
          intro g' cp' wb hA
          obtain ⟨⟨rkA, hA1⟩, ⟨rkB, hB1⟩, hne, hcl, hfz, ⟨u4, hu4⟩, hfb⟩ := hA.both
          obtain ⟨c0, hc0⟩ := hcl 0 (by omega)
          obtain ⟨c1, hc1⟩ := hcl 1 (by omega)
          obtain ⟨c2, hc2⟩ := hcl 2 (by omega)
          obtain ⟨c3, hc3⟩ := hcl 3 (by omega)
          obtain ⟨c4, hc4⟩ := hcl 4 (by omega)
          have hne' := Ne.symm hne
          simp only [Nat.add_zero] at hc0
          simp only [set5] at hA1 hB1
          replace hA1 := hide' hA1
          replace hB1 := hide' hB1
          clear hA hcl x0 x1 x2 x3 x4 x4a
          show K (Act.put _ (some 89) _) wb
          refine hK.out _ _ trivial (fun hHeld => ?_)
          clear hK
          (try simp only [Act.put, List.setIfInBounds_toArray, List.set_cons_zero, List.set_cons_succ])
          refine take_yes (i := 8) 90 (v := ?_) rfl rfl (by kernel_rfl) (by kernel_rfl) (by kernel_rfl) (fun _ _ _ h => h) (by kernel_rfl) hHeld ?_ ?_
          rotate_left
          focus (intro w hSw; (try dsimp only at hSw); go_simp; (try with_reducible rfl))
          simp only [Act.put, List.setIfInBounds_toArray, List.set_cons_zero, List.set_cons_succ]
          refine take_yes (i := 10) 91 (v := ?_) rfl rfl (by kernel_rfl) (by kernel_rfl) (by kernel_rfl) (fun _ _ _ h => h) (by kernel_rfl) hHeld ?_ ?_
          rotate_left
          focus (intro w hSw; (try dsimp only at hSw); go_simp; (try with_reducible rfl))
          simp only [Act.put, List.setIfInBounds_toArray, List.set_cons_zero, List.set_cons_succ]
          refine take_yes (i := 11) 92 (v := ?_) rfl rfl (by kernel_rfl) (by kernel_rfl) (by kernel_rfl) (fun _ _ _ h => h) (by kernel_rfl) hHeld ?_ ?_
          rotate_left
          focus (intro w hSw; (try dsimp only at hSw); go_simp; (try with_reducible rfl))
          simp only [Act.put, List.setIfInBounds_toArray, List.set_cons_zero, List.set_cons_succ]
          refine wpAnyH_ready (rs := [9, 12]) (by kernel_rfl) (by simp) ?_
          refine AllReadyH.cons rfl (fun K hK => ?_) (AllReadyH.cons rfl (fun K hK => ?_) AllReadyH.nil)
          focus
            go_simp
            refine hK.out _ _ trivial (fun hHeld => ?_)
            clear hK
            (try simp only [Act.put, List.setIfInBounds_toArray, List.set_cons_zero, List.set_cons_succ])
            refine wpAnyH_ready (rs := [12]) (by kernel_rfl) (by simp) ?_
            refine AllReadyH.cons rfl (fun K hK => ?_) AllReadyH.nil
            go_simp
            refine hK.out _ _ trivial (fun hHeld => ?_)
            clear hK
            (try simp only [Act.put, List.setIfInBounds_toArray, List.set_cons_zero, List.set_cons_succ])
          rotate_left
          focus
            go_simp
            refine hK.out _ _ trivial (fun hHeld => ?_)
            clear hK
            (try simp only [Act.put, List.setIfInBounds_toArray, List.set_cons_zero, List.set_cons_succ])
            refine wpAnyH_ready (rs := [9]) (by kernel_rfl) (by simp) ?_
            refine AllReadyH.cons rfl (fun K hK => ?_) AllReadyH.nil
            go_simp
            refine hK.out _ _ trivial (fun hHeld => ?_)
            clear hK
            (try simp only [Act.put, List.setIfInBounds_toArray, List.set_cons_zero, List.set_cons_succ])
          rotate_left
          all_goals (refine wpAnyH_done (by kernel_rfl) ?_ _)
          all_goals (go_wp2_with fail; go_meet; first | (refine ⟨rkA, ?_⟩; with_reducible exact hA1) | (refine ⟨rkB, ?_⟩; with_reducible exact hB1))
        refine wpAnyH_ready (rs := [7]) (by kernel_rfl) (by simp) ?_
        refine AllReadyH.cons rfl (fun K hK => ?_) AllReadyH.nil
        refine step_app_v (by rfl) _ _ (by rfl) HP.out HG.out (H1r.out b) hM2 (by rfl) (by rfl) ⟨rfl, rfl, rfl, rfl⟩ ?_
        intro g' cp' wb hA
        obtain ⟨⟨rkA, hA1⟩, ⟨rkB, hB1⟩, hne, hcl, hfz, ⟨u4, hu4⟩, hfb⟩ := hA.both
        obtain ⟨c0, hc0⟩ := hcl 0 (by omega)
        obtain ⟨c1, hc1⟩ := hcl 1 (by omega)
        obtain ⟨c2, hc2⟩ := hcl 2 (by omega)
        obtain ⟨c3, hc3⟩ := hcl 3 (by omega)
        obtain ⟨c4, hc4⟩ := hcl 4 (by omega)
        have hne' := Ne.symm hne
        simp only [Nat.add_zero] at hc0
        simp only [set5] at hA1 hB1
        replace hA1 := hide' hA1
        replace hB1 := hide' hB1
        clear hA hcl x0 x1 x2 x3 x4 x4a
        show K (Act.put _ (some 89) _) wb
        refine hK.out _ _ trivial (fun hHeld => ?_)
        clear hK
        (try simp only [Act.put, List.setIfInBounds_toArray, List.set_cons_zero, List.set_cons_succ])
        refine take_yes (i := 8) 90 (v := ?_) rfl rfl (by kernel_rfl) (by kernel_rfl) (by kernel_rfl) (fun _ _ _ h => h) (by kernel_rfl) hHeld ?_ ?_
        rotate_left
        focus (intro w hSw; (try dsimp only at hSw); go_simp; (try with_reducible rfl))
        simp only [Act.put, List.setIfInBounds_toArray, List.set_cons_zero, List.set_cons_succ]
        refine take_yes (i := 10) 91 (v := ?_) rfl rfl (by kernel_rfl) (by kernel_rfl) (by kernel_rfl) (fun _ _ _ h => h) (by kernel_rfl) hHeld ?_ ?_
        rotate_left
        focus (intro w hSw; (try dsimp only at hSw); go_simp; (try with_reducible rfl))
        simp only [Act.put, List.setIfInBounds_toArray, List.set_cons_zero, List.set_cons_succ]
        refine take_yes (i := 11) 92 (v := ?_) rfl rfl (by kernel_rfl) (by kernel_rfl) (by kernel_rfl) (fun _ _ _ h => h) (by kernel_rfl) hHeld ?_ ?_
        rotate_left
        focus (intro w hSw; (try dsimp only at hSw); go_simp; (try with_reducible rfl))
        simp only [Act.put, List.setIfInBounds_toArray, List.set_cons_zero, List.set_cons_succ]
        refine wpAnyH_ready (rs := [9, 12]) (by kernel_rfl) (by simp) ?_
        refine AllReadyH.cons rfl (fun K hK => ?_) (AllReadyH.cons rfl (fun K hK => ?_) AllReadyH.nil)
        focus
          go_simp
          refine hK.out _ _ trivial (fun hHeld => ?_)
          clear hK
          (try simp only [Act.put, List.setIfInBounds_toArray, List.set_cons_zero, List.set_cons_succ])
          refine wpAnyH_ready (rs := [12]) (by kernel_rfl) (by simp) ?_
          refine AllReadyH.cons rfl (fun K hK => ?_) AllReadyH.nil
          go_simp
          refine hK.out _ _ trivial (fun hHeld => ?_)
          clear hK
          (try simp only [Act.put, List.setIfInBounds_toArray, List.set_cons_zero, List.set_cons_succ])
        rotate_left
        focus
          go_simp
          refine hK.out _ _ trivial (fun hHeld => ?_)
          clear hK
          (try simp only [Act.put, List.setIfInBounds_toArray, List.set_cons_zero, List.set_cons_succ])
          refine wpAnyH_ready (rs := [9]) (by kernel_rfl) (by simp) ?_
          refine AllReadyH.cons rfl (fun K hK => ?_) AllReadyH.nil
          go_simp
          refine hK.out _ _ trivial (fun hHeld => ?_)
          clear hK
          (try simp only [Act.put, List.setIfInBounds_toArray, List.set_cons_zero, List.set_cons_succ])
        rotate_left
        all_goals (refine wpAnyH_done (by kernel_rfl) ?_ _)
        all_goals (go_wp2_with fail; go_meet; first | (refine ⟨rkA, ?_⟩; with_reducible exact hA1) | (refine ⟨rkB, ?_⟩; with_reducible exact hB1))
      · go_wp2_with fail
        go_loopw [6] (fun s6 wr => ∃ (j : Nat) (rkr : Nat → Nat) (yk yn : Int) (e2 : Option Addr) (d2 o2 : Nat) (e3 : Option Addr) (d3 o3 : Nat) (e4 : Option Addr) (d4 o4 : Nat), j ≤ 6 ∧ s6 = .int .i64 j ∧ Hid (BnS B M rk ρ w g a cap cs rkr wr) ∧ Hid (wr.heap[w.heap.size]? = some (.cells #[.int .i64 yk, .int .i64 yn, .slice e2 d2 o2, .slice e3 d3 o3, .slice e4 d4 o4] 29 (0, 0)) ∧ Grp B M rkr (ρ + 1 + j) wr (.int .i64 yk, .int .i64 yn, .slice e2 d2 o2, .slice e3 d3 o3, .slice e4 d4 o4))) (fun s6 _ => 6 - (intOf s6).toNat)
        case atStart => exact ⟨0, rk1, _, _, _, _, _, _, _, _, _, _, _, by omega, rfl, hide' HP.out.1, HV⟩
        case round =>
          obtain ⟨j, rkr, yk, yn, e2, d2, o2, e3, d3, o3, e4, d4, o4, hj, rfl, hB, hVj⟩ := hrel
          by_cases hlt : j < 6
          · have hlt' : (j : Int) < 6 := by omega
            obtain ⟨rkw, hBw', hGw, hVw⟩ := bst_wrap hB.out hBw hVj.out.1 (by omega) hM1 hVj.out.2
            obtain ⟨z0, z1, z2, z3, z4, _⟩ := row5 hVj.out.1
            obtain ⟨za0, za1, za2, za3, za4, zf⟩ := box_later hVj.out.1
            have hVl := (Array.getElem?_eq_some_iff.1 hVj.out.1).1
            have hne : ¬ wr.heap.size = w.heap.size := by omega
            have hne' : ¬ w.heap.size = wr.heap.size := by omega
            rw [set5_alloc _ _ _ _ _ _ _ _ hVl] at hBw' hVw hGw
            simp only [set5, Nat.zero_add] at hBw' hVw hGw
            have HBw := hide' hBw'
            have HVw := hide' (And.intro hVw hGw)
            clear hBw' hVw hGw hVj hB x0 x1 x2 x3 x4 fz0 fz1 fz2 fz3 fz4
            go_wp2
            go_roundw
            all_goals first | (with_reducible exact ⟨j + 1, rkw, _, _, _, _, _, _, _, _, _, _, _, by omega, by go_num, HBw, HVw⟩) | (simp [intOf]; omega)
          · have hltn : ¬ (j : Int) < 6 := by omega
            go_wp2
            go_meet
            exact ⟨_, hide' (hB.out.more (Nat.le_succ M))⟩
      · have H9 := hide' (l1Below_hs HP.out.1.1 3 (by omega))
        go_wp2_with fail
        refine H9.out.mono ?_
        rintro e w5 ⟨z, rfl, hz0, hz3, _, hd5, hc5, _⟩
        obtain ⟨q, rfl⟩ : ∃ q : Nat, z = q := ⟨z.toNat, by omega⟩
        have hq3 : q < 3 := by have := hz3 (by omega); omega
        obtain ⟨m, hm⟩ : ∃ m : Nat, m = 40 - q := ⟨_, rfl⟩
        have hmI : (40 : Int) - (q : Int) = (m : Int) := by omega
        have hm40 : m ≤ 40 := by omega
        have HP5 := hide' (HP.out.cus hd5 hc5)
        obtain ⟨rkm, hBm⟩ := bst_make (n := m) HP5.out.1 hBw (by omega) (by omega)
        obtain ⟨cV, hV5, hVs⟩ := HP5.out.1.2.1
        obtain ⟨yk, yn, e2, d2, o2, e3, d3, o3, e4, d4, o4, hVz, _⟩ := HP5.out.1.2.1.form HP5.out.1.1.1 hBw
        obtain ⟨z0, z1, z2, z3, z4, _⟩ := row5 hVz
        obtain ⟨za0, za1, za2, za3, za4, zf⟩ := box_later hVz
        have hVl := (Array.getElem?_eq_some_iff.1 hVz).1
        rw [set5_alloc _ _ _ _ _ _ _ _ hVl] at hBm
        simp only [set5, Nat.zero_add] at hBm
        rw [show (Value.cells (.agg #[.int .i64 0, .int .i64 0, .slice none 0 0, .slice none 0 0, .slice none 0 0])) = #[.int .i64 0, .int .i64 0, .slice none 0 0, .slice none 0 0, .slice none 0 0] from rfl] at hBm
        have HBm := hide' (hBm.more (Nat.le_succ M))
        have hne : ¬ w5.heap.size = w.heap.size := by omega
        have hne' : ¬ w.heap.size = w5.heap.size := by omega
        clear hm H9 hd5 hc5 hz3 hBm hV5 hVs hVz x0 x1 x2 x3 x4 fz0 fz1 fz2 fz3 fz4
        go_wp2_with (refine wpList_make_hw rfl _ _ rfl .i64 .i64 _ _ m (by rfl) (by rfl) (by first | exact hmI | omega) (by first | exact hmI | omega) (by omega) ?_)
        go_meet
        exact ⟨_, HBm⟩
    case rest =>
    obtain ⟨rk2, hBf⟩ := hcut
    clear HP HV HG x0 x1 x2 x3 x4 fz0 fz1 fz2 fz3 fz4
    obtain ⟨yk, yn, s2, q2, t2, s3, q3, t3, s4, q4, t4, hVz, hGz⟩ := hBf.out.2.1.form hBf.out.1.1 hBw
    obtain ⟨zk, zn, u2, m2, o2, u3, m3, o3, u4, m4, o4, hRz, _⟩ := hBf.out.2.2.1.form hBf.out.1.1 (by omega)
    obtain ⟨v0, v1, v2, v3, v4, _⟩ := row5 hVz
    obtain ⟨r0, r1, r2, r3, r4, rf⟩ := row5 hRz
    have f0 := rf 0
    have f1 := rf 1
    have f2 := rf 2
    have f3 := rf 3
    have f4 := rf 4
    have HVz := hide' hVz
    have HGz := hide' hGz
    have HRz := hide' hRz
    clear rf hVz hGz hRz
    go_wp2_with fail
    have hfin := row5 (set5_heap (j := 0) (.int .i64 yk) (.int .i64 yn) (.slice s2 q2 t2) (.slice s3 q3 t3) (.slice s4 q4 t4) HRz.out)
    simp only [set5, Nat.zero_add] at hfin
    obtain ⟨y0, y1, y2, y3, y4, _⟩ := hfin
    refine bodyPost_ret (v := .agg #[.int .i64 yk, .int .i64 yn, .slice s2 q2 t2, .slice s3 q3 t3, .slice s4 q4 t4]) (by simp [results, Tryz.results19, go_sem, y0, y1, y2, y3, y4]) rfl ?_
    exact bent_end1 hBf.out hBw HVz.out HGz.out HRz.out
end Go.Proofs.YteafpgaefphkfaaGreatDoor
