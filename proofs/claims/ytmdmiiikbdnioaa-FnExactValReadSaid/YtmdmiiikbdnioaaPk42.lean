/-
  Texts that a law leans on, one behind the other; no statement is proved here.
-/
import Derived.Test.YtmdmiiikbdnioaaPk39
/-
  l2read of the specification: what is not read, and what has no parts. No statement is proved here.
-/
namespace Go.Proofs.Ytmdmiiikbdnioaa
open Go.RowKit
set_option linter.unusedVariables false
set_option linter.unusedSimpArgs false

/-- The contract of l2read: so many levels may still come. -/
def RsAt (dp : Nat) : Prop := ∀ (xs : List Int) (g : Nat) (a : Option Addr) (cap : Nat) (p q deep : Int) (w : World), RdC 37 xs w g a cap p q → deep = 6 - (dp : Int) → dp ≤ 6 → 0 ≤ q → q ≤ 1000 → Calls Try.prog 12 #[.pointer (some ⟨g, 0, none⟩), .int .i64 deep] w (RdEnd 37 xs g a cap w (dp + 1) (rdV xs dp p q).1 (rdV xs dp p q).2.1 (rdV xs dp p q).2.2)


set_option maxHeartbeats 6400000 in
set_option maxRecDepth 100000 in
theorem l2read_not (dp : Nat) (xs : List Int) (g : Nat) (a : Option Addr) (cap : Nat) (p q deep : Int) (w : World) (h : RdC 37 xs w g a cap p q) (hd : deep = 6 - (dp : Int)) (hdp : dp ≤ 6) (hq0 : 0 ≤ q) (hq1 : q ≤ 1000) (hno : q - 1 < 0 ∨ dp = 0) :
    Calls Try.prog 12 #[.pointer (some ⟨g, 0, none⟩), .int .i64 deep] w (RdEnd 37 xs g a cap w (dp + 1) (rdV xs dp p q).1 (rdV xs dp p q).2.1 (rdV xs dp p q).2.2) := by
  have hr : rdV xs dp p q = (((0 : Int), (0 : Int), ([] : List Int), ([] : List (List Int)), ([] : List (Vl dp))), -1, q - 1) := by
    rcases hno with h1 | rfl
    · exact rdV_many h1
    · exact rdV_zero
  rw [hr]
  clear hr
  have hgl := h.lt
  have HA : Hid (Below w.heap.size w (w.alloc (.cells #[.int .i64 0, .int .i64 0, .slice none 0 0, .slice none 0 0, .slice none 0 0] 26)) ∧ (w.alloc (.cells #[.int .i64 0, .int .i64 0, .slice none 0 0, .slice none 0 0, .slice none 0 0] 26)).heap[w.heap.size]? = some (.cells #[.int .i64 0, .int .i64 0, .slice none 0 0, .slice none 0 0, .slice none 0 0] 26)) := hide' ⟨(Below.refl _ _).alloc (Nat.le_refl _) _, heap_alloc_new w _⟩
  have HZ0 : Hid (w.heap.size < (w.alloc (.cells #[.int .i64 0, .int .i64 0, .slice none 0 0, .slice none 0 0, .slice none 0 0] 26)).heap.size) := hide' (by simp)
  have HC0 := hide' (h.below HA.out.1)
  have HG0 : Hid (w.grownBy (w.alloc (.cells #[.int .i64 0, .int .i64 0, .slice none 0 0, .slice none 0 0, .slice none 0 0] 26)) (some g)) := hide' (World.grownBy_alloc w _ _)
  have HR0 := hide' HA.out.2
  have HWr : Hid (IntKind.i64.wrap (q - 1) = q - 1) := hide' (by simp only [IntKind.wrap, IntKind.bits, IntKind.signed]; simp; omega)
  clear h HA
  subst hd
  go_enter Try.func12, Try.ntmps12
  go_upto_region 1 with fail
  generalize w.alloc (.cells #[.int .i64 0, .int .i64 0, .slice none 0 0, .slice none 0 0, .slice none 0 0] 26) = w0 at *
  obtain ⟨r0, r1, r2, rf⟩ := row3r HC0.out.1
  have f2 := rf 2
  clear rf
  have HC1 := hide' (HC0.out.cnt (q - 1))
  have HG1 := hide' (grownBy_trans HG0.out (grown1 w0 g 2 (.int .i64 (q - 1))))
  have HR1 := hide' (((grown1 w0 g 2 (.int .i64 (q - 1))).block w.heap.size HZ0.out (by simp; omega)).trans HR0.out)
  have HZ1 := hide' (Nat.lt_of_lt_of_le HZ0.out (grown1 w0 g 2 (.int .i64 (q - 1))).size)
  go_upto_region 2 with fail
  clear r0 r1 r2 f2 HC0 HG0 HR0 HZ0
  generalize w0.setCell ⟨g, 2, none⟩ (.int .i64 (q - 1)) = w1 at *
  obtain ⟨r0, r1, r2, rf⟩ := row3r HC1.out.1
  have f1 := rf 1
  clear rf
  have HC2 := hide' (HC1.out.at_ (p' := -1) (Int.le_refl _) (by omega))
  have HG2 := hide' (grownBy_trans HG1.out (grown1 w1 g 1 (.int .i64 (-1))))
  have HR2 := hide' (((grown1 w1 g 1 (.int .i64 (-1))).block w.heap.size HZ1.out (by simp; omega)).trans HR1.out)
  have HZ2 := hide' (Nat.lt_of_lt_of_le HZ1.out (grown1 w1 g 1 (.int .i64 (-1))).size)
  have hq' : q - 1 < 0 ∨ (¬ q - 1 < 0 ∧ (5 : Int) < 6 - (dp : Int)) := by omega
  clear hno
  rcases hq' with hq' | ⟨hq', hdeep⟩
  all_goals
    go_upto_region 4 with fail
    clear r0 r1 r2 f1 HC1 HG1 HR1 HZ1
    generalize w1.setCell ⟨g, 1, none⟩ (.int .i64 (-1)) = w2 at *
    have HL := hide' (spec_l2get_any xs g a cap (-1) (q - 1) w2 HC2.out)
    unfold NumEnd at HL
    rw [getNum_neg xs (-1) (by omega)] at HL
    go_wp2_with fail
    refine HL.out.mono ?_
    rintro e w3 ⟨rfl, hc3, hg3⟩
    go_upto_region 5 with fail
    have HC4 := hide' (hc3.below ((Below.refl _ w3).alloc (Nat.le_refl _) (.cells #[(.int .i64 0), .int .i64 0, .slice none 0 0, .slice none 0 0, .slice none 0 0] 26)))
    have HG4 := hide' (grownBy_trans (grownBy_trans HG2.out hg3) (World.grownBy_alloc w3 (.cells #[(.int .i64 0), .int .i64 0, .slice none 0 0, .slice none 0 0, .slice none 0 0] 26) (some g)))
    have hr3 := (hg3.block w.heap.size HZ2.out (by simp; omega)).trans HR2.out
    have hz3 : w.heap.size < w3.heap.size := (Array.getElem?_eq_some_iff.1 hr3).1
    have HR4 := hide' ((Below.heap_alloc w3 (.cells #[(.int .i64 0), .int .i64 0, .slice none 0 0, .slice none 0 0, .slice none 0 0] 26) _ hz3).trans hr3)
    have HB4 := hide' (heap_alloc_new w3 (.cells #[(.int .i64 0), .int .i64 0, .slice none 0 0, .slice none 0 0, .slice none 0 0] 26))
    have HZ4 : Hid (w.heap.size < (w3.alloc (.cells #[(.int .i64 0), .int .i64 0, .slice none 0 0, .slice none 0 0, .slice none 0 0] 26)).heap.size) := hide' (by simp; omega)
    have HBz : Hid (w3.heap.size < (w3.alloc (.cells #[(.int .i64 0), .int .i64 0, .slice none 0 0, .slice none 0 0, .slice none 0 0] 26)).heap.size) := hide' (by simp)
    have HZ3 := hide' hz3
    have hBg : ¬ w3.heap.size = g := by omega
    have hgB : ¬ g = w3.heap.size := by omega
    have hRle : w.heap.size ≤ w3.heap.size := by omega
    have hgB' : g < w3.heap.size := by omega
    have hBR : ¬ w3.heap.size = w.heap.size := by omega
    have hRB : ¬ w.heap.size = w3.heap.size := by omega
    clear hc3 hg3 hr3 HG2 HR2 HZ2 HC2 HL
    generalize w3.alloc (.cells #[(.int .i64 0), .int .i64 0, .slice none 0 0, .slice none 0 0, .slice none 0 0] 26) = w4 at *
    generalize w3.heap.size = B at *
    obtain ⟨c0, c1, c2, c3, c4, _⟩ := row5 HB4.out
    obtain ⟨o0, o1, o2, o3, o4, of⟩ := row5 HR4.out
    have f0 := of 0
    have f1 := of 1
    have f2 := of 2
    have f3 := of 3
    have f4 := of 4
    clear of
    go_wp2_with fail
    have hfin := row5 (set5_heap (j := 0) (.int .i64 0) (.int .i64 0) (.slice none 0 0) (.slice none 0 0) (.slice none 0 0) (by exact HR4.out : w4.heap[w.heap.size]? = some (.cells #[.int .i64 0, .int .i64 0, .slice none 0 0, .slice none 0 0, .slice none 0 0] 26)))
    simp only [set5, Nat.zero_add] at hfin
    obtain ⟨x0, x1, x2, x3, x4, _⟩ := hfin
    refine bodyPost_ret (v := .agg #[.int .i64 0, .int .i64 0, .slice none 0 0, .slice none 0 0, .slice none 0 0]) (by simp [results, Try.results12, go_sem, x0, x1, x2, x3, x4]) rfl ?_
    exact rd_end HC4.out HG4.out hgl HZ4.out ⟨[], leaf_own _ _ _ _, by simp⟩


set_option maxHeartbeats 12800000 in
set_option maxRecDepth 100000 in
theorem l2read_leaf (dp : Nat) (xs : List Int) (g : Nat) (a : Option Addr) (cap : Nat) (p q deep : Int) (w : World) (h : RdC 37 xs w g a cap p q) (hd : deep = 6 - ((dp + 1 : Nat) : Int)) (hdp : dp + 1 ≤ 6) (hq0 : 1 ≤ q) (hq1 : q ≤ 1000) (hk : (getNum xs p).1 ≠ 4 ∧ (getNum xs p).1 ≠ 5) :
    Calls Try.prog 12 #[.pointer (some ⟨g, 0, none⟩), .int .i64 deep] w (RdEnd 37 xs g a cap w (dp + 1 + 1) (rdV xs (dp + 1) p q).1 (rdV xs (dp + 1) p q).2.1 (rdV xs (dp + 1) p q).2.2) := by
  have hl1 : ¬ q - 1 < 0 := by omega
  have hby := h.2.1.1
  have hgl := h.lt
  have HA : Hid (Below w.heap.size w (w.alloc (.cells #[.int .i64 0, .int .i64 0, .slice none 0 0, .slice none 0 0, .slice none 0 0] 26)) ∧ (w.alloc (.cells #[.int .i64 0, .int .i64 0, .slice none 0 0, .slice none 0 0, .slice none 0 0] 26)).heap[w.heap.size]? = some (.cells #[.int .i64 0, .int .i64 0, .slice none 0 0, .slice none 0 0, .slice none 0 0] 26)) := hide' ⟨(Below.refl _ _).alloc (Nat.le_refl _) _, heap_alloc_new w _⟩
  have HZ0 : Hid (w.heap.size < (w.alloc (.cells #[.int .i64 0, .int .i64 0, .slice none 0 0, .slice none 0 0, .slice none 0 0] 26)).heap.size) := hide' (by simp)
  have HC0 := hide' (h.below HA.out.1)
  have HG0 : Hid (w.grownBy (w.alloc (.cells #[.int .i64 0, .int .i64 0, .slice none 0 0, .slice none 0 0, .slice none 0 0] 26)) (some g)) := hide' (World.grownBy_alloc w _ _)
  have HR0 := hide' HA.out.2
  have HWr : Hid (IntKind.i64.wrap (q - 1) = q - 1) := hide' (by simp only [IntKind.wrap, IntKind.bits, IntKind.signed]; simp; omega)
  clear h HA
  subst hd
  go_enter Try.func12, Try.ntmps12
  go_upto_region 1 with fail
  generalize w.alloc (.cells #[.int .i64 0, .int .i64 0, .slice none 0 0, .slice none 0 0, .slice none 0 0] 26) = w0 at *
  obtain ⟨r0, r1, r2, rf⟩ := row3r HC0.out.1
  have f2 := rf 2
  clear rf
  have HC1 := hide' (HC0.out.cnt (q - 1))
  have HG1 := hide' (grownBy_trans HG0.out (grown1 w0 g 2 (.int .i64 (q - 1))))
  have HR1 := hide' (((grown1 w0 g 2 (.int .i64 (q - 1))).block w.heap.size HZ0.out (by simp; omega)).trans HR0.out)
  have HZ1 := hide' (Nat.lt_of_lt_of_le HZ0.out (grown1 w0 g 2 (.int .i64 (q - 1))).size)
  go_upto_region 2 with fail
  clear r0 r1 r2 f2 HC0 HG0 HR0 HZ0
  generalize w0.setCell ⟨g, 2, none⟩ (.int .i64 (q - 1)) = w1 at *
  obtain ⟨r0, r1, r2, rf⟩ := row3r HC1.out.1
  have f1 := rf 1
  clear rf
  have HL := hide' (spec_l2get_any xs g a cap p (q - 1) w1 HC1.out)
  have hz1 : w.heap.size < w1.heap.size := HZ1.out
  have hdp' : ¬ (5 : Int) < 6 - ((dp + 1 : Nat) : Int) := by omega
  have HG2 := HG1
  have HR2 := HR1
  have HZ2 := HZ1
  have HC2 := HC1
  clear r0 r1 f1
  go_wp2_with fail
  refine HL.out.mono ?_
  rintro e w3 ⟨rfl, hc3, hg3⟩
  have Hr1 : Hid (getNum xs p = ((getNum xs p).1, (getNum xs p).2)) := hide' rfl
  have hn0 := get_at xs p hby
  obtain ⟨hk4, hk5⟩ := hk
  have HV1 : Hid ((getNum xs p).1 = 1 → _) := hide' (fun hk => rdV_bool (dp := dp) (show ¬ q - 1 < 0 by omega) hk)
  have HV2 : Hid ((getNum xs p).1 = 2 → _) := hide' (fun hk => rdV_int (dp := dp) (show ¬ q - 1 < 0 by omega) hk)
  have HV3 : Hid ((getNum xs p).1 = 3 → _) := hide' (fun hk => rdV_text (dp := dp) (show ¬ q - 1 < 0 by omega) hk)
  have HV0 : Hid (_ → _ → _ → _) := hide' (fun h1 h2 h3 => rdV_leaf (dp := dp) (show ¬ q - 1 < 0 by omega) h1 h2 h3 hk4 hk5)
  clear HC1 HG1 HR1 HZ1 r2
  generalize (getNum xs p).1 = n1 at *
  generalize (getNum xs p).2 = p1 at *
  go_upto_region 5 with fail
  have HC4 := hide' (hc3.below ((Below.refl _ w3).alloc (Nat.le_refl _) (.cells #[(.int .i64 n1), .int .i64 0, .slice none 0 0, .slice none 0 0, .slice none 0 0] 26)))
  have HG4 := hide' (grownBy_trans (grownBy_trans HG2.out hg3) (World.grownBy_alloc w3 (.cells #[(.int .i64 n1), .int .i64 0, .slice none 0 0, .slice none 0 0, .slice none 0 0] 26) (some g)))
  have hr3 := (hg3.block w.heap.size HZ2.out (by simp; omega)).trans HR2.out
  have hz3 : w.heap.size < w3.heap.size := (Array.getElem?_eq_some_iff.1 hr3).1
  have HR4 := hide' ((Below.heap_alloc w3 (.cells #[(.int .i64 n1), .int .i64 0, .slice none 0 0, .slice none 0 0, .slice none 0 0] 26) _ hz3).trans hr3)
  have HB4 := hide' (heap_alloc_new w3 (.cells #[(.int .i64 n1), .int .i64 0, .slice none 0 0, .slice none 0 0, .slice none 0 0] 26))
  have HZ4 : Hid (w.heap.size < (w3.alloc (.cells #[(.int .i64 n1), .int .i64 0, .slice none 0 0, .slice none 0 0, .slice none 0 0] 26)).heap.size) := hide' (by simp; omega)
  have HBz : Hid (w3.heap.size < (w3.alloc (.cells #[(.int .i64 n1), .int .i64 0, .slice none 0 0, .slice none 0 0, .slice none 0 0] 26)).heap.size) := hide' (by simp)
  have HZ3 := hide' hz3
  have hBg : ¬ w3.heap.size = g := by omega
  have hgB : ¬ g = w3.heap.size := by omega
  have hRle : w.heap.size ≤ w3.heap.size := by omega
  have hgB' : g < w3.heap.size := by omega
  have hBR : ¬ w3.heap.size = w.heap.size := by omega
  have hRB : ¬ w.heap.size = w3.heap.size := by omega
  clear hc3 hg3 hr3 HG2 HR2 HZ2 HC2 HL
  generalize w3.alloc (.cells #[(.int .i64 n1), .int .i64 0, .slice none 0 0, .slice none 0 0, .slice none 0 0] 26) = w4 at *
  generalize w3.heap.size = B at *
  have k4 : (n1 == 4) = false := by simp [hk4]
  have k5 : (n1 == 5) = false := by simp [hk5]
  obtain ⟨c0, c1, c2, c3, c4, cf⟩ := row5 HB4.out
  obtain ⟨o0, o1, o2, o3, o4, of⟩ := row5 HR4.out
  by_cases k1 : n1 = 1
  · subst k1
    have HV := hide' (HV1.out rfl)
    clear HV0 HV1 HV2 HV3
    have HL4 := hide' (spec_l2get_any xs g a cap p1 (q - 1) w4 HC4.out)
    have cf1 := cf 1
    clear cf of
    have hr2 := get_at xs p1 hby
    go_wp2_with fail
    refine HL4.out.mono ?_
    rintro e w5 ⟨rfl, hc5, hg5⟩
    clear HL4
    generalize (getNum xs p1).1 = n2 at *
    generalize (getNum xs p1).2 = p2 at *
    have HB5 := hide' ((hg5.block B HBz.out (by simp; omega)).trans HB4.out)
    have HR5 := hide' ((hg5.block w.heap.size HZ4.out (by simp; omega)).trans HR4.out)
    have HG5 := hide' (grownBy_trans HG4.out hg5)
    have HZ5 := hide' (Nat.lt_of_lt_of_le HZ4.out hg5.size)
    clear c0 c1 c2 c3 c4 o0 o1 o2 o3 o4
    obtain ⟨c0, c1, c2, c3, c4, cf⟩ := row5 HB5.out
    have cf1 := cf 1
    clear cf
    go_upto_region 24 with fail
    have HC6 := hide' (hc5.keep (w' := w5.setCell ⟨B, 1, none⟩ (.int .i64 n2)) fun b hb => Below.heap_setCell w5 ⟨B, 1, none⟩ _ b (by show b ≠ B; omega))
    have HG6 := hide' (grown_new HG5.out hRle 1 (.int .i64 n2))
    have HB6 : Hid ((w5.setCell ⟨B, 1, none⟩ (.int .i64 n2)).heap[B]? = some (.cells #[(.int .i64 1), (.int .i64 n2), (.slice none 0 0), (.slice none 0 0), (.slice none 0 0)] 26 (0, 0))) := hide' (heap_setCell_same w5 B 1 _ _ _ HB5.out)
    have HR6 := hide' ((Below.heap_setCell w5 ⟨B, 1, none⟩ (.int .i64 n2) w.heap.size (by show w.heap.size ≠ B; exact hRB)).trans HR5.out)
    have HZ6 : Hid (w.heap.size < (w5.setCell ⟨B, 1, none⟩ (.int .i64 n2)).heap.size) := hide' (by simpa [World.setCell] using HZ5.out)
    clear c0 c1 c2 c3 c4 cf1
    generalize w5.setCell ⟨B, 1, none⟩ (.int .i64 n2) = w6 at *
    obtain ⟨c0, c1, c2, c3, c4, cf⟩ := row5 HB6.out
    obtain ⟨o0, o1, o2, o3, o4, of⟩ := row5 HR6.out
    clear cf
    have f0 := of 0
    have f1 := of 1
    have f2 := of 2
    have f3 := of 3
    have f4 := of 4
    clear of
    go_wp2_with fail
    have hfin := row5 (set5_heap (j := 0) (.int .i64 1) (.int .i64 n2) (.slice none 0 0) (.slice none 0 0) (.slice none 0 0) (by exact HR6.out : w6.heap[w.heap.size]? = some (.cells #[.int .i64 0, .int .i64 0, .slice none 0 0, .slice none 0 0, .slice none 0 0] 26)))
    simp only [set5, Nat.zero_add] at hfin
    obtain ⟨x0, x1, x2, x3, x4, _⟩ := hfin
    refine bodyPost_ret (v := .agg #[.int .i64 1, .int .i64 n2, .slice none 0 0, .slice none 0 0, .slice none 0 0]) (by simp [results, Try.results12, go_sem, x0, x1, x2, x3, x4]) rfl ?_
    rw [HV.out]
    exact rd_end HC6.out HG6.out hgl HZ6.out ⟨[], leaf_own _ _ _ _, by simp⟩
  · have k1' : (n1 == 1) = false := by simp [k1]
    by_cases k2 : n1 = 2
    · subst k2
      have HV := hide' (HV2.out rfl)
      clear HV0 HV1 HV2 HV3
      have HL4 := hide' (spec_l2get_any xs g a cap p1 (q - 1) w4 HC4.out)
      clear cf of
      have hr2 := get_at xs p1 hby
      go_wp2_with fail
      refine HL4.out.mono ?_
      rintro e w5 ⟨rfl, hc5, hg5⟩
      clear HL4 c0 c1 c2 c3 c4 o0 o1 o2 o3 o4
      generalize (getNum xs p1).1 = ng at *
      generalize (getNum xs p1).2 = p2 at *
      have HL5 := hide' (spec_l2get_any xs g a cap p2 (q - 1) w5 hc5)
      have hr3 := get_at xs p2 hby
      go_wp2_with fail
      refine HL5.out.mono ?_
      rintro e w6 ⟨rfl, hc6, hg6⟩
      clear HL5
      generalize (getNum xs p2).1 = nA at *
      generalize (getNum xs p2).2 = p3 at *
      have HL6 := hide' (spec_l2get_any xs g a cap p3 (q - 1) w6 hc6)
      have hr4 := get_at xs p3 hby
      have HMu : Hid (IntKind.i64.wrap (nA * 1000000) = nA * 1000000) := hide' (by simp only [IntKind.wrap, IntKind.bits, IntKind.signed]; simp; omega)
      go_wp2_with fail
      refine HL6.out.mono ?_
      rintro e w7 ⟨rfl, hc7, hg7⟩
      clear HL6
      generalize (getNum xs p3).1 = nB at *
      generalize (getNum xs p3).2 = p4 at *
      have HAd : Hid (IntKind.i64.wrap (nA * 1000000 + nB) = nA * 1000000 + nB) := hide' (by simp only [IntKind.wrap, IntKind.bits, IntKind.signed]; simp; omega)
      have HNe : Hid (IntKind.i64.wrap (-(nA * 1000000 + nB)) = -(nA * 1000000 + nB)) := hide' (by simp only [IntKind.wrap, IntKind.bits, IntKind.signed]; simp; omega)
      have hg57 := grownBy_trans (grownBy_trans hg5 hg6) hg7
      have HB7 := hide' ((hg57.block B HBz.out (by simp; omega)).trans HB4.out)
      have HR7 := hide' ((hg57.block w.heap.size HZ4.out (by simp; omega)).trans HR4.out)
      obtain ⟨c0, c1, c2, c3, c4, cf⟩ := row5 HB7.out
      have cf1 := cf 1
      clear cf
      have HG7 := hide' (grownBy_trans HG4.out hg57)
      have HZ7 := hide' (Nat.lt_of_lt_of_le HZ4.out hg57.size)
      go_upto_region 11 with fail
      have HC8 := hide' (hc7.keep (w' := w7.setCell ⟨B, 1, none⟩ (.int .i64 (nA * 1000000 + nB))) fun b hb => Below.heap_setCell w7 ⟨B, 1, none⟩ _ b (by show b ≠ B; omega))
      have HG8 := hide' (grown_new HG7.out hRle 1 (.int .i64 (nA * 1000000 + nB)))
      have HB8 : Hid ((w7.setCell ⟨B, 1, none⟩ (.int .i64 (nA * 1000000 + nB))).heap[B]? = some (.cells #[(.int .i64 2), (.int .i64 (nA * 1000000 + nB)), (.slice none 0 0), (.slice none 0 0), (.slice none 0 0)] 26 (0, 0))) := hide' (heap_setCell_same w7 B 1 _ _ _ HB7.out)
      have HR8 := hide' ((Below.heap_setCell w7 ⟨B, 1, none⟩ (.int .i64 (nA * 1000000 + nB)) w.heap.size (by show w.heap.size ≠ B; exact hRB)).trans HR7.out)
      have HZ8 : Hid (w.heap.size < (w7.setCell ⟨B, 1, none⟩ (.int .i64 (nA * 1000000 + nB))).heap.size) := hide' (by simpa [World.setCell] using HZ7.out)
      clear c0 c1 c2 c3 c4 cf1
      generalize w7.setCell ⟨B, 1, none⟩ (.int .i64 (nA * 1000000 + nB)) = w8 at *
      by_cases hng : ng = 1
      · subst hng
        have d1 := (row5 HB8.out).2.1
        have df1 := (row5 HB8.out).2.2.2.2.2 1
        have hng' : ((1 : Int) == 1) = true := rfl
        have HV := hide' (HV.out.trans (by rw [if_pos rfl]; exact rfl))
        go_upto_region 24 with fail
        have HC9 := hide' (HC8.out.keep (w' := w8.setCell ⟨B, 1, none⟩ (.int .i64 (-(nA * 1000000 + nB)))) fun b hb => Below.heap_setCell w8 ⟨B, 1, none⟩ _ b (by show b ≠ B; omega))
        have HG9 := hide' (grown_new HG8.out hRle 1 (.int .i64 (-(nA * 1000000 + nB))))
        have HB9 : Hid ((w8.setCell ⟨B, 1, none⟩ (.int .i64 (-(nA * 1000000 + nB)))).heap[B]? = some (.cells #[(.int .i64 2), (.int .i64 (-(nA * 1000000 + nB))), (.slice none 0 0), (.slice none 0 0), (.slice none 0 0)] 26 (0, 0))) := hide' (heap_setCell_same w8 B 1 _ _ _ HB8.out)
        have HR9 := hide' ((Below.heap_setCell w8 ⟨B, 1, none⟩ (.int .i64 (-(nA * 1000000 + nB))) w.heap.size (by show w.heap.size ≠ B; exact hRB)).trans HR8.out)
        have HZ9 : Hid (w.heap.size < (w8.setCell ⟨B, 1, none⟩ (.int .i64 (-(nA * 1000000 + nB)))).heap.size) := hide' (by simpa [World.setCell] using HZ8.out)
        clear d1 df1
        generalize w8.setCell ⟨B, 1, none⟩ (.int .i64 (-(nA * 1000000 + nB))) = w9 at *
        obtain ⟨c0, c1, c2, c3, c4, cf⟩ := row5 HB9.out
        obtain ⟨o0, o1, o2, o3, o4, of⟩ := row5 HR9.out
        clear cf
        have f0 := of 0
        have f1 := of 1
        have f2 := of 2
        have f3 := of 3
        have f4 := of 4
        clear of
        go_wp2_with fail
        have hfin := row5 (set5_heap (j := 0) (.int .i64 2) (.int .i64 (-(nA * 1000000 + nB))) (.slice none 0 0) (.slice none 0 0) (.slice none 0 0) (by exact HR9.out : w9.heap[w.heap.size]? = some (.cells #[.int .i64 0, .int .i64 0, .slice none 0 0, .slice none 0 0, .slice none 0 0] 26)))
        simp only [set5, Nat.zero_add] at hfin
        obtain ⟨x0, x1, x2, x3, x4, _⟩ := hfin
        refine bodyPost_ret (v := .agg #[.int .i64 2, .int .i64 (-(nA * 1000000 + nB)), .slice none 0 0, .slice none 0 0, .slice none 0 0]) (by simp [results, Try.results12, go_sem, x0, x1, x2, x3, x4]) rfl ?_
        rw [HV.out]
        exact rd_end HC9.out HG9.out hgl HZ9.out ⟨[], leaf_own _ _ _ _, by simp⟩
      · have hng' : (ng == 1) = false := by simp [hng]
        have HV := hide' (HV.out.trans (by rw [if_neg hng]; exact rfl))
        obtain ⟨c0, c1, c2, c3, c4, cf⟩ := row5 HB8.out
        obtain ⟨o0, o1, o2, o3, o4, of⟩ := row5 HR8.out
        have f0 := of 0
        have f1 := of 1
        have f2 := of 2
        have f3 := of 3
        have f4 := of 4
        clear of
        clear cf
        go_wp2_with fail
        have hfin := row5 (set5_heap (j := 0) (.int .i64 2) (.int .i64 (nA * 1000000 + nB)) (.slice none 0 0) (.slice none 0 0) (.slice none 0 0) (by exact HR8.out : w8.heap[w.heap.size]? = some (.cells #[.int .i64 0, .int .i64 0, .slice none 0 0, .slice none 0 0, .slice none 0 0] 26)))
        simp only [set5, Nat.zero_add] at hfin
        obtain ⟨x0, x1, x2, x3, x4, _⟩ := hfin
        refine bodyPost_ret (v := .agg #[.int .i64 2, .int .i64 (nA * 1000000 + nB), .slice none 0 0, .slice none 0 0, .slice none 0 0]) (by simp [results, Try.results12, go_sem, x0, x1, x2, x3, x4]) rfl ?_
        rw [HV.out]
        exact rd_end HC8.out HG8.out hgl HZ8.out ⟨[], leaf_own _ _ _ _, by simp⟩
    · have k2' : (n1 == 2) = false := by simp [k2]
      by_cases k3 : n1 = 3
      · subst k3
        have HV := hide' (HV3.out rfl)
        clear HV0 HV1 HV2 HV3
        have HL4 := hide' ((spec_l2getText_any xs g a cap p1 (q - 1) w4 HC4.out).mono fun e w' h => h.tok)
        have cf2 := cf 2
        clear cf of
        go_wp2_with fail
        refine HL4.out.mono ?_
        rintro e w5 ⟨ua, un, uc, rfl, ⟨Bt, hTo, hBt, hBn⟩, hc5, hg5⟩
        clear HL4
        generalize (getText xs p1).1 = t1 at *
        generalize (getText xs p1).2 = p2 at *
        have hTo := hide' hTo
        have HB5 := hide' ((hg5.block B HBz.out (by simp; omega)).trans HB4.out)
        have HR5 := hide' ((hg5.block w.heap.size HZ4.out (by simp; omega)).trans HR4.out)
        have HG5 := hide' (grownBy_trans HG4.out hg5)
        have HZ5 := hide' (Nat.lt_of_lt_of_le HZ4.out hg5.size)
        clear c0 c1 c2 c3 c4 o0 o1 o2 o3 o4
        obtain ⟨c0, c1, c2, c3, c4, cf⟩ := row5 HB5.out
        have cf2 := cf 2
        clear cf
        go_upto_region 24 with fail
        have HC6 := hide' (hc5.keep (w' := w5.setCell ⟨B, 2, none⟩ (.slice ua un uc)) fun b hb => Below.heap_setCell w5 ⟨B, 2, none⟩ _ b (by show b ≠ B; omega))
        have HG6 := hide' (grown_new HG5.out hRle 2 (.slice ua un uc))
        have HB6 : Hid ((w5.setCell ⟨B, 2, none⟩ (.slice ua un uc)).heap[B]? = some (.cells #[(.int .i64 3), (.int .i64 0), (.slice ua un uc), (.slice none 0 0), (.slice none 0 0)] 26 (0, 0))) := hide' (heap_setCell_same w5 B 2 _ _ _ HB5.out)
        have HR6 := hide' ((Below.heap_setCell w5 ⟨B, 2, none⟩ (.slice ua un uc) w.heap.size (by show w.heap.size ≠ B; exact hRB)).trans HR5.out)
        have HZ6 : Hid (w.heap.size < (w5.setCell ⟨B, 2, none⟩ (.slice ua un uc)).heap.size) := hide' (by simpa [World.setCell] using HZ5.out)
        have HTo6 := hide' (hTo.out.agree (w' := w5.setCell ⟨B, 2, none⟩ (.slice ua un uc)) fun b hb => Below.heap_setCell w5 ⟨B, 2, none⟩ _ b (by show b ≠ B; have := (hBt b hb).1; have := HBz.out; omega))
        have HBt6 : Hid (∀ b ∈ Bt, w.heap.size < b ∧ b < (w5.setCell ⟨B, 2, none⟩ (.slice ua un uc)).heap.size) := hide' (fun b hb => ⟨by have := (hBt b hb).1; have := HZ4.out; omega, by have := (hBt b hb).2; simpa [World.setCell] using this⟩)
        clear c0 c1 c2 c3 c4 cf2
        generalize w5.setCell ⟨B, 2, none⟩ (.slice ua un uc) = w6 at *
        obtain ⟨c0, c1, c2, c3, c4, cf⟩ := row5 HB6.out
        obtain ⟨o0, o1, o2, o3, o4, of⟩ := row5 HR6.out
        clear cf
        have f0 := of 0
        have f1 := of 1
        have f2 := of 2
        have f3 := of 3
        have f4 := of 4
        clear of
        go_wp2_with fail
        have hfin := row5 (set5_heap (j := 0) (.int .i64 3) (.int .i64 0) (.slice ua un uc) (.slice none 0 0) (.slice none 0 0) (by exact HR6.out : w6.heap[w.heap.size]? = some (.cells #[.int .i64 0, .int .i64 0, .slice none 0 0, .slice none 0 0, .slice none 0 0] 26)))
        simp only [set5, Nat.zero_add] at hfin
        obtain ⟨x0, x1, x2, x3, x4, _⟩ := hfin
        refine bodyPost_ret (v := .agg #[.int .i64 3, .int .i64 0, .slice ua un uc, .slice none 0 0, .slice none 0 0]) (by simp [results, Try.results12, go_sem, x0, x1, x2, x3, x4]) rfl ?_
        rw [HV.out]
        exact rd_end HC6.out HG6.out hgl HZ6.out ⟨Bt, text_own _ HTo6.out hBn _, HBt6.out⟩
      · have k3' : (n1 == 3) = false := by simp [k3]
        have HV := hide' (HV0.out k1 k2 k3)
        clear HV0 HV1 HV2 HV3 cf
        have f0 := of 0
        have f1 := of 1
        have f2 := of 2
        have f3 := of 3
        have f4 := of 4
        clear of
        go_wp2_with fail
        have hfin := row5 (set5_heap (j := 0) (.int .i64 n1) (.int .i64 0) (.slice none 0 0) (.slice none 0 0) (.slice none 0 0) (by exact HR4.out : w4.heap[w.heap.size]? = some (.cells #[.int .i64 0, .int .i64 0, .slice none 0 0, .slice none 0 0, .slice none 0 0] 26)))
        simp only [set5, Nat.zero_add] at hfin
        obtain ⟨x0, x1, x2, x3, x4, _⟩ := hfin
        refine bodyPost_ret (v := .agg #[.int .i64 n1, .int .i64 0, .slice none 0 0, .slice none 0 0, .slice none 0 0]) (by simp [results, Try.results12, go_sem, x0, x1, x2, x3, x4]) rfl ?_
        rw [HV.out]
        exact rd_end HC4.out HG4.out hgl HZ4.out ⟨[], leaf_own _ _ _ _, by simp⟩

end Go.Proofs.Ytmdmiiikbdnioaa
