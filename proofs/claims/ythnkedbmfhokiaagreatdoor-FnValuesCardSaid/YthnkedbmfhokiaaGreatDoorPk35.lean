/-
  Texts that a law leans on, one behind the other; no statement is proved here.
-/
import Derived.Test.YthnkedbmfhokiaaGreatDoorPk33
/-
  value of the program's reader: a value read from where the reader is. No statement is proved here.
-/
namespace Go.Proofs.YthnkedbmfhokiaaGreatDoor
open Go.RowKit
set_option linter.unusedVariables false
set_option linter.unusedSimpArgs false

/-- The contract of holds. -/
def HolAt (dp : Nat) : Prop := ∀ (xs : List Int) (g B : Nat) (a : Option Addr) (cap : Nat) (p q : Int) (kd : Int) (w : World), RdC 49 xs w g a cap p q → g < B → B < w.heap.size → 1 ≤ q → q ≤ 40 → 40 - q ≤ dp → (kd = 4 ∨ kd = 5) →
    w.heap[B]? = some (.cells #[.int .i64 kd, .int .i64 0, .slice none 0 0, .slice none 0 0, .slice none 0 0] 26 (0, 0)) →
    Calls Tryz.prog 47 #[.pointer (some ⟨g, 0, none⟩), .pointer (some ⟨B, 0, none⟩)] w (HldEnd xs g a cap dp B kd (rdK (fun a l => rdV xs dp a l) xs (decide (kd = 5)) (getNum xs p).1.toNat [] [] (getNum xs p).2 (40 - q)) w)

set_option maxHeartbeats 6400000 in
set_option maxRecDepth 100000 in
theorem value_many (dp : Nat) (xs : List Int) (g : Nat) (a : Option Addr) (cap : Nat) (p q : Int) (w : World) (h : RdC 49 xs w g a cap p q) (hqa : 40 ≤ q) (hqb : q ≤ 40) :
    Calls Tryz.prog 21 #[.pointer (some ⟨g, 0, none⟩)] w (RdEnd 49 xs g a cap w (dp + 1) (rdV xs dp p (40 - q)).1 (rdV xs dp p (40 - q)).2.1 (40 - (rdV xs dp p (40 - q)).2.2)) := by
  have hr := hide' (rdV_many (xs := xs) (dp := dp) (at_ := p) (left := 40 - q) (by omega))
  have hgl := h.lt
  have HA : Hid (Below w.heap.size w (w.alloc (.cells #[.int .i64 0, .int .i64 0, .slice none 0 0, .slice none 0 0, .slice none 0 0] 26)) ∧ (w.alloc (.cells #[.int .i64 0, .int .i64 0, .slice none 0 0, .slice none 0 0, .slice none 0 0] 26)).heap[w.heap.size]? = some (.cells #[.int .i64 0, .int .i64 0, .slice none 0 0, .slice none 0 0, .slice none 0 0] 26)) := hide' ⟨(Below.refl _ _).alloc (Nat.le_refl _) _, heap_alloc_new w _⟩
  have HZ0 : Hid (w.heap.size < (w.alloc (.cells #[.int .i64 0, .int .i64 0, .slice none 0 0, .slice none 0 0, .slice none 0 0] 26)).heap.size) := hide' (by simp)
  have HC0 := hide' (h.below HA.out.1)
  have HG0 : Hid (w.grownBy (w.alloc (.cells #[.int .i64 0, .int .i64 0, .slice none 0 0, .slice none 0 0, .slice none 0 0] 26)) (some g)) := hide' (World.grownBy_alloc w _ _)
  have HR0 := hide' HA.out.2
  have HWr : Hid (IntKind.i64.wrap (q + 1) = q + 1) := hide' (by simp only [IntKind.wrap, IntKind.bits, IntKind.signed]; simp; omega)
  clear h HA
  go_enter Tryz.func21, Tryz.ntmps21
  go_upto_region 1 with fail
  generalize w.alloc (.cells #[.int .i64 0, .int .i64 0, .slice none 0 0, .slice none 0 0, .slice none 0 0] 26) = w0 at *
  obtain ⟨r0, r1, r2, rf⟩ := row3r HC0.out.1
  have f2 := rf 2
  clear rf
  have HC1 := hide' (HC0.out.cnt (q + 1))
  have HG1 := hide' (grownBy_trans HG0.out (grown1 w0 g 2 (.int .i64 (q + 1))))
  have HR1 := hide' (((grown1 w0 g 2 (.int .i64 (q + 1))).block w.heap.size HZ0.out (by simp; omega)).trans HR0.out)
  have HZ1 := hide' (Nat.lt_of_lt_of_le HZ0.out (grown1 w0 g 2 (.int .i64 (q + 1))).size)
  go_upto_region 2 with fail
  clear r0 r1 r2 f2 HC0 HG0 HR0 HZ0
  generalize w0.setCell ⟨g, 2, none⟩ (.int .i64 (q + 1)) = w1 at *
  obtain ⟨r0, r1, r2, rf⟩ := row3r HC1.out.1
  have f1 := rf 1
  clear rf
  have HC2 := hide' (HC1.out.at_ (p' := -1) (Int.le_refl _) (by omega))
  have HG2 := hide' (grownBy_trans HG1.out (grown1 w1 g 1 (.int .i64 (-1))))
  have HR2 := hide' (((grown1 w1 g 1 (.int .i64 (-1))).block w.heap.size HZ1.out (by simp; omega)).trans HR1.out)
  have HZ2 := hide' (Nat.lt_of_lt_of_le HZ1.out (grown1 w1 g 1 (.int .i64 (-1))).size)
  have hq' : (40 : Int) < q + 1 := by omega
  go_upto_region 4 with fail
  clear r0 r1 r2 f1 HC1 HG1 HR1 HZ1
  generalize w1.setCell ⟨g, 1, none⟩ (.int .i64 (-1)) = w2 at *
  obtain ⟨o0, o1, o2, o3, o4, of⟩ := row5 HR2.out
  have f0 := of 0
  have f1 := of 1
  have f2 := of 2
  have f3 := of 3
  have f4 := of 4
  clear of
  go_wp2_with fail
  have hfin := row5 (set5_heap (j := 0) (.int .i64 0) (.int .i64 0) (.slice none 0 0) (.slice none 0 0) (.slice none 0 0) (by exact HR2.out : w2.heap[w.heap.size]? = some (.cells #[.int .i64 0, .int .i64 0, .slice none 0 0, .slice none 0 0, .slice none 0 0] 26)))
  simp only [set5, Nat.zero_add] at hfin
  obtain ⟨x0, x1, x2, x3, x4, _⟩ := hfin
  (try simp only [Exit.inBlock, Exit.then])
  refine bodyPost_ret (v := .agg #[.int .i64 0, .int .i64 0, .slice none 0 0, .slice none 0 0, .slice none 0 0]) (by simp [results, Tryz.results21, go_sem, x0, x1, x2, x3, x4]) rfl ?_
  rw [hr.out, show (40 : Int) - (40 - q - 1) = q + 1 by omega]
  exact rd_end HC2.out HG2.out hgl HZ2.out ⟨[], leaf_own _ _ _ _, by simp⟩

set_option maxHeartbeats 12800000 in
set_option maxRecDepth 100000 in
theorem value_succ (dp : Nat) (hH : HolAt dp) (xs : List Int) (g : Nat) (a : Option Addr) (cap : Nat) (p q : Int) (w : World) (h : RdC 49 xs w g a cap p q) (hq0 : 0 ≤ q) (hq1 : q ≤ 39) (hqd : 40 - q ≤ (dp + 1 : Nat)) :
    Calls Tryz.prog 21 #[.pointer (some ⟨g, 0, none⟩)] w (RdEnd 49 xs g a cap w (dp + 1 + 1) (rdV xs (dp + 1) p (40 - q)).1 (rdV xs (dp + 1) p (40 - q)).2.1 (40 - (rdV xs (dp + 1) p (40 - q)).2.2)) := by
  have hl1 : ¬ 40 - q - 1 < 0 := by omega
  have hby := h.2.1.1
  have HV1 : Hid ((getNum xs p).1 = 1 → _) := hide' (fun hk => rdV_bool (xs := xs) (dp := dp) (at_ := p) hl1 hk)
  have HV2 : Hid ((getNum xs p).1 = 2 → _) := hide' (fun hk => rdV_int (xs := xs) (dp := dp) (at_ := p) hl1 hk)
  have HV3 : Hid ((getNum xs p).1 = 3 → _) := hide' (fun hk => rdV_text (xs := xs) (dp := dp) (at_ := p) hl1 hk)
  have HV4 : Hid ((getNum xs p).1 = 4 ∨ (getNum xs p).1 = 5 → _) := hide' (fun hk => rdV_kids (xs := xs) (dp := dp) (at_ := p) hl1 hk)
  have HV0 : Hid (_ → _ → _ → _ → _ → _) := hide' (fun h1 h2 h3 h4 h5 => rdV_leaf (xs := xs) (dp := dp) (at_ := p) hl1 h1 h2 h3 h4 h5)
  unfold kidsOf at HV4
  rw [show (40 : Int) - q - 1 = 40 - (q + 1) by omega] at HV1 HV2 HV3 HV4 HV0
  have hgl := h.lt
  have HA : Hid (Below w.heap.size w (w.alloc (.cells #[.int .i64 0, .int .i64 0, .slice none 0 0, .slice none 0 0, .slice none 0 0] 26)) ∧ (w.alloc (.cells #[.int .i64 0, .int .i64 0, .slice none 0 0, .slice none 0 0, .slice none 0 0] 26)).heap[w.heap.size]? = some (.cells #[.int .i64 0, .int .i64 0, .slice none 0 0, .slice none 0 0, .slice none 0 0] 26)) := hide' ⟨(Below.refl _ _).alloc (Nat.le_refl _) _, heap_alloc_new w _⟩
  have HZ0 : Hid (w.heap.size < (w.alloc (.cells #[.int .i64 0, .int .i64 0, .slice none 0 0, .slice none 0 0, .slice none 0 0] 26)).heap.size) := hide' (by simp)
  have HC0 := hide' (h.below HA.out.1)
  have HG0 : Hid (w.grownBy (w.alloc (.cells #[.int .i64 0, .int .i64 0, .slice none 0 0, .slice none 0 0, .slice none 0 0] 26)) (some g)) := hide' (World.grownBy_alloc w _ _)
  have HR0 := hide' HA.out.2
  have HWr : Hid (IntKind.i64.wrap (q + 1) = q + 1) := hide' (by simp only [IntKind.wrap, IntKind.bits, IntKind.signed]; simp; omega)
  clear h HA
  go_enter Tryz.func21, Tryz.ntmps21
  go_upto_region 1 with fail
  generalize w.alloc (.cells #[.int .i64 0, .int .i64 0, .slice none 0 0, .slice none 0 0, .slice none 0 0] 26) = w0 at *
  obtain ⟨r0, r1, r2, rf⟩ := row3r HC0.out.1
  have f2 := rf 2
  clear rf
  have HC1 := hide' (HC0.out.cnt (q + 1))
  have HG1 := hide' (grownBy_trans HG0.out (grown1 w0 g 2 (.int .i64 (q + 1))))
  have HR1 := hide' (((grown1 w0 g 2 (.int .i64 (q + 1))).block w.heap.size HZ0.out (by simp; omega)).trans HR0.out)
  have HZ1 := hide' (Nat.lt_of_lt_of_le HZ0.out (grown1 w0 g 2 (.int .i64 (q + 1))).size)
  go_upto_region 2 with fail
  clear r0 r1 r2 f2 HC0 HG0 HR0 HZ0
  generalize w0.setCell ⟨g, 2, none⟩ (.int .i64 (q + 1)) = w1 at *
  obtain ⟨r0, r1, r2, rf⟩ := row3r HC1.out.1
  have f1 := rf 1
  clear rf
  have HL := hide' (reader_num_any xs g a cap p (q + 1) w1 HC1.out)
  unfold NumEnd at HL
  have hz1 : w.heap.size < w1.heap.size := HZ1.out
  have hq' : ¬ (40 : Int) < q + 1 := by omega
  have HG2 := HG1
  have HR2 := HR1
  have HZ2 := HZ1
  have HC2 := HC1
  clear r0 r1 f1
  go_wp2_with fail
  refine HL.out.mono ?_
  rintro e w3 ⟨rfl, hc3, hg3⟩
  have hn0 := get_at xs p hby
  clear HC1 HG1 HR1 HZ1 r2
  generalize (getNum xs p).1 = n1 at *
  generalize (getNum xs p).2 = p1 at *
  go_upto_region 6 with fail
  have HC4 := hide' (hc3.below ((Below.refl _ w3).alloc (Nat.le_refl _) (.cells #[(.int .i64 n1), .int .i64 0, .slice none 0 0, .slice none 0 0, .slice none 0 0] 26)))
  have HG4 := hide' (grownBy_trans (grownBy_trans HG2.out hg3) (World.grownBy_alloc w3 (.cells #[(.int .i64 n1), .int .i64 0, .slice none 0 0, .slice none 0 0, .slice none 0 0] 26) (some g)))
  have hr3 := (hg3.block w.heap.size HZ2.out (by simp; omega)).trans HR2.out
  have hz3 : w.heap.size < w3.heap.size := (Array.getElem?_eq_some_iff.1 hr3).1
  have HR4 := hide' ((Below.heap_alloc w3 (.cells #[(.int .i64 n1), .int .i64 0, .slice none 0 0, .slice none 0 0, .slice none 0 0] 26) _ hz3).trans hr3)
  have HB4 := hide' (heap_alloc_new w3 (.cells #[(.int .i64 n1), .int .i64 0, .slice none 0 0, .slice none 0 0, .slice none 0 0] 26))
  have HZ4 : Hid (w.heap.size < (w3.alloc (.cells #[(.int .i64 n1), .int .i64 0, .slice none 0 0, .slice none 0 0, .slice none 0 0] 26)).heap.size) := hide' (by simp; omega)
  have HBz : Hid (w3.heap.size < (w3.alloc (.cells #[(.int .i64 n1), .int .i64 0, .slice none 0 0, .slice none 0 0, .slice none 0 0] 26)).heap.size) := hide' (by simp)
  have HZ3 := hide' hz3
  have hBg : ¬ w3.heap.size = g := by omega
  have hgB : ¬ g = w3.heap.size := by omega
  have hRle : w.heap.size ≤ w3.heap.size := by omega
  have hgB' : g < w3.heap.size := by omega
  have hBR : ¬ w3.heap.size = w.heap.size := by omega
  have hRB : ¬ w.heap.size = w3.heap.size := by omega
  clear hc3 hg3 hr3 HG2 HR2 HZ2 HC2 HL
  generalize w3.alloc (.cells #[(.int .i64 n1), .int .i64 0, .slice none 0 0, .slice none 0 0, .slice none 0 0] 26) = w4 at *
  generalize w3.heap.size = B at *
  obtain ⟨c0, c1, c2, c3, c4, cf⟩ := row5 HB4.out
  obtain ⟨o0, o1, o2, o3, o4, of⟩ := row5 HR4.out
  have h40 : (40 : Int) - (40 - (q + 1)) = q + 1 := by omega
  by_cases k1 : n1 = 1
  · subst k1
    have HV := hide' (HV1.out rfl)
    clear HV0 HV1 HV2 HV3 HV4
    have HL4 := hide' (reader_num_any xs g a cap p1 (q + 1) w4 HC4.out)
    unfold NumEnd at HL4
    clear cf of
    go_wp2_with fail
    refine HL4.out.mono ?_
    rintro e w5 ⟨rfl, hc5, hg5⟩
    clear HL4
    generalize (getNum xs p1).1 = n2 at *
    generalize (getNum xs p1).2 = p2 at *
    have HB5 := hide' ((hg5.block B HBz.out (by simp; omega)).trans HB4.out)
    have HR5 := hide' ((hg5.block w.heap.size HZ4.out (by simp; omega)).trans HR4.out)
    have HG5 := hide' (grownBy_trans HG4.out hg5)
    have HZ5 := hide' (Nat.lt_of_lt_of_le HZ4.out hg5.size)
    clear c0 c1 c2 c3 c4 o0 o1 o2 o3 o4
    obtain ⟨c0, c1, c2, c3, c4, cf⟩ := row5 HB5.out
    have cf1 := cf 1
    clear cf
    go_upto_region 16 with fail
    have HC6 := hide' (hc5.keep (w' := w5.setCell ⟨B, 1, none⟩ (.int .i64 n2)) fun b hb => Below.heap_setCell w5 ⟨B, 1, none⟩ _ b (by show b ≠ B; omega))
    have HG6 := hide' (grown_new HG5.out hRle 1 (.int .i64 n2))
    have HB6 : Hid ((w5.setCell ⟨B, 1, none⟩ (.int .i64 n2)).heap[B]? = some (.cells #[(.int .i64 1), (.int .i64 n2), (.slice none 0 0), (.slice none 0 0), (.slice none 0 0)] 26 (0, 0))) := hide' (heap_setCell_same w5 B 1 _ _ _ HB5.out)
    have HR6 := hide' ((Below.heap_setCell w5 ⟨B, 1, none⟩ (.int .i64 n2) w.heap.size (by show w.heap.size ≠ B; exact hRB)).trans HR5.out)
    have HZ6 : Hid (w.heap.size < (w5.setCell ⟨B, 1, none⟩ (.int .i64 n2)).heap.size) := hide' (by simpa [World.setCell] using HZ5.out)
    clear c0 c1 c2 c3 c4 cf1
    generalize w5.setCell ⟨B, 1, none⟩ (.int .i64 n2) = w6 at *
    obtain ⟨c0, c1, c2, c3, c4, cf⟩ := row5 HB6.out
    obtain ⟨o0, o1, o2, o3, o4, of⟩ := row5 HR6.out
    clear cf
    have f0 := of 0
    have f1 := of 1
    have f2 := of 2
    have f3 := of 3
    have f4 := of 4
    clear of
    go_wp2_with fail
    have hfin := row5 (set5_heap (j := 0) (.int .i64 1) (.int .i64 n2) (.slice none 0 0) (.slice none 0 0) (.slice none 0 0) (by exact HR6.out : w6.heap[w.heap.size]? = some (.cells #[.int .i64 0, .int .i64 0, .slice none 0 0, .slice none 0 0, .slice none 0 0] 26)))
    simp only [set5, Nat.zero_add] at hfin
    obtain ⟨x0, x1, x2, x3, x4, _⟩ := hfin
    refine bodyPost_ret (v := .agg #[.int .i64 1, .int .i64 n2, .slice none 0 0, .slice none 0 0, .slice none 0 0]) (by simp [results, Tryz.results21, go_sem, x0, x1, x2, x3, x4]) rfl ?_
    rw [HV.out, h40]
    exact rd_end HC6.out HG6.out hgl HZ6.out ⟨[], leaf_own _ _ _ _, by simp⟩
  · have k1' : (n1 == 1) = false := by simp [k1]
    by_cases k2 : n1 = 2
    · subst k2
      have HV := hide' (HV2.out rfl)
      clear HV0 HV1 HV2 HV3 HV4
      have HL4 := hide' (reader_signed_any xs g a cap p1 (q + 1) w4 HC4.out)
      unfold SgnEnd at HL4
      clear cf of
      generalize hnb : (if (getNum xs p1).1 = 1 then -((getNum xs (getNum xs p1).2).1 * 1000000 + (getNum xs (getNum xs (getNum xs p1).2).2).1) else (getNum xs (getNum xs p1).2).1 * 1000000 + (getNum xs (getNum xs (getNum xs p1).2).2).1) = n2 at *
      generalize (getNum xs (getNum xs (getNum xs p1).2).2).2 = p2 at *
      go_wp2_with fail
      refine HL4.out.mono ?_
      rintro e w5 ⟨rfl, hc5, hg5⟩
      clear HL4
      have HB5 := hide' ((hg5.block B HBz.out (by simp; omega)).trans HB4.out)
      have HR5 := hide' ((hg5.block w.heap.size HZ4.out (by simp; omega)).trans HR4.out)
      have HG5 := hide' (grownBy_trans HG4.out hg5)
      have HZ5 := hide' (Nat.lt_of_lt_of_le HZ4.out hg5.size)
      clear c0 c1 c2 c3 c4 o0 o1 o2 o3 o4
      obtain ⟨c0, c1, c2, c3, c4, cf⟩ := row5 HB5.out
      have cf1 := cf 1
      clear cf
      go_upto_region 16 with fail
      have HC6 := hide' (hc5.keep (w' := w5.setCell ⟨B, 1, none⟩ (.int .i64 n2)) fun b hb => Below.heap_setCell w5 ⟨B, 1, none⟩ _ b (by show b ≠ B; omega))
      have HG6 := hide' (grown_new HG5.out hRle 1 (.int .i64 n2))
      have HB6 : Hid ((w5.setCell ⟨B, 1, none⟩ (.int .i64 n2)).heap[B]? = some (.cells #[(.int .i64 2), (.int .i64 n2), (.slice none 0 0), (.slice none 0 0), (.slice none 0 0)] 26 (0, 0))) := hide' (heap_setCell_same w5 B 1 _ _ _ HB5.out)
      have HR6 := hide' ((Below.heap_setCell w5 ⟨B, 1, none⟩ (.int .i64 n2) w.heap.size (by show w.heap.size ≠ B; exact hRB)).trans HR5.out)
      have HZ6 : Hid (w.heap.size < (w5.setCell ⟨B, 1, none⟩ (.int .i64 n2)).heap.size) := hide' (by simpa [World.setCell] using HZ5.out)
      clear c0 c1 c2 c3 c4 cf1
      generalize w5.setCell ⟨B, 1, none⟩ (.int .i64 n2) = w6 at *
      obtain ⟨c0, c1, c2, c3, c4, cf⟩ := row5 HB6.out
      obtain ⟨o0, o1, o2, o3, o4, of⟩ := row5 HR6.out
      clear cf
      have f0 := of 0
      have f1 := of 1
      have f2 := of 2
      have f3 := of 3
      have f4 := of 4
      clear of
      go_wp2_with fail
      have hfin := row5 (set5_heap (j := 0) (.int .i64 2) (.int .i64 n2) (.slice none 0 0) (.slice none 0 0) (.slice none 0 0) (by exact HR6.out : w6.heap[w.heap.size]? = some (.cells #[.int .i64 0, .int .i64 0, .slice none 0 0, .slice none 0 0, .slice none 0 0] 26)))
      simp only [set5, Nat.zero_add] at hfin
      obtain ⟨x0, x1, x2, x3, x4, _⟩ := hfin
      refine bodyPost_ret (v := .agg #[.int .i64 2, .int .i64 n2, .slice none 0 0, .slice none 0 0, .slice none 0 0]) (by simp [results, Tryz.results21, go_sem, x0, x1, x2, x3, x4]) rfl ?_
      rw [HV.out, h40]
      exact rd_end HC6.out HG6.out hgl HZ6.out ⟨[], leaf_own _ _ _ _, by simp⟩
    · have k2' : (n1 == 2) = false := by simp [k2]
      by_cases k3 : n1 = 3
      · subst k3
        have HV := hide' (HV3.out rfl)
        clear HV0 HV1 HV2 HV3 HV4
        have HL4 := hide' ((reader_text_any xs g a cap p1 (q + 1) w4 HC4.out).mono fun e w' h => h.tok)
        unfold TokEnd at HL4
        clear cf of
        go_wp2_with fail
        refine HL4.out.mono ?_
        rintro e w5 ⟨ua, un, uc, rfl, ⟨Bt, hTo, hBt, hBn⟩, hc5, hg5⟩
        clear HL4
        generalize (getText xs p1).1 = t1 at *
        generalize (getText xs p1).2 = p2 at *
        have hTo := hide' hTo
        have HB5 := hide' ((hg5.block B HBz.out (by simp; omega)).trans HB4.out)
        have HR5 := hide' ((hg5.block w.heap.size HZ4.out (by simp; omega)).trans HR4.out)
        have HG5 := hide' (grownBy_trans HG4.out hg5)
        have HZ5 := hide' (Nat.lt_of_lt_of_le HZ4.out hg5.size)
        clear c0 c1 c2 c3 c4 o0 o1 o2 o3 o4
        obtain ⟨c0, c1, c2, c3, c4, cf⟩ := row5 HB5.out
        have cf2 := cf 2
        clear cf
        go_upto_region 16 with fail
        have HC6 := hide' (hc5.keep (w' := w5.setCell ⟨B, 2, none⟩ (.slice ua un uc)) fun b hb => Below.heap_setCell w5 ⟨B, 2, none⟩ _ b (by show b ≠ B; omega))
        have HG6 := hide' (grown_new HG5.out hRle 2 (.slice ua un uc))
        have HB6 : Hid ((w5.setCell ⟨B, 2, none⟩ (.slice ua un uc)).heap[B]? = some (.cells #[(.int .i64 3), (.int .i64 0), (.slice ua un uc), (.slice none 0 0), (.slice none 0 0)] 26 (0, 0))) := hide' (heap_setCell_same w5 B 2 _ _ _ HB5.out)
        have HR6 := hide' ((Below.heap_setCell w5 ⟨B, 2, none⟩ (.slice ua un uc) w.heap.size (by show w.heap.size ≠ B; exact hRB)).trans HR5.out)
        have HZ6 : Hid (w.heap.size < (w5.setCell ⟨B, 2, none⟩ (.slice ua un uc)).heap.size) := hide' (by simpa [World.setCell] using HZ5.out)
        have HTo6 := hide' (hTo.out.agree (w' := w5.setCell ⟨B, 2, none⟩ (.slice ua un uc)) fun b hb => Below.heap_setCell w5 ⟨B, 2, none⟩ _ b (by show b ≠ B; have := (hBt b hb).1; have := HBz.out; omega))
        have HBt6 : Hid (∀ b ∈ Bt, w.heap.size < b ∧ b < (w5.setCell ⟨B, 2, none⟩ (.slice ua un uc)).heap.size) := hide' (fun b hb => ⟨by have := (hBt b hb).1; have := HZ4.out; omega, by have := (hBt b hb).2; simpa [World.setCell] using this⟩)
        clear c0 c1 c2 c3 c4 cf2
        generalize w5.setCell ⟨B, 2, none⟩ (.slice ua un uc) = w6 at *
        obtain ⟨c0, c1, c2, c3, c4, cf⟩ := row5 HB6.out
        obtain ⟨o0, o1, o2, o3, o4, of⟩ := row5 HR6.out
        clear cf
        have f0 := of 0
        have f1 := of 1
        have f2 := of 2
        have f3 := of 3
        have f4 := of 4
        clear of
        go_wp2_with fail
        have hfin := row5 (set5_heap (j := 0) (.int .i64 3) (.int .i64 0) (.slice ua un uc) (.slice none 0 0) (.slice none 0 0) (by exact HR6.out : w6.heap[w.heap.size]? = some (.cells #[.int .i64 0, .int .i64 0, .slice none 0 0, .slice none 0 0, .slice none 0 0] 26)))
        simp only [set5, Nat.zero_add] at hfin
        obtain ⟨x0, x1, x2, x3, x4, _⟩ := hfin
        refine bodyPost_ret (v := .agg #[.int .i64 3, .int .i64 0, .slice ua un uc, .slice none 0 0, .slice none 0 0]) (by simp [results, Tryz.results21, go_sem, x0, x1, x2, x3, x4]) rfl ?_
        rw [HV.out, h40]
        exact rd_end HC6.out HG6.out hgl HZ6.out ⟨Bt, text_own _ HTo6.out hBn _, HBt6.out⟩
      · have k3' : (n1 == 3) = false := by simp [k3]
        by_cases k45 : n1 = 4 ∨ n1 = 5
        · have HV := hide' (HV4.out k45)
          have HHo := hide' (hH xs g B a cap p1 (q + 1) n1 w4 HC4.out hgB' HBz.out (by omega) (by omega) (by omega) k45 HB4.out)
          clear HV0 HV1 HV2 HV3 HV4 cf of hH
          generalize hfin : rdK (fun a l => rdV xs dp a l) xs (decide (n1 = 5)) (getNum xs p1).1.toNat [] [] (getNum xs p1).2 (40 - (q + 1)) = fin at *
          clear hfin
          rcases k45 with rfl | rfl
          all_goals
            go_wp2_with fail
            refine HHo.out.mono ?_
            rintro e w5 ⟨rfl, K, L, p5, q5, pK, cK, pL, cL, hf, hB5, ⟨Bs, ho, hbs⟩, hc5, f1, f2, f3, f4, f5⟩
            clear HHo c0 c1 c2 c3 c4 o0 o1 o2 o3 o4
            have HR5 := hide' ((f5 w.heap.size HZ4.out hRB (by omega)).trans HR4.out)
            have HB5 := hide' hB5
            have HE := hide' (And.intro hc5 (And.intro ho hbs))
            have HG5 : Hid (w.grownBy w5 (some g)) := hide' ⟨f1.trans HG4.out.os, f2.trans HG4.out.tape, f3.trans HG4.out.output, by have := HG4.out.size; omega, fun b hb hne => (f5 b (by have := HG4.out.size; omega) (by omega) (by simpa using hne)).trans (HG4.out.block b hb hne)⟩
            have HZ5 : Hid (w.heap.size < w5.heap.size) := hide' (by have := HZ4.out; omega)
            have HZ4b := HZ4
            subst hf
            clear hc5 ho hbs hB5 f1 f2 f3 f4 f5
            obtain ⟨c0, c1, c2, c3, c4, -⟩ := row5 HB5.out
            obtain ⟨o0, o1, o2, o3, o4, of⟩ := row5 HR5.out
            have f0 := of 0
            have f1 := of 1
            have f2 := of 2
            have f3 := of 3
            have f4 := of 4
            clear of
            go_wp2_with fail
          · have hfin := row5 (set5_heap (j := 0) (.int .i64 4) (.int .i64 0) (.slice none 0 0) (.slice pK K.length cK) (.slice pL L.length cL) (by exact HR5.out : w5.heap[w.heap.size]? = some (.cells #[.int .i64 0, .int .i64 0, .slice none 0 0, .slice none 0 0, .slice none 0 0] 26)))
            simp only [set5, Nat.zero_add] at hfin
            obtain ⟨x0, x1, x2, x3, x4, _⟩ := hfin
            refine bodyPost_ret (v := .agg #[.int .i64 4, .int .i64 0, .slice none 0 0, .slice pK K.length cK, .slice pL L.length cL]) (by simp [results, Tryz.results21, go_sem, x0, x1, x2, x3, x4]) rfl ?_
            rw [HV.out]
            simp only
            rw [show (40 : Int) - (40 - q5) = q5 by omega]
            exact rd_end HE.out.1 HG5.out hgl HZ5.out ⟨Bs, HE.out.2.1, fun b h => ⟨by have := HE.out.2.2 b h; have := HZ4b.out; omega, (HE.out.2.2 b h).2⟩⟩
          · have hfin := row5 (set5_heap (j := 0) (.int .i64 5) (.int .i64 0) (.slice none 0 0) (.slice pK K.length cK) (.slice pL L.length cL) (by exact HR5.out : w5.heap[w.heap.size]? = some (.cells #[.int .i64 0, .int .i64 0, .slice none 0 0, .slice none 0 0, .slice none 0 0] 26)))
            simp only [set5, Nat.zero_add] at hfin
            obtain ⟨x0, x1, x2, x3, x4, _⟩ := hfin
            refine bodyPost_ret (v := .agg #[.int .i64 5, .int .i64 0, .slice none 0 0, .slice pK K.length cK, .slice pL L.length cL]) (by simp [results, Tryz.results21, go_sem, x0, x1, x2, x3, x4]) rfl ?_
            rw [HV.out]
            simp only
            rw [show (40 : Int) - (40 - q5) = q5 by omega]
            exact rd_end HE.out.1 HG5.out hgl HZ5.out ⟨Bs, HE.out.2.1, fun b h => ⟨by have := HE.out.2.2 b h; have := HZ4b.out; omega, (HE.out.2.2 b h).2⟩⟩
        · have k4' : (n1 == 4) = false := by simp; omega
          have k5' : (n1 == 5) = false := by simp; omega
          have HV := hide' (HV0.out k1 k2 k3 (by omega) (by omega))
          clear HV0 HV1 HV2 HV3 HV4 cf
          have f0 := of 0
          have f1 := of 1
          have f2 := of 2
          have f3 := of 3
          have f4 := of 4
          clear of
          go_wp2_with fail
          have hfin := row5 (set5_heap (j := 0) (.int .i64 n1) (.int .i64 0) (.slice none 0 0) (.slice none 0 0) (.slice none 0 0) (by exact HR4.out : w4.heap[w.heap.size]? = some (.cells #[.int .i64 0, .int .i64 0, .slice none 0 0, .slice none 0 0, .slice none 0 0] 26)))
          simp only [set5, Nat.zero_add] at hfin
          obtain ⟨x0, x1, x2, x3, x4, _⟩ := hfin
          refine bodyPost_ret (v := .agg #[.int .i64 n1, .int .i64 0, .slice none 0 0, .slice none 0 0, .slice none 0 0]) (by simp [results, Tryz.results21, go_sem, x0, x1, x2, x3, x4]) rfl ?_
          rw [HV.out, h40]
          exact rd_end HC4.out HG4.out hgl HZ4.out ⟨[], leaf_own _ _ _ _, by simp⟩

theorem value_any (hH : ∀ dp, RiAt dp → HolAt dp) (dp : Nat) : RiAt dp := by
  induction dp with
  | zero => intro xs g a cap p q w h hq0 hq1 hqd; exact value_many 0 xs g a cap p q w h (by omega) (by omega)
  | succ dp ih =>
    intro xs g a cap p q w h hq0 hq1 hqd
    by_cases hq : q = 40
    · exact value_many (dp + 1) xs g a cap p q w h (by omega) (by omega)
    · exact value_succ dp (hH dp ih) xs g a cap p q w h hq0 (by omega) hqd
end Go.Proofs.YthnkedbmfhokiaaGreatDoor
