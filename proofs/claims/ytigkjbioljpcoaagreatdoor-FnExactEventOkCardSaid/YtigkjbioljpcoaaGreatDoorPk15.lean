/-
  Texts that a law leans on, one behind the other; no statement is proved here.
-/
import Derived.Test.YtigkjbioljpcoaaGreatDoorPk10
import Derived.Test.YtigkjbioljpcoaaGreatDoorPk7
import Derived.Deep.MidRow
import Derived.Test.YtigkjbioljpcoaaGreatDoorPk5
import Derived.Deep.Cut
/-
  EventOk of the specification.
-/
namespace Go.Proofs.YtigkjbioljpcoaaGreatDoor
open Go.RowKit
set_option linter.unusedVariables false
set_option linter.unusedSimpArgs false

set_option maxHeartbeats 6400000 in
set_option maxRecDepth 100000 in
theorem spec_EventOk_any (d N : Nat) (cs : List Value) (it : Rcd d) (w : World) (h : RSg (fun b => b < N) w d cs it) (hN : N ≤ w.heap.size) :
    Calls Tryz.prog 5 #[.agg cs.toArray] w fun e w' => e = .returned (.bool (evB d it)) ∧ Below w.heap.size w w' := by
  obtain ⟨na, np, bk, bn, a2, l2, p2, a3, l3, p3, a4, l4, p4, xa, xp, rfl, ht, hv, hkk⟩ := h.form
  obtain ⟨kk, ad, jj, vv, ds⟩ := it
  simp only at ht hv hkk ⊢
  obtain ⟨na', np', e1, hsa, hac, hac2, hna, hral⟩ := ht
  simp only [Value.slice.injEq, true_and] at e1
  obtain ⟨rfl, rfl⟩ := e1
  unfold maxLen at hac2
  have hA : ∀ wx, Below w.heap.size w wx → Agree (fun b => b < N) w wx := fun wx hb => agree_below (hb.mono hN)
  have HSa : Hid (∀ wx, Below w.heap.size w wx → Seg wx na ad) := fun wx hb => hsa.grow (hb.mono (Nat.le_refl _))
  have HA1 : Hid (∀ o : Obj, Below w.heap.size w (w.alloc o)) := fun o => (Below.refl _ _).alloc (Nat.le_refl _) o
  have Hbox : Hid (∀ o wx, Below (w.alloc o).heap.size (w.alloc o) wx → wx.heap[w.heap.size]? = some o) := fun o wx h => box_row h
  have HAd : Hid (∀ wx, Below w.heap.size w wx → Calls Tryz.prog 12 #[.slice na ad.length np] wx fun e w' => e = .returned (.bool (addrB ad)) ∧ wx = w') := fun wx hb => spec_AddrOk_any na np ad wx (HSa.out wx hb) hac (by unfold maxLen; exact hac2) hna
  have HOk : Hid (∀ wx, Below w.heap.size w wx → Calls Tryz.prog 15 #[.agg #[.int .i64 bk, .int .i64 bn, .slice a2 l2 p2, .slice a3 l3 p3, .slice a4 l4 p4]] wx fun e w' => e = .returned (.bool (okB d vv)) ∧ Below wx.heap.size wx w') := fun wx hb => spec_ValOk_any d N _ _ _ _ _ vv wx (VSeg.agree (hA wx hb) d hv) (by have := hb.size; omega)
  have HZr : Hid (okB d vv = true → ∀ wx, Below w.heap.size w wx → Calls Tryz.prog 16 #[.agg #[.int .i64 bk, .int .i64 bn, .slice a2 l2 p2, .slice a3 l3 p3, .slice a4 l4 p4]] wx fun e w' => e = .returned (.bool (decide (kindV d vv = 0))) ∧ Below wx.heap.size wx w') := fun hok wx hb => l4zero_any d N _ _ _ _ _ vv wx (VSeg.agree (hA wx hb) d hv) (by have := hb.size; omega) hok
  have HMp : Hid (∀ wx, Below w.heap.size w wx → Calls Tryz.prog 13 #[.agg #[.int .i64 bk, .int .i64 bn, .slice a2 l2 p2, .slice a3 l3 p3, .slice a4 l4 p4]] wx fun e w' => e = .returned (.bool (mapB d vv)) ∧ Below wx.heap.size wx w') := fun wx hb => l4map_any d N _ _ _ _ _ vv wx (VSeg.agree (hA wx hb) d hv) (by have := hb.size; omega)
  have HAs : Hid (∀ wx, Below w.heap.size w wx → Calls Tryz.prog 14 #[.slice xa ds.length xp] wx fun e w' => e = .returned (.bool (addrsB ds)) ∧ Below wx.heap.size wx w') := fun wx hb => l4addrs_any N _ ds wx (hkk.agree (hA wx hb)) (by have := hb.size; omega)
  have HEv : Hid (evB d (kk, ad, jj, vv, ds) = (decide (0 ≤ kk) && (decide (kk ≤ 6) && (headE kk ad jj && restE d kk vv ds)))) := rfl
  have HSm := hide' (addrB_some (ad := ad))
  have HNl : Hid (∀ o : Obj, o = .cells #[.int .i64 kk, .slice na ad.length np, .int .i64 jj, .int .i64 bk, .int .i64 bn, .slice a2 l2 p2, .slice a3 l3 p3, .slice a4 l4 p4, .slice xa ds.length xp] 35 → (w.alloc o).heap[w.heap.size]? = some (.cells #[.int .i64 kk, .slice na ad.length np, .int .i64 jj, .int .i64 bk, .int .i64 bn, .slice a2 l2 p2, .slice a3 l3 p3, .slice a4 l4 p4, .slice xa ds.length xp] 35 (0, 0))) := fun o e => by subst e; exact (MapKept.heap_alloc w _).1
  generalize evB d (kk, ad, jj, vv, ds) = ans at *
  clear h hsa hral hv hkk hA
  unfold restE headE at HEv
  generalize hokd : okB d vv = ok at *
  generalize mapB d vv = mp at *
  generalize decide (kindV d vv = 0) = zr at *
  generalize addrsB ds = asb at *
  generalize haddr : addrB ad = adb at *
  generalize ad.length = al at *
  generalize ds.length = dl at *
  clear hokd haddr
  by_cases hlo : kk < 0
  · have HF : Hid (ans = false) := by show ans = false; rw [HEv.out, decide_eq_false (p := 0 ≤ kk) (by omega)]; rfl
    go_enter Tryz.func5, Tryz.ntmps5
    go_wp2
    go_ret
    exact ⟨ret_bool HF.out.symm, HA1.out _⟩
  by_cases hhi : 6 < kk
  · have HF : Hid (ans = false) := by show ans = false; rw [HEv.out, decide_eq_false (p := kk ≤ 6) (by omega)]; simp
    go_enter Tryz.func5, Tryz.ntmps5
    go_wp2
    go_ret
    exact ⟨ret_bool HF.out.symm, HA1.out _⟩
  have hcase : kk = 0 ∨ kk = 1 ∨ kk = 2 ∨ kk = 3 ∨ kk = 4 ∨ kk = 5 ∨ kk = 6 := by omega
  clear hlo hhi
  rcases hcase with rfl | rfl | rfl | rfl | rfl | rfl | rfl
  · have hE0 := HNl.out _ rfl
    obtain ⟨f0, f1, f2, f3, f4, f5, f6, f7, f8⟩ := ev_row hE0
    by_cases hal : al = 0
    rotate_left
    · have hal' : (0 : Int) < (al : Int) := by omega
      have HF : Hid (ans = false) := by show ans = false; rw [HEv.out]; simp [hal]
      go_enter Tryz.func5, Tryz.ntmps5
      go_wp2
      go_ret
      exact ⟨ret_bool HF.out.symm, HA1.out _⟩
    subst hal
    by_cases hj : jj = 0
    rotate_left
    · have hj' : (jj != 0) = true := by simpa using hj
      have HF : Hid (ans = false) := by show ans = false; rw [HEv.out]; simp [hj]
      go_enter Tryz.func5, Tryz.ntmps5
      go_wp2
      go_ret
      exact ⟨ret_bool HF.out.symm, HA1.out _⟩
    subst hj
    have HE2 : Hid (ans = (ok && (zr && decide (dl = 0)))) := by show _ = _; rw [HEv.out]; simp
    clear HEv HSm HNl
    go_enter Tryz.func5, Tryz.ntmps5
    go_wp2_with fail
    refine (HOk.out _ (HA1.out _)).mono ?_
    rintro e w2 ⟨rfl, b2⟩
    have hE2 := (b2.block _ (by simp)).trans hE0
    clear f0 f1 f2 f3 f4 f5 f6 f7 f8
    obtain ⟨f0, f1, f2, f3, f4, f5, f6, f7, f8⟩ := ev_row hE2
    have B2 := hide' (Below.on (HA1.out _) b2)
    have hs2 : w.heap.size < w2.heap.size := by have := b2.size; simp at this; omega
    clear b2 hE0
    cases ok with
    | false =>
      have HF : Hid (ans = false) := HE2.out
      go_wp2
      go_ret
      exact ⟨ret_bool HF.out.symm, B2.out⟩
    | true =>
      have HZ2 := hide' (HZr.out rfl _ B2.out)
      go_wp2_with fail
      refine HZ2.out.mono ?_
      rintro e w3 ⟨rfl, b3⟩
      have hE3 := (b3.block _ hs2).trans hE2
      clear f0 f1 f2 f3 f4 f5 f6 f7 f8
      obtain ⟨f0, f1, f2, f3, f4, f5, f6, f7, f8⟩ := ev_row hE3
      have B3 := hide' (Below.on B2.out b3)
      clear b3 hE2 hE3 HZ2
      cases zr with
      | false =>
        have HF : Hid (ans = false) := HE2.out
        go_wp2
        go_ret
        exact ⟨ret_bool HF.out.symm, B3.out⟩
      | true =>
        by_cases hdl : dl = 0
        · subst hdl
          have HF : Hid (ans = true) := by show _ = _; rw [HE2.out]; rfl
          go_wp2
          go_ret
          exact ⟨ret_bool HF.out.symm, B3.out⟩
        · have hdl' : ((dl : Int) == 0) = false := by simp; omega
          have hdl2 : ¬ (dl : Int) = 0 := by omega
          have HF : Hid (ans = false) := by show _ = _; rw [HE2.out, decide_eq_false hdl]; rfl
          go_wp2
          go_ret
          exact ⟨ret_bool HF.out.symm, B3.out⟩
  · have hE0 := HNl.out _ rfl
    obtain ⟨f0, f1, f2, f3, f4, f5, f6, f7, f8⟩ := ev_row hE0
    by_cases hal : al = 0
    · have hab : adb = false := by cases adb with
        | false => rfl
        | true => exact absurd hal (HSm.out rfl)
      subst hal hab
      have HF : Hid (ans = false) := by show ans = false; rw [HEv.out]; simp []
      go_enter Tryz.func5, Tryz.ntmps5
      go_wp2
      go_ret
      exact ⟨ret_bool HF.out.symm, HA1.out _⟩
    have hal' : (0 : Int) < (al : Int) := by omega
    cases adb with
    | false =>
      have HF : Hid (ans = false) := by show ans = false; rw [HEv.out]; simp []
      go_enter Tryz.func5, Tryz.ntmps5
      go_wp2_with fail
      refine (HAd.out _ (HA1.out _)).mono ?_
      rintro e w1 ⟨rfl, rfl⟩
      go_wp2
      go_ret
      exact ⟨ret_bool HF.out.symm, HA1.out _⟩
    | true =>
    by_cases hj1 : jj < 1
    · have HF : Hid (ans = false) := by show ans = false; rw [HEv.out]; rw [decide_eq_false (p := 1 ≤ jj) (by omega)]; simp
      go_enter Tryz.func5, Tryz.ntmps5
      go_wp2_with fail
      refine (HAd.out _ (HA1.out _)).mono ?_
      rintro e w1 ⟨rfl, rfl⟩
      go_wp2
      go_ret
      exact ⟨ret_bool HF.out.symm, HA1.out _⟩
    by_cases hj4 : 4 < jj
    · have HF : Hid (ans = false) := by show ans = false; rw [HEv.out]; rw [decide_eq_false (p := jj ≤ 4) (by omega)]; simp
      go_enter Tryz.func5, Tryz.ntmps5
      go_wp2_with fail
      refine (HAd.out _ (HA1.out _)).mono ?_
      rintro e w1 ⟨rfl, rfl⟩
      go_wp2
      go_ret
      exact ⟨ret_bool HF.out.symm, HA1.out _⟩
    have HE2 : Hid (ans = (ok && (zr && decide (dl = 0)))) := by show _ = _; rw [HEv.out, decide_eq_true (p := 1 ≤ jj) (by omega), decide_eq_true (p := jj ≤ 4) (by omega)]; simp
    clear HEv HSm HNl
    go_enter Tryz.func5, Tryz.ntmps5
    go_wp2_with fail
    refine (HAd.out _ (HA1.out _)).mono ?_
    rintro e w1 ⟨rfl, rfl⟩
    go_wp2_with fail
    refine (HOk.out _ (HA1.out _)).mono ?_
    rintro e w2 ⟨rfl, b2⟩
    have hE2 := (b2.block _ (by simp)).trans hE0
    clear f0 f1 f2 f3 f4 f5 f6 f7 f8
    obtain ⟨f0, f1, f2, f3, f4, f5, f6, f7, f8⟩ := ev_row hE2
    have B2 := hide' (Below.on (HA1.out _) b2)
    have hs2 : w.heap.size < w2.heap.size := by have := b2.size; simp at this; omega
    clear b2 hE0
    cases ok with
    | false =>
      have HF : Hid (ans = false) := HE2.out
      go_wp2
      go_ret
      exact ⟨ret_bool HF.out.symm, B2.out⟩
    | true =>
      have HZ2 := hide' (HZr.out rfl _ B2.out)
      go_wp2_with fail
      refine HZ2.out.mono ?_
      rintro e w3 ⟨rfl, b3⟩
      have hE3 := (b3.block _ hs2).trans hE2
      clear f0 f1 f2 f3 f4 f5 f6 f7 f8
      obtain ⟨f0, f1, f2, f3, f4, f5, f6, f7, f8⟩ := ev_row hE3
      have B3 := hide' (Below.on B2.out b3)
      clear b3 hE2 hE3 HZ2
      cases zr with
      | false =>
        have HF : Hid (ans = false) := HE2.out
        go_wp2
        go_ret
        exact ⟨ret_bool HF.out.symm, B3.out⟩
      | true =>
        by_cases hdl : dl = 0
        · subst hdl
          have HF : Hid (ans = true) := by show _ = _; rw [HE2.out]; rfl
          go_wp2
          go_ret
          exact ⟨ret_bool HF.out.symm, B3.out⟩
        · have hdl' : ((dl : Int) == 0) = false := by simp; omega
          have hdl2 : ¬ (dl : Int) = 0 := by omega
          have HF : Hid (ans = false) := by show _ = _; rw [HE2.out, decide_eq_false hdl]; rfl
          go_wp2
          go_ret
          exact ⟨ret_bool HF.out.symm, B3.out⟩
  · have hE0 := HNl.out _ rfl
    obtain ⟨f0, f1, f2, f3, f4, f5, f6, f7, f8⟩ := ev_row hE0
    by_cases hal : al = 0
    · have hab : adb = false := by cases adb with
        | false => rfl
        | true => exact absurd hal (HSm.out rfl)
      subst hal hab
      have HF : Hid (ans = false) := by show ans = false; rw [HEv.out]; simp []
      go_enter Tryz.func5, Tryz.ntmps5
      go_wp2
      go_ret
      exact ⟨ret_bool HF.out.symm, HA1.out _⟩
    have hal' : (0 : Int) < (al : Int) := by omega
    cases adb with
    | false =>
      have HF : Hid (ans = false) := by show ans = false; rw [HEv.out]; simp []
      go_enter Tryz.func5, Tryz.ntmps5
      go_wp2_with fail
      refine (HAd.out _ (HA1.out _)).mono ?_
      rintro e w1 ⟨rfl, rfl⟩
      go_wp2
      go_ret
      exact ⟨ret_bool HF.out.symm, HA1.out _⟩
    | true =>
    by_cases hj : jj = 0
    rotate_left
    · have hj' : (jj != 0) = true := by simpa using hj
      have HF : Hid (ans = false) := by show ans = false; rw [HEv.out]; simp [hj]
      go_enter Tryz.func5, Tryz.ntmps5
      go_wp2_with fail
      refine (HAd.out _ (HA1.out _)).mono ?_
      rintro e w1 ⟨rfl, rfl⟩
      go_wp2
      go_ret
      exact ⟨ret_bool HF.out.symm, HA1.out _⟩
    subst hj
    have HE2 : Hid (ans = (mp && asb)) := by show _ = _; rw [HEv.out]; simp
    clear HEv HSm HNl
    go_enter Tryz.func5, Tryz.ntmps5
    go_wp2_with fail
    refine (HAd.out _ (HA1.out _)).mono ?_
    rintro e w1 ⟨rfl, rfl⟩
    go_wp2_with fail
    refine (HMp.out _ (HA1.out _)).mono ?_
    rintro e w2 ⟨rfl, b2⟩
    have hE2 := (b2.block _ (by simp)).trans hE0
    clear f0 f1 f2 f3 f4 f5 f6 f7 f8
    obtain ⟨f0, f1, f2, f3, f4, f5, f6, f7, f8⟩ := ev_row hE2
    have B2 := hide' (Below.on (HA1.out _) b2)
    clear b2 hE0 hE2
    cases mp with
    | false =>
      have HF : Hid (ans = false) := HE2.out
      go_wp2
      go_ret
      exact ⟨ret_bool HF.out.symm, B2.out⟩
    | true =>
      have HF : Hid (ans = asb) := by show _ = _; rw [HE2.out]; rfl
      go_wp2_with fail
      refine (HAs.out _ B2.out).mono ?_
      rintro e w3 ⟨rfl, b3⟩
      have B3 := hide' (Below.on B2.out b3)
      clear b3 f0 f1 f2 f3 f4 f5 f6 f7 f8
      go_wp2
      go_ret
      exact ⟨ret_bool HF.out.symm, B3.out⟩
  · have hE0 := HNl.out _ rfl
    obtain ⟨f0, f1, f2, f3, f4, f5, f6, f7, f8⟩ := ev_row hE0
    by_cases hal : al = 0
    · have hab : adb = false := by cases adb with
        | false => rfl
        | true => exact absurd hal (HSm.out rfl)
      subst hal hab
      have HF : Hid (ans = false) := by show ans = false; rw [HEv.out]; simp []
      go_enter Tryz.func5, Tryz.ntmps5
      go_wp2
      go_ret
      exact ⟨ret_bool HF.out.symm, HA1.out _⟩
    have hal' : (0 : Int) < (al : Int) := by omega
    cases adb with
    | false =>
      have HF : Hid (ans = false) := by show ans = false; rw [HEv.out]; simp []
      go_enter Tryz.func5, Tryz.ntmps5
      go_wp2_with fail
      refine (HAd.out _ (HA1.out _)).mono ?_
      rintro e w1 ⟨rfl, rfl⟩
      go_wp2
      go_ret
      exact ⟨ret_bool HF.out.symm, HA1.out _⟩
    | true =>
    by_cases hj : jj = 0
    rotate_left
    · have hj' : (jj != 0) = true := by simpa using hj
      have HF : Hid (ans = false) := by show ans = false; rw [HEv.out]; simp [hj]
      go_enter Tryz.func5, Tryz.ntmps5
      go_wp2_with fail
      refine (HAd.out _ (HA1.out _)).mono ?_
      rintro e w1 ⟨rfl, rfl⟩
      go_wp2
      go_ret
      exact ⟨ret_bool HF.out.symm, HA1.out _⟩
    subst hj
    have HE2 : Hid (ans = (ok && (zr && decide (dl = 0)))) := by show _ = _; rw [HEv.out]; simp
    clear HEv HSm HNl
    go_enter Tryz.func5, Tryz.ntmps5
    go_wp2_with fail
    refine (HAd.out _ (HA1.out _)).mono ?_
    rintro e w1 ⟨rfl, rfl⟩
    go_wp2_with fail
    refine (HOk.out _ (HA1.out _)).mono ?_
    rintro e w2 ⟨rfl, b2⟩
    have hE2 := (b2.block _ (by simp)).trans hE0
    clear f0 f1 f2 f3 f4 f5 f6 f7 f8
    obtain ⟨f0, f1, f2, f3, f4, f5, f6, f7, f8⟩ := ev_row hE2
    have B2 := hide' (Below.on (HA1.out _) b2)
    have hs2 : w.heap.size < w2.heap.size := by have := b2.size; simp at this; omega
    clear b2 hE0
    cases ok with
    | false =>
      have HF : Hid (ans = false) := HE2.out
      go_wp2
      go_ret
      exact ⟨ret_bool HF.out.symm, B2.out⟩
    | true =>
      have HZ2 := hide' (HZr.out rfl _ B2.out)
      go_wp2_with fail
      refine HZ2.out.mono ?_
      rintro e w3 ⟨rfl, b3⟩
      have hE3 := (b3.block _ hs2).trans hE2
      clear f0 f1 f2 f3 f4 f5 f6 f7 f8
      obtain ⟨f0, f1, f2, f3, f4, f5, f6, f7, f8⟩ := ev_row hE3
      have B3 := hide' (Below.on B2.out b3)
      clear b3 hE2 hE3 HZ2
      cases zr with
      | false =>
        have HF : Hid (ans = false) := HE2.out
        go_wp2
        go_ret
        exact ⟨ret_bool HF.out.symm, B3.out⟩
      | true =>
        by_cases hdl : dl = 0
        · subst hdl
          have HF : Hid (ans = true) := by show _ = _; rw [HE2.out]; rfl
          go_wp2
          go_ret
          exact ⟨ret_bool HF.out.symm, B3.out⟩
        · have hdl' : ((dl : Int) == 0) = false := by simp; omega
          have hdl2 : ¬ (dl : Int) = 0 := by omega
          have HF : Hid (ans = false) := by show _ = _; rw [HE2.out, decide_eq_false hdl]; rfl
          go_wp2
          go_ret
          exact ⟨ret_bool HF.out.symm, B3.out⟩
  · have hE0 := HNl.out _ rfl
    obtain ⟨f0, f1, f2, f3, f4, f5, f6, f7, f8⟩ := ev_row hE0
    by_cases hal : al = 0
    · have hab : adb = false := by cases adb with
        | false => rfl
        | true => exact absurd hal (HSm.out rfl)
      subst hal hab
      have HF : Hid (ans = false) := by show ans = false; rw [HEv.out]; simp []
      go_enter Tryz.func5, Tryz.ntmps5
      go_wp2
      go_ret
      exact ⟨ret_bool HF.out.symm, HA1.out _⟩
    have hal' : (0 : Int) < (al : Int) := by omega
    cases adb with
    | false =>
      have HF : Hid (ans = false) := by show ans = false; rw [HEv.out]; simp []
      go_enter Tryz.func5, Tryz.ntmps5
      go_wp2_with fail
      refine (HAd.out _ (HA1.out _)).mono ?_
      rintro e w1 ⟨rfl, rfl⟩
      go_wp2
      go_ret
      exact ⟨ret_bool HF.out.symm, HA1.out _⟩
    | true =>
    by_cases hj : jj = 0
    rotate_left
    · have hj' : (jj != 0) = true := by simpa using hj
      have HF : Hid (ans = false) := by show ans = false; rw [HEv.out]; simp [hj]
      go_enter Tryz.func5, Tryz.ntmps5
      go_wp2_with fail
      refine (HAd.out _ (HA1.out _)).mono ?_
      rintro e w1 ⟨rfl, rfl⟩
      go_wp2
      go_ret
      exact ⟨ret_bool HF.out.symm, HA1.out _⟩
    subst hj
    have HE2 : Hid (ans = (ok && (zr && decide (dl = 0)))) := by show _ = _; rw [HEv.out]; simp
    clear HEv HSm HNl
    go_enter Tryz.func5, Tryz.ntmps5
    go_wp2_with fail
    refine (HAd.out _ (HA1.out _)).mono ?_
    rintro e w1 ⟨rfl, rfl⟩
    go_wp2_with fail
    refine (HOk.out _ (HA1.out _)).mono ?_
    rintro e w2 ⟨rfl, b2⟩
    have hE2 := (b2.block _ (by simp)).trans hE0
    clear f0 f1 f2 f3 f4 f5 f6 f7 f8
    obtain ⟨f0, f1, f2, f3, f4, f5, f6, f7, f8⟩ := ev_row hE2
    have B2 := hide' (Below.on (HA1.out _) b2)
    have hs2 : w.heap.size < w2.heap.size := by have := b2.size; simp at this; omega
    clear b2 hE0
    cases ok with
    | false =>
      have HF : Hid (ans = false) := HE2.out
      go_wp2
      go_ret
      exact ⟨ret_bool HF.out.symm, B2.out⟩
    | true =>
      have HZ2 := hide' (HZr.out rfl _ B2.out)
      go_wp2_with fail
      refine HZ2.out.mono ?_
      rintro e w3 ⟨rfl, b3⟩
      have hE3 := (b3.block _ hs2).trans hE2
      clear f0 f1 f2 f3 f4 f5 f6 f7 f8
      obtain ⟨f0, f1, f2, f3, f4, f5, f6, f7, f8⟩ := ev_row hE3
      have B3 := hide' (Below.on B2.out b3)
      clear b3 hE2 hE3 HZ2
      cases zr with
      | false =>
        have HF : Hid (ans = false) := HE2.out
        go_wp2
        go_ret
        exact ⟨ret_bool HF.out.symm, B3.out⟩
      | true =>
        by_cases hdl : dl = 0
        · subst hdl
          have HF : Hid (ans = true) := by show _ = _; rw [HE2.out]; rfl
          go_wp2
          go_ret
          exact ⟨ret_bool HF.out.symm, B3.out⟩
        · have hdl' : ((dl : Int) == 0) = false := by simp; omega
          have hdl2 : ¬ (dl : Int) = 0 := by omega
          have HF : Hid (ans = false) := by show _ = _; rw [HE2.out, decide_eq_false hdl]; rfl
          go_wp2
          go_ret
          exact ⟨ret_bool HF.out.symm, B3.out⟩
  · have hE0 := HNl.out _ rfl
    obtain ⟨f0, f1, f2, f3, f4, f5, f6, f7, f8⟩ := ev_row hE0
    by_cases hal : al = 0
    rotate_left
    · have hal' : (0 : Int) < (al : Int) := by omega
      have HF : Hid (ans = false) := by show ans = false; rw [HEv.out]; simp [hal]
      go_enter Tryz.func5, Tryz.ntmps5
      go_wp2
      go_ret
      exact ⟨ret_bool HF.out.symm, HA1.out _⟩
    subst hal
    by_cases hj : jj = 0
    rotate_left
    · have hj' : (jj != 0) = true := by simpa using hj
      have HF : Hid (ans = false) := by show ans = false; rw [HEv.out]; simp [hj]
      go_enter Tryz.func5, Tryz.ntmps5
      go_wp2
      go_ret
      exact ⟨ret_bool HF.out.symm, HA1.out _⟩
    subst hj
    have HE2 : Hid (ans = (ok && (zr && decide (dl = 0)))) := by show _ = _; rw [HEv.out]; simp
    clear HEv HSm HNl
    go_enter Tryz.func5, Tryz.ntmps5
    go_wp2_with fail
    refine (HOk.out _ (HA1.out _)).mono ?_
    rintro e w2 ⟨rfl, b2⟩
    have hE2 := (b2.block _ (by simp)).trans hE0
    clear f0 f1 f2 f3 f4 f5 f6 f7 f8
    obtain ⟨f0, f1, f2, f3, f4, f5, f6, f7, f8⟩ := ev_row hE2
    have B2 := hide' (Below.on (HA1.out _) b2)
    have hs2 : w.heap.size < w2.heap.size := by have := b2.size; simp at this; omega
    clear b2 hE0
    cases ok with
    | false =>
      have HF : Hid (ans = false) := HE2.out
      go_wp2
      go_ret
      exact ⟨ret_bool HF.out.symm, B2.out⟩
    | true =>
      have HZ2 := hide' (HZr.out rfl _ B2.out)
      go_wp2_with fail
      refine HZ2.out.mono ?_
      rintro e w3 ⟨rfl, b3⟩
      have hE3 := (b3.block _ hs2).trans hE2
      clear f0 f1 f2 f3 f4 f5 f6 f7 f8
      obtain ⟨f0, f1, f2, f3, f4, f5, f6, f7, f8⟩ := ev_row hE3
      have B3 := hide' (Below.on B2.out b3)
      clear b3 hE2 hE3 HZ2
      cases zr with
      | false =>
        have HF : Hid (ans = false) := HE2.out
        go_wp2
        go_ret
        exact ⟨ret_bool HF.out.symm, B3.out⟩
      | true =>
        by_cases hdl : dl = 0
        · subst hdl
          have HF : Hid (ans = true) := by show _ = _; rw [HE2.out]; rfl
          go_wp2
          go_ret
          exact ⟨ret_bool HF.out.symm, B3.out⟩
        · have hdl' : ((dl : Int) == 0) = false := by simp; omega
          have hdl2 : ¬ (dl : Int) = 0 := by omega
          have HF : Hid (ans = false) := by show _ = _; rw [HE2.out, decide_eq_false hdl]; rfl
          go_wp2
          go_ret
          exact ⟨ret_bool HF.out.symm, B3.out⟩
  · have hE0 := HNl.out _ rfl
    obtain ⟨f0, f1, f2, f3, f4, f5, f6, f7, f8⟩ := ev_row hE0
    by_cases hal : al = 0
    rotate_left
    · have hal' : (0 : Int) < (al : Int) := by omega
      have HF : Hid (ans = false) := by show ans = false; rw [HEv.out]; simp [hal]
      go_enter Tryz.func5, Tryz.ntmps5
      go_wp2
      go_ret
      exact ⟨ret_bool HF.out.symm, HA1.out _⟩
    subst hal
    by_cases hj : jj = 0
    rotate_left
    · have hj' : (jj != 0) = true := by simpa using hj
      have HF : Hid (ans = false) := by show ans = false; rw [HEv.out]; simp [hj]
      go_enter Tryz.func5, Tryz.ntmps5
      go_wp2
      go_ret
      exact ⟨ret_bool HF.out.symm, HA1.out _⟩
    subst hj
    have HE2 : Hid (ans = (ok && (zr && decide (dl = 0)))) := by show _ = _; rw [HEv.out]; simp
    clear HEv HSm HNl
    go_enter Tryz.func5, Tryz.ntmps5
    go_wp2_with fail
    refine (HOk.out _ (HA1.out _)).mono ?_
    rintro e w2 ⟨rfl, b2⟩
    have hE2 := (b2.block _ (by simp)).trans hE0
    clear f0 f1 f2 f3 f4 f5 f6 f7 f8
    obtain ⟨f0, f1, f2, f3, f4, f5, f6, f7, f8⟩ := ev_row hE2
    have B2 := hide' (Below.on (HA1.out _) b2)
    have hs2 : w.heap.size < w2.heap.size := by have := b2.size; simp at this; omega
    clear b2 hE0
    cases ok with
    | false =>
      have HF : Hid (ans = false) := HE2.out
      go_wp2
      go_ret
      exact ⟨ret_bool HF.out.symm, B2.out⟩
    | true =>
      have HZ2 := hide' (HZr.out rfl _ B2.out)
      go_wp2_with fail
      refine HZ2.out.mono ?_
      rintro e w3 ⟨rfl, b3⟩
      have hE3 := (b3.block _ hs2).trans hE2
      clear f0 f1 f2 f3 f4 f5 f6 f7 f8
      obtain ⟨f0, f1, f2, f3, f4, f5, f6, f7, f8⟩ := ev_row hE3
      have B3 := hide' (Below.on B2.out b3)
      clear b3 hE2 hE3 HZ2
      cases zr with
      | false =>
        have HF : Hid (ans = false) := HE2.out
        go_wp2
        go_ret
        exact ⟨ret_bool HF.out.symm, B3.out⟩
      | true =>
        by_cases hdl : dl = 0
        · subst hdl
          have HF : Hid (ans = true) := by show _ = _; rw [HE2.out]; rfl
          go_wp2
          go_ret
          exact ⟨ret_bool HF.out.symm, B3.out⟩
        · have hdl' : ((dl : Int) == 0) = false := by simp; omega
          have hdl2 : ¬ (dl : Int) = 0 := by omega
          have HF : Hid (ans = false) := by show _ = _; rw [HE2.out, decide_eq_false hdl]; rfl
          go_wp2
          go_ret
          exact ⟨ret_bool HF.out.symm, B3.out⟩
end Go.Proofs.YtigkjbioljpcoaaGreatDoor
/-
  szItemS: a list of records is not too great.
-/
namespace Go.Proofs.YtigkjbioljpcoaaGreatDoor
open Go.RowKit
set_option linter.unusedVariables false
set_option linter.unusedSimpArgs false

theorem info_laws_Event {n : Nat} (h : n = 9) : (Tryz.prog.info? 28).map (·.size) = some n := by rw [h]; kernel_rfl
theorem info_Event {n : Nat} (h : n = 9) : (Tryz.prog.info? 35).map (·.size) = some n := by rw [h]; kernel_rfl


/-- What szActS leaves. -/
def SzREnd (d : Nat) (l : List (Rcd d)) (w : World) (e : Ending) (w' : World) : Prop := (e = .returned (.int .i64 (-1)) ∨ ∃ n : Int, 0 ≤ n ∧ n ≤ 1048576 ∧ e = .returned (.int .i64 n) ∧ l.length ≤ 1048576 ∧ ∀ i (h : i < l.length), RSz d l[i]) ∧ Below w.heap.size w w'

end Go.Proofs.YtigkjbioljpcoaaGreatDoor
/-
  A function that copies a struct: the argument's box, the answer's, the variable's; and rows of cells by ranges.
-/
namespace Go.Proofs.YtigkjbioljpcoaaGreatDoor
open Go.RowKit
set_option linter.unusedVariables false
set_option linter.unusedSimpArgs false

theorem range_of_row {w : World} {g : Nat} {cs : List Value} {T : TypeId} {fr : Nat × Nat} (h : w.heap[g]? = some (.cells cs.toArray T fr)) : w.rangeAt g 0 cs := fun j v hv => by
  rw [Nat.zero_add, cell_of_row w g j _ _ _ h]
  simpa using hv
theorem there_of_row {w : World} {g : Nat} {cs : Array Value} {T : TypeId} (h : w.heap[g]? = some (.cells cs T (0, 0))) : w.there g 0 cs.size := fun j hj => by
  rw [Nat.zero_add, cell_of_row w g j _ _ _ h]
  exact ⟨by simp [hj], frozen_of_row _ _ _ _ _ h⟩
theorem results_cell {P : Program} {fn : Func} {tmps : Array Value} {w : World} {v : Value} {ad : Addr} (s : Nat) (t : TypeId) (hr : fn.results = #[.cell s t]) (hp : tmps.getD s undef = .pointer (some ad)) (hl : (loadVar t ad).run P w = .ok v w) : (results fn tmps).run P w = .ok v w := by
  unfold results
  rw [hr]
  simp only [Array.mapM_eq_mapM_toList, List.mapM_cons, List.mapM_nil, Sem.run_bind, Sem.run_pure, Result.andThen_ok, hp]
  simp [asAddr, hl]
theorem grown_setCells (g : Nat) : ∀ (vs : List Value) (o : Nat) (w : World), w.grownBy (w.setCells g o vs) (some g)
  | [], _, w => World.grownBy.refl w _
  | v :: r, o, w => grownBy_trans (grown1 w g o v) (grown_setCells g r (o + 1) (w.setCell ⟨g, o, none⟩ v))

/-- The three boxes. -/
def BxSt (w : World) (T1 T2 : TypeId) (arg zer cur : Array Value) (wx : World) : Prop :=
  Below w.heap.size w wx ∧ wx.heap[w.heap.size]? = some (.cells arg T1 (0, 0)) ∧ wx.heap[w.heap.size + 1]? = some (.cells zer T2 (0, 0)) ∧ wx.heap[w.heap.size + 1 + 1]? = some (.cells cur T2 (0, 0)) ∧ w.heap.size + 3 ≤ wx.heap.size

theorem bx_start (w : World) (T1 T2 : TypeId) (arg zer cur : Array Value) : BxSt w T1 T2 arg zer cur (((w.alloc (.cells arg T1)).alloc (.cells zer T2)).alloc (.cells cur T2)) := by
  refine ⟨(((Below.refl _ _).alloc (Nat.le_refl _) _).alloc (by simp) _).alloc (by simp; omega) _, ?_, ?_, ?_, by simp⟩
  · rw [Below.heap_alloc _ _ _ (by simp; omega), Below.heap_alloc _ _ _ (by simp)]
    exact (MapKept.heap_alloc w _).1
  · rw [Below.heap_alloc _ _ _ (by simp)]
    have := (MapKept.heap_alloc (w.alloc (.cells arg T1)) (.cells zer T2)).1
    simpa using this
  · have := (MapKept.heap_alloc ((w.alloc (.cells arg T1)).alloc (.cells zer T2)) (.cells cur T2)).1
    simpa using this
theorem bx_below {w wx w1 : World} {T1 T2 : TypeId} {arg zer cur : Array Value} (h : BxSt w T1 T2 arg zer cur wx) (b : Below wx.heap.size wx w1) : BxSt w T1 T2 arg zer cur w1 := by
  obtain ⟨h1, h2, h3, h4, h5⟩ := h
  have hz := b.size
  exact ⟨Below.on h1 b, (b.block _ (by omega)).trans h2, (b.block _ (by omega)).trans h3, (b.block _ (by omega)).trans h4, by omega⟩
theorem bx_turn {w w1 w2 : World} {T1 T2 : TypeId} {arg zer cur cur' : Array Value} (h : BxSt w T1 T2 arg zer cur w1) (hg : w1.grownBy w2 (some (w.heap.size + 1 + 1))) (hr : w2.heap[w.heap.size + 1 + 1]? = some (.cells cur' T2 (0, 0))) : BxSt w T1 T2 arg zer cur' w2 := by
  obtain ⟨h1, h2, h3, h4, h5⟩ := h
  refine ⟨h1.grown hg (by omega) (by intro k hk; simp at hk; omega), (hg.block _ (by omega) (by simp; omega)).trans h2, (hg.block _ (by omega) (by simp)).trans h3, hr, by have := hg.size; omega⟩
theorem bx_set {w w1 : World} {T1 T2 : TypeId} {arg zer cur cur' : Array Value} (h : BxSt w T1 T2 arg zer cur w1) (j : Nat) (v : Value) (hc : cur.setIfInBounds j v = cur') : BxSt w T1 T2 arg zer cur' (w1.setCell ⟨w.heap.size + 1 + 1, j, none⟩ v) := by
  subst hc
  exact bx_turn h (grown1 _ _ _ _) (heap_setCell_same _ _ _ _ _ _ h.2.2.2.1)
theorem bx_set5 {w w1 : World} {T1 T2 : TypeId} {arg zer cur cur' : Array Value} (h : BxSt w T1 T2 arg zer cur w1) (j : Nat) (c0 c1 c2 c3 c4 : Value) (hc : ((((cur.setIfInBounds j c0).setIfInBounds (j + 1) c1).setIfInBounds (j + 2) c2).setIfInBounds (j + 3) c3).setIfInBounds (j + 4) c4 = cur') : BxSt w T1 T2 arg zer cur' (set5 w1 (w.heap.size + 1 + 1) j c0 c1 c2 c3 c4) := by
  subst hc
  exact bx_turn h (set5_grown _ _ _ _ _ _ _ _) (set5_heap _ _ _ _ _ h.2.2.2.1)

/-- Behind the boxes. -/
def Beh (w wx : World) (b : Nat) : Prop := w.heap.size + 3 ≤ b ∧ b < wx.heap.size
theorem beh_below {w wx w1 : World} (b : Below wx.heap.size wx w1) : Agree (Beh w wx) wx w1 := fun k hk => b.block k hk.2
theorem beh_turn {w wx w1 : World} (hg : wx.grownBy w1 (some (w.heap.size + 1 + 1))) : Agree (Beh w wx) wx w1 := fun k hk => hg.block k hk.2 (by have := hk.1; simp; omega)
theorem beh_mono {w wx w1 : World} (h : wx.heap.size ≤ w1.heap.size) : ∀ b, Beh w wx b → Beh w w1 b := fun b hb => ⟨hb.1, Nat.lt_of_lt_of_le hb.2 h⟩
end Go.Proofs.YtigkjbioljpcoaaGreatDoor
/-
  toItem: a record copied.
-/
namespace Go.Proofs.YtigkjbioljpcoaaGreatDoor
open Go.RowKit
set_option linter.unusedVariables false
set_option linter.unusedSimpArgs false

theorem keys_small {ks : List (List Int)} (h : szK ks ≤ 1048576) : ks.length ≤ 1048576 ∧ ∀ t ∈ ks, t.length ≤ 1048576 := by
  refine ⟨by unfold szK at h; omega, fun t ht => ?_⟩
  obtain ⟨i, hi, rfl⟩ := List.getElem_of_mem ht
  have h1 := pre_succ List.length ks i hi
  have h2 := pre_le List.length ks (i + 1)
  unfold szK at h
  omega

/-- What toItem leaves. -/
def RcEnd (d : Nat) (it : Rcd d) (w : World) (e : Ending) (w' : World) : Prop := ∃ cs, e = .returned (.agg cs.toArray) ∧ RSg (fun b => w.heap.size ≤ b ∧ b < w'.heap.size) w' d cs it ∧ Below w.heap.size w w'

set_option maxHeartbeats 3200000 in
set_option maxRecDepth 100000 in
theorem toEvent_any (d N : Nat) (cs : List Value) (it : Rcd d) (w : World) (h : RSg (fun b => b < N) w d cs it) (hN : N ≤ w.heap.size) (hz : RSz d it) :
    Calls Tryz.prog 6 #[.agg cs.toArray] w (RcEnd d it w) := by
  obtain ⟨na, np, bk, bn, a2, l2, p2, a3, l3, p3, a4, l4, p4, xa, xp, rfl, ht, hv, hk⟩ := h.form
  obtain ⟨k, nm, mn, by', ks⟩ := it
  obtain ⟨z0, z1, z2⟩ := hz
  simp only at ht hv hk z0 z1 z2 ⊢
  have hA : ∀ wx, Below w.heap.size w wx → Agree (fun b => b < N) w wx := fun wx hb => agree_below (hb.mono hN)
  have HT : Hid (∀ wx, Below w.heap.size w wx → w.heap.size + 3 ≤ wx.heap.size → Calls Tryz.prog 17 #[.slice na nm.length np] wx fun e w' => ∃ g c, e = .returned (.slice (some ⟨g, 0, none⟩) nm.length c) ∧ TSeg (Beh w w') w' (.slice (some ⟨g, 0, none⟩) nm.length c) nm ∧ Below wx.heap.size wx w') := fun wx hb hs => by
    obtain ⟨_, _, e1, s1, _⟩ := ht.agree (hA wx hb)
    simp at e1
    obtain ⟨rfl, _⟩ := e1
    refine (toByteS_any _ _ nm wx s1 (by omega)).mono ?_
    rintro e w' ⟨rfl, hB, b⟩
    refine ⟨_, _, rfl, (tOwn_new hB).seg.mono fun b' hb' => ?_, b⟩
    have h1 := (tOwn_new hB).lt b' hb'
    simp at hb'
    exact ⟨by omega, h1⟩
  have HV : Hid (∀ wx, Below w.heap.size w wx → w.heap.size + 3 ≤ wx.heap.size → Calls Tryz.prog 18 #[.agg #[.int .i64 bk, .int .i64 bn, .slice a2 l2 p2, .slice a3 l3 p3, .slice a4 l4 p4]] wx fun e w' => ∃ c0 c1 c2 c3 c4, e = .returned (.agg #[c0, c1, c2, c3, c4]) ∧ VSeg (Beh w w') w' d (c0, c1, c2, c3, c4) by' ∧ Below wx.heap.size wx w') := fun wx hb hs => by
    refine (toValue_any d N (.int .i64 bk, .int .i64 bn, .slice a2 l2 p2, .slice a3 l3 p3, .slice a4 l4 p4) by' wx (VSeg.agree (hA wx hb) d hv) (by have := hb.size; omega) z1).mono ?_
    rintro e w' ⟨c0, c1, c2, c3, c4, rfl, B, hO, hB, b⟩
    exact ⟨_, _, _, _, _, rfl, VSeg.mono (fun b' hb' => by have := hB b' hb'; exact ⟨by omega, this.2⟩) d (VOwn.seg d hO), b⟩
  have HK : Hid (∀ wx, Below w.heap.size w wx → w.heap.size + 3 ≤ wx.heap.size → Calls Tryz.prog 19 #[.slice xa ks.length xp] wx fun e w' => ∃ a c, e = .returned (.slice a ks.length c) ∧ KSeg (Beh w w') w' (.slice a ks.length c) ks ∧ Below wx.heap.size wx w') := fun wx hb hs => by
    obtain ⟨q1, q2⟩ := keys_small z2
    refine (toByteSS_any N _ ks wx (hk.agree (hA wx hb)) (by have := hb.size; omega) q1 q2).mono ?_
    rintro e w' ⟨u, rfl, B, hO, hB, b⟩
    have hs := hO.seg.mono (R' := Beh w w') fun b' hb' => by have := hB b' hb'; exact ⟨by omega, this.2⟩
    have hs' := hs
    obtain ⟨a, c, rfl, _⟩ := hs
    exact ⟨a, c, rfl, hs', b⟩

  clear ht hv hk h hA
  have hst0 := hide' (bx_start w 28 35 #[.int .i64 k, .slice na nm.length np, .int .i64 mn, .int .i64 bk, .int .i64 bn, .slice a2 l2 p2, .slice a3 l3 p3, .slice a4 l4 p4, .slice xa ks.length xp] #[.int .i64 0, .slice none 0 0, .int .i64 0, .int .i64 0, .int .i64 0, .slice none 0 0, .slice none 0 0, .slice none 0 0, .slice none 0 0] #[.int .i64 k, .slice none 0 0, .int .i64 0, .int .i64 0, .int .i64 0, .slice none 0 0, .slice none 0 0, .slice none 0 0, .slice none 0 0])
  have HNm : Hid (RcEnd d (k, nm, mn, by', ks) w = RcEnd d (k, nm, mn, by', ks) w) := rfl
  generalize hn0 : nm.length = s0 at *
  generalize hn1 : ks.length = kl at *
  have Hn0 := hide' hn0
  have Hn1 := hide' hn1
  clear hn0 hn1 z0 z1 z2
  go_enter Tryz.func6, Tryz.ntmps6
  go_wp2_with fail
  refine (HT.out _ hst0.out.1 hst0.out.2.2.2.2).mono ?_
  rintro e w1 ⟨g1, c1, rfl, hT1, b1⟩
  have hq := bx_below hst0.out b1
  have hs1 := bx_set hq 1 (.slice (some ⟨g1, 0, none⟩) s0 c1) rfl
  have hs1' := hide' (bx_set hs1 2 (.int .i64 mn) rfl)
  have hg1 := grownBy_trans (grown1 w1 (w.heap.size + 1 + 1) 1 (.slice (some ⟨g1, 0, none⟩) s0 c1)) (grown1 _ (w.heap.size + 1 + 1) 2 (.int .i64 mn))
  have HT1 := hide' ((hT1.agree (beh_turn hg1)).mono (beh_mono hg1.size))
  have u2 := cell_of_row _ _ 2 _ _ _ hq.2.1
  have u3 := cell_of_row _ _ 3 _ _ _ hq.2.1
  have u4 := cell_of_row _ _ 4 _ _ _ hq.2.1
  have u5 := cell_of_row _ _ 5 _ _ _ hq.2.1
  have u6 := cell_of_row _ _ 6 _ _ _ hq.2.1
  have u7 := cell_of_row _ _ 7 _ _ _ hq.2.1
  have t1 := cell_of_row _ _ 1 _ _ _ hq.2.2.2.1
  have t2 := cell_of_row _ _ 2 _ _ _ hq.2.2.2.1
  have f1 := frozen_of_row _ _ 1 _ _ hq.2.2.2.1
  have f2 := frozen_of_row _ _ 2 _ _ hq.2.2.2.1
  simp at u2 u3 u4 u5 u6 u7 t1 t2 hs1'
  clear hT1 b1 hq hs1 hg1 hst0 HT
  go_wp2_with fail
  refine (HV.out _ hs1'.out.1 hs1'.out.2.2.2.2).mono ?_
  rintro e w2 ⟨v0, v1, v2, v3, v4, rfl, hV2, b2⟩
  obtain ⟨vk, vn, e2, m2, q2, e3, m3, q3, e4, m4, q4, rfl, rfl, rfl, rfl, rfl⟩ := VSeg.form d hV2
  have hq := bx_below hs1'.out b2
  have hs2 := hide' (bx_set5 hq 3 (.int .i64 vk) (.int .i64 vn) (.slice e2 m2 q2) (.slice e3 m3 q3) (.slice e4 m4 q4) rfl)
  have hg2 := set5_grown w2 (w.heap.size + 1 + 1) 3 (.int .i64 vk) (.int .i64 vn) (.slice e2 m2 q2) (.slice e3 m3 q3) (.slice e4 m4 q4)
  have HT2 := hide' ((((HT1.out.agree (beh_below b2)).mono (beh_mono b2.size)).agree (beh_turn hg2)).mono (beh_mono hg2.size))
  have HV2 := hide' (VSeg.mono (beh_mono hg2.size) d (VSeg.agree (beh_turn hg2) d hV2))
  have x8 := cell_of_row _ _ 8 _ _ _ hq.2.1
  have r3 := cell_of_row _ _ 3 _ _ _ hq.2.2.2.1
  have r4 := cell_of_row _ _ 4 _ _ _ hq.2.2.2.1
  have r5 := cell_of_row _ _ 5 _ _ _ hq.2.2.2.1
  have r6 := cell_of_row _ _ 6 _ _ _ hq.2.2.2.1
  have r7 := cell_of_row _ _ 7 _ _ _ hq.2.2.2.1
  have k3 := frozen_of_row _ _ 3 _ _ hq.2.2.2.1
  have k4 := frozen_of_row _ _ 4 _ _ hq.2.2.2.1
  have k5 := frozen_of_row _ _ 5 _ _ hq.2.2.2.1
  have k6 := frozen_of_row _ _ 6 _ _ hq.2.2.2.1
  have k7 := frozen_of_row _ _ 7 _ _ hq.2.2.2.1
  simp at x8 r3 r4 r5 r6 r7 hs2
  clear hV2 b2 hq hg2 hs1' HV HT1 u2 u3 u4 u5 u6 u7 t1 t2 f1 f2
  go_wp2_with fail
  refine (HK.out _ hs2.out.1 hs2.out.2.2.2.2).mono ?_
  rintro e w3 ⟨ka, kc, rfl, hK3, b3⟩
  have hq := bx_below hs2.out b3
  have HQ3 := hide' hq
  have hs3 := hide' (bx_set hq 8 (.slice ka kl kc) rfl)
  have hg3 := grown1 w3 (w.heap.size + 1 + 1) 8 (.slice ka kl kc)
  have HT3 := hide' ((((HT2.out.agree (beh_below b3)).mono (beh_mono b3.size)).agree (beh_turn hg3)).mono (beh_mono hg3.size))
  have HV3 := hide' (VSeg.mono (beh_mono hg3.size) d (VSeg.agree (beh_turn hg3) d (VSeg.mono (beh_mono b3.size) d (VSeg.agree (beh_below b3) d HV2.out))))
  have HK3 := hide' ((hK3.agree (beh_turn hg3)).mono (beh_mono hg3.size))
  clear hK3 b3 hq hg3 HK HT2 HV2 x8 r3 r4 r5 r6 r7 k3 k4 k5 k6 k7
  have r8 := cell_of_row _ _ 8 _ _ _ HQ3.out.2.2.2.1
  have k8 := frozen_of_row _ _ 8 _ _ HQ3.out.2.2.2.1
  simp at r8 hs3
  go_upto_region 7 with fail
  generalize w3.setCell ⟨w.heap.size + 1 + 1, 8, none⟩ (.slice ka kl kc) = wA at *
  clear r8 k8 HQ3
  have hr := range_of_row (cs := [.int .i64 k, .slice (some ⟨g1, 0, none⟩) s0 c1, .int .i64 mn, .int .i64 vk, .int .i64 vn, .slice e2 m2 q2, .slice e3 m3 q3, .slice e4 m4 q4, .slice ka kl kc]) hs3.out.2.2.2.1
  have hth : wA.there (w.heap.size + 1) 0 9 := there_of_row hs3.out.2.2.1
  have hone : ∀ v ∈ [Value.int .i64 k, .slice (some ⟨g1, 0, none⟩) s0 c1, .int .i64 mn, .int .i64 vk, .int .i64 vn, .slice e2 m2 q2, .slice e3 m3 q3, .slice e4 m4 q4, .slice ka kl kc], v.oneCell' = true := by
    intro v hv
    simp only [List.mem_cons, List.not_mem_nil, or_false] at hv
    rcases hv with rfl | rfl | rfl | rfl | rfl | rfl | rfl | rfl | rfl <;> rfl
  have hld := run_loadVar_mid (P := Tryz.prog) _ _ _ 35 _ _ (World.rangeAt_setCells_same wA (w.heap.size + 1) 0 [.int .i64 k, .slice (some ⟨g1, 0, none⟩) s0 c1, .int .i64 mn, .int .i64 vk, .int .i64 vn, .slice e2 m2 q2, .slice e3 m3 q3, .slice e4 m4 q4, .slice ka kl kc] hth) Tryz.underlying35 rfl (by kernel_rfl)
  have hg := grown_setCells (w.heap.size + 1) [.int .i64 k, .slice (some ⟨g1, 0, none⟩) s0 c1, .int .i64 mn, .int .i64 vk, .int .i64 vn, .slice e2 m2 q2, .slice e3 m3 q3, .slice e4 m4 q4, .slice ka kl kc] 0 wA
  go_wp2_with (first | (refine wpList_load_mid rfl 35 (.tmp 3) (by rfl) (w.heap.size + 1 + 1) 0 (by rfl) _ _ hr Tryz.underlying35 rfl (by kernel_rfl) ?_) | (refine wpList_store_mid rfl 35 (.tmp 2) (.tmp 22) (by rfl) (w.heap.size + 1) 0 #[.int .i64 k, .slice (some ⟨g1, 0, none⟩) s0 c1, .int .i64 mn, .int .i64 vk, .int .i64 vn, .slice e2 m2 q2, .slice e3 m3 q3, .slice e4 m4 q4, .slice ka kl kc] (by rfl) (by rfl) hth (by kernel_rfl) (all_oneCell_toArray hone) ?_))
  refine bodyPost_ret (v := .agg #[.int .i64 k, .slice (some ⟨g1, 0, none⟩) s0 c1, .int .i64 mn, .int .i64 vk, .int .i64 vn, .slice e2 m2 q2, .slice e3 m3 q3, .slice e4 m4 q4, .slice ka kl kc]) (results_cell 2 35 Tryz.results6 (by rfl) hld) rfl ?_
  have hAg : Agree (Beh w wA) wA _ := fun b hb => hg.block b hb.2 (by have := hb.1; simp; omega)
  have hMo : ∀ b, Beh w wA b → (w.heap.size ≤ b ∧ b < (wA.setCells (w.heap.size + 1) 0 [.int .i64 k, .slice (some ⟨g1, 0, none⟩) s0 c1, .int .i64 mn, .int .i64 vk, .int .i64 vn, .slice e2 m2 q2, .slice e3 m3 q3, .slice e4 m4 q4, .slice ka kl kc]).heap.size) := fun b hb => ⟨by have := hb.1; omega, Nat.lt_of_lt_of_le hb.2 hg.size⟩
  exact ⟨_, rfl, ⟨_, _, _, _, _, _, _, rfl, (HT3.out.agree hAg).mono hMo, VSeg.mono hMo d (VSeg.agree hAg d HV3.out), (HK3.out.agree hAg).mono hMo⟩, hs3.out.1.grown hg (by have := hs3.out.2.2.2.2; omega) (by intro j hj; simp at hj; omega)⟩

end Go.Proofs.YtigkjbioljpcoaaGreatDoor
/-
  eqItem, eqItemS: two readings of one list of records.
-/
namespace Go.Proofs.YtigkjbioljpcoaaGreatDoor
open Go.RowKit
set_option linter.unusedVariables false
set_option linter.unusedSimpArgs false

set_option maxHeartbeats 3200000 in
set_option maxRecDepth 100000 in
theorem eqEvent_any (d N : Nat) (cs cs' : List Value) (it : Rcd d) (w : World) (h : RSg (fun b => b < N) w d cs it) (h' : RSg (fun b => b < N) w d cs' it) (hN : N ≤ w.heap.size) (hz : RSz d it) :
    Calls Tryz.prog 8 #[.agg cs.toArray, .agg cs'.toArray] w fun e w' => e = .returned (.bool true) ∧ Below w.heap.size w w' := by
  obtain ⟨na, np, bk, bn, a2, l2, p2, a3, l3, p3, a4, l4, p4, xa, xp, rfl, ht, hv, hk⟩ := h.form
  obtain ⟨na', np', bk', bn', a2', l2', p2', a3', l3', p3', a4', l4', p4', xa', xp', rfl, ht', hv', hk'⟩ := h'.form
  obtain ⟨k, nm, mn, by', ks⟩ := it
  obtain ⟨z0, z1, z2⟩ := hz
  simp only at ht hv hk ht' hv' hk' z0 z1 z2 ⊢
  have HB : Hid (∀ o o' : Obj, Below w.heap.size w ((w.alloc o).alloc o')) := fun o o' => ((Below.refl _ _).alloc (Nat.le_refl _) o).alloc (by simp) o'
  have Hbox : Hid (∀ o o' wx, Below ((w.alloc o).alloc o').heap.size ((w.alloc o).alloc o') wx → wx.heap[w.heap.size]? = some o ∧ wx.heap[w.heap.size + 1]? = some o') := fun o o' wx h => ⟨(h.block _ (by simp; omega)).trans (two_boxes w o o').1, (h.block _ (by simp)).trans (two_boxes w o o').2⟩
  have hA : ∀ wx, Below w.heap.size w wx → Agree (fun b => b < N) w wx := fun wx hb => agree_below (hb.mono hN)
  have HT : Hid (∀ wx, Below w.heap.size w wx → Calls Tryz.prog 21 #[.slice na nm.length np, .slice na' nm.length np'] wx fun e w' => e = .returned (.bool true) ∧ Below wx.heap.size wx w') := fun wx hb => by
    obtain ⟨_, _, e1, s1, _⟩ := ht.agree (hA wx hb)
    obtain ⟨_, _, e2, s2, _⟩ := ht'.agree (hA wx hb)
    simp at e1 e2
    obtain ⟨rfl, _⟩ := e1
    obtain ⟨rfl, _⟩ := e2
    exact eqByteS_same _ _ _ _ nm wx s1 s2 (by omega)
  have HV : Hid (∀ wx, Below w.heap.size w wx → Calls Tryz.prog 22 #[.agg #[.int .i64 bk, .int .i64 bn, .slice a2 l2 p2, .slice a3 l3 p3, .slice a4 l4 p4], .agg #[.int .i64 bk', .int .i64 bn', .slice a2' l2' p2', .slice a3' l3' p3', .slice a4' l4' p4']] wx fun e w' => e = .returned (.bool true) ∧ Below wx.heap.size wx w') := fun wx hb =>
    eqValue_any d N (.int .i64 bk, .int .i64 bn, .slice a2 l2 p2, .slice a3 l3 p3, .slice a4 l4 p4) (.int .i64 bk', .int .i64 bn', .slice a2' l2' p2', .slice a3' l3' p3', .slice a4' l4' p4') by' wx (VSeg.agree (hA wx hb) d hv) (VSeg.agree (hA wx hb) d hv') (by have := hb.size; omega) z1
  have HK : Hid (∀ wx, Below w.heap.size w wx → Calls Tryz.prog 23 #[.slice xa ks.length xp, .slice xa' ks.length xp'] wx fun e w' => e = .returned (.bool true) ∧ Below wx.heap.size wx w') := fun wx hb => eqByteSS_same N _ _ ks wx (hk.agree (hA wx hb)) (hk'.agree (hA wx hb)) (by have := hb.size; omega) z2

  clear ht hv hk ht' hv' hk' h h' hA
  generalize nm.length = s0 at *
  generalize ks.length = kl at *
  go_enter Tryz.func8, Tryz.ntmps8
  go_wp2_with fail
  refine (HT.out _ (HB.out _ _)).mono ?_
  rintro e w1 ⟨rfl, b1⟩
  obtain ⟨r1, r2⟩ := Hbox.out _ _ _ b1
  have u2 := cell_of_row _ _ 2 _ _ _ r1
  have t2 := cell_of_row _ _ 2 _ _ _ r2
  have u3 := cell_of_row _ _ 3 _ _ _ r1
  have t3 := cell_of_row _ _ 3 _ _ _ r2
  have u4 := cell_of_row _ _ 4 _ _ _ r1
  have t4 := cell_of_row _ _ 4 _ _ _ r2
  have u5 := cell_of_row _ _ 5 _ _ _ r1
  have t5 := cell_of_row _ _ 5 _ _ _ r2
  have u6 := cell_of_row _ _ 6 _ _ _ r1
  have t6 := cell_of_row _ _ 6 _ _ _ r2
  have u7 := cell_of_row _ _ 7 _ _ _ r1
  have t7 := cell_of_row _ _ 7 _ _ _ r2
  simp at u2 u3 u4 u5 u6 u7 t2 t3 t4 t5 t6 t7
  have B1 := hide' b1
  clear r1 r2 b1
  go_wp2_with fail
  refine (HV.out _ (Below.on (HB.out _ _) B1.out)).mono ?_
  rintro e w2 ⟨rfl, b2⟩
  have B2 := hide' (Below.on B1.out b2)
  obtain ⟨r1, r2⟩ := Hbox.out _ _ _ B2.out
  have u8 := cell_of_row _ _ 8 _ _ _ r1
  have t8 := cell_of_row _ _ 8 _ _ _ r2
  simp at u8 t8
  clear r1 r2 b2
  go_wp2_with fail
  refine (HK.out _ (Below.on (HB.out _ _) B2.out)).mono ?_
  rintro e w3 ⟨rfl, b3⟩
  have B3 := hide' (Below.on (HB.out _ _) (Below.on B2.out b3))
  clear b3
  go_wp2
  go_ret
  exact ⟨rfl, B3.out⟩

end Go.Proofs.YtigkjbioljpcoaaGreatDoor
