/-
  Texts that a law leans on, one behind the other; no statement is proved here.
-/
import Derived.Test.YthnkedbmfhokiaaGreatDoorPk35
import Derived.Test.YthnkedbmfhokiaaGreatDoorPk36
import Derived.Test.YthnkedbmfhokiaaGreatDoorPk37
import Derived.Test.YthnkedbmfhokiaaGreatDoorPk40
import Derived.Test.YthnkedbmfhokiaaGreatDoorPk45
/-
  ValRead of the program: the value whose bytes these are. No statement is proved here.
-/
namespace Go.Proofs.YthnkedbmfhokiaaGreatDoor
open Go.RowKit Go.Shelf
set_option linter.unusedVariables false
set_option linter.unusedSimpArgs false

theorem reader_value_any (dp : Nat) : RiAt dp := value_any (fun dp ih xs g B a cap p q kd w h hg hB h0 h1 h2 hk hb => by
  rcases hk with hk | hk
  · exact reader_holds_4 dp ih xs g B a cap p q kd w h hg hB h0 h1 h2 hk hb
  · exact reader_holds_5 dp ih xs g B a cap p q kd w h hg hB h0 h1 h2 hk hb) dp

theorem equal_rd (a b : Option Addr) (c1 c2 : Nat) (xs ys : List Int) (w : World) (ha : Seg w a xs) (hb : Seg w b ys) :
    Calls Tryz.prog 22 #[.slice a xs.length c1, .slice b ys.length c2] w fun e w' => e = .returned (.bool ((strOf xs).toList == (strOf ys).toList)) ∧ w = w' := by
  have h1 := conv_seg c1 ha
  have h2 := conv_seg c2 hb
  generalize strOf xs = sx at *
  generalize strOf ys = sy at *
  clear ha hb
  go_enter Tryz.func22, Tryz.ntmps22
  go_wp2
  go_ret
  exact ⟨by simp, rfl⟩

set_option maxHeartbeats 12800000 in
set_option maxRecDepth 100000 in
theorem impl_ValRead_any (a : Option Addr) (cap : Nat) (xs : List Int) (w : World) (ha : Seg w a xs) (hc : xs.length ≤ cap) (hm : cap ≤ maxLen) (hl : xs.length ≤ 1048576) (hab : ∀ x, a = some x → xs ≠ [] → x.block < w.heap.size) :
    Calls Tryz.prog 9 #[.slice a xs.length cap] w (ReadEnd 42 (rdJ xs).1 (isJ xs) w) := by
  have hiff := isJ_iff xs
  obtain ⟨hb1, hb2⟩ := two_boxes w (.cells #[.int .i64 0, .int .i64 0, .slice none 0 0, .slice none 0 0, .slice none 0 0] 26) (.cells #[.slice a xs.length cap, .int .i64 0, .int .i64 0] 49)
  have hsz := size2 w (.cells #[.int .i64 0, .int .i64 0, .slice none 0 0, .slice none 0 0, .slice none 0 0] 26) (.cells #[.slice a xs.length cap, .int .i64 0, .int .i64 0] 49)
  have hbw : Below w.heap.size w ((w.alloc (.cells #[.int .i64 0, .int .i64 0, .slice none 0 0, .slice none 0 0, .slice none 0 0] 26)).alloc (.cells #[.slice a xs.length cap, .int .i64 0, .int .i64 0] 49)) := ((Below.refl _ _).alloc (Nat.le_refl _) _).alloc (by simp) _
  have HC0 : Hid (RdC 49 xs ((w.alloc (.cells #[.int .i64 0, .int .i64 0, .slice none 0 0, .slice none 0 0, .slice none 0 0] 26)).alloc (.cells #[.slice a xs.length cap, .int .i64 0, .int .i64 0] 49)) (w.heap.size + 1) a cap 0 0) := hide' ⟨hb2, ha.grow hbw, fun x hx he => by have := hab x hx he; omega, hc, hm, hl, by omega, by omega⟩
  have HB0 := hide' hbw
  have HR0 := hide' hb1
  have HZ0 := hide' hsz
  clear hb1 hb2 hsz hbw ha hab
  go_enter Tryz.func9, Tryz.ntmps9
  go_upto_region 2 with fail
  generalize (w.alloc (.cells #[.int .i64 0, .int .i64 0, .slice none 0 0, .slice none 0 0, .slice none 0 0] 26)).alloc (.cells #[.slice a xs.length cap, .int .i64 0, .int .i64 0] 49) = w0 at *
  have HL := hide' (reader_value_any 41 xs (w.heap.size + 1) a cap 0 0 w0 HC0.out (by omega) (by omega) (by omega))
  rw [show rdV xs 41 0 (40 - 0) = rdJ xs from rfl] at HL
  generalize rdJ xs = r at *
  obtain ⟨v, at_, left⟩ := r
  simp only at HL hiff
  go_wp2_with fail
  refine HL.out.mono ?_
  rintro e w2 ⟨uk, un, s2, n2, r2, s3, n3, r3, s4, n4, r4, rfl, ⟨Bv, hv, hBv⟩, hc2, hg2⟩
  have HR2 := hide' ((hg2.block w.heap.size (by have := HZ0.out; omega) (by simp)).trans HR0.out)
  have HZ2 : Hid (w.heap.size < w2.heap.size) := hide' (by have h1 := hg2.size; have h2 := HZ0.out; omega)
  have HB2 : Hid (Below w.heap.size w w2) := hide' (HB0.out.grown hg2 (by have := HZ0.out; omega) (by intro j hj; simp at hj; omega))
  have HS2 : Hid (Seg w2 a xs) := hide' hc2.2.1
  have HPo := hide' (partOf_any 42 w2.heap.size _ _ _ _ _ v w2 (VSeg.mono (fun b hb => (hBv b hb).2) 42 (VOwn.seg 42 hv)) (Nat.le_refl _))
  clear hv hBv hc2 hg2 HC0 HB0 HR0 HZ0 HL
  generalize hxl : xs.length = nl at *
  have Hxl := hide' hxl
  clear hxl
  go_wp2_with fail
  refine HPo.out.mono ?_
  rintro e w3 ⟨b3, ⟨p, rfl, hok, hps⟩ | ⟨rfl, hok⟩⟩
  · have HR3 := hide' ((b3.block w.heap.size HZ2.out).trans HR2.out)
    have HZ3 := hide' (Nat.lt_of_lt_of_le HZ2.out b3.size)
    have HB3 := hide' (HB2.out.trans (b3.mono HB2.out.size))
    have HS3 := hide' (HS2.out.grow b3)
    obtain ⟨h1, h2⟩ := okB_parts hok
    have HPP := hide' (putPart_any 42 w3.heap.size none 0 [] p v 1 w3 (PSeg.carry (fun b h => h.2) (fun _ _ => rfl) 42 hps) (Nat.le_refl _) ⟨by simp, .inl rfl⟩ (fun _ => rfl) h1 h2 (by simp; omega))
    have HVo : Hid (∀ wx, Below w3.heap.size w3 wx → Calls Tryz.prog 23 #[p] wx (ValEnd 42 v wx)) := hide' (fun wx hb => valueOf_any 42 w3.heap.size p v 1 wx (PSeg.carry (fun b h => h.2) (fun b h => hb.block b h.2) 42 hps) hb.size h1 h2)
    obtain ⟨tp, xp, rfl⟩ := hps.shape
    clear hps h1 h2 b3 HPo HR2 HB2 HS2 HZ2
    go_wp2_with fail
    refine HPP.out.mono ?_
    rintro e w4 ⟨u, rfl, hB, b4⟩
    obtain ⟨pa, pc, hsh, _⟩ := hB.shape
    have hEq := hide' (equal_rd pa a pc cap (bytV 42 v []) xs w4 (by obtain ⟨_, _, h, hsg, _⟩ := hB.shape; rw [hsh] at h; cases h; exact hsg) (HS3.out.grow b4))
    rw [Hxl.out] at hEq
    have hse := strOf_eq hB.1 HS3.out.1
    generalize (bytV 42 v []).length = pl at hsh hEq
    subst hsh
    have Hb4 := hide' b4
    clear hB b4 HPP
    by_cases hbx : bytV 42 v [] = xs
    · have HOK : Hid (okB 42 v = true ∧ bytV 42 v [] = xs) := hide' ⟨hok, hbx⟩
      rw [hse, show decide (bytV 42 v [] = xs) = true by simp [hbx]] at hEq
      clear hse hbx hok
      go_wp2_with fail
      refine hEq.out.mono ?_
      rintro e w5 ⟨rfl, rfl⟩
      have HVx := hide' (HVo.out w4 Hb4.out)
      clear hEq
      go_wp2_with fail
      refine HVx.out.mono ?_
      rintro e w6 ⟨u0, u1, u2, u3, u4, rfl, B, ho, hb, b6⟩
      obtain ⟨xk, xn, y2, m2, q2, y3, m3, q3, y4, m4, q4, rfl, rfl, rfl, rfl, rfl⟩ := VOwn.form 42 ho
      have HR6 := hide' (((Below.on Hb4.out b6).block w.heap.size HZ3.out).trans HR3.out)
      have HB6 := hide' (HB3.out.trans ((Below.on Hb4.out b6).mono HB3.out.size))
      have hz6 : w3.heap.size ≤ w6.heap.size := (Below.on Hb4.out b6).size
      have hz46 : w3.heap.size ≤ w4.heap.size := Hb4.out.size
      have HO := hide' (And.intro ho hb)
      obtain ⟨o0, o1, o2, o3, o4, of⟩ := row5 HR6.out
      have f0 := of 0
      have f1 := of 1
      have f2 := of 2
      have f3 := of 3
      have f4 := of 4
      clear of ho hb b6 HVx
      go_wp2_with fail
      have hfin := row5 (set5_heap (j := 0) (.int .i64 xk) (.int .i64 xn) (.slice y2 m2 q2) (.slice y3 m3 q3) (.slice y4 m4 q4) HR6.out)
      simp only [set5, Nat.zero_add] at hfin
      obtain ⟨x0, x1, x2, x3, x4, _⟩ := hfin
      refine bodyPost_ret (v := .tuple #[.agg #[.int .i64 xk, .int .i64 xn, .slice y2 m2 q2, .slice y3 m3 q3, .slice y4 m4 q4], .bool true]) (by simp [results, Tryz.results9, go_sem, x0, x1, x2, x3, x4]) rfl ?_
      exact readEnd_yes (hiff.2 HOK.out) HB6.out (by have := HZ3.out; omega) ⟨B, HO.out.1, fun b h => ⟨by have := HO.out.2 b h; have := HZ3.out; omega, (HO.out.2 b h).2⟩⟩
    · have HNO : Hid (¬ (okB 42 v = true ∧ bytV 42 v [] = xs)) := hide' (fun h => hbx h.2)
      rw [hse, show decide (bytV 42 v [] = xs) = false by simp [hbx]] at hEq
      clear hse hbx hok
      go_wp2_with fail
      refine hEq.out.mono ?_
      rintro e w5 ⟨rfl, rfl⟩
      have HR6 := hide' ((Hb4.out.block w.heap.size HZ3.out).trans HR3.out)
      have HB6 := hide' (HB3.out.trans (Hb4.out.mono HB3.out.size))
      have hz46 : w3.heap.size ≤ w4.heap.size := Hb4.out.size
      obtain ⟨o0, o1, o2, o3, o4, of⟩ := row5 HR6.out
      have f0 := of 0
      have f1 := of 1
      have f2 := of 2
      have f3 := of 3
      have f4 := of 4
      clear of hEq HVo
      go_wp2_with fail
      have hfin := row5 (set5_heap (j := 0) (.int .i64 0) (.int .i64 0) (.slice none 0 0) (.slice none 0 0) (.slice none 0 0) HR6.out)
      simp only [set5, Nat.zero_add] at hfin
      obtain ⟨x0, x1, x2, x3, x4, _⟩ := hfin
      refine bodyPost_ret (v := .tuple #[.agg #[.int .i64 0, .int .i64 0, .slice none 0 0, .slice none 0 0, .slice none 0 0], .bool false]) (by simp [results, Tryz.results9, go_sem, x0, x1, x2, x3, x4]) rfl ?_
      exact readEnd_no (by rw [← Bool.not_eq_true, hiff]; exact HNO.out) HB6.out (by have := HZ3.out; omega)
  · have HNO : Hid (¬ (okB 42 v = true ∧ bytV 42 v [] = xs)) := hide' (fun h => by rw [hok] at h; exact absurd h.1 (by simp))
    have HR6 := hide' ((b3.block w.heap.size HZ2.out).trans HR2.out)
    have HB6 := hide' (HB2.out.trans (b3.mono HB2.out.size))
    have HZ3 := hide' (Nat.lt_of_lt_of_le HZ2.out b3.size)
    obtain ⟨o0, o1, o2, o3, o4, of⟩ := row5 HR6.out
    have f0 := of 0
    have f1 := of 1
    have f2 := of 2
    have f3 := of 3
    have f4 := of 4
    clear of b3 HPo hok
    go_wp2_with fail
    have hfin := row5 (set5_heap (j := 0) (.int .i64 0) (.int .i64 0) (.slice none 0 0) (.slice none 0 0) (.slice none 0 0) HR6.out)
    simp only [set5, Nat.zero_add] at hfin
    obtain ⟨x0, x1, x2, x3, x4, _⟩ := hfin
    refine bodyPost_ret (v := .tuple #[.agg #[.int .i64 0, .int .i64 0, .slice none 0 0, .slice none 0 0, .slice none 0 0], .bool false]) (by simp [results, Tryz.results9, go_sem, x0, x1, x2, x3, x4]) rfl ?_
    exact readEnd_no (by rw [← Bool.not_eq_true, hiff]; exact HNO.out) HB6.out HZ3.out
end Go.Proofs.YthnkedbmfhokiaaGreatDoor
