/-
  Texts that a law leans on, one behind the other; no statement is proved here.
-/
import Derived.Test.YtdhlmcgbgdljmaaGreatDoorPk12
import Derived.Test.YtdhlmcgbgdljmaaGreatDoorPk9
import Derived.Test.YtdhlmcgbgdljmaaGreatDoorPk7
import Derived.Test.YtdhlmcgbgdljmaaGreatDoorPk8
import Derived.BigQuiet
import Derived.Deep.MidRow
/-
  ChangesOk of the specification.
-/
namespace Go.Proofs.YtdhlmcgbgdljmaaGreatDoor
open Go.RowKit
set_option linter.unusedVariables false
set_option linter.unusedSimpArgs false

theorem row13 {w : World} {g : Nat} {T : TypeId} {c0 c1 c2 c3 c4 c5 c6 c7 c8 c9 c10 c11 c12 : Value} (h : w.heap[g]? = some (.cells #[c0, c1, c2, c3, c4, c5, c6, c7, c8, c9, c10, c11, c12] T (0, 0))) :
    w.cell? ⟨g, 0, none⟩ = some c0 ∧ w.cell? ⟨g, 1, none⟩ = some c1 ∧ w.cell? ⟨g, 2, none⟩ = some c2 ∧ w.cell? ⟨g, 3, none⟩ = some c3 ∧ w.cell? ⟨g, 4, none⟩ = some c4 ∧ w.cell? ⟨g, 5, none⟩ = some c5 ∧ w.cell? ⟨g, 6, none⟩ = some c6 ∧ w.cell? ⟨g, 7, none⟩ = some c7 ∧ w.cell? ⟨g, 8, none⟩ = some c8 ∧ w.cell? ⟨g, 9, none⟩ = some c9 ∧ w.cell? ⟨g, 10, none⟩ = some c10 ∧ w.cell? ⟨g, 11, none⟩ = some c11 ∧ w.cell? ⟨g, 12, none⟩ = some c12 := by
  refine ⟨?_, ?_, ?_, ?_, ?_, ?_, ?_, ?_, ?_, ?_, ?_, ?_, ?_⟩ <;> (rw [cell_of_row w g _ _ _ _ h]; rfl)

set_option maxHeartbeats 12800000 in
set_option maxRecDepth 100000 in
theorem spec_ChangesOk_any (d N : Nat) (a : Option Addr) (cap : Nat) (l : List (Chg d)) (w : World) (hx : CLSg (fun b => b < N) w d (.slice a l.length cap) l) (hN : N ≤ w.heap.size) (hln : l.length ≤ 1048576) :
    Calls Tryz.prog 15 #[.slice a l.length cap] w fun e w' => e = .returned (.bool (chB d l)) ∧ Below w.heap.size w w' := by
  have HX := hide' hx
  clear hx
  by_cases hlong : 80 < l.length
  · have HF := hide' (chB_long hlong)
    have h' : (80 : Int) < (l.length : Int) := by omega
    generalize chB d l = ans at *
    go_enter Tryz.func15, Tryz.ntmps15
    go_wp2
    go_ret
    exact ⟨ret_bool HF.out.symm, Below.refl _ _⟩
  have hshort : l.length ≤ 80 := by omega
  have h' : ¬ (80 : Int) < (l.length : Int) := by omega
  have HYes : Hid (FstC d l l.length → chB d l = true) := fun h => chB_yes hshort h
  have HBad : Hid (∀ k (hk : k < l.length), okC d l[k] = false → chB d l = false) := fun k hk h => chB_bad hk h
  have HNear : Hid (∀ k (hk : k < l.length), 0 < k → apB (l[k - 1]'(by omega)).1 l[k].1 = false → chB d l = false) := fun k hk h0 h => chB_near hk h0 h
  generalize chB d l = ans at *
  go_enter Tryz.func15, Tryz.ntmps15
  go_wp2
  go_loopw [3] (fun i wr => ∃ k : Nat, k ≤ l.length ∧ i = .int .i64 k ∧ Hid (FstC d l k) ∧ Hid (Below w.heap.size w wr)) (fun i _ => l.length - (intOf i).toNat)
  case atStart => exact ⟨0, Nat.zero_le _, rfl, fstC_zero d l, Below.refl _ _⟩
  case round =>
    obtain ⟨k, hk, rfl, hFst, HBel⟩ := hrel
    by_cases hlt : k < l.length
    · have hlt' : (k : Int) < (l.length : Int) := by omega
      have hsz := HBel.out.size
      have HL : Hid (∀ wx, Below w.heap.size w wx → CLSg (fun b => b < N) wx d (.slice a l.length cap) l) := fun wx hb => HX.out.agree (agree_below (hb.mono hN))
      obtain ⟨b, off, rfl, hbN, hat⟩ := (HL.out wr HBel.out).at hlt
      obtain ⟨cs, hr, hs⟩ := hat k hlt
      obtain ⟨pa, pc, ok, on, o2, ol2, op2, o3, ol3, op3, o4, ol4, op4, nk, nn, n2, nl2, np2, n3, nl3, np3, n4, nl4, np4, rfl, hp, hv, hu⟩ := hs.form
      have HNx : Hid (0 < k → ∃ qa ql qc cc wi, apB (l[k - 1]'(by omega)).1 l[k].1 = (decide (cc < 0) && !wi) ∧ (∀ wx, Below wr.heap.size wr wx → wx.cell? ⟨b, off + (k - 1) * 13, none⟩ = some (.slice qa ql qc)) ∧ (∀ wx, Below wr.heap.size wr wx → Calls Tryz.prog 34 #[.slice qa ql qc, .slice pa (l[k]).1.length pc] wx fun e w' => e = .returned (.int .i64 cc) ∧ Below wx.heap.size wx w') ∧ ∀ wx, Below wr.heap.size wr wx → Calls Tryz.prog 35 #[.slice qa ql qc, .slice pa (l[k]).1.length pc] wx fun e w' => e = .returned (.bool wi) ∧ Below wx.heap.size wx w') := fun h0 => by
        obtain ⟨ds, hr', hs'⟩ := hat (k - 1) (by omega)
        obtain ⟨e0, e2, e3, e4, e5, e6, e8, e9, e10, e11, e12, rfl, hp', _⟩ := hs'
        obtain ⟨qa, qc, rfl⟩ := hp'.sl
        refine ⟨qa, (l[k - 1]'(by omega)).1.length, qc, pthC (l[k - 1]'(by omega)).1 l[k].1, wiB (l[k - 1]'(by omega)).1 l[k].1, apB_eq _ _, fun wx hb => ?_, fun wx hb => ?_, fun wx hb => ?_⟩
        · have := hr' 0 _ rfl
          exact (World.cell?_of_block (hb.block b (by omega))).trans this
        · exact l3cmp_any N _ _ _ _ wx (hp'.agree (agree_below (hb.mono (by omega)))) (hp.agree (agree_below (hb.mono (by omega)))) (by have := hb.size; omega)
        · exact l3within_any N _ _ _ _ _ _ _ _ wx (hp'.agree (agree_below (hb.mono (by omega)))) (hp.agree (agree_below (hb.mono (by omega)))) (by have := hb.size; omega)
      have HP : Hid (∀ wx, Below wr.heap.size wr wx → Calls Tryz.prog 31 #[.slice pa (l[k]).1.length pc] wx fun e w' => e = .returned (.bool (pathB (l[k]).1)) ∧ Below wx.heap.size wx w') := fun wx hb => spec_PathOk_any N _ _ wx (hp.agree (agree_below (hb.mono (by omega)))) (by have := hb.size; omega)
      have HO : Hid (∀ wx, Below wr.heap.size wr wx → Calls Tryz.prog 32 #[.agg #[.int .i64 ok, .int .i64 on, .slice o2 ol2 op2, .slice o3 ol3 op3, .slice o4 ol4 op4]] wx fun e w' => e = .returned (.bool (okB d (l[k]).2.2.1)) ∧ Below wx.heap.size wx w') := fun wx hb => spec_ValOk_any d N _ _ _ _ _ _ wx (VSeg.agree (agree_below (hb.mono (by omega))) d hv) (by have := hb.size; omega)
      have HNw : Hid (∀ wx, Below wr.heap.size wr wx → Calls Tryz.prog 32 #[.agg #[.int .i64 nk, .int .i64 nn, .slice n2 nl2 np2, .slice n3 nl3 np3, .slice n4 nl4 np4]] wx fun e w' => e = .returned (.bool (okB d (l[k]).2.2.2.2)) ∧ Below wx.heap.size wx w') := fun wx hb => spec_ValOk_any d N _ _ _ _ _ _ wx (VSeg.agree (agree_below (hb.mono (by omega))) d hu) (by have := hb.size; omega)
      have HZ1 : Hid (okB d (l[k]).2.2.1 = true → ∀ wx, Below wr.heap.size wr wx → Calls Tryz.prog 33 #[.agg #[.int .i64 ok, .int .i64 on, .slice o2 ol2 op2, .slice o3 ol3 op3, .slice o4 ol4 op4]] wx fun e w' => e = .returned (.bool (decide (kdV d (l[k]).2.2.1 = 0))) ∧ Below wx.heap.size wx w') := fun ho wx hb => l3zero_any d N _ _ _ _ _ _ wx (VSeg.agree (agree_below (hb.mono (by omega))) d hv) (by have := hb.size; omega) ho
      have HZ2 : Hid (okB d (l[k]).2.2.2.2 = true → ∀ wx, Below wr.heap.size wr wx → Calls Tryz.prog 33 #[.agg #[.int .i64 nk, .int .i64 nn, .slice n2 nl2 np2, .slice n3 nl3 np3, .slice n4 nl4 np4]] wx fun e w' => e = .returned (.bool (decide (kdV d (l[k]).2.2.2.2 = 0))) ∧ Below wx.heap.size wx w') := fun ho wx hb => l3zero_any d N _ _ _ _ _ _ wx (VSeg.agree (agree_below (hb.mono (by omega))) d hu) (by have := hb.size; omega) ho
      have HLast : Hid (((l[k]).1.length = 0 → endB (l[k]).1 = false) ∧ (0 < (l[k]).1.length → ∃ pb po kk, pa = some ⟨pb, po, none⟩ ∧ endB (l[k]).1 = decide (kk = 0) ∧ ∀ wx, Below wr.heap.size wr wx → wx.cell? ⟨pb, po + ((l[k]).1.length - 1) * 3, none⟩ = some (.int .i64 kk))) := by
        refine ⟨fun h => ?_, fun h => ?_⟩
        · rw [List.length_eq_zero_iff.1 h]
          rfl
        · obtain ⟨pb, po, c0, c1, c2, rfl, hb', h3, hs3⟩ := hp.at (k := (l[k]).1.length - 1) (by omega)
          have h30 := h3.1
          replace hs3 := hs3.1
          simp only at h30 hs3
          subst hs3
          exact ⟨pb, po, _, rfl, endB_at h, fun wx hb => (World.cell?_of_block (a := ⟨pb, po + ((l[k]).1.length - 1) * 3, none⟩) (hb.block pb (by omega))).trans h30⟩
      have hlp : (l[k]).1.length ≤ 9223372036854775807 := by
        obtain ⟨_, _, e1, q1, q2, _⟩ := hp
        unfold maxLen at q2
        omega
      have hok : okC d l[k] = (pathB (l[k]).1 && (okB d (l[k]).2.2.1 && (okB d (l[k]).2.2.2.2 && (((l[k]).2.1 || decide (kdV d (l[k]).2.2.1 = 0)) && (((l[k]).2.2.2.1 || decide (kdV d (l[k]).2.2.2.2 = 0)) && (((l[k]).2.1 || (l[k]).2.2.2.1) && ((l[k]).2.1 == (l[k]).2.2.2.1 || endB (l[k]).1))))))) := rfl
      have HFn : Hid (okC d l[k] = true → (0 < k → apB (l[k - 1]'(by omega)).1 l[k].1 = true) → FstC d l (k + 1)) := fun h1 h2 => fstC_next hFst.out hlt h1 h2
      have HBd := hide' (HBad.out k hlt)
      have HNr := hide' (HNear.out k hlt)
      rw [hok] at HFn HBd
      clear hok hp hv hu hs hat hFst HL HX HBad HNear
      generalize pathB (l[k]).1 = pB at *
      generalize okB d (l[k]).2.2.1 = okO at *
      generalize okB d (l[k]).2.2.2.2 = okN at *
      generalize decide (kdV d (l[k]).2.2.1 = 0) = z1 at *
      generalize decide (kdV d (l[k]).2.2.2.2 = 0) = z2 at *
      generalize endB (l[k]).1 = eB at *
      generalize (l[k]).1.length = pl at *
      generalize (l[k]).2.1 = bd at *
      generalize (l[k]).2.2.2.1 = bh at *
      have HA : Hid (Below wr.heap.size wr (wr.alloc (.cells #[.slice pa pl pc, .bool bd, .int .i64 ok, .int .i64 on, .slice o2 ol2 op2, .slice o3 ol3 op3, .slice o4 ol4 op4, .bool bh, .int .i64 nk, .int .i64 nn, .slice n2 nl2 np2, .slice n3 nl3 np3, .slice n4 nl4 np4] 37))) := (Below.refl _ _).alloc (Nat.le_refl _) _
      have HBox : Hid (∀ w2, Below (wr.alloc (.cells #[.slice pa pl pc, .bool bd, .int .i64 ok, .int .i64 on, .slice o2 ol2 op2, .slice o3 ol3 op3, .slice o4 ol4 op4, .bool bh, .int .i64 nk, .int .i64 nn, .slice n2 nl2 np2, .slice n3 nl3 np3, .slice n4 nl4 np4] 37)).heap.size (wr.alloc (.cells #[.slice pa pl pc, .bool bd, .int .i64 ok, .int .i64 on, .slice o2 ol2 op2, .slice o3 ol3 op3, .slice o4 ol4 op4, .bool bh, .int .i64 nk, .int .i64 nn, .slice n2 nl2 np2, .slice n3 nl3 np3, .slice n4 nl4 np4] 37)) w2 → w2.heap[wr.heap.size]? = some (.cells #[.slice pa pl pc, .bool bd, .int .i64 ok, .int .i64 on, .slice o2 ol2 op2, .slice o3 ol3 op3, .slice o4 ol4 op4, .bool bh, .int .i64 nk, .int .i64 nn, .slice n2 nl2 np2, .slice n3 nl3 np3, .slice n4 nl4 np4] 37 (0, 0))) := fun w2 hb => (hb.block _ (by simp)).trans (MapKept.heap_alloc wr _).1
      go_wp2_with (refine wpList_load_mid rfl 37 (.tmp 17) (by rfl) b (off + k * 13) (by rfl) [.slice pa pl pc, .bool bd, .int .i64 ok, .int .i64 on, .slice o2 ol2 op2, .slice o3 ol3 op3, .slice o4 ol4 op4, .bool bh, .int .i64 nk, .int .i64 nn, .slice n2 nl2 np2, .slice n3 nl3 np3, .slice n4 nl4 np4] _ hr Tryz.underlying37 rfl (by kernel_rfl) ?_)
      clear hr
      refine (HP.out _ HA.out).mono ?_
      rintro e w2 ⟨rfl, b2⟩
      cases pB with
      | false =>
        obtain ⟨x0, x1, x2, x3, x4, x5, x6, x7, x8, x9, x10, x11, x12⟩ := row13 (HBox.out w2 b2)
        have HF : Hid (ans = false) := HBd.out rfl
        have HBF := hide' (Below.on HBel.out (Below.on HA.out b2))
        go_wp2
        go_ret
        exact ⟨ret_bool HF.out.symm, HBF.out⟩
      | true =>
        obtain ⟨x0, x1, x2, x3, x4, x5, x6, x7, x8, x9, x10, x11, x12⟩ := row13 (HBox.out w2 b2)
        go_wp2_with fail
        refine (HO.out _ (Below.on HA.out b2)).mono ?_
        rintro e w3 ⟨rfl, c3⟩
        have b3 := Below.on b2 c3
        clear c3 b2
        clear x0 x1 x2 x3 x4 x5 x6 x7 x8 x9 x10 x11 x12
        cases okO with
        | false =>
          obtain ⟨x0, x1, x2, x3, x4, x5, x6, x7, x8, x9, x10, x11, x12⟩ := row13 (HBox.out w3 b3)
          have HF : Hid (ans = false) := HBd.out rfl
          have HBF := hide' (Below.on HBel.out (Below.on HA.out b3))
          go_wp2
          go_ret
          exact ⟨ret_bool HF.out.symm, HBF.out⟩
        | true =>
          obtain ⟨x0, x1, x2, x3, x4, x5, x6, x7, x8, x9, x10, x11, x12⟩ := row13 (HBox.out w3 b3)
          go_wp2_with fail
          refine (HNw.out _ (Below.on HA.out b3)).mono ?_
          rintro e w4 ⟨rfl, c4⟩
          have b4 := Below.on b3 c4
          clear c4 b3
          clear x0 x1 x2 x3 x4 x5 x6 x7 x8 x9 x10 x11 x12
          cases okN with
          | false =>
            obtain ⟨x0, x1, x2, x3, x4, x5, x6, x7, x8, x9, x10, x11, x12⟩ := row13 (HBox.out w4 b4)
            have HF : Hid (ans = false) := HBd.out rfl
            have HBF := hide' (Below.on HBel.out (Below.on HA.out b4))
            go_wp2
            go_ret
            exact ⟨ret_bool HF.out.symm, HBF.out⟩
          | true =>
            cases bd with
            | true =>
              cases bh with
              | true =>
                obtain ⟨x0, x1, x2, x3, x4, x5, x6, x7, x8, x9, x10, x11, x12⟩ := row13 (HBox.out w4 b4)
                go_wp2_with fail
                have HB2 : Hid (Below wr.heap.size wr w4) := Below.on HA.out b4
                have hbW : b < w4.heap.size := by have := HB2.out.size; omega
                have hxW : wr.heap.size < w4.heap.size := (Array.getElem?_eq_some_iff.1 (HBox.out w4 b4)).1
                by_cases h0 : 0 < k
                · have h0' : (0 : Int) < (k : Int) := by omega
                  obtain ⟨qa, ql, qc, cc, wi, hap, hq0, hcm, hwi⟩ := HNx.out h0
                  have q0 := hq0 w4 HB2.out
                  obtain ⟨j, ej⟩ : ∃ j, j = k - 1 := ⟨_, rfl⟩
                  rw [← ej] at q0
                  have hwk : IntKind.i64.wrap ((k : Int) - 1) = (j : Int) := by rw [IntKind.wrap_i64]; omega
                  have hwj : IntKind.i64.wrap (j : Int) = (j : Int) := by rw [IntKind.wrap_i64]; omega
                  have hj1 : (j : Int) < (l.length : Int) := by omega
                  have hj3 : (0 : Int) ≤ (j : Int) := by omega
                  have HSn : Hid (∀ wy, Below w4.drew.heap.size w4.drew wy → wy.cell? ⟨b, off + j * 13, none⟩ = some (.slice qa ql qc) ∧ wy.cell? ⟨wr.heap.size, 0, none⟩ = some (.slice pa pl pc)) := fun wy hb => ⟨(World.cell?_of_block (a := ⟨b, off + j * 13, none⟩) (hb.block b (by show b < w4.heap.size; omega))).trans q0, (World.cell?_of_block (a := ⟨wr.heap.size, 0, none⟩) (hb.block wr.heap.size (by show wr.heap.size < w4.heap.size; omega))).trans x0⟩
                  have HCm := hide' (hcm w4.drew HB2.out.drew)
                  have HWi : Hid (∀ wy, Below w4.drew.heap.size w4.drew wy → Calls Tryz.prog 35 #[.slice qa ql qc, .slice pa pl pc] wy fun e w' => e = .returned (.bool wi) ∧ Below wy.heap.size wy w') := fun wy hb => hwi wy (Below.on HB2.out.drew hb)
                  have HNr' := hide' (HNr.out h0)
                  have HFn' := hide' (HFn.out (by simp))
                  rw [hap] at HNr'
                  have HAp := hide' hap
                  have HBw : Hid (Below w.heap.size w w4) := Below.on HBel.out HB2.out
                  clear hcm hwi hq0 HNx HNr HFn HBd ej hap x1 x2 x3 x4 x5 x6 x7 x8 x9 x10 x11 x12 HBox HLast HB2 HA b4
                  by_cases hcc : cc < 0
                  · have hcd : decide (0 ≤ cc) = false := by simp; omega
                    have hcd2 : decide (cc ≥ 0) = false := by simp; omega
                    have hce : ¬ 0 ≤ cc := by omega
                    have hT : (decide (cc < 0)) = true := decide_eq_true hcc
                    have HT := hide' hT
                    clear hT hcc
                    cases wi with
                    | true =>
                      refine wp_region_held_drew (S := fun w' => w'.cell? ⟨b, off + j * 13, none⟩ = some (.slice qa ql qc) ∧ w'.cell? ⟨wr.heap.size, 0, none⟩ = some (.slice pa pl pc)) (by kernel_rfl) ⟨q0, x0⟩ (fun hHeld => ?_)
                      refine take_yes (i := 0) 89 (v := ?_) rfl rfl (by kernel_rfl) (by kernel_rfl) (by kernel_rfl) (fun _ _ _ h => h) (by kernel_rfl) hHeld ?_ ?_
                      rotate_left
                      focus (intro w hSw; (try dsimp only at hSw); go_simp; (try with_reducible rfl))
                      simp only [Act.put, List.setIfInBounds_toArray, List.set_cons_zero, List.set_cons_succ]
                      refine take_yes (i := 1) 90 (v := ?_) rfl rfl (by kernel_rfl) (by kernel_rfl) (by kernel_rfl) (fun _ _ _ h => h) (by kernel_rfl) hHeld ?_ ?_
                      rotate_left
                      focus (intro w hSw; (try dsimp only at hSw); go_simp; (try with_reducible rfl))
                      simp only [Act.put, List.setIfInBounds_toArray, List.set_cons_zero, List.set_cons_succ]
                      refine take_yes (i := 2) 91 (v := ?_) rfl rfl (by kernel_rfl) (by kernel_rfl) (by kernel_rfl) (fun _ _ _ h => h) (by kernel_rfl) hHeld ?_ ?_
                      rotate_left
                      focus (intro w hSw; (try dsimp only at hSw); go_simp; (try with_reducible rfl))
                      simp only [Act.put, List.setIfInBounds_toArray, List.set_cons_zero, List.set_cons_succ]
                      refine take_yes (i := 3) 92 (v := ?_) rfl rfl (by kernel_rfl) (by kernel_rfl) (by kernel_rfl) (fun _ _ _ h => h) (by kernel_rfl) hHeld ?_ ?_
                      rotate_left
                      focus (intro w hSw; (try dsimp only at hSw); go_simp; (try with_reducible rfl))
                      simp only [Act.put, List.setIfInBounds_toArray, List.set_cons_zero, List.set_cons_succ]
                      refine take_yes (i := 4) 93 (v := ?_) rfl rfl (by kernel_rfl) (by kernel_rfl) (by kernel_rfl) (fun _ _ _ h => h) (by kernel_rfl) hHeld ?_ ?_
                      rotate_left
                      focus (intro w hSw; (try dsimp only at hSw); go_simp; (try with_reducible rfl))
                      simp only [Act.put, List.setIfInBounds_toArray, List.set_cons_zero, List.set_cons_succ]
                      refine take_yes (i := 5) 94 (v := ?_) rfl rfl (by kernel_rfl) (by kernel_rfl) (by kernel_rfl) (fun _ _ _ h => h) (by kernel_rfl) hHeld ?_ ?_
                      rotate_left
                      focus (intro w hSw; (try dsimp only at hSw); go_simp; (try with_reducible rfl))
                      simp only [Act.put, List.setIfInBounds_toArray, List.set_cons_zero, List.set_cons_succ]
                      refine take_yes (i := 6) 95 (v := ?_) rfl rfl (by kernel_rfl) (by kernel_rfl) (by kernel_rfl) (fun _ _ _ h => h) (by kernel_rfl) hHeld ?_ ?_
                      rotate_left
                      focus (intro w hSw; (try dsimp only at hSw); go_simp; (try with_reducible rfl))
                      simp only [Act.put, List.setIfInBounds_toArray, List.set_cons_zero, List.set_cons_succ]
                      refine take_yes (i := 7) 96 (v := ?_) rfl rfl (by kernel_rfl) (by kernel_rfl) (by kernel_rfl) (fun _ _ _ h => h) (by kernel_rfl) hHeld ?_ ?_
                      rotate_left
                      focus (intro w hSw; (try dsimp only at hSw); go_simp; (try with_reducible rfl))
                      simp only [Act.put, List.setIfInBounds_toArray, List.set_cons_zero, List.set_cons_succ]
                      refine take_yes (i := 8) 97 (v := ?_) rfl rfl (by kernel_rfl) (by kernel_rfl) (by kernel_rfl) (fun _ _ _ h => h) (by kernel_rfl) hHeld ?_ ?_
                      rotate_left
                      focus (intro w hSw; (try dsimp only at hSw); go_simp; (try with_reducible rfl))
                      simp only [Act.put, List.setIfInBounds_toArray, List.set_cons_zero, List.set_cons_succ]
                      refine take_yes (i := 9) 98 (v := ?_) rfl rfl (by kernel_rfl) (by kernel_rfl) (by kernel_rfl) (fun _ _ _ h => h) (by kernel_rfl) hHeld ?_ ?_
                      rotate_left
                      focus (intro w hSw; (try dsimp only at hSw); go_simp; (try with_reducible rfl))
                      simp only [Act.put, List.setIfInBounds_toArray, List.set_cons_zero, List.set_cons_succ]
                      refine take_yes (i := 10) 99 (v := ?_) rfl rfl (by kernel_rfl) (by kernel_rfl) (by kernel_rfl) (fun _ _ _ h => h) (by kernel_rfl) hHeld ?_ ?_
                      rotate_left
                      focus (intro w hSw; (try dsimp only at hSw); go_simp; (try with_reducible rfl))
                      simp only [Act.put, List.setIfInBounds_toArray, List.set_cons_zero, List.set_cons_succ]
                      refine wpAnyH_ready (rs := [11]) (by kernel_rfl) (by simp) ?_
                      refine AllReadyH.cons rfl (fun K hK => ?_) AllReadyH.nil
                      go_simp
                      go_at_call 34
                      refine HCm.out.mono ?_
                      rintro e w7 ⟨rfl, b7⟩
                      have hS := HSn.out w7 b7
                      go_wp2_with fail
                      refine hK.out _ _ hS (fun hHeld => ?_)
                      clear hK
                      (try simp only [Act.put, List.setIfInBounds_toArray, List.set_cons_zero, List.set_cons_succ])
                      refine take_yes (i := 12) 101 (v := ?_) rfl rfl (by kernel_rfl) (by kernel_rfl) (by kernel_rfl) (fun _ _ _ h => h) (by kernel_rfl) hHeld ?_ ?_
                      rotate_left
                      focus (intro w hSw; (try dsimp only at hSw); go_simp; (try with_reducible rfl))
                      simp only [Act.put, List.setIfInBounds_toArray, List.set_cons_zero, List.set_cons_succ]
                      refine take_yes (i := 13) 102 (v := ?_) rfl rfl (by kernel_rfl) (by kernel_rfl) (by kernel_rfl) (fun _ _ _ h => h) (by kernel_rfl) hHeld ?_ ?_
                      rotate_left
                      focus (intro w hSw; (try dsimp only at hSw); go_simp; (try with_reducible rfl))
                      simp only [Act.put, List.setIfInBounds_toArray, List.set_cons_zero, List.set_cons_succ]
                      refine take_yes (i := 14) 103 (v := ?_) rfl rfl (by kernel_rfl) (by kernel_rfl) (by kernel_rfl) (fun _ _ _ h => h) (by kernel_rfl) hHeld ?_ ?_
                      rotate_left
                      focus (intro w hSw; (try dsimp only at hSw); go_simp; (try with_reducible rfl))
                      simp only [Act.put, List.setIfInBounds_toArray, List.set_cons_zero, List.set_cons_succ]
                      refine take_yes (i := 15) 104 (v := ?_) rfl rfl (by kernel_rfl) (by kernel_rfl) (by kernel_rfl) (fun _ _ _ h => h) (by kernel_rfl) hHeld ?_ ?_
                      rotate_left
                      focus (intro w hSw; (try dsimp only at hSw); go_simp; (try with_reducible rfl))
                      simp only [Act.put, List.setIfInBounds_toArray, List.set_cons_zero, List.set_cons_succ]
                      refine take_yes (i := 16) 105 (v := ?_) rfl rfl (by kernel_rfl) (by kernel_rfl) (by kernel_rfl) (fun _ _ _ h => h) (by kernel_rfl) hHeld ?_ ?_
                      rotate_left
                      focus (intro w hSw; (try dsimp only at hSw); go_simp; (try with_reducible rfl))
                      simp only [Act.put, List.setIfInBounds_toArray, List.set_cons_zero, List.set_cons_succ]
                      refine take_yes (i := 17) 106 (v := ?_) rfl rfl (by kernel_rfl) (by kernel_rfl) (by kernel_rfl) (fun _ _ _ h => h) (by kernel_rfl) hHeld ?_ ?_
                      rotate_left
                      focus (intro w hSw; (try dsimp only at hSw); go_simp; (try with_reducible rfl))
                      simp only [Act.put, List.setIfInBounds_toArray, List.set_cons_zero, List.set_cons_succ]
                      refine take_yes (i := 18) 107 (v := ?_) rfl rfl (by kernel_rfl) (by kernel_rfl) (by kernel_rfl) (fun _ _ _ h => h) (by kernel_rfl) hHeld ?_ ?_
                      rotate_left
                      focus (intro w hSw; (try dsimp only at hSw); go_simp; (try with_reducible rfl))
                      simp only [Act.put, List.setIfInBounds_toArray, List.set_cons_zero, List.set_cons_succ]
                      refine take_yes (i := 19) 108 (v := ?_) rfl rfl (by kernel_rfl) (by kernel_rfl) (by kernel_rfl) (fun _ _ _ h => h) (by kernel_rfl) hHeld ?_ ?_
                      rotate_left
                      focus (intro w hSw; (try dsimp only at hSw); go_simp; (try with_reducible rfl))
                      simp only [Act.put, List.setIfInBounds_toArray, List.set_cons_zero, List.set_cons_succ]
                      refine take_yes (i := 20) 109 (v := ?_) rfl rfl (by kernel_rfl) (by kernel_rfl) (by kernel_rfl) (fun _ _ _ h => h) (by kernel_rfl) hHeld ?_ ?_
                      rotate_left
                      focus (intro w hSw; (try dsimp only at hSw); go_simp; (try with_reducible rfl))
                      simp only [Act.put, List.setIfInBounds_toArray, List.set_cons_zero, List.set_cons_succ]
                      refine take_yes (i := 21) 110 (v := ?_) rfl rfl (by kernel_rfl) (by kernel_rfl) (by kernel_rfl) (fun _ _ _ h => h) (by kernel_rfl) hHeld ?_ ?_
                      rotate_left
                      focus (intro w hSw; (try dsimp only at hSw); go_simp; (try with_reducible rfl))
                      simp only [Act.put, List.setIfInBounds_toArray, List.set_cons_zero, List.set_cons_succ]
                      refine wpAnyH_ready (rs := [22]) (by kernel_rfl) (by simp) ?_
                      refine AllReadyH.cons rfl (fun K hK => ?_) AllReadyH.nil
                      go_simp
                      go_at_call 35
                      refine (HWi.out w7 b7).mono ?_
                      rintro e w8 ⟨rfl, b8⟩
                      have hS := HSn.out w8 (Below.on b7 b8)
                      go_wp2_with fail
                      refine hK.out _ _ hS (fun hHeld => ?_)
                      clear hK
                      (try simp only [Act.put, List.setIfInBounds_toArray, List.set_cons_zero, List.set_cons_succ])
                      refine take_yes (i := 23) 112 (v := ?_) rfl rfl (by kernel_rfl) (by kernel_rfl) (by kernel_rfl) (fun _ _ _ h => h) (by kernel_rfl) hHeld ?_ ?_
                      rotate_left
                      focus (intro w hSw; (try dsimp only at hSw); go_simp; (try with_reducible rfl))
                      simp only [Act.put, List.setIfInBounds_toArray, List.set_cons_zero, List.set_cons_succ]
                      refine take_yes (i := 24) 113 (v := ?_) rfl rfl (by kernel_rfl) (by kernel_rfl) (by kernel_rfl) (fun _ _ _ h => h) (by kernel_rfl) hHeld ?_ ?_
                      rotate_left
                      focus (intro w hSw; (try dsimp only at hSw); go_simp; (try with_reducible rfl))
                      simp only [Act.put, List.setIfInBounds_toArray, List.set_cons_zero, List.set_cons_succ]
                      refine wpAnyH_done (by kernel_rfl) ?_ _
                      have HBF := hide' (Below.on HBw.out.drew (Below.on b7 b8))
                      clear q0 x0 b7 b8 HBw
                      have HF : Hid (ans = false) := HNr'.out (by simp)
                      go_wp2
                      go_ret
                      exact ⟨ret_bool HF.out.symm, HBF.out⟩
                    | false =>
                      refine wp_region_held_drew (S := fun w' => w'.cell? ⟨b, off + j * 13, none⟩ = some (.slice qa ql qc) ∧ w'.cell? ⟨wr.heap.size, 0, none⟩ = some (.slice pa pl pc)) (by kernel_rfl) ⟨q0, x0⟩ (fun hHeld => ?_)
                      refine take_yes (i := 0) 89 (v := ?_) rfl rfl (by kernel_rfl) (by kernel_rfl) (by kernel_rfl) (fun _ _ _ h => h) (by kernel_rfl) hHeld ?_ ?_
                      rotate_left
                      focus (intro w hSw; (try dsimp only at hSw); go_simp; (try with_reducible rfl))
                      simp only [Act.put, List.setIfInBounds_toArray, List.set_cons_zero, List.set_cons_succ]
                      refine take_yes (i := 1) 90 (v := ?_) rfl rfl (by kernel_rfl) (by kernel_rfl) (by kernel_rfl) (fun _ _ _ h => h) (by kernel_rfl) hHeld ?_ ?_
                      rotate_left
                      focus (intro w hSw; (try dsimp only at hSw); go_simp; (try with_reducible rfl))
                      simp only [Act.put, List.setIfInBounds_toArray, List.set_cons_zero, List.set_cons_succ]
                      refine take_yes (i := 2) 91 (v := ?_) rfl rfl (by kernel_rfl) (by kernel_rfl) (by kernel_rfl) (fun _ _ _ h => h) (by kernel_rfl) hHeld ?_ ?_
                      rotate_left
                      focus (intro w hSw; (try dsimp only at hSw); go_simp; (try with_reducible rfl))
                      simp only [Act.put, List.setIfInBounds_toArray, List.set_cons_zero, List.set_cons_succ]
                      refine take_yes (i := 3) 92 (v := ?_) rfl rfl (by kernel_rfl) (by kernel_rfl) (by kernel_rfl) (fun _ _ _ h => h) (by kernel_rfl) hHeld ?_ ?_
                      rotate_left
                      focus (intro w hSw; (try dsimp only at hSw); go_simp; (try with_reducible rfl))
                      simp only [Act.put, List.setIfInBounds_toArray, List.set_cons_zero, List.set_cons_succ]
                      refine take_yes (i := 4) 93 (v := ?_) rfl rfl (by kernel_rfl) (by kernel_rfl) (by kernel_rfl) (fun _ _ _ h => h) (by kernel_rfl) hHeld ?_ ?_
                      rotate_left
                      focus (intro w hSw; (try dsimp only at hSw); go_simp; (try with_reducible rfl))
                      simp only [Act.put, List.setIfInBounds_toArray, List.set_cons_zero, List.set_cons_succ]
                      refine take_yes (i := 5) 94 (v := ?_) rfl rfl (by kernel_rfl) (by kernel_rfl) (by kernel_rfl) (fun _ _ _ h => h) (by kernel_rfl) hHeld ?_ ?_
                      rotate_left
                      focus (intro w hSw; (try dsimp only at hSw); go_simp; (try with_reducible rfl))
                      simp only [Act.put, List.setIfInBounds_toArray, List.set_cons_zero, List.set_cons_succ]
                      refine take_yes (i := 6) 95 (v := ?_) rfl rfl (by kernel_rfl) (by kernel_rfl) (by kernel_rfl) (fun _ _ _ h => h) (by kernel_rfl) hHeld ?_ ?_
                      rotate_left
                      focus (intro w hSw; (try dsimp only at hSw); go_simp; (try with_reducible rfl))
                      simp only [Act.put, List.setIfInBounds_toArray, List.set_cons_zero, List.set_cons_succ]
                      refine take_yes (i := 7) 96 (v := ?_) rfl rfl (by kernel_rfl) (by kernel_rfl) (by kernel_rfl) (fun _ _ _ h => h) (by kernel_rfl) hHeld ?_ ?_
                      rotate_left
                      focus (intro w hSw; (try dsimp only at hSw); go_simp; (try with_reducible rfl))
                      simp only [Act.put, List.setIfInBounds_toArray, List.set_cons_zero, List.set_cons_succ]
                      refine take_yes (i := 8) 97 (v := ?_) rfl rfl (by kernel_rfl) (by kernel_rfl) (by kernel_rfl) (fun _ _ _ h => h) (by kernel_rfl) hHeld ?_ ?_
                      rotate_left
                      focus (intro w hSw; (try dsimp only at hSw); go_simp; (try with_reducible rfl))
                      simp only [Act.put, List.setIfInBounds_toArray, List.set_cons_zero, List.set_cons_succ]
                      refine take_yes (i := 9) 98 (v := ?_) rfl rfl (by kernel_rfl) (by kernel_rfl) (by kernel_rfl) (fun _ _ _ h => h) (by kernel_rfl) hHeld ?_ ?_
                      rotate_left
                      focus (intro w hSw; (try dsimp only at hSw); go_simp; (try with_reducible rfl))
                      simp only [Act.put, List.setIfInBounds_toArray, List.set_cons_zero, List.set_cons_succ]
                      refine take_yes (i := 10) 99 (v := ?_) rfl rfl (by kernel_rfl) (by kernel_rfl) (by kernel_rfl) (fun _ _ _ h => h) (by kernel_rfl) hHeld ?_ ?_
                      rotate_left
                      focus (intro w hSw; (try dsimp only at hSw); go_simp; (try with_reducible rfl))
                      simp only [Act.put, List.setIfInBounds_toArray, List.set_cons_zero, List.set_cons_succ]
                      refine wpAnyH_ready (rs := [11]) (by kernel_rfl) (by simp) ?_
                      refine AllReadyH.cons rfl (fun K hK => ?_) AllReadyH.nil
                      go_simp
                      go_at_call 34
                      refine HCm.out.mono ?_
                      rintro e w7 ⟨rfl, b7⟩
                      have hS := HSn.out w7 b7
                      go_wp2_with fail
                      refine hK.out _ _ hS (fun hHeld => ?_)
                      clear hK
                      (try simp only [Act.put, List.setIfInBounds_toArray, List.set_cons_zero, List.set_cons_succ])
                      refine take_yes (i := 12) 101 (v := ?_) rfl rfl (by kernel_rfl) (by kernel_rfl) (by kernel_rfl) (fun _ _ _ h => h) (by kernel_rfl) hHeld ?_ ?_
                      rotate_left
                      focus (intro w hSw; (try dsimp only at hSw); go_simp; (try with_reducible rfl))
                      simp only [Act.put, List.setIfInBounds_toArray, List.set_cons_zero, List.set_cons_succ]
                      refine take_yes (i := 13) 102 (v := ?_) rfl rfl (by kernel_rfl) (by kernel_rfl) (by kernel_rfl) (fun _ _ _ h => h) (by kernel_rfl) hHeld ?_ ?_
                      rotate_left
                      focus (intro w hSw; (try dsimp only at hSw); go_simp; (try with_reducible rfl))
                      simp only [Act.put, List.setIfInBounds_toArray, List.set_cons_zero, List.set_cons_succ]
                      refine take_yes (i := 14) 103 (v := ?_) rfl rfl (by kernel_rfl) (by kernel_rfl) (by kernel_rfl) (fun _ _ _ h => h) (by kernel_rfl) hHeld ?_ ?_
                      rotate_left
                      focus (intro w hSw; (try dsimp only at hSw); go_simp; (try with_reducible rfl))
                      simp only [Act.put, List.setIfInBounds_toArray, List.set_cons_zero, List.set_cons_succ]
                      refine take_yes (i := 15) 104 (v := ?_) rfl rfl (by kernel_rfl) (by kernel_rfl) (by kernel_rfl) (fun _ _ _ h => h) (by kernel_rfl) hHeld ?_ ?_
                      rotate_left
                      focus (intro w hSw; (try dsimp only at hSw); go_simp; (try with_reducible rfl))
                      simp only [Act.put, List.setIfInBounds_toArray, List.set_cons_zero, List.set_cons_succ]
                      refine take_yes (i := 16) 105 (v := ?_) rfl rfl (by kernel_rfl) (by kernel_rfl) (by kernel_rfl) (fun _ _ _ h => h) (by kernel_rfl) hHeld ?_ ?_
                      rotate_left
                      focus (intro w hSw; (try dsimp only at hSw); go_simp; (try with_reducible rfl))
                      simp only [Act.put, List.setIfInBounds_toArray, List.set_cons_zero, List.set_cons_succ]
                      refine take_yes (i := 17) 106 (v := ?_) rfl rfl (by kernel_rfl) (by kernel_rfl) (by kernel_rfl) (fun _ _ _ h => h) (by kernel_rfl) hHeld ?_ ?_
                      rotate_left
                      focus (intro w hSw; (try dsimp only at hSw); go_simp; (try with_reducible rfl))
                      simp only [Act.put, List.setIfInBounds_toArray, List.set_cons_zero, List.set_cons_succ]
                      refine take_yes (i := 18) 107 (v := ?_) rfl rfl (by kernel_rfl) (by kernel_rfl) (by kernel_rfl) (fun _ _ _ h => h) (by kernel_rfl) hHeld ?_ ?_
                      rotate_left
                      focus (intro w hSw; (try dsimp only at hSw); go_simp; (try with_reducible rfl))
                      simp only [Act.put, List.setIfInBounds_toArray, List.set_cons_zero, List.set_cons_succ]
                      refine take_yes (i := 19) 108 (v := ?_) rfl rfl (by kernel_rfl) (by kernel_rfl) (by kernel_rfl) (fun _ _ _ h => h) (by kernel_rfl) hHeld ?_ ?_
                      rotate_left
                      focus (intro w hSw; (try dsimp only at hSw); go_simp; (try with_reducible rfl))
                      simp only [Act.put, List.setIfInBounds_toArray, List.set_cons_zero, List.set_cons_succ]
                      refine take_yes (i := 20) 109 (v := ?_) rfl rfl (by kernel_rfl) (by kernel_rfl) (by kernel_rfl) (fun _ _ _ h => h) (by kernel_rfl) hHeld ?_ ?_
                      rotate_left
                      focus (intro w hSw; (try dsimp only at hSw); go_simp; (try with_reducible rfl))
                      simp only [Act.put, List.setIfInBounds_toArray, List.set_cons_zero, List.set_cons_succ]
                      refine take_yes (i := 21) 110 (v := ?_) rfl rfl (by kernel_rfl) (by kernel_rfl) (by kernel_rfl) (fun _ _ _ h => h) (by kernel_rfl) hHeld ?_ ?_
                      rotate_left
                      focus (intro w hSw; (try dsimp only at hSw); go_simp; (try with_reducible rfl))
                      simp only [Act.put, List.setIfInBounds_toArray, List.set_cons_zero, List.set_cons_succ]
                      refine wpAnyH_ready (rs := [22]) (by kernel_rfl) (by simp) ?_
                      refine AllReadyH.cons rfl (fun K hK => ?_) AllReadyH.nil
                      go_simp
                      go_at_call 35
                      refine (HWi.out w7 b7).mono ?_
                      rintro e w8 ⟨rfl, b8⟩
                      have hS := HSn.out w8 (Below.on b7 b8)
                      go_wp2_with fail
                      refine hK.out _ _ hS (fun hHeld => ?_)
                      clear hK
                      (try simp only [Act.put, List.setIfInBounds_toArray, List.set_cons_zero, List.set_cons_succ])
                      refine take_yes (i := 23) 112 (v := ?_) rfl rfl (by kernel_rfl) (by kernel_rfl) (by kernel_rfl) (fun _ _ _ h => h) (by kernel_rfl) hHeld ?_ ?_
                      rotate_left
                      focus (intro w hSw; (try dsimp only at hSw); go_simp; (try with_reducible rfl))
                      simp only [Act.put, List.setIfInBounds_toArray, List.set_cons_zero, List.set_cons_succ]
                      refine take_yes (i := 24) 113 (v := ?_) rfl rfl (by kernel_rfl) (by kernel_rfl) (by kernel_rfl) (fun _ _ _ h => h) (by kernel_rfl) hHeld ?_ ?_
                      rotate_left
                      focus (intro w hSw; (try dsimp only at hSw); go_simp; (try with_reducible rfl))
                      simp only [Act.put, List.setIfInBounds_toArray, List.set_cons_zero, List.set_cons_succ]
                      refine wpAnyH_done (by kernel_rfl) ?_ _
                      have HBF := hide' (Below.on HBw.out.drew (Below.on b7 b8))
                      clear q0 x0 b7 b8 HBw
                      have HF := hide' (HFn'.out (fun _ => by rw [HAp.out, HT.out]; rfl))
                      go_wp2
                      go_roundw
                      case rel => exact ⟨k + 1, by omega, by go_num, HF.out, HBF.out⟩
                      case measure => simp [intOf]; omega
                  · have hcd : decide (0 ≤ cc) = true := by simp; omega
                    have hcd2 : decide (cc ≥ 0) = true := by simp; omega
                    have hce : 0 ≤ cc := by omega
                    have HT : Hid (decide (cc < 0) = false) := decide_eq_false hcc
                    clear hcc
                    refine wp_region_held_drew (S := fun w' => w'.cell? ⟨b, off + j * 13, none⟩ = some (.slice qa ql qc) ∧ w'.cell? ⟨wr.heap.size, 0, none⟩ = some (.slice pa pl pc)) (by kernel_rfl) ⟨q0, x0⟩ (fun hHeld => ?_)
                    refine take_yes (i := 0) 89 (v := ?_) rfl rfl (by kernel_rfl) (by kernel_rfl) (by kernel_rfl) (fun _ _ _ h => h) (by kernel_rfl) hHeld ?_ ?_
                    rotate_left
                    focus (intro w hSw; (try dsimp only at hSw); go_simp; (try with_reducible rfl))
                    simp only [Act.put, List.setIfInBounds_toArray, List.set_cons_zero, List.set_cons_succ]
                    refine take_yes (i := 1) 90 (v := ?_) rfl rfl (by kernel_rfl) (by kernel_rfl) (by kernel_rfl) (fun _ _ _ h => h) (by kernel_rfl) hHeld ?_ ?_
                    rotate_left
                    focus (intro w hSw; (try dsimp only at hSw); go_simp; (try with_reducible rfl))
                    simp only [Act.put, List.setIfInBounds_toArray, List.set_cons_zero, List.set_cons_succ]
                    refine take_yes (i := 2) 91 (v := ?_) rfl rfl (by kernel_rfl) (by kernel_rfl) (by kernel_rfl) (fun _ _ _ h => h) (by kernel_rfl) hHeld ?_ ?_
                    rotate_left
                    focus (intro w hSw; (try dsimp only at hSw); go_simp; (try with_reducible rfl))
                    simp only [Act.put, List.setIfInBounds_toArray, List.set_cons_zero, List.set_cons_succ]
                    refine take_yes (i := 3) 92 (v := ?_) rfl rfl (by kernel_rfl) (by kernel_rfl) (by kernel_rfl) (fun _ _ _ h => h) (by kernel_rfl) hHeld ?_ ?_
                    rotate_left
                    focus (intro w hSw; (try dsimp only at hSw); go_simp; (try with_reducible rfl))
                    simp only [Act.put, List.setIfInBounds_toArray, List.set_cons_zero, List.set_cons_succ]
                    refine take_yes (i := 4) 93 (v := ?_) rfl rfl (by kernel_rfl) (by kernel_rfl) (by kernel_rfl) (fun _ _ _ h => h) (by kernel_rfl) hHeld ?_ ?_
                    rotate_left
                    focus (intro w hSw; (try dsimp only at hSw); go_simp; (try with_reducible rfl))
                    simp only [Act.put, List.setIfInBounds_toArray, List.set_cons_zero, List.set_cons_succ]
                    refine take_yes (i := 5) 94 (v := ?_) rfl rfl (by kernel_rfl) (by kernel_rfl) (by kernel_rfl) (fun _ _ _ h => h) (by kernel_rfl) hHeld ?_ ?_
                    rotate_left
                    focus (intro w hSw; (try dsimp only at hSw); go_simp; (try with_reducible rfl))
                    simp only [Act.put, List.setIfInBounds_toArray, List.set_cons_zero, List.set_cons_succ]
                    refine take_yes (i := 6) 95 (v := ?_) rfl rfl (by kernel_rfl) (by kernel_rfl) (by kernel_rfl) (fun _ _ _ h => h) (by kernel_rfl) hHeld ?_ ?_
                    rotate_left
                    focus (intro w hSw; (try dsimp only at hSw); go_simp; (try with_reducible rfl))
                    simp only [Act.put, List.setIfInBounds_toArray, List.set_cons_zero, List.set_cons_succ]
                    refine take_yes (i := 7) 96 (v := ?_) rfl rfl (by kernel_rfl) (by kernel_rfl) (by kernel_rfl) (fun _ _ _ h => h) (by kernel_rfl) hHeld ?_ ?_
                    rotate_left
                    focus (intro w hSw; (try dsimp only at hSw); go_simp; (try with_reducible rfl))
                    simp only [Act.put, List.setIfInBounds_toArray, List.set_cons_zero, List.set_cons_succ]
                    refine take_yes (i := 8) 97 (v := ?_) rfl rfl (by kernel_rfl) (by kernel_rfl) (by kernel_rfl) (fun _ _ _ h => h) (by kernel_rfl) hHeld ?_ ?_
                    rotate_left
                    focus (intro w hSw; (try dsimp only at hSw); go_simp; (try with_reducible rfl))
                    simp only [Act.put, List.setIfInBounds_toArray, List.set_cons_zero, List.set_cons_succ]
                    refine take_yes (i := 9) 98 (v := ?_) rfl rfl (by kernel_rfl) (by kernel_rfl) (by kernel_rfl) (fun _ _ _ h => h) (by kernel_rfl) hHeld ?_ ?_
                    rotate_left
                    focus (intro w hSw; (try dsimp only at hSw); go_simp; (try with_reducible rfl))
                    simp only [Act.put, List.setIfInBounds_toArray, List.set_cons_zero, List.set_cons_succ]
                    refine take_yes (i := 10) 99 (v := ?_) rfl rfl (by kernel_rfl) (by kernel_rfl) (by kernel_rfl) (fun _ _ _ h => h) (by kernel_rfl) hHeld ?_ ?_
                    rotate_left
                    focus (intro w hSw; (try dsimp only at hSw); go_simp; (try with_reducible rfl))
                    simp only [Act.put, List.setIfInBounds_toArray, List.set_cons_zero, List.set_cons_succ]
                    refine wpAnyH_ready (rs := [11]) (by kernel_rfl) (by simp) ?_
                    refine AllReadyH.cons rfl (fun K hK => ?_) AllReadyH.nil
                    go_simp
                    go_at_call 34
                    refine HCm.out.mono ?_
                    rintro e w7 ⟨rfl, b7⟩
                    have hS := HSn.out w7 b7
                    go_wp2_with fail
                    refine hK.out _ _ hS (fun hHeld => ?_)
                    clear hK
                    (try simp only [Act.put, List.setIfInBounds_toArray, List.set_cons_zero, List.set_cons_succ])
                    refine take_yes (i := 12) 101 (v := ?_) rfl rfl (by kernel_rfl) (by kernel_rfl) (by kernel_rfl) (fun _ _ _ h => h) (by kernel_rfl) hHeld ?_ ?_
                    rotate_left
                    focus (intro w hSw; (try dsimp only at hSw); go_simp; (try with_reducible rfl))
                    simp only [Act.put, List.setIfInBounds_toArray, List.set_cons_zero, List.set_cons_succ]
                    refine take_yes (i := 13) 102 (v := ?_) rfl rfl (by kernel_rfl) (by kernel_rfl) (by kernel_rfl) (fun _ _ _ h => h) (by kernel_rfl) hHeld ?_ ?_
                    rotate_left
                    focus (intro w hSw; (try dsimp only at hSw); go_simp; (try with_reducible rfl))
                    simp only [Act.put, List.setIfInBounds_toArray, List.set_cons_zero, List.set_cons_succ]
                    refine take_not (i := 14) 103 rfl rfl (by kernel_rfl) (by kernel_rfl) (by kernel_rfl) (fun _ _ _ h => h) (by kernel_rfl) hHeld ?_
                    simp only [Act.put, List.setIfInBounds_toArray, List.set_cons_zero, List.set_cons_succ]
                    refine take_not (i := 15) 104 rfl rfl (by kernel_rfl) (by kernel_rfl) (by kernel_rfl) (fun _ _ _ h => h) (by kernel_rfl) hHeld ?_
                    simp only [Act.put, List.setIfInBounds_toArray, List.set_cons_zero, List.set_cons_succ]
                    refine take_not (i := 16) 105 rfl rfl (by kernel_rfl) (by kernel_rfl) (by kernel_rfl) (fun _ _ _ h => h) (by kernel_rfl) hHeld ?_
                    simp only [Act.put, List.setIfInBounds_toArray, List.set_cons_zero, List.set_cons_succ]
                    refine take_not (i := 17) 106 rfl rfl (by kernel_rfl) (by kernel_rfl) (by kernel_rfl) (fun _ _ _ h => h) (by kernel_rfl) hHeld ?_
                    simp only [Act.put, List.setIfInBounds_toArray, List.set_cons_zero, List.set_cons_succ]
                    refine take_not (i := 18) 107 rfl rfl (by kernel_rfl) (by kernel_rfl) (by kernel_rfl) (fun _ _ _ h => h) (by kernel_rfl) hHeld ?_
                    simp only [Act.put, List.setIfInBounds_toArray, List.set_cons_zero, List.set_cons_succ]
                    refine take_not (i := 19) 108 rfl rfl (by kernel_rfl) (by kernel_rfl) (by kernel_rfl) (fun _ _ _ h => h) (by kernel_rfl) hHeld ?_
                    simp only [Act.put, List.setIfInBounds_toArray, List.set_cons_zero, List.set_cons_succ]
                    refine take_not (i := 20) 109 rfl rfl (by kernel_rfl) (by kernel_rfl) (by kernel_rfl) (fun _ _ _ h => h) (by kernel_rfl) hHeld ?_
                    simp only [Act.put, List.setIfInBounds_toArray, List.set_cons_zero, List.set_cons_succ]
                    refine take_not (i := 21) 110 rfl rfl (by kernel_rfl) (by kernel_rfl) (by kernel_rfl) (fun _ _ _ h => h) (by kernel_rfl) hHeld ?_
                    simp only [Act.put, List.setIfInBounds_toArray, List.set_cons_zero, List.set_cons_succ]
                    refine take_not (i := 22) 111 rfl rfl (by kernel_rfl) (by kernel_rfl) (by kernel_rfl) (fun _ _ _ h => h) (by kernel_rfl) hHeld ?_
                    simp only [Act.put, List.setIfInBounds_toArray, List.set_cons_zero, List.set_cons_succ]
                    refine take_yes (i := 23) 112 (v := ?_) rfl rfl (by kernel_rfl) (by kernel_rfl) (by kernel_rfl) (fun _ _ _ h => h) (by kernel_rfl) hHeld ?_ ?_
                    rotate_left
                    focus (intro w hSw; (try dsimp only at hSw); go_simp; (try with_reducible rfl))
                    simp only [Act.put, List.setIfInBounds_toArray, List.set_cons_zero, List.set_cons_succ]
                    refine take_yes (i := 24) 113 (v := ?_) rfl rfl (by kernel_rfl) (by kernel_rfl) (by kernel_rfl) (fun _ _ _ h => h) (by kernel_rfl) hHeld ?_ ?_
                    rotate_left
                    focus (intro w hSw; (try dsimp only at hSw); go_simp; (try with_reducible rfl))
                    simp only [Act.put, List.setIfInBounds_toArray, List.set_cons_zero, List.set_cons_succ]
                    refine wpAnyH_done (by kernel_rfl) ?_ _
                    have HBF := hide' (Below.on HBw.out.drew b7)
                    clear q0 x0 b7 HBw
                    have HF : Hid (ans = false) := HNr'.out (by rw [HT.out]; rfl)
                    go_wp2
                    go_ret
                    exact ⟨ret_bool HF.out.symm, HBF.out⟩
                · obtain rfl : k = 0 := by omega
                  have HF := hide' (HFn.out (by simp) (fun h => absurd h (by omega)))
                  have HBF : Hid (∀ m, Below w.heap.size w (w4.drewN m)) := fun m => below_drewN (Below.on HBel.out HB2.out) m
                  clear HNx HNr HFn HBd x0 x1 x2 x3 x4 x5 x6 x7 x8 x9 x10 x11 x12 HBox HLast HB2 HA b4
                  go_quiet (fail)
                  go_wp2
                  go_roundw
                  case rel => exact ⟨0 + 1, by omega, by go_num, HF.out, HBF.out _⟩
                  case measure => simp [intOf]; omega
              | false =>
                obtain ⟨x0, x1, x2, x3, x4, x5, x6, x7, x8, x9, x10, x11, x12⟩ := row13 (HBox.out w4 b4)
                go_wp2_with fail
                refine ((HZ2.out (by trivial)) _ (Below.on HA.out b4)).mono ?_
                rintro e w5 ⟨rfl, c5⟩
                have b5 := Below.on b4 c5
                clear c5 b4
                clear x0 x1 x2 x3 x4 x5 x6 x7 x8 x9 x10 x11 x12
                cases z2 with
                | false =>
                  obtain ⟨x0, x1, x2, x3, x4, x5, x6, x7, x8, x9, x10, x11, x12⟩ := row13 (HBox.out w5 b5)
                  have HF : Hid (ans = false) := HBd.out (by simp)
                  have HBF := hide' (Below.on HBel.out (Below.on HA.out b5))
                  go_wp2
                  go_ret
                  exact ⟨ret_bool HF.out.symm, HBF.out⟩
                | true =>
                  obtain ⟨x0, x1, x2, x3, x4, x5, x6, x7, x8, x9, x10, x11, x12⟩ := row13 (HBox.out w5 b5)
                  by_cases hp : 0 < pl
                  · obtain ⟨pb, po, kk, rfl, hE, hc⟩ := HLast.out.2 hp
                    have hp' : (0 : Int) < (pl : Int) := by omega
                    have hp2 : ((pl : Int) == 0) = false := by simp; omega
                    have hc0 := hc w5 (Below.on HA.out b5)
                    clear hc
                    by_cases hk0 : kk = 0
                    · subst hk0
                      have hEt : eB = true := by rw [hE]; rfl
                      subst hEt
                      clear hE
                      go_wp2_with fail
                      clear hc0
                      have HB2 : Hid (Below wr.heap.size wr w5) := Below.on HA.out b5
                      have hbW : b < w5.heap.size := by have := HB2.out.size; omega
                      have hxW : wr.heap.size < w5.heap.size := (Array.getElem?_eq_some_iff.1 (HBox.out w5 b5)).1
                      by_cases h0 : 0 < k
                      · have h0' : (0 : Int) < (k : Int) := by omega
                        obtain ⟨qa, ql, qc, cc, wi, hap, hq0, hcm, hwi⟩ := HNx.out h0
                        have q0 := hq0 w5 HB2.out
                        obtain ⟨j, ej⟩ : ∃ j, j = k - 1 := ⟨_, rfl⟩
                        rw [← ej] at q0
                        have hwk : IntKind.i64.wrap ((k : Int) - 1) = (j : Int) := by rw [IntKind.wrap_i64]; omega
                        have hwj : IntKind.i64.wrap (j : Int) = (j : Int) := by rw [IntKind.wrap_i64]; omega
                        have hj1 : (j : Int) < (l.length : Int) := by omega
                        have hj3 : (0 : Int) ≤ (j : Int) := by omega
                        have HSn : Hid (∀ wy, Below w5.drew.heap.size w5.drew wy → wy.cell? ⟨b, off + j * 13, none⟩ = some (.slice qa ql qc) ∧ wy.cell? ⟨wr.heap.size, 0, none⟩ = some (.slice (some ⟨pb, po, none⟩) pl pc)) := fun wy hb => ⟨(World.cell?_of_block (a := ⟨b, off + j * 13, none⟩) (hb.block b (by show b < w5.heap.size; omega))).trans q0, (World.cell?_of_block (a := ⟨wr.heap.size, 0, none⟩) (hb.block wr.heap.size (by show wr.heap.size < w5.heap.size; omega))).trans x0⟩
                        have HCm := hide' (hcm w5.drew HB2.out.drew)
                        have HWi : Hid (∀ wy, Below w5.drew.heap.size w5.drew wy → Calls Tryz.prog 35 #[.slice qa ql qc, .slice (some ⟨pb, po, none⟩) pl pc] wy fun e w' => e = .returned (.bool wi) ∧ Below wy.heap.size wy w') := fun wy hb => hwi wy (Below.on HB2.out.drew hb)
                        have HNr' := hide' (HNr.out h0)
                        have HFn' := hide' (HFn.out (by simp))
                        rw [hap] at HNr'
                        have HAp := hide' hap
                        have HBw : Hid (Below w.heap.size w w5) := Below.on HBel.out HB2.out
                        clear hcm hwi hq0 HNx HNr HFn HBd ej hap x1 x2 x3 x4 x5 x6 x7 x8 x9 x10 x11 x12 HBox HLast HB2 HA b5
                        by_cases hcc : cc < 0
                        · have hcd : decide (0 ≤ cc) = false := by simp; omega
                          have hcd2 : decide (cc ≥ 0) = false := by simp; omega
                          have hce : ¬ 0 ≤ cc := by omega
                          have hT : (decide (cc < 0)) = true := decide_eq_true hcc
                          have HT := hide' hT
                          clear hT hcc
                          cases wi with
                          | true =>
                            refine wp_region_held_drew (S := fun w' => w'.cell? ⟨b, off + j * 13, none⟩ = some (.slice qa ql qc) ∧ w'.cell? ⟨wr.heap.size, 0, none⟩ = some (.slice (some ⟨pb, po, none⟩) pl pc)) (by kernel_rfl) ⟨q0, x0⟩ (fun hHeld => ?_)
                            refine take_yes (i := 0) 89 (v := ?_) rfl rfl (by kernel_rfl) (by kernel_rfl) (by kernel_rfl) (fun _ _ _ h => h) (by kernel_rfl) hHeld ?_ ?_
                            rotate_left
                            focus (intro w hSw; (try dsimp only at hSw); go_simp; (try with_reducible rfl))
                            simp only [Act.put, List.setIfInBounds_toArray, List.set_cons_zero, List.set_cons_succ]
                            refine take_yes (i := 1) 90 (v := ?_) rfl rfl (by kernel_rfl) (by kernel_rfl) (by kernel_rfl) (fun _ _ _ h => h) (by kernel_rfl) hHeld ?_ ?_
                            rotate_left
                            focus (intro w hSw; (try dsimp only at hSw); go_simp; (try with_reducible rfl))
                            simp only [Act.put, List.setIfInBounds_toArray, List.set_cons_zero, List.set_cons_succ]
                            refine take_yes (i := 2) 91 (v := ?_) rfl rfl (by kernel_rfl) (by kernel_rfl) (by kernel_rfl) (fun _ _ _ h => h) (by kernel_rfl) hHeld ?_ ?_
                            rotate_left
                            focus (intro w hSw; (try dsimp only at hSw); go_simp; (try with_reducible rfl))
                            simp only [Act.put, List.setIfInBounds_toArray, List.set_cons_zero, List.set_cons_succ]
                            refine take_yes (i := 3) 92 (v := ?_) rfl rfl (by kernel_rfl) (by kernel_rfl) (by kernel_rfl) (fun _ _ _ h => h) (by kernel_rfl) hHeld ?_ ?_
                            rotate_left
                            focus (intro w hSw; (try dsimp only at hSw); go_simp; (try with_reducible rfl))
                            simp only [Act.put, List.setIfInBounds_toArray, List.set_cons_zero, List.set_cons_succ]
                            refine take_yes (i := 4) 93 (v := ?_) rfl rfl (by kernel_rfl) (by kernel_rfl) (by kernel_rfl) (fun _ _ _ h => h) (by kernel_rfl) hHeld ?_ ?_
                            rotate_left
                            focus (intro w hSw; (try dsimp only at hSw); go_simp; (try with_reducible rfl))
                            simp only [Act.put, List.setIfInBounds_toArray, List.set_cons_zero, List.set_cons_succ]
                            refine take_yes (i := 5) 94 (v := ?_) rfl rfl (by kernel_rfl) (by kernel_rfl) (by kernel_rfl) (fun _ _ _ h => h) (by kernel_rfl) hHeld ?_ ?_
                            rotate_left
                            focus (intro w hSw; (try dsimp only at hSw); go_simp; (try with_reducible rfl))
                            simp only [Act.put, List.setIfInBounds_toArray, List.set_cons_zero, List.set_cons_succ]
                            refine take_yes (i := 6) 95 (v := ?_) rfl rfl (by kernel_rfl) (by kernel_rfl) (by kernel_rfl) (fun _ _ _ h => h) (by kernel_rfl) hHeld ?_ ?_
                            rotate_left
                            focus (intro w hSw; (try dsimp only at hSw); go_simp; (try with_reducible rfl))
                            simp only [Act.put, List.setIfInBounds_toArray, List.set_cons_zero, List.set_cons_succ]
                            refine take_yes (i := 7) 96 (v := ?_) rfl rfl (by kernel_rfl) (by kernel_rfl) (by kernel_rfl) (fun _ _ _ h => h) (by kernel_rfl) hHeld ?_ ?_
                            rotate_left
                            focus (intro w hSw; (try dsimp only at hSw); go_simp; (try with_reducible rfl))
                            simp only [Act.put, List.setIfInBounds_toArray, List.set_cons_zero, List.set_cons_succ]
                            refine take_yes (i := 8) 97 (v := ?_) rfl rfl (by kernel_rfl) (by kernel_rfl) (by kernel_rfl) (fun _ _ _ h => h) (by kernel_rfl) hHeld ?_ ?_
                            rotate_left
                            focus (intro w hSw; (try dsimp only at hSw); go_simp; (try with_reducible rfl))
                            simp only [Act.put, List.setIfInBounds_toArray, List.set_cons_zero, List.set_cons_succ]
                            refine take_yes (i := 9) 98 (v := ?_) rfl rfl (by kernel_rfl) (by kernel_rfl) (by kernel_rfl) (fun _ _ _ h => h) (by kernel_rfl) hHeld ?_ ?_
                            rotate_left
                            focus (intro w hSw; (try dsimp only at hSw); go_simp; (try with_reducible rfl))
                            simp only [Act.put, List.setIfInBounds_toArray, List.set_cons_zero, List.set_cons_succ]
                            refine take_yes (i := 10) 99 (v := ?_) rfl rfl (by kernel_rfl) (by kernel_rfl) (by kernel_rfl) (fun _ _ _ h => h) (by kernel_rfl) hHeld ?_ ?_
                            rotate_left
                            focus (intro w hSw; (try dsimp only at hSw); go_simp; (try with_reducible rfl))
                            simp only [Act.put, List.setIfInBounds_toArray, List.set_cons_zero, List.set_cons_succ]
                            refine wpAnyH_ready (rs := [11]) (by kernel_rfl) (by simp) ?_
                            refine AllReadyH.cons rfl (fun K hK => ?_) AllReadyH.nil
                            go_simp
                            go_at_call 34
                            refine HCm.out.mono ?_
                            rintro e w7 ⟨rfl, b7⟩
                            have hS := HSn.out w7 b7
                            go_wp2_with fail
                            refine hK.out _ _ hS (fun hHeld => ?_)
                            clear hK
                            (try simp only [Act.put, List.setIfInBounds_toArray, List.set_cons_zero, List.set_cons_succ])
                            refine take_yes (i := 12) 101 (v := ?_) rfl rfl (by kernel_rfl) (by kernel_rfl) (by kernel_rfl) (fun _ _ _ h => h) (by kernel_rfl) hHeld ?_ ?_
                            rotate_left
                            focus (intro w hSw; (try dsimp only at hSw); go_simp; (try with_reducible rfl))
                            simp only [Act.put, List.setIfInBounds_toArray, List.set_cons_zero, List.set_cons_succ]
                            refine take_yes (i := 13) 102 (v := ?_) rfl rfl (by kernel_rfl) (by kernel_rfl) (by kernel_rfl) (fun _ _ _ h => h) (by kernel_rfl) hHeld ?_ ?_
                            rotate_left
                            focus (intro w hSw; (try dsimp only at hSw); go_simp; (try with_reducible rfl))
                            simp only [Act.put, List.setIfInBounds_toArray, List.set_cons_zero, List.set_cons_succ]
                            refine take_yes (i := 14) 103 (v := ?_) rfl rfl (by kernel_rfl) (by kernel_rfl) (by kernel_rfl) (fun _ _ _ h => h) (by kernel_rfl) hHeld ?_ ?_
                            rotate_left
                            focus (intro w hSw; (try dsimp only at hSw); go_simp; (try with_reducible rfl))
                            simp only [Act.put, List.setIfInBounds_toArray, List.set_cons_zero, List.set_cons_succ]
                            refine take_yes (i := 15) 104 (v := ?_) rfl rfl (by kernel_rfl) (by kernel_rfl) (by kernel_rfl) (fun _ _ _ h => h) (by kernel_rfl) hHeld ?_ ?_
                            rotate_left
                            focus (intro w hSw; (try dsimp only at hSw); go_simp; (try with_reducible rfl))
                            simp only [Act.put, List.setIfInBounds_toArray, List.set_cons_zero, List.set_cons_succ]
                            refine take_yes (i := 16) 105 (v := ?_) rfl rfl (by kernel_rfl) (by kernel_rfl) (by kernel_rfl) (fun _ _ _ h => h) (by kernel_rfl) hHeld ?_ ?_
                            rotate_left
                            focus (intro w hSw; (try dsimp only at hSw); go_simp; (try with_reducible rfl))
                            simp only [Act.put, List.setIfInBounds_toArray, List.set_cons_zero, List.set_cons_succ]
                            refine take_yes (i := 17) 106 (v := ?_) rfl rfl (by kernel_rfl) (by kernel_rfl) (by kernel_rfl) (fun _ _ _ h => h) (by kernel_rfl) hHeld ?_ ?_
                            rotate_left
                            focus (intro w hSw; (try dsimp only at hSw); go_simp; (try with_reducible rfl))
                            simp only [Act.put, List.setIfInBounds_toArray, List.set_cons_zero, List.set_cons_succ]
                            refine take_yes (i := 18) 107 (v := ?_) rfl rfl (by kernel_rfl) (by kernel_rfl) (by kernel_rfl) (fun _ _ _ h => h) (by kernel_rfl) hHeld ?_ ?_
                            rotate_left
                            focus (intro w hSw; (try dsimp only at hSw); go_simp; (try with_reducible rfl))
                            simp only [Act.put, List.setIfInBounds_toArray, List.set_cons_zero, List.set_cons_succ]
                            refine take_yes (i := 19) 108 (v := ?_) rfl rfl (by kernel_rfl) (by kernel_rfl) (by kernel_rfl) (fun _ _ _ h => h) (by kernel_rfl) hHeld ?_ ?_
                            rotate_left
                            focus (intro w hSw; (try dsimp only at hSw); go_simp; (try with_reducible rfl))
                            simp only [Act.put, List.setIfInBounds_toArray, List.set_cons_zero, List.set_cons_succ]
                            refine take_yes (i := 20) 109 (v := ?_) rfl rfl (by kernel_rfl) (by kernel_rfl) (by kernel_rfl) (fun _ _ _ h => h) (by kernel_rfl) hHeld ?_ ?_
                            rotate_left
                            focus (intro w hSw; (try dsimp only at hSw); go_simp; (try with_reducible rfl))
                            simp only [Act.put, List.setIfInBounds_toArray, List.set_cons_zero, List.set_cons_succ]
                            refine take_yes (i := 21) 110 (v := ?_) rfl rfl (by kernel_rfl) (by kernel_rfl) (by kernel_rfl) (fun _ _ _ h => h) (by kernel_rfl) hHeld ?_ ?_
                            rotate_left
                            focus (intro w hSw; (try dsimp only at hSw); go_simp; (try with_reducible rfl))
                            simp only [Act.put, List.setIfInBounds_toArray, List.set_cons_zero, List.set_cons_succ]
                            refine wpAnyH_ready (rs := [22]) (by kernel_rfl) (by simp) ?_
                            refine AllReadyH.cons rfl (fun K hK => ?_) AllReadyH.nil
                            go_simp
                            go_at_call 35
                            refine (HWi.out w7 b7).mono ?_
                            rintro e w8 ⟨rfl, b8⟩
                            have hS := HSn.out w8 (Below.on b7 b8)
                            go_wp2_with fail
                            refine hK.out _ _ hS (fun hHeld => ?_)
                            clear hK
                            (try simp only [Act.put, List.setIfInBounds_toArray, List.set_cons_zero, List.set_cons_succ])
                            refine take_yes (i := 23) 112 (v := ?_) rfl rfl (by kernel_rfl) (by kernel_rfl) (by kernel_rfl) (fun _ _ _ h => h) (by kernel_rfl) hHeld ?_ ?_
                            rotate_left
                            focus (intro w hSw; (try dsimp only at hSw); go_simp; (try with_reducible rfl))
                            simp only [Act.put, List.setIfInBounds_toArray, List.set_cons_zero, List.set_cons_succ]
                            refine take_yes (i := 24) 113 (v := ?_) rfl rfl (by kernel_rfl) (by kernel_rfl) (by kernel_rfl) (fun _ _ _ h => h) (by kernel_rfl) hHeld ?_ ?_
                            rotate_left
                            focus (intro w hSw; (try dsimp only at hSw); go_simp; (try with_reducible rfl))
                            simp only [Act.put, List.setIfInBounds_toArray, List.set_cons_zero, List.set_cons_succ]
                            refine wpAnyH_done (by kernel_rfl) ?_ _
                            have HBF := hide' (Below.on HBw.out.drew (Below.on b7 b8))
                            clear q0 x0 b7 b8 HBw
                            have HF : Hid (ans = false) := HNr'.out (by simp)
                            go_wp2
                            go_ret
                            exact ⟨ret_bool HF.out.symm, HBF.out⟩
                          | false =>
                            refine wp_region_held_drew (S := fun w' => w'.cell? ⟨b, off + j * 13, none⟩ = some (.slice qa ql qc) ∧ w'.cell? ⟨wr.heap.size, 0, none⟩ = some (.slice (some ⟨pb, po, none⟩) pl pc)) (by kernel_rfl) ⟨q0, x0⟩ (fun hHeld => ?_)
                            refine take_yes (i := 0) 89 (v := ?_) rfl rfl (by kernel_rfl) (by kernel_rfl) (by kernel_rfl) (fun _ _ _ h => h) (by kernel_rfl) hHeld ?_ ?_
                            rotate_left
                            focus (intro w hSw; (try dsimp only at hSw); go_simp; (try with_reducible rfl))
                            simp only [Act.put, List.setIfInBounds_toArray, List.set_cons_zero, List.set_cons_succ]
                            refine take_yes (i := 1) 90 (v := ?_) rfl rfl (by kernel_rfl) (by kernel_rfl) (by kernel_rfl) (fun _ _ _ h => h) (by kernel_rfl) hHeld ?_ ?_
                            rotate_left
                            focus (intro w hSw; (try dsimp only at hSw); go_simp; (try with_reducible rfl))
                            simp only [Act.put, List.setIfInBounds_toArray, List.set_cons_zero, List.set_cons_succ]
                            refine take_yes (i := 2) 91 (v := ?_) rfl rfl (by kernel_rfl) (by kernel_rfl) (by kernel_rfl) (fun _ _ _ h => h) (by kernel_rfl) hHeld ?_ ?_
                            rotate_left
                            focus (intro w hSw; (try dsimp only at hSw); go_simp; (try with_reducible rfl))
                            simp only [Act.put, List.setIfInBounds_toArray, List.set_cons_zero, List.set_cons_succ]
                            refine take_yes (i := 3) 92 (v := ?_) rfl rfl (by kernel_rfl) (by kernel_rfl) (by kernel_rfl) (fun _ _ _ h => h) (by kernel_rfl) hHeld ?_ ?_
                            rotate_left
                            focus (intro w hSw; (try dsimp only at hSw); go_simp; (try with_reducible rfl))
                            simp only [Act.put, List.setIfInBounds_toArray, List.set_cons_zero, List.set_cons_succ]
                            refine take_yes (i := 4) 93 (v := ?_) rfl rfl (by kernel_rfl) (by kernel_rfl) (by kernel_rfl) (fun _ _ _ h => h) (by kernel_rfl) hHeld ?_ ?_
                            rotate_left
                            focus (intro w hSw; (try dsimp only at hSw); go_simp; (try with_reducible rfl))
                            simp only [Act.put, List.setIfInBounds_toArray, List.set_cons_zero, List.set_cons_succ]
                            refine take_yes (i := 5) 94 (v := ?_) rfl rfl (by kernel_rfl) (by kernel_rfl) (by kernel_rfl) (fun _ _ _ h => h) (by kernel_rfl) hHeld ?_ ?_
                            rotate_left
                            focus (intro w hSw; (try dsimp only at hSw); go_simp; (try with_reducible rfl))
                            simp only [Act.put, List.setIfInBounds_toArray, List.set_cons_zero, List.set_cons_succ]
                            refine take_yes (i := 6) 95 (v := ?_) rfl rfl (by kernel_rfl) (by kernel_rfl) (by kernel_rfl) (fun _ _ _ h => h) (by kernel_rfl) hHeld ?_ ?_
                            rotate_left
                            focus (intro w hSw; (try dsimp only at hSw); go_simp; (try with_reducible rfl))
                            simp only [Act.put, List.setIfInBounds_toArray, List.set_cons_zero, List.set_cons_succ]
                            refine take_yes (i := 7) 96 (v := ?_) rfl rfl (by kernel_rfl) (by kernel_rfl) (by kernel_rfl) (fun _ _ _ h => h) (by kernel_rfl) hHeld ?_ ?_
                            rotate_left
                            focus (intro w hSw; (try dsimp only at hSw); go_simp; (try with_reducible rfl))
                            simp only [Act.put, List.setIfInBounds_toArray, List.set_cons_zero, List.set_cons_succ]
                            refine take_yes (i := 8) 97 (v := ?_) rfl rfl (by kernel_rfl) (by kernel_rfl) (by kernel_rfl) (fun _ _ _ h => h) (by kernel_rfl) hHeld ?_ ?_
                            rotate_left
                            focus (intro w hSw; (try dsimp only at hSw); go_simp; (try with_reducible rfl))
                            simp only [Act.put, List.setIfInBounds_toArray, List.set_cons_zero, List.set_cons_succ]
                            refine take_yes (i := 9) 98 (v := ?_) rfl rfl (by kernel_rfl) (by kernel_rfl) (by kernel_rfl) (fun _ _ _ h => h) (by kernel_rfl) hHeld ?_ ?_
                            rotate_left
                            focus (intro w hSw; (try dsimp only at hSw); go_simp; (try with_reducible rfl))
                            simp only [Act.put, List.setIfInBounds_toArray, List.set_cons_zero, List.set_cons_succ]
                            refine take_yes (i := 10) 99 (v := ?_) rfl rfl (by kernel_rfl) (by kernel_rfl) (by kernel_rfl) (fun _ _ _ h => h) (by kernel_rfl) hHeld ?_ ?_
                            rotate_left
                            focus (intro w hSw; (try dsimp only at hSw); go_simp; (try with_reducible rfl))
                            simp only [Act.put, List.setIfInBounds_toArray, List.set_cons_zero, List.set_cons_succ]
                            refine wpAnyH_ready (rs := [11]) (by kernel_rfl) (by simp) ?_
                            refine AllReadyH.cons rfl (fun K hK => ?_) AllReadyH.nil
                            go_simp
                            go_at_call 34
                            refine HCm.out.mono ?_
                            rintro e w7 ⟨rfl, b7⟩
                            have hS := HSn.out w7 b7
                            go_wp2_with fail
                            refine hK.out _ _ hS (fun hHeld => ?_)
                            clear hK
                            (try simp only [Act.put, List.setIfInBounds_toArray, List.set_cons_zero, List.set_cons_succ])
                            refine take_yes (i := 12) 101 (v := ?_) rfl rfl (by kernel_rfl) (by kernel_rfl) (by kernel_rfl) (fun _ _ _ h => h) (by kernel_rfl) hHeld ?_ ?_
                            rotate_left
                            focus (intro w hSw; (try dsimp only at hSw); go_simp; (try with_reducible rfl))
                            simp only [Act.put, List.setIfInBounds_toArray, List.set_cons_zero, List.set_cons_succ]
                            refine take_yes (i := 13) 102 (v := ?_) rfl rfl (by kernel_rfl) (by kernel_rfl) (by kernel_rfl) (fun _ _ _ h => h) (by kernel_rfl) hHeld ?_ ?_
                            rotate_left
                            focus (intro w hSw; (try dsimp only at hSw); go_simp; (try with_reducible rfl))
                            simp only [Act.put, List.setIfInBounds_toArray, List.set_cons_zero, List.set_cons_succ]
                            refine take_yes (i := 14) 103 (v := ?_) rfl rfl (by kernel_rfl) (by kernel_rfl) (by kernel_rfl) (fun _ _ _ h => h) (by kernel_rfl) hHeld ?_ ?_
                            rotate_left
                            focus (intro w hSw; (try dsimp only at hSw); go_simp; (try with_reducible rfl))
                            simp only [Act.put, List.setIfInBounds_toArray, List.set_cons_zero, List.set_cons_succ]
                            refine take_yes (i := 15) 104 (v := ?_) rfl rfl (by kernel_rfl) (by kernel_rfl) (by kernel_rfl) (fun _ _ _ h => h) (by kernel_rfl) hHeld ?_ ?_
                            rotate_left
                            focus (intro w hSw; (try dsimp only at hSw); go_simp; (try with_reducible rfl))
                            simp only [Act.put, List.setIfInBounds_toArray, List.set_cons_zero, List.set_cons_succ]
                            refine take_yes (i := 16) 105 (v := ?_) rfl rfl (by kernel_rfl) (by kernel_rfl) (by kernel_rfl) (fun _ _ _ h => h) (by kernel_rfl) hHeld ?_ ?_
                            rotate_left
                            focus (intro w hSw; (try dsimp only at hSw); go_simp; (try with_reducible rfl))
                            simp only [Act.put, List.setIfInBounds_toArray, List.set_cons_zero, List.set_cons_succ]
                            refine take_yes (i := 17) 106 (v := ?_) rfl rfl (by kernel_rfl) (by kernel_rfl) (by kernel_rfl) (fun _ _ _ h => h) (by kernel_rfl) hHeld ?_ ?_
                            rotate_left
                            focus (intro w hSw; (try dsimp only at hSw); go_simp; (try with_reducible rfl))
                            simp only [Act.put, List.setIfInBounds_toArray, List.set_cons_zero, List.set_cons_succ]
                            refine take_yes (i := 18) 107 (v := ?_) rfl rfl (by kernel_rfl) (by kernel_rfl) (by kernel_rfl) (fun _ _ _ h => h) (by kernel_rfl) hHeld ?_ ?_
                            rotate_left
                            focus (intro w hSw; (try dsimp only at hSw); go_simp; (try with_reducible rfl))
                            simp only [Act.put, List.setIfInBounds_toArray, List.set_cons_zero, List.set_cons_succ]
                            refine take_yes (i := 19) 108 (v := ?_) rfl rfl (by kernel_rfl) (by kernel_rfl) (by kernel_rfl) (fun _ _ _ h => h) (by kernel_rfl) hHeld ?_ ?_
                            rotate_left
                            focus (intro w hSw; (try dsimp only at hSw); go_simp; (try with_reducible rfl))
                            simp only [Act.put, List.setIfInBounds_toArray, List.set_cons_zero, List.set_cons_succ]
                            refine take_yes (i := 20) 109 (v := ?_) rfl rfl (by kernel_rfl) (by kernel_rfl) (by kernel_rfl) (fun _ _ _ h => h) (by kernel_rfl) hHeld ?_ ?_
                            rotate_left
                            focus (intro w hSw; (try dsimp only at hSw); go_simp; (try with_reducible rfl))
                            simp only [Act.put, List.setIfInBounds_toArray, List.set_cons_zero, List.set_cons_succ]
                            refine take_yes (i := 21) 110 (v := ?_) rfl rfl (by kernel_rfl) (by kernel_rfl) (by kernel_rfl) (fun _ _ _ h => h) (by kernel_rfl) hHeld ?_ ?_
                            rotate_left
                            focus (intro w hSw; (try dsimp only at hSw); go_simp; (try with_reducible rfl))
                            simp only [Act.put, List.setIfInBounds_toArray, List.set_cons_zero, List.set_cons_succ]
                            refine wpAnyH_ready (rs := [22]) (by kernel_rfl) (by simp) ?_
                            refine AllReadyH.cons rfl (fun K hK => ?_) AllReadyH.nil
                            go_simp
                            go_at_call 35
                            refine (HWi.out w7 b7).mono ?_
                            rintro e w8 ⟨rfl, b8⟩
                            have hS := HSn.out w8 (Below.on b7 b8)
                            go_wp2_with fail
                            refine hK.out _ _ hS (fun hHeld => ?_)
                            clear hK
                            (try simp only [Act.put, List.setIfInBounds_toArray, List.set_cons_zero, List.set_cons_succ])
                            refine take_yes (i := 23) 112 (v := ?_) rfl rfl (by kernel_rfl) (by kernel_rfl) (by kernel_rfl) (fun _ _ _ h => h) (by kernel_rfl) hHeld ?_ ?_
                            rotate_left
                            focus (intro w hSw; (try dsimp only at hSw); go_simp; (try with_reducible rfl))
                            simp only [Act.put, List.setIfInBounds_toArray, List.set_cons_zero, List.set_cons_succ]
                            refine take_yes (i := 24) 113 (v := ?_) rfl rfl (by kernel_rfl) (by kernel_rfl) (by kernel_rfl) (fun _ _ _ h => h) (by kernel_rfl) hHeld ?_ ?_
                            rotate_left
                            focus (intro w hSw; (try dsimp only at hSw); go_simp; (try with_reducible rfl))
                            simp only [Act.put, List.setIfInBounds_toArray, List.set_cons_zero, List.set_cons_succ]
                            refine wpAnyH_done (by kernel_rfl) ?_ _
                            have HBF := hide' (Below.on HBw.out.drew (Below.on b7 b8))
                            clear q0 x0 b7 b8 HBw
                            have HF := hide' (HFn'.out (fun _ => by rw [HAp.out, HT.out]; rfl))
                            go_wp2
                            go_roundw
                            case rel => exact ⟨k + 1, by omega, by go_num, HF.out, HBF.out⟩
                            case measure => simp [intOf]; omega
                        · have hcd : decide (0 ≤ cc) = true := by simp; omega
                          have hcd2 : decide (cc ≥ 0) = true := by simp; omega
                          have hce : 0 ≤ cc := by omega
                          have HT : Hid (decide (cc < 0) = false) := decide_eq_false hcc
                          clear hcc
                          refine wp_region_held_drew (S := fun w' => w'.cell? ⟨b, off + j * 13, none⟩ = some (.slice qa ql qc) ∧ w'.cell? ⟨wr.heap.size, 0, none⟩ = some (.slice (some ⟨pb, po, none⟩) pl pc)) (by kernel_rfl) ⟨q0, x0⟩ (fun hHeld => ?_)
                          refine take_yes (i := 0) 89 (v := ?_) rfl rfl (by kernel_rfl) (by kernel_rfl) (by kernel_rfl) (fun _ _ _ h => h) (by kernel_rfl) hHeld ?_ ?_
                          rotate_left
                          focus (intro w hSw; (try dsimp only at hSw); go_simp; (try with_reducible rfl))
                          simp only [Act.put, List.setIfInBounds_toArray, List.set_cons_zero, List.set_cons_succ]
                          refine take_yes (i := 1) 90 (v := ?_) rfl rfl (by kernel_rfl) (by kernel_rfl) (by kernel_rfl) (fun _ _ _ h => h) (by kernel_rfl) hHeld ?_ ?_
                          rotate_left
                          focus (intro w hSw; (try dsimp only at hSw); go_simp; (try with_reducible rfl))
                          simp only [Act.put, List.setIfInBounds_toArray, List.set_cons_zero, List.set_cons_succ]
                          refine take_yes (i := 2) 91 (v := ?_) rfl rfl (by kernel_rfl) (by kernel_rfl) (by kernel_rfl) (fun _ _ _ h => h) (by kernel_rfl) hHeld ?_ ?_
                          rotate_left
                          focus (intro w hSw; (try dsimp only at hSw); go_simp; (try with_reducible rfl))
                          simp only [Act.put, List.setIfInBounds_toArray, List.set_cons_zero, List.set_cons_succ]
                          refine take_yes (i := 3) 92 (v := ?_) rfl rfl (by kernel_rfl) (by kernel_rfl) (by kernel_rfl) (fun _ _ _ h => h) (by kernel_rfl) hHeld ?_ ?_
                          rotate_left
                          focus (intro w hSw; (try dsimp only at hSw); go_simp; (try with_reducible rfl))
                          simp only [Act.put, List.setIfInBounds_toArray, List.set_cons_zero, List.set_cons_succ]
                          refine take_yes (i := 4) 93 (v := ?_) rfl rfl (by kernel_rfl) (by kernel_rfl) (by kernel_rfl) (fun _ _ _ h => h) (by kernel_rfl) hHeld ?_ ?_
                          rotate_left
                          focus (intro w hSw; (try dsimp only at hSw); go_simp; (try with_reducible rfl))
                          simp only [Act.put, List.setIfInBounds_toArray, List.set_cons_zero, List.set_cons_succ]
                          refine take_yes (i := 5) 94 (v := ?_) rfl rfl (by kernel_rfl) (by kernel_rfl) (by kernel_rfl) (fun _ _ _ h => h) (by kernel_rfl) hHeld ?_ ?_
                          rotate_left
                          focus (intro w hSw; (try dsimp only at hSw); go_simp; (try with_reducible rfl))
                          simp only [Act.put, List.setIfInBounds_toArray, List.set_cons_zero, List.set_cons_succ]
                          refine take_yes (i := 6) 95 (v := ?_) rfl rfl (by kernel_rfl) (by kernel_rfl) (by kernel_rfl) (fun _ _ _ h => h) (by kernel_rfl) hHeld ?_ ?_
                          rotate_left
                          focus (intro w hSw; (try dsimp only at hSw); go_simp; (try with_reducible rfl))
                          simp only [Act.put, List.setIfInBounds_toArray, List.set_cons_zero, List.set_cons_succ]
                          refine take_yes (i := 7) 96 (v := ?_) rfl rfl (by kernel_rfl) (by kernel_rfl) (by kernel_rfl) (fun _ _ _ h => h) (by kernel_rfl) hHeld ?_ ?_
                          rotate_left
                          focus (intro w hSw; (try dsimp only at hSw); go_simp; (try with_reducible rfl))
                          simp only [Act.put, List.setIfInBounds_toArray, List.set_cons_zero, List.set_cons_succ]
                          refine take_yes (i := 8) 97 (v := ?_) rfl rfl (by kernel_rfl) (by kernel_rfl) (by kernel_rfl) (fun _ _ _ h => h) (by kernel_rfl) hHeld ?_ ?_
                          rotate_left
                          focus (intro w hSw; (try dsimp only at hSw); go_simp; (try with_reducible rfl))
                          simp only [Act.put, List.setIfInBounds_toArray, List.set_cons_zero, List.set_cons_succ]
                          refine take_yes (i := 9) 98 (v := ?_) rfl rfl (by kernel_rfl) (by kernel_rfl) (by kernel_rfl) (fun _ _ _ h => h) (by kernel_rfl) hHeld ?_ ?_
                          rotate_left
                          focus (intro w hSw; (try dsimp only at hSw); go_simp; (try with_reducible rfl))
                          simp only [Act.put, List.setIfInBounds_toArray, List.set_cons_zero, List.set_cons_succ]
                          refine take_yes (i := 10) 99 (v := ?_) rfl rfl (by kernel_rfl) (by kernel_rfl) (by kernel_rfl) (fun _ _ _ h => h) (by kernel_rfl) hHeld ?_ ?_
                          rotate_left
                          focus (intro w hSw; (try dsimp only at hSw); go_simp; (try with_reducible rfl))
                          simp only [Act.put, List.setIfInBounds_toArray, List.set_cons_zero, List.set_cons_succ]
                          refine wpAnyH_ready (rs := [11]) (by kernel_rfl) (by simp) ?_
                          refine AllReadyH.cons rfl (fun K hK => ?_) AllReadyH.nil
                          go_simp
                          go_at_call 34
                          refine HCm.out.mono ?_
                          rintro e w7 ⟨rfl, b7⟩
                          have hS := HSn.out w7 b7
                          go_wp2_with fail
                          refine hK.out _ _ hS (fun hHeld => ?_)
                          clear hK
                          (try simp only [Act.put, List.setIfInBounds_toArray, List.set_cons_zero, List.set_cons_succ])
                          refine take_yes (i := 12) 101 (v := ?_) rfl rfl (by kernel_rfl) (by kernel_rfl) (by kernel_rfl) (fun _ _ _ h => h) (by kernel_rfl) hHeld ?_ ?_
                          rotate_left
                          focus (intro w hSw; (try dsimp only at hSw); go_simp; (try with_reducible rfl))
                          simp only [Act.put, List.setIfInBounds_toArray, List.set_cons_zero, List.set_cons_succ]
                          refine take_yes (i := 13) 102 (v := ?_) rfl rfl (by kernel_rfl) (by kernel_rfl) (by kernel_rfl) (fun _ _ _ h => h) (by kernel_rfl) hHeld ?_ ?_
                          rotate_left
                          focus (intro w hSw; (try dsimp only at hSw); go_simp; (try with_reducible rfl))
                          simp only [Act.put, List.setIfInBounds_toArray, List.set_cons_zero, List.set_cons_succ]
                          refine take_not (i := 14) 103 rfl rfl (by kernel_rfl) (by kernel_rfl) (by kernel_rfl) (fun _ _ _ h => h) (by kernel_rfl) hHeld ?_
                          simp only [Act.put, List.setIfInBounds_toArray, List.set_cons_zero, List.set_cons_succ]
                          refine take_not (i := 15) 104 rfl rfl (by kernel_rfl) (by kernel_rfl) (by kernel_rfl) (fun _ _ _ h => h) (by kernel_rfl) hHeld ?_
                          simp only [Act.put, List.setIfInBounds_toArray, List.set_cons_zero, List.set_cons_succ]
                          refine take_not (i := 16) 105 rfl rfl (by kernel_rfl) (by kernel_rfl) (by kernel_rfl) (fun _ _ _ h => h) (by kernel_rfl) hHeld ?_
                          simp only [Act.put, List.setIfInBounds_toArray, List.set_cons_zero, List.set_cons_succ]
                          refine take_not (i := 17) 106 rfl rfl (by kernel_rfl) (by kernel_rfl) (by kernel_rfl) (fun _ _ _ h => h) (by kernel_rfl) hHeld ?_
                          simp only [Act.put, List.setIfInBounds_toArray, List.set_cons_zero, List.set_cons_succ]
                          refine take_not (i := 18) 107 rfl rfl (by kernel_rfl) (by kernel_rfl) (by kernel_rfl) (fun _ _ _ h => h) (by kernel_rfl) hHeld ?_
                          simp only [Act.put, List.setIfInBounds_toArray, List.set_cons_zero, List.set_cons_succ]
                          refine take_not (i := 19) 108 rfl rfl (by kernel_rfl) (by kernel_rfl) (by kernel_rfl) (fun _ _ _ h => h) (by kernel_rfl) hHeld ?_
                          simp only [Act.put, List.setIfInBounds_toArray, List.set_cons_zero, List.set_cons_succ]
                          refine take_not (i := 20) 109 rfl rfl (by kernel_rfl) (by kernel_rfl) (by kernel_rfl) (fun _ _ _ h => h) (by kernel_rfl) hHeld ?_
                          simp only [Act.put, List.setIfInBounds_toArray, List.set_cons_zero, List.set_cons_succ]
                          refine take_not (i := 21) 110 rfl rfl (by kernel_rfl) (by kernel_rfl) (by kernel_rfl) (fun _ _ _ h => h) (by kernel_rfl) hHeld ?_
                          simp only [Act.put, List.setIfInBounds_toArray, List.set_cons_zero, List.set_cons_succ]
                          refine take_not (i := 22) 111 rfl rfl (by kernel_rfl) (by kernel_rfl) (by kernel_rfl) (fun _ _ _ h => h) (by kernel_rfl) hHeld ?_
                          simp only [Act.put, List.setIfInBounds_toArray, List.set_cons_zero, List.set_cons_succ]
                          refine take_yes (i := 23) 112 (v := ?_) rfl rfl (by kernel_rfl) (by kernel_rfl) (by kernel_rfl) (fun _ _ _ h => h) (by kernel_rfl) hHeld ?_ ?_
                          rotate_left
                          focus (intro w hSw; (try dsimp only at hSw); go_simp; (try with_reducible rfl))
                          simp only [Act.put, List.setIfInBounds_toArray, List.set_cons_zero, List.set_cons_succ]
                          refine take_yes (i := 24) 113 (v := ?_) rfl rfl (by kernel_rfl) (by kernel_rfl) (by kernel_rfl) (fun _ _ _ h => h) (by kernel_rfl) hHeld ?_ ?_
                          rotate_left
                          focus (intro w hSw; (try dsimp only at hSw); go_simp; (try with_reducible rfl))
                          simp only [Act.put, List.setIfInBounds_toArray, List.set_cons_zero, List.set_cons_succ]
                          refine wpAnyH_done (by kernel_rfl) ?_ _
                          have HBF := hide' (Below.on HBw.out.drew b7)
                          clear q0 x0 b7 HBw
                          have HF : Hid (ans = false) := HNr'.out (by rw [HT.out]; rfl)
                          go_wp2
                          go_ret
                          exact ⟨ret_bool HF.out.symm, HBF.out⟩
                      · obtain rfl : k = 0 := by omega
                        have HF := hide' (HFn.out (by simp) (fun h => absurd h (by omega)))
                        have HBF : Hid (∀ m, Below w.heap.size w (w5.drewN m)) := fun m => below_drewN (Below.on HBel.out HB2.out) m
                        clear HNx HNr HFn HBd x0 x1 x2 x3 x4 x5 x6 x7 x8 x9 x10 x11 x12 HBox HLast HB2 HA b5
                        go_quiet (fail)
                        go_wp2
                        go_roundw
                        case rel => exact ⟨0 + 1, by omega, by go_num, HF.out, HBF.out _⟩
                        case measure => simp [intOf]; omega
                    · have hk1 : (kk != 0) = true := by simpa using hk0
                      have hEf : eB = false := by rw [hE]; exact decide_eq_false hk0
                      subst hEf
                      clear hE
                      have HF : Hid (ans = false) := HBd.out (by simp)
                      have HBF := hide' (Below.on HBel.out (Below.on HA.out b5))
                      go_wp2
                      go_ret
                      exact ⟨ret_bool HF.out.symm, HBF.out⟩
                  · obtain rfl : pl = 0 := by omega
                    have hEf : eB = false := HLast.out.1 rfl
                    subst hEf
                    have HF : Hid (ans = false) := HBd.out (by simp)
                    have HBF := hide' (Below.on HBel.out (Below.on HA.out b5))
                    go_wp2
                    go_ret
                    exact ⟨ret_bool HF.out.symm, HBF.out⟩
            | false =>
              obtain ⟨x0, x1, x2, x3, x4, x5, x6, x7, x8, x9, x10, x11, x12⟩ := row13 (HBox.out w4 b4)
              go_wp2_with fail
              refine ((HZ1.out (by trivial)) _ (Below.on HA.out b4)).mono ?_
              rintro e w5 ⟨rfl, c5⟩
              have b5 := Below.on b4 c5
              clear c5 b4
              clear x0 x1 x2 x3 x4 x5 x6 x7 x8 x9 x10 x11 x12
              cases z1 with
              | false =>
                obtain ⟨x0, x1, x2, x3, x4, x5, x6, x7, x8, x9, x10, x11, x12⟩ := row13 (HBox.out w5 b5)
                have HF : Hid (ans = false) := HBd.out (by simp)
                have HBF := hide' (Below.on HBel.out (Below.on HA.out b5))
                go_wp2
                go_ret
                exact ⟨ret_bool HF.out.symm, HBF.out⟩
              | true =>
                cases bh with
                | true =>
                  obtain ⟨x0, x1, x2, x3, x4, x5, x6, x7, x8, x9, x10, x11, x12⟩ := row13 (HBox.out w5 b5)
                  by_cases hp : 0 < pl
                  · obtain ⟨pb, po, kk, rfl, hE, hc⟩ := HLast.out.2 hp
                    have hp' : (0 : Int) < (pl : Int) := by omega
                    have hp2 : ((pl : Int) == 0) = false := by simp; omega
                    have hc0 := hc w5 (Below.on HA.out b5)
                    clear hc
                    by_cases hk0 : kk = 0
                    · subst hk0
                      have hEt : eB = true := by rw [hE]; rfl
                      subst hEt
                      clear hE
                      go_wp2_with fail
                      clear hc0
                      have HB2 : Hid (Below wr.heap.size wr w5) := Below.on HA.out b5
                      have hbW : b < w5.heap.size := by have := HB2.out.size; omega
                      have hxW : wr.heap.size < w5.heap.size := (Array.getElem?_eq_some_iff.1 (HBox.out w5 b5)).1
                      by_cases h0 : 0 < k
                      · have h0' : (0 : Int) < (k : Int) := by omega
                        obtain ⟨qa, ql, qc, cc, wi, hap, hq0, hcm, hwi⟩ := HNx.out h0
                        have q0 := hq0 w5 HB2.out
                        obtain ⟨j, ej⟩ : ∃ j, j = k - 1 := ⟨_, rfl⟩
                        rw [← ej] at q0
                        have hwk : IntKind.i64.wrap ((k : Int) - 1) = (j : Int) := by rw [IntKind.wrap_i64]; omega
                        have hwj : IntKind.i64.wrap (j : Int) = (j : Int) := by rw [IntKind.wrap_i64]; omega
                        have hj1 : (j : Int) < (l.length : Int) := by omega
                        have hj3 : (0 : Int) ≤ (j : Int) := by omega
                        have HSn : Hid (∀ wy, Below w5.drew.heap.size w5.drew wy → wy.cell? ⟨b, off + j * 13, none⟩ = some (.slice qa ql qc) ∧ wy.cell? ⟨wr.heap.size, 0, none⟩ = some (.slice (some ⟨pb, po, none⟩) pl pc)) := fun wy hb => ⟨(World.cell?_of_block (a := ⟨b, off + j * 13, none⟩) (hb.block b (by show b < w5.heap.size; omega))).trans q0, (World.cell?_of_block (a := ⟨wr.heap.size, 0, none⟩) (hb.block wr.heap.size (by show wr.heap.size < w5.heap.size; omega))).trans x0⟩
                        have HCm := hide' (hcm w5.drew HB2.out.drew)
                        have HWi : Hid (∀ wy, Below w5.drew.heap.size w5.drew wy → Calls Tryz.prog 35 #[.slice qa ql qc, .slice (some ⟨pb, po, none⟩) pl pc] wy fun e w' => e = .returned (.bool wi) ∧ Below wy.heap.size wy w') := fun wy hb => hwi wy (Below.on HB2.out.drew hb)
                        have HNr' := hide' (HNr.out h0)
                        have HFn' := hide' (HFn.out (by simp))
                        rw [hap] at HNr'
                        have HAp := hide' hap
                        have HBw : Hid (Below w.heap.size w w5) := Below.on HBel.out HB2.out
                        clear hcm hwi hq0 HNx HNr HFn HBd ej hap x1 x2 x3 x4 x5 x6 x7 x8 x9 x10 x11 x12 HBox HLast HB2 HA b5
                        by_cases hcc : cc < 0
                        · have hcd : decide (0 ≤ cc) = false := by simp; omega
                          have hcd2 : decide (cc ≥ 0) = false := by simp; omega
                          have hce : ¬ 0 ≤ cc := by omega
                          have hT : (decide (cc < 0)) = true := decide_eq_true hcc
                          have HT := hide' hT
                          clear hT hcc
                          cases wi with
                          | true =>
                            refine wp_region_held_drew (S := fun w' => w'.cell? ⟨b, off + j * 13, none⟩ = some (.slice qa ql qc) ∧ w'.cell? ⟨wr.heap.size, 0, none⟩ = some (.slice (some ⟨pb, po, none⟩) pl pc)) (by kernel_rfl) ⟨q0, x0⟩ (fun hHeld => ?_)
                            refine take_yes (i := 0) 89 (v := ?_) rfl rfl (by kernel_rfl) (by kernel_rfl) (by kernel_rfl) (fun _ _ _ h => h) (by kernel_rfl) hHeld ?_ ?_
                            rotate_left
                            focus (intro w hSw; (try dsimp only at hSw); go_simp; (try with_reducible rfl))
                            simp only [Act.put, List.setIfInBounds_toArray, List.set_cons_zero, List.set_cons_succ]
                            refine take_yes (i := 1) 90 (v := ?_) rfl rfl (by kernel_rfl) (by kernel_rfl) (by kernel_rfl) (fun _ _ _ h => h) (by kernel_rfl) hHeld ?_ ?_
                            rotate_left
                            focus (intro w hSw; (try dsimp only at hSw); go_simp; (try with_reducible rfl))
                            simp only [Act.put, List.setIfInBounds_toArray, List.set_cons_zero, List.set_cons_succ]
                            refine take_yes (i := 2) 91 (v := ?_) rfl rfl (by kernel_rfl) (by kernel_rfl) (by kernel_rfl) (fun _ _ _ h => h) (by kernel_rfl) hHeld ?_ ?_
                            rotate_left
                            focus (intro w hSw; (try dsimp only at hSw); go_simp; (try with_reducible rfl))
                            simp only [Act.put, List.setIfInBounds_toArray, List.set_cons_zero, List.set_cons_succ]
                            refine take_yes (i := 3) 92 (v := ?_) rfl rfl (by kernel_rfl) (by kernel_rfl) (by kernel_rfl) (fun _ _ _ h => h) (by kernel_rfl) hHeld ?_ ?_
                            rotate_left
                            focus (intro w hSw; (try dsimp only at hSw); go_simp; (try with_reducible rfl))
                            simp only [Act.put, List.setIfInBounds_toArray, List.set_cons_zero, List.set_cons_succ]
                            refine take_yes (i := 4) 93 (v := ?_) rfl rfl (by kernel_rfl) (by kernel_rfl) (by kernel_rfl) (fun _ _ _ h => h) (by kernel_rfl) hHeld ?_ ?_
                            rotate_left
                            focus (intro w hSw; (try dsimp only at hSw); go_simp; (try with_reducible rfl))
                            simp only [Act.put, List.setIfInBounds_toArray, List.set_cons_zero, List.set_cons_succ]
                            refine take_yes (i := 5) 94 (v := ?_) rfl rfl (by kernel_rfl) (by kernel_rfl) (by kernel_rfl) (fun _ _ _ h => h) (by kernel_rfl) hHeld ?_ ?_
                            rotate_left
                            focus (intro w hSw; (try dsimp only at hSw); go_simp; (try with_reducible rfl))
                            simp only [Act.put, List.setIfInBounds_toArray, List.set_cons_zero, List.set_cons_succ]
                            refine take_yes (i := 6) 95 (v := ?_) rfl rfl (by kernel_rfl) (by kernel_rfl) (by kernel_rfl) (fun _ _ _ h => h) (by kernel_rfl) hHeld ?_ ?_
                            rotate_left
                            focus (intro w hSw; (try dsimp only at hSw); go_simp; (try with_reducible rfl))
                            simp only [Act.put, List.setIfInBounds_toArray, List.set_cons_zero, List.set_cons_succ]
                            refine take_yes (i := 7) 96 (v := ?_) rfl rfl (by kernel_rfl) (by kernel_rfl) (by kernel_rfl) (fun _ _ _ h => h) (by kernel_rfl) hHeld ?_ ?_
                            rotate_left
                            focus (intro w hSw; (try dsimp only at hSw); go_simp; (try with_reducible rfl))
                            simp only [Act.put, List.setIfInBounds_toArray, List.set_cons_zero, List.set_cons_succ]
                            refine take_yes (i := 8) 97 (v := ?_) rfl rfl (by kernel_rfl) (by kernel_rfl) (by kernel_rfl) (fun _ _ _ h => h) (by kernel_rfl) hHeld ?_ ?_
                            rotate_left
                            focus (intro w hSw; (try dsimp only at hSw); go_simp; (try with_reducible rfl))
                            simp only [Act.put, List.setIfInBounds_toArray, List.set_cons_zero, List.set_cons_succ]
                            refine take_yes (i := 9) 98 (v := ?_) rfl rfl (by kernel_rfl) (by kernel_rfl) (by kernel_rfl) (fun _ _ _ h => h) (by kernel_rfl) hHeld ?_ ?_
                            rotate_left
                            focus (intro w hSw; (try dsimp only at hSw); go_simp; (try with_reducible rfl))
                            simp only [Act.put, List.setIfInBounds_toArray, List.set_cons_zero, List.set_cons_succ]
                            refine take_yes (i := 10) 99 (v := ?_) rfl rfl (by kernel_rfl) (by kernel_rfl) (by kernel_rfl) (fun _ _ _ h => h) (by kernel_rfl) hHeld ?_ ?_
                            rotate_left
                            focus (intro w hSw; (try dsimp only at hSw); go_simp; (try with_reducible rfl))
                            simp only [Act.put, List.setIfInBounds_toArray, List.set_cons_zero, List.set_cons_succ]
                            refine wpAnyH_ready (rs := [11]) (by kernel_rfl) (by simp) ?_
                            refine AllReadyH.cons rfl (fun K hK => ?_) AllReadyH.nil
                            go_simp
                            go_at_call 34
                            refine HCm.out.mono ?_
                            rintro e w7 ⟨rfl, b7⟩
                            have hS := HSn.out w7 b7
                            go_wp2_with fail
                            refine hK.out _ _ hS (fun hHeld => ?_)
                            clear hK
                            (try simp only [Act.put, List.setIfInBounds_toArray, List.set_cons_zero, List.set_cons_succ])
                            refine take_yes (i := 12) 101 (v := ?_) rfl rfl (by kernel_rfl) (by kernel_rfl) (by kernel_rfl) (fun _ _ _ h => h) (by kernel_rfl) hHeld ?_ ?_
                            rotate_left
                            focus (intro w hSw; (try dsimp only at hSw); go_simp; (try with_reducible rfl))
                            simp only [Act.put, List.setIfInBounds_toArray, List.set_cons_zero, List.set_cons_succ]
                            refine take_yes (i := 13) 102 (v := ?_) rfl rfl (by kernel_rfl) (by kernel_rfl) (by kernel_rfl) (fun _ _ _ h => h) (by kernel_rfl) hHeld ?_ ?_
                            rotate_left
                            focus (intro w hSw; (try dsimp only at hSw); go_simp; (try with_reducible rfl))
                            simp only [Act.put, List.setIfInBounds_toArray, List.set_cons_zero, List.set_cons_succ]
                            refine take_yes (i := 14) 103 (v := ?_) rfl rfl (by kernel_rfl) (by kernel_rfl) (by kernel_rfl) (fun _ _ _ h => h) (by kernel_rfl) hHeld ?_ ?_
                            rotate_left
                            focus (intro w hSw; (try dsimp only at hSw); go_simp; (try with_reducible rfl))
                            simp only [Act.put, List.setIfInBounds_toArray, List.set_cons_zero, List.set_cons_succ]
                            refine take_yes (i := 15) 104 (v := ?_) rfl rfl (by kernel_rfl) (by kernel_rfl) (by kernel_rfl) (fun _ _ _ h => h) (by kernel_rfl) hHeld ?_ ?_
                            rotate_left
                            focus (intro w hSw; (try dsimp only at hSw); go_simp; (try with_reducible rfl))
                            simp only [Act.put, List.setIfInBounds_toArray, List.set_cons_zero, List.set_cons_succ]
                            refine take_yes (i := 16) 105 (v := ?_) rfl rfl (by kernel_rfl) (by kernel_rfl) (by kernel_rfl) (fun _ _ _ h => h) (by kernel_rfl) hHeld ?_ ?_
                            rotate_left
                            focus (intro w hSw; (try dsimp only at hSw); go_simp; (try with_reducible rfl))
                            simp only [Act.put, List.setIfInBounds_toArray, List.set_cons_zero, List.set_cons_succ]
                            refine take_yes (i := 17) 106 (v := ?_) rfl rfl (by kernel_rfl) (by kernel_rfl) (by kernel_rfl) (fun _ _ _ h => h) (by kernel_rfl) hHeld ?_ ?_
                            rotate_left
                            focus (intro w hSw; (try dsimp only at hSw); go_simp; (try with_reducible rfl))
                            simp only [Act.put, List.setIfInBounds_toArray, List.set_cons_zero, List.set_cons_succ]
                            refine take_yes (i := 18) 107 (v := ?_) rfl rfl (by kernel_rfl) (by kernel_rfl) (by kernel_rfl) (fun _ _ _ h => h) (by kernel_rfl) hHeld ?_ ?_
                            rotate_left
                            focus (intro w hSw; (try dsimp only at hSw); go_simp; (try with_reducible rfl))
                            simp only [Act.put, List.setIfInBounds_toArray, List.set_cons_zero, List.set_cons_succ]
                            refine take_yes (i := 19) 108 (v := ?_) rfl rfl (by kernel_rfl) (by kernel_rfl) (by kernel_rfl) (fun _ _ _ h => h) (by kernel_rfl) hHeld ?_ ?_
                            rotate_left
                            focus (intro w hSw; (try dsimp only at hSw); go_simp; (try with_reducible rfl))
                            simp only [Act.put, List.setIfInBounds_toArray, List.set_cons_zero, List.set_cons_succ]
                            refine take_yes (i := 20) 109 (v := ?_) rfl rfl (by kernel_rfl) (by kernel_rfl) (by kernel_rfl) (fun _ _ _ h => h) (by kernel_rfl) hHeld ?_ ?_
                            rotate_left
                            focus (intro w hSw; (try dsimp only at hSw); go_simp; (try with_reducible rfl))
                            simp only [Act.put, List.setIfInBounds_toArray, List.set_cons_zero, List.set_cons_succ]
                            refine take_yes (i := 21) 110 (v := ?_) rfl rfl (by kernel_rfl) (by kernel_rfl) (by kernel_rfl) (fun _ _ _ h => h) (by kernel_rfl) hHeld ?_ ?_
                            rotate_left
                            focus (intro w hSw; (try dsimp only at hSw); go_simp; (try with_reducible rfl))
                            simp only [Act.put, List.setIfInBounds_toArray, List.set_cons_zero, List.set_cons_succ]
                            refine wpAnyH_ready (rs := [22]) (by kernel_rfl) (by simp) ?_
                            refine AllReadyH.cons rfl (fun K hK => ?_) AllReadyH.nil
                            go_simp
                            go_at_call 35
                            refine (HWi.out w7 b7).mono ?_
                            rintro e w8 ⟨rfl, b8⟩
                            have hS := HSn.out w8 (Below.on b7 b8)
                            go_wp2_with fail
                            refine hK.out _ _ hS (fun hHeld => ?_)
                            clear hK
                            (try simp only [Act.put, List.setIfInBounds_toArray, List.set_cons_zero, List.set_cons_succ])
                            refine take_yes (i := 23) 112 (v := ?_) rfl rfl (by kernel_rfl) (by kernel_rfl) (by kernel_rfl) (fun _ _ _ h => h) (by kernel_rfl) hHeld ?_ ?_
                            rotate_left
                            focus (intro w hSw; (try dsimp only at hSw); go_simp; (try with_reducible rfl))
                            simp only [Act.put, List.setIfInBounds_toArray, List.set_cons_zero, List.set_cons_succ]
                            refine take_yes (i := 24) 113 (v := ?_) rfl rfl (by kernel_rfl) (by kernel_rfl) (by kernel_rfl) (fun _ _ _ h => h) (by kernel_rfl) hHeld ?_ ?_
                            rotate_left
                            focus (intro w hSw; (try dsimp only at hSw); go_simp; (try with_reducible rfl))
                            simp only [Act.put, List.setIfInBounds_toArray, List.set_cons_zero, List.set_cons_succ]
                            refine wpAnyH_done (by kernel_rfl) ?_ _
                            have HBF := hide' (Below.on HBw.out.drew (Below.on b7 b8))
                            clear q0 x0 b7 b8 HBw
                            have HF : Hid (ans = false) := HNr'.out (by simp)
                            go_wp2
                            go_ret
                            exact ⟨ret_bool HF.out.symm, HBF.out⟩
                          | false =>
                            refine wp_region_held_drew (S := fun w' => w'.cell? ⟨b, off + j * 13, none⟩ = some (.slice qa ql qc) ∧ w'.cell? ⟨wr.heap.size, 0, none⟩ = some (.slice (some ⟨pb, po, none⟩) pl pc)) (by kernel_rfl) ⟨q0, x0⟩ (fun hHeld => ?_)
                            refine take_yes (i := 0) 89 (v := ?_) rfl rfl (by kernel_rfl) (by kernel_rfl) (by kernel_rfl) (fun _ _ _ h => h) (by kernel_rfl) hHeld ?_ ?_
                            rotate_left
                            focus (intro w hSw; (try dsimp only at hSw); go_simp; (try with_reducible rfl))
                            simp only [Act.put, List.setIfInBounds_toArray, List.set_cons_zero, List.set_cons_succ]
                            refine take_yes (i := 1) 90 (v := ?_) rfl rfl (by kernel_rfl) (by kernel_rfl) (by kernel_rfl) (fun _ _ _ h => h) (by kernel_rfl) hHeld ?_ ?_
                            rotate_left
                            focus (intro w hSw; (try dsimp only at hSw); go_simp; (try with_reducible rfl))
                            simp only [Act.put, List.setIfInBounds_toArray, List.set_cons_zero, List.set_cons_succ]
                            refine take_yes (i := 2) 91 (v := ?_) rfl rfl (by kernel_rfl) (by kernel_rfl) (by kernel_rfl) (fun _ _ _ h => h) (by kernel_rfl) hHeld ?_ ?_
                            rotate_left
                            focus (intro w hSw; (try dsimp only at hSw); go_simp; (try with_reducible rfl))
                            simp only [Act.put, List.setIfInBounds_toArray, List.set_cons_zero, List.set_cons_succ]
                            refine take_yes (i := 3) 92 (v := ?_) rfl rfl (by kernel_rfl) (by kernel_rfl) (by kernel_rfl) (fun _ _ _ h => h) (by kernel_rfl) hHeld ?_ ?_
                            rotate_left
                            focus (intro w hSw; (try dsimp only at hSw); go_simp; (try with_reducible rfl))
                            simp only [Act.put, List.setIfInBounds_toArray, List.set_cons_zero, List.set_cons_succ]
                            refine take_yes (i := 4) 93 (v := ?_) rfl rfl (by kernel_rfl) (by kernel_rfl) (by kernel_rfl) (fun _ _ _ h => h) (by kernel_rfl) hHeld ?_ ?_
                            rotate_left
                            focus (intro w hSw; (try dsimp only at hSw); go_simp; (try with_reducible rfl))
                            simp only [Act.put, List.setIfInBounds_toArray, List.set_cons_zero, List.set_cons_succ]
                            refine take_yes (i := 5) 94 (v := ?_) rfl rfl (by kernel_rfl) (by kernel_rfl) (by kernel_rfl) (fun _ _ _ h => h) (by kernel_rfl) hHeld ?_ ?_
                            rotate_left
                            focus (intro w hSw; (try dsimp only at hSw); go_simp; (try with_reducible rfl))
                            simp only [Act.put, List.setIfInBounds_toArray, List.set_cons_zero, List.set_cons_succ]
                            refine take_yes (i := 6) 95 (v := ?_) rfl rfl (by kernel_rfl) (by kernel_rfl) (by kernel_rfl) (fun _ _ _ h => h) (by kernel_rfl) hHeld ?_ ?_
                            rotate_left
                            focus (intro w hSw; (try dsimp only at hSw); go_simp; (try with_reducible rfl))
                            simp only [Act.put, List.setIfInBounds_toArray, List.set_cons_zero, List.set_cons_succ]
                            refine take_yes (i := 7) 96 (v := ?_) rfl rfl (by kernel_rfl) (by kernel_rfl) (by kernel_rfl) (fun _ _ _ h => h) (by kernel_rfl) hHeld ?_ ?_
                            rotate_left
                            focus (intro w hSw; (try dsimp only at hSw); go_simp; (try with_reducible rfl))
                            simp only [Act.put, List.setIfInBounds_toArray, List.set_cons_zero, List.set_cons_succ]
                            refine take_yes (i := 8) 97 (v := ?_) rfl rfl (by kernel_rfl) (by kernel_rfl) (by kernel_rfl) (fun _ _ _ h => h) (by kernel_rfl) hHeld ?_ ?_
                            rotate_left
                            focus (intro w hSw; (try dsimp only at hSw); go_simp; (try with_reducible rfl))
                            simp only [Act.put, List.setIfInBounds_toArray, List.set_cons_zero, List.set_cons_succ]
                            refine take_yes (i := 9) 98 (v := ?_) rfl rfl (by kernel_rfl) (by kernel_rfl) (by kernel_rfl) (fun _ _ _ h => h) (by kernel_rfl) hHeld ?_ ?_
                            rotate_left
                            focus (intro w hSw; (try dsimp only at hSw); go_simp; (try with_reducible rfl))
                            simp only [Act.put, List.setIfInBounds_toArray, List.set_cons_zero, List.set_cons_succ]
                            refine take_yes (i := 10) 99 (v := ?_) rfl rfl (by kernel_rfl) (by kernel_rfl) (by kernel_rfl) (fun _ _ _ h => h) (by kernel_rfl) hHeld ?_ ?_
                            rotate_left
                            focus (intro w hSw; (try dsimp only at hSw); go_simp; (try with_reducible rfl))
                            simp only [Act.put, List.setIfInBounds_toArray, List.set_cons_zero, List.set_cons_succ]
                            refine wpAnyH_ready (rs := [11]) (by kernel_rfl) (by simp) ?_
                            refine AllReadyH.cons rfl (fun K hK => ?_) AllReadyH.nil
                            go_simp
                            go_at_call 34
                            refine HCm.out.mono ?_
                            rintro e w7 ⟨rfl, b7⟩
                            have hS := HSn.out w7 b7
                            go_wp2_with fail
                            refine hK.out _ _ hS (fun hHeld => ?_)
                            clear hK
                            (try simp only [Act.put, List.setIfInBounds_toArray, List.set_cons_zero, List.set_cons_succ])
                            refine take_yes (i := 12) 101 (v := ?_) rfl rfl (by kernel_rfl) (by kernel_rfl) (by kernel_rfl) (fun _ _ _ h => h) (by kernel_rfl) hHeld ?_ ?_
                            rotate_left
                            focus (intro w hSw; (try dsimp only at hSw); go_simp; (try with_reducible rfl))
                            simp only [Act.put, List.setIfInBounds_toArray, List.set_cons_zero, List.set_cons_succ]
                            refine take_yes (i := 13) 102 (v := ?_) rfl rfl (by kernel_rfl) (by kernel_rfl) (by kernel_rfl) (fun _ _ _ h => h) (by kernel_rfl) hHeld ?_ ?_
                            rotate_left
                            focus (intro w hSw; (try dsimp only at hSw); go_simp; (try with_reducible rfl))
                            simp only [Act.put, List.setIfInBounds_toArray, List.set_cons_zero, List.set_cons_succ]
                            refine take_yes (i := 14) 103 (v := ?_) rfl rfl (by kernel_rfl) (by kernel_rfl) (by kernel_rfl) (fun _ _ _ h => h) (by kernel_rfl) hHeld ?_ ?_
                            rotate_left
                            focus (intro w hSw; (try dsimp only at hSw); go_simp; (try with_reducible rfl))
                            simp only [Act.put, List.setIfInBounds_toArray, List.set_cons_zero, List.set_cons_succ]
                            refine take_yes (i := 15) 104 (v := ?_) rfl rfl (by kernel_rfl) (by kernel_rfl) (by kernel_rfl) (fun _ _ _ h => h) (by kernel_rfl) hHeld ?_ ?_
                            rotate_left
                            focus (intro w hSw; (try dsimp only at hSw); go_simp; (try with_reducible rfl))
                            simp only [Act.put, List.setIfInBounds_toArray, List.set_cons_zero, List.set_cons_succ]
                            refine take_yes (i := 16) 105 (v := ?_) rfl rfl (by kernel_rfl) (by kernel_rfl) (by kernel_rfl) (fun _ _ _ h => h) (by kernel_rfl) hHeld ?_ ?_
                            rotate_left
                            focus (intro w hSw; (try dsimp only at hSw); go_simp; (try with_reducible rfl))
                            simp only [Act.put, List.setIfInBounds_toArray, List.set_cons_zero, List.set_cons_succ]
                            refine take_yes (i := 17) 106 (v := ?_) rfl rfl (by kernel_rfl) (by kernel_rfl) (by kernel_rfl) (fun _ _ _ h => h) (by kernel_rfl) hHeld ?_ ?_
                            rotate_left
                            focus (intro w hSw; (try dsimp only at hSw); go_simp; (try with_reducible rfl))
                            simp only [Act.put, List.setIfInBounds_toArray, List.set_cons_zero, List.set_cons_succ]
                            refine take_yes (i := 18) 107 (v := ?_) rfl rfl (by kernel_rfl) (by kernel_rfl) (by kernel_rfl) (fun _ _ _ h => h) (by kernel_rfl) hHeld ?_ ?_
                            rotate_left
                            focus (intro w hSw; (try dsimp only at hSw); go_simp; (try with_reducible rfl))
                            simp only [Act.put, List.setIfInBounds_toArray, List.set_cons_zero, List.set_cons_succ]
                            refine take_yes (i := 19) 108 (v := ?_) rfl rfl (by kernel_rfl) (by kernel_rfl) (by kernel_rfl) (fun _ _ _ h => h) (by kernel_rfl) hHeld ?_ ?_
                            rotate_left
                            focus (intro w hSw; (try dsimp only at hSw); go_simp; (try with_reducible rfl))
                            simp only [Act.put, List.setIfInBounds_toArray, List.set_cons_zero, List.set_cons_succ]
                            refine take_yes (i := 20) 109 (v := ?_) rfl rfl (by kernel_rfl) (by kernel_rfl) (by kernel_rfl) (fun _ _ _ h => h) (by kernel_rfl) hHeld ?_ ?_
                            rotate_left
                            focus (intro w hSw; (try dsimp only at hSw); go_simp; (try with_reducible rfl))
                            simp only [Act.put, List.setIfInBounds_toArray, List.set_cons_zero, List.set_cons_succ]
                            refine take_yes (i := 21) 110 (v := ?_) rfl rfl (by kernel_rfl) (by kernel_rfl) (by kernel_rfl) (fun _ _ _ h => h) (by kernel_rfl) hHeld ?_ ?_
                            rotate_left
                            focus (intro w hSw; (try dsimp only at hSw); go_simp; (try with_reducible rfl))
                            simp only [Act.put, List.setIfInBounds_toArray, List.set_cons_zero, List.set_cons_succ]
                            refine wpAnyH_ready (rs := [22]) (by kernel_rfl) (by simp) ?_
                            refine AllReadyH.cons rfl (fun K hK => ?_) AllReadyH.nil
                            go_simp
                            go_at_call 35
                            refine (HWi.out w7 b7).mono ?_
                            rintro e w8 ⟨rfl, b8⟩
                            have hS := HSn.out w8 (Below.on b7 b8)
                            go_wp2_with fail
                            refine hK.out _ _ hS (fun hHeld => ?_)
                            clear hK
                            (try simp only [Act.put, List.setIfInBounds_toArray, List.set_cons_zero, List.set_cons_succ])
                            refine take_yes (i := 23) 112 (v := ?_) rfl rfl (by kernel_rfl) (by kernel_rfl) (by kernel_rfl) (fun _ _ _ h => h) (by kernel_rfl) hHeld ?_ ?_
                            rotate_left
                            focus (intro w hSw; (try dsimp only at hSw); go_simp; (try with_reducible rfl))
                            simp only [Act.put, List.setIfInBounds_toArray, List.set_cons_zero, List.set_cons_succ]
                            refine take_yes (i := 24) 113 (v := ?_) rfl rfl (by kernel_rfl) (by kernel_rfl) (by kernel_rfl) (fun _ _ _ h => h) (by kernel_rfl) hHeld ?_ ?_
                            rotate_left
                            focus (intro w hSw; (try dsimp only at hSw); go_simp; (try with_reducible rfl))
                            simp only [Act.put, List.setIfInBounds_toArray, List.set_cons_zero, List.set_cons_succ]
                            refine wpAnyH_done (by kernel_rfl) ?_ _
                            have HBF := hide' (Below.on HBw.out.drew (Below.on b7 b8))
                            clear q0 x0 b7 b8 HBw
                            have HF := hide' (HFn'.out (fun _ => by rw [HAp.out, HT.out]; rfl))
                            go_wp2
                            go_roundw
                            case rel => exact ⟨k + 1, by omega, by go_num, HF.out, HBF.out⟩
                            case measure => simp [intOf]; omega
                        · have hcd : decide (0 ≤ cc) = true := by simp; omega
                          have hcd2 : decide (cc ≥ 0) = true := by simp; omega
                          have hce : 0 ≤ cc := by omega
                          have HT : Hid (decide (cc < 0) = false) := decide_eq_false hcc
                          clear hcc
                          refine wp_region_held_drew (S := fun w' => w'.cell? ⟨b, off + j * 13, none⟩ = some (.slice qa ql qc) ∧ w'.cell? ⟨wr.heap.size, 0, none⟩ = some (.slice (some ⟨pb, po, none⟩) pl pc)) (by kernel_rfl) ⟨q0, x0⟩ (fun hHeld => ?_)
                          refine take_yes (i := 0) 89 (v := ?_) rfl rfl (by kernel_rfl) (by kernel_rfl) (by kernel_rfl) (fun _ _ _ h => h) (by kernel_rfl) hHeld ?_ ?_
                          rotate_left
                          focus (intro w hSw; (try dsimp only at hSw); go_simp; (try with_reducible rfl))
                          simp only [Act.put, List.setIfInBounds_toArray, List.set_cons_zero, List.set_cons_succ]
                          refine take_yes (i := 1) 90 (v := ?_) rfl rfl (by kernel_rfl) (by kernel_rfl) (by kernel_rfl) (fun _ _ _ h => h) (by kernel_rfl) hHeld ?_ ?_
                          rotate_left
                          focus (intro w hSw; (try dsimp only at hSw); go_simp; (try with_reducible rfl))
                          simp only [Act.put, List.setIfInBounds_toArray, List.set_cons_zero, List.set_cons_succ]
                          refine take_yes (i := 2) 91 (v := ?_) rfl rfl (by kernel_rfl) (by kernel_rfl) (by kernel_rfl) (fun _ _ _ h => h) (by kernel_rfl) hHeld ?_ ?_
                          rotate_left
                          focus (intro w hSw; (try dsimp only at hSw); go_simp; (try with_reducible rfl))
                          simp only [Act.put, List.setIfInBounds_toArray, List.set_cons_zero, List.set_cons_succ]
                          refine take_yes (i := 3) 92 (v := ?_) rfl rfl (by kernel_rfl) (by kernel_rfl) (by kernel_rfl) (fun _ _ _ h => h) (by kernel_rfl) hHeld ?_ ?_
                          rotate_left
                          focus (intro w hSw; (try dsimp only at hSw); go_simp; (try with_reducible rfl))
                          simp only [Act.put, List.setIfInBounds_toArray, List.set_cons_zero, List.set_cons_succ]
                          refine take_yes (i := 4) 93 (v := ?_) rfl rfl (by kernel_rfl) (by kernel_rfl) (by kernel_rfl) (fun _ _ _ h => h) (by kernel_rfl) hHeld ?_ ?_
                          rotate_left
                          focus (intro w hSw; (try dsimp only at hSw); go_simp; (try with_reducible rfl))
                          simp only [Act.put, List.setIfInBounds_toArray, List.set_cons_zero, List.set_cons_succ]
                          refine take_yes (i := 5) 94 (v := ?_) rfl rfl (by kernel_rfl) (by kernel_rfl) (by kernel_rfl) (fun _ _ _ h => h) (by kernel_rfl) hHeld ?_ ?_
                          rotate_left
                          focus (intro w hSw; (try dsimp only at hSw); go_simp; (try with_reducible rfl))
                          simp only [Act.put, List.setIfInBounds_toArray, List.set_cons_zero, List.set_cons_succ]
                          refine take_yes (i := 6) 95 (v := ?_) rfl rfl (by kernel_rfl) (by kernel_rfl) (by kernel_rfl) (fun _ _ _ h => h) (by kernel_rfl) hHeld ?_ ?_
                          rotate_left
                          focus (intro w hSw; (try dsimp only at hSw); go_simp; (try with_reducible rfl))
                          simp only [Act.put, List.setIfInBounds_toArray, List.set_cons_zero, List.set_cons_succ]
                          refine take_yes (i := 7) 96 (v := ?_) rfl rfl (by kernel_rfl) (by kernel_rfl) (by kernel_rfl) (fun _ _ _ h => h) (by kernel_rfl) hHeld ?_ ?_
                          rotate_left
                          focus (intro w hSw; (try dsimp only at hSw); go_simp; (try with_reducible rfl))
                          simp only [Act.put, List.setIfInBounds_toArray, List.set_cons_zero, List.set_cons_succ]
                          refine take_yes (i := 8) 97 (v := ?_) rfl rfl (by kernel_rfl) (by kernel_rfl) (by kernel_rfl) (fun _ _ _ h => h) (by kernel_rfl) hHeld ?_ ?_
                          rotate_left
                          focus (intro w hSw; (try dsimp only at hSw); go_simp; (try with_reducible rfl))
                          simp only [Act.put, List.setIfInBounds_toArray, List.set_cons_zero, List.set_cons_succ]
                          refine take_yes (i := 9) 98 (v := ?_) rfl rfl (by kernel_rfl) (by kernel_rfl) (by kernel_rfl) (fun _ _ _ h => h) (by kernel_rfl) hHeld ?_ ?_
                          rotate_left
                          focus (intro w hSw; (try dsimp only at hSw); go_simp; (try with_reducible rfl))
                          simp only [Act.put, List.setIfInBounds_toArray, List.set_cons_zero, List.set_cons_succ]
                          refine take_yes (i := 10) 99 (v := ?_) rfl rfl (by kernel_rfl) (by kernel_rfl) (by kernel_rfl) (fun _ _ _ h => h) (by kernel_rfl) hHeld ?_ ?_
                          rotate_left
                          focus (intro w hSw; (try dsimp only at hSw); go_simp; (try with_reducible rfl))
                          simp only [Act.put, List.setIfInBounds_toArray, List.set_cons_zero, List.set_cons_succ]
                          refine wpAnyH_ready (rs := [11]) (by kernel_rfl) (by simp) ?_
                          refine AllReadyH.cons rfl (fun K hK => ?_) AllReadyH.nil
                          go_simp
                          go_at_call 34
                          refine HCm.out.mono ?_
                          rintro e w7 ⟨rfl, b7⟩
                          have hS := HSn.out w7 b7
                          go_wp2_with fail
                          refine hK.out _ _ hS (fun hHeld => ?_)
                          clear hK
                          (try simp only [Act.put, List.setIfInBounds_toArray, List.set_cons_zero, List.set_cons_succ])
                          refine take_yes (i := 12) 101 (v := ?_) rfl rfl (by kernel_rfl) (by kernel_rfl) (by kernel_rfl) (fun _ _ _ h => h) (by kernel_rfl) hHeld ?_ ?_
                          rotate_left
                          focus (intro w hSw; (try dsimp only at hSw); go_simp; (try with_reducible rfl))
                          simp only [Act.put, List.setIfInBounds_toArray, List.set_cons_zero, List.set_cons_succ]
                          refine take_yes (i := 13) 102 (v := ?_) rfl rfl (by kernel_rfl) (by kernel_rfl) (by kernel_rfl) (fun _ _ _ h => h) (by kernel_rfl) hHeld ?_ ?_
                          rotate_left
                          focus (intro w hSw; (try dsimp only at hSw); go_simp; (try with_reducible rfl))
                          simp only [Act.put, List.setIfInBounds_toArray, List.set_cons_zero, List.set_cons_succ]
                          refine take_not (i := 14) 103 rfl rfl (by kernel_rfl) (by kernel_rfl) (by kernel_rfl) (fun _ _ _ h => h) (by kernel_rfl) hHeld ?_
                          simp only [Act.put, List.setIfInBounds_toArray, List.set_cons_zero, List.set_cons_succ]
                          refine take_not (i := 15) 104 rfl rfl (by kernel_rfl) (by kernel_rfl) (by kernel_rfl) (fun _ _ _ h => h) (by kernel_rfl) hHeld ?_
                          simp only [Act.put, List.setIfInBounds_toArray, List.set_cons_zero, List.set_cons_succ]
                          refine take_not (i := 16) 105 rfl rfl (by kernel_rfl) (by kernel_rfl) (by kernel_rfl) (fun _ _ _ h => h) (by kernel_rfl) hHeld ?_
                          simp only [Act.put, List.setIfInBounds_toArray, List.set_cons_zero, List.set_cons_succ]
                          refine take_not (i := 17) 106 rfl rfl (by kernel_rfl) (by kernel_rfl) (by kernel_rfl) (fun _ _ _ h => h) (by kernel_rfl) hHeld ?_
                          simp only [Act.put, List.setIfInBounds_toArray, List.set_cons_zero, List.set_cons_succ]
                          refine take_not (i := 18) 107 rfl rfl (by kernel_rfl) (by kernel_rfl) (by kernel_rfl) (fun _ _ _ h => h) (by kernel_rfl) hHeld ?_
                          simp only [Act.put, List.setIfInBounds_toArray, List.set_cons_zero, List.set_cons_succ]
                          refine take_not (i := 19) 108 rfl rfl (by kernel_rfl) (by kernel_rfl) (by kernel_rfl) (fun _ _ _ h => h) (by kernel_rfl) hHeld ?_
                          simp only [Act.put, List.setIfInBounds_toArray, List.set_cons_zero, List.set_cons_succ]
                          refine take_not (i := 20) 109 rfl rfl (by kernel_rfl) (by kernel_rfl) (by kernel_rfl) (fun _ _ _ h => h) (by kernel_rfl) hHeld ?_
                          simp only [Act.put, List.setIfInBounds_toArray, List.set_cons_zero, List.set_cons_succ]
                          refine take_not (i := 21) 110 rfl rfl (by kernel_rfl) (by kernel_rfl) (by kernel_rfl) (fun _ _ _ h => h) (by kernel_rfl) hHeld ?_
                          simp only [Act.put, List.setIfInBounds_toArray, List.set_cons_zero, List.set_cons_succ]
                          refine take_not (i := 22) 111 rfl rfl (by kernel_rfl) (by kernel_rfl) (by kernel_rfl) (fun _ _ _ h => h) (by kernel_rfl) hHeld ?_
                          simp only [Act.put, List.setIfInBounds_toArray, List.set_cons_zero, List.set_cons_succ]
                          refine take_yes (i := 23) 112 (v := ?_) rfl rfl (by kernel_rfl) (by kernel_rfl) (by kernel_rfl) (fun _ _ _ h => h) (by kernel_rfl) hHeld ?_ ?_
                          rotate_left
                          focus (intro w hSw; (try dsimp only at hSw); go_simp; (try with_reducible rfl))
                          simp only [Act.put, List.setIfInBounds_toArray, List.set_cons_zero, List.set_cons_succ]
                          refine take_yes (i := 24) 113 (v := ?_) rfl rfl (by kernel_rfl) (by kernel_rfl) (by kernel_rfl) (fun _ _ _ h => h) (by kernel_rfl) hHeld ?_ ?_
                          rotate_left
                          focus (intro w hSw; (try dsimp only at hSw); go_simp; (try with_reducible rfl))
                          simp only [Act.put, List.setIfInBounds_toArray, List.set_cons_zero, List.set_cons_succ]
                          refine wpAnyH_done (by kernel_rfl) ?_ _
                          have HBF := hide' (Below.on HBw.out.drew b7)
                          clear q0 x0 b7 HBw
                          have HF : Hid (ans = false) := HNr'.out (by rw [HT.out]; rfl)
                          go_wp2
                          go_ret
                          exact ⟨ret_bool HF.out.symm, HBF.out⟩
                      · obtain rfl : k = 0 := by omega
                        have HF := hide' (HFn.out (by simp) (fun h => absurd h (by omega)))
                        have HBF : Hid (∀ m, Below w.heap.size w (w5.drewN m)) := fun m => below_drewN (Below.on HBel.out HB2.out) m
                        clear HNx HNr HFn HBd x0 x1 x2 x3 x4 x5 x6 x7 x8 x9 x10 x11 x12 HBox HLast HB2 HA b5
                        go_quiet (fail)
                        go_wp2
                        go_roundw
                        case rel => exact ⟨0 + 1, by omega, by go_num, HF.out, HBF.out _⟩
                        case measure => simp [intOf]; omega
                    · have hk1 : (kk != 0) = true := by simpa using hk0
                      have hEf : eB = false := by rw [hE]; exact decide_eq_false hk0
                      subst hEf
                      clear hE
                      have HF : Hid (ans = false) := HBd.out (by simp)
                      have HBF := hide' (Below.on HBel.out (Below.on HA.out b5))
                      go_wp2
                      go_ret
                      exact ⟨ret_bool HF.out.symm, HBF.out⟩
                  · obtain rfl : pl = 0 := by omega
                    have hEf : eB = false := HLast.out.1 rfl
                    subst hEf
                    have HF : Hid (ans = false) := HBd.out (by simp)
                    have HBF := hide' (Below.on HBel.out (Below.on HA.out b5))
                    go_wp2
                    go_ret
                    exact ⟨ret_bool HF.out.symm, HBF.out⟩
                | false =>
                  obtain ⟨x0, x1, x2, x3, x4, x5, x6, x7, x8, x9, x10, x11, x12⟩ := row13 (HBox.out w5 b5)
                  go_wp2_with fail
                  refine ((HZ2.out (by trivial)) _ (Below.on HA.out b5)).mono ?_
                  rintro e w6 ⟨rfl, c6⟩
                  have b6 := Below.on b5 c6
                  clear c6 b5
                  clear x0 x1 x2 x3 x4 x5 x6 x7 x8 x9 x10 x11 x12
                  cases z2 with
                  | false =>
                    obtain ⟨x0, x1, x2, x3, x4, x5, x6, x7, x8, x9, x10, x11, x12⟩ := row13 (HBox.out w6 b6)
                    have HF : Hid (ans = false) := HBd.out (by simp)
                    have HBF := hide' (Below.on HBel.out (Below.on HA.out b6))
                    go_wp2
                    go_ret
                    exact ⟨ret_bool HF.out.symm, HBF.out⟩
                  | true =>
                    obtain ⟨x0, x1, x2, x3, x4, x5, x6, x7, x8, x9, x10, x11, x12⟩ := row13 (HBox.out w6 b6)
                    have HF : Hid (ans = false) := HBd.out (by simp)
                    have HBF := hide' (Below.on HBel.out (Below.on HA.out b6))
                    go_wp2
                    go_ret
                    exact ⟨ret_bool HF.out.symm, HBF.out⟩
    · have hlt' : ¬ (k : Int) < (l.length : Int) := by omega
      have hkl : k = l.length := by omega
      have HF : Hid (ans = true) := HYes.out (by rw [← hkl]; exact hFst.out)
      clear hFst hkl
      go_wp2
      go_ret
      exact ⟨ret_bool HF.out.symm, HBel.out⟩
end Go.Proofs.YtdhlmcgbgdljmaaGreatDoor
