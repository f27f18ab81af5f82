/-
  Texts that a law leans on, one behind the other; no statement is proved here.
-/
import Derived.Test.YteafpgaefphkfaaGreatDoorPk48
import Derived.Test.YteafpgaefphkfaaGreatDoorPk46
/-
  l3bentPath of the specification on a heap on which values are drawn. No statement is proved here.
-/
namespace Go.Proofs.YteafpgaefphkfaaGreatDoor
open Go.RowKit
set_option linter.unusedVariables false
set_option linter.unusedSimpArgs false

section
variable {B M : Nat} {rk rkr rk5 : Nat → Nat} {g : Nat} {A : Option Addr} {C : Nat} {cs : List Int} {w wr w5 : World} {a : Option Addr} {n cap : Nat}

theorem made_at {z : Array Value} {n j : Nat} (h : j < n) : (madeCells z n).toList[j]? = some z[j % z.size]! := by
  rw [Array.getElem?_toList]
  unfold madeCells
  simp [h]

theorem made_trs (B M : Nat) (w : World) : Trs B M w (madeCells (Value.cells (.agg #[.int .i64 0, .slice none 0 0, .int .i64 0])) 21).toList 7 := by
  refine ⟨by rw [Array.length_toList, size_madeCells], fun j hj => ?_⟩
  have e : (Value.cells (.agg #[.int .i64 0, .slice none 0 0, .int .i64 0])) = #[.int .i64 0, .slice none 0 0, .int .i64 0] := by rfl
  have m0 : j * 3 % 3 = 0 := by omega
  have m1 : (j * 3 + 1) % 3 = 1 := by omega
  have m2 : (j * 3 + 2) % 3 = 2 := by omega
  refine ⟨.int .i64 0, .slice none 0 0, .int .i64 0, ?_, ?_, ?_, ⟨0, rfl⟩, sli_nil _ _ _ _ _ _, ⟨0, rfl⟩⟩
  · rw [made_at (by omega), e]; simp [m0]
  · rw [made_at (by omega), e]; simp [m1]
  · rw [made_at (by omega), e]; simp [m2]

theorem wpList_make_sv {ops : Array Oper} {rest : List Oper} {o : Oper} {ac : Act} {Q : Exit → Act → World → Prop} (hgd : o.guard = none) (l c : Operand) (hop : o.op = Op.makeSlice 23 l c)
    (hS : Hs B M rkr wr g A C cs) (hT : Hst rk w rkr wr g) (hg : g < w.heap.size) (hl : ac.eval l = .int .i64 7) (hc : ac.eval c = .int .i64 7)
    (hk : ∀ w', SvSt B M rk g A C cs w wr.heap.size rkr w' → wpList Tryz.prog ops Q rest (ac.put o.dst (.slice (some ⟨wr.heap.size, 0, none⟩) 7 7)) w') : wpList Tryz.prog ops Q (o :: rest) ac wr := by
  refine wpList_plain hgd fun K hK => ?_
  obtain ⟨i, hi, hz0, hz1, hz2⟩ := info_parts infoSt
  have hrun := run_make (P := Tryz.prog) wr 23 50 i _ Tryz.underlying23 hi hz0 .i64 .i64 7 7 (by omega) (by omega) (by rw [hz2]; omega) (by omega)
  rw [hz1] at hrun
  have hb : Below wr.heap.size wr (wr.alloc (.cells (madeCells (Value.cells (.agg #[.int .i64 0, .slice none 0 0, .int .i64 0])) 21) 50)) := (Below.refl _ _).alloc (Nat.le_refl _) _
  unfold Oper.wp execOp
  simp only [hop, Sem.run_bind, Sem.run_pure, Result.andThen_ok, hl, hc, hrun]
  refine hK _ _ (hk _ ⟨hT.2.1.size, ⟨_, heap_alloc_new _ _, size_madeCells _ _, made_trs _ _ _⟩, hS.below (hS.1.alloc_other _ _ _ (by decide)) hb, hT.trans (Hst.below hb (Rks.refl _ _)), hg⟩)

/-- A key of one byte, made and stored. -/
theorem sv_key {q k : Nat} (h : SvSt B M rk g A C cs w q rkr wr) (hk : k < 7) (hM : 8 ≤ M) : SvSt B M rk g A C cs w q rkr ((wr.alloc (.cells #[.int .u8 97] 5 (1, 1 + 1))).setCell ⟨q, k * 3 + 1, none⟩ (.slice (some ⟨wr.heap.size, 0, none⟩) 1 1)) := by
  have hb : Below wr.heap.size wr (wr.alloc (.cells #[.int .u8 97] 5 (1, 1 + 1))) := (Below.refl _ _).alloc (Nat.le_refl _) _
  have hw : Hw B M rkr (wr.alloc (.cells #[.int .u8 97] 5 (1, 1 + 1))) := h.2.2.1.1.alloc_b _ _ (.inr (by simp)) (fun j c hj => by
    have hj0 : j = 0 := by
      have := (Array.getElem?_eq_some_iff.1 hj).1
      simp at this
      omega
    subst hj0
    simp at hj
    exact ⟨97, by unfold Byt; omega, hj.symm⟩)
  have h1 := h.next (Hst.below (rk := rkr) hb (Rks.refl _ _)) (h.2.2.1.below hw hb)
  have hB := h.2.2.1.base
  exact h1.put hk ⟨_, 1, 1, rfl, by omega, Nat.le_refl _, by unfold maxLen; omega, .inr ⟨wr.heap.size, _, _, rfl, hB, trivial, heap_alloc_new _ _, rfl⟩⟩
end

set_option maxHeartbeats 3200000 in
set_option maxRecDepth 100000 in
theorem l3bentPath_hs (B M : Nat) (rk : Nat → Nat) (g : Nat) (A : Option Addr) (C : Nat) (cs : List Int) (w : World) (h : Hs B M rk w g A C cs) (hM : 8 ≤ M) : Calls Tryz.prog 16 #[.pointer (some ⟨g, 0, none⟩)] w (PdEnd B M rk g A C cs w 7) := by
  have HL := hide' (l3path_hs B M rk g A C cs w h hM)
  clear h
  go_enter Tryz.func16, Tryz.ntmps16
  go_wp2_with fail
  refine HL.out.mono ?_
  rintro e w1 ⟨a, n, cap, rkr, rfl, hn4, hnz, hP1⟩
  have HZ := hide' hnz
  have HP1 := hide' hP1
  have HO := hide' (l1Once_hs hP1.2.1 9 (by omega))
  clear HL hP1 hnz
  go_wp2_with fail
  refine HO.out.mono ?_
  rintro e w2 ⟨b1, rfl, hS2, hc2, hsh2⟩
  have HP2 := hide' (HP1.out.next (Hst.cus hc2 hsh2) hS2)
  clear HO HP1 hS2 hc2 hsh2
  cases b1
  · have HQ := hide' (l1Once_hs HP2.out.2.1 20 (by omega))
    go_wp2_with fail
    refine HQ.out.mono ?_
    rintro e w7 ⟨b2, rfl, hS7, hc7, hsh7⟩
    have HP7 := hide' (HP2.out.next (Hst.cus hc7 hsh7) hS7)
    clear HQ HP2 hS7 hc7 hsh7
    cases b2
    · go_wp2_with fail
      go_ret
      exact ⟨_, _, _, rkr, rfl, by omega, HZ.out, HP7.out⟩
    · go_wp2_with (first | (at_make; refine wpList_make_sv rfl _ _ rfl HP7.out.2.1 HP7.out.2.2.1 HP7.out.2.2.2 rfl rfl ?_; intro w8 hV8; have HV8 := hide' hV8; clear hV8) | fail)
      have hq7 : w.heap.size ≤ w7.heap.size := HP7.out.2.2.1.2.1.size
      generalize w7.heap.size = q at *
      clear HP7 HZ
      go_loopw [4] (fun i wr => ∃ k : Nat, k ≤ 7 ∧ i = .int .i64 k ∧ Hid (SvSt B M rk g A C cs w q rkr wr)) (fun i _ => 7 - (intOf i).toNat)
      case atStart => exact ⟨0, by omega, rfl, HV8⟩
      case round =>
        obtain ⟨k, hk, rfl, hI⟩ := hrel
        clear HV8
        by_cases hlt : k < 7
        · have hlt' : (k : Int) < 7 := by omega
          have hk7 : (k : Int) < (7 : Nat) := by omega
          obtain ⟨cur, hq, hcz⟩ := hI.out.row
          have hqz := (Array.getElem?_eq_some_iff.1 hq).1
          have hconv := conv_same_hw #[.int .u8 97] 1 rfl wr
          have hc1 : wr.cell? ⟨q, k * 3 + 1, none⟩ = some cur[k * 3 + 1] := by rw [cell_of_row wr q _ cur _ (0, 0) hq]; exact Array.getElem?_eq_getElem (by omega)
          generalize cur[k * 3 + 1] = u1 at hc1
          have hf1 : wr.frozen? ⟨q, k * 3 + 1, none⟩ = false := frozen_of_row wr q _ cur _ hq
          have hne : q ≠ wr.heap.size := by omega
          have HN : Hid (SvSt B M rk g A C cs w q rkr ((wr.setCell ⟨q, k * 3 + 1, none⟩ (.slice (some ⟨wr.heap.size, 0, none⟩) 1 1)).alloc (.cells #[.int .u8 97] 5 (1, 2)))) := hide' (by rw [← setCell_alloc _ _ _ _ _ hqz]; exact sv_key hI.out (by omega : k < 7) hM)
          clear hI hq hcz
          go_wp2_with fail
          go_roundw
          case rel => exact ⟨k + 1, by omega, by go_num, hide' (by exact HN.out)⟩
          case measure => simp [intOf]; omega
        · have hltn : ¬ (k : Int) < 7 := by omega
          have HQ2 := hide' (l1Below_hs hI.out.2.2.1 2 (by omega))
          go_wp2_with fail
          refine HQ2.out.mono ?_
          rintro e w9 ⟨x, rfl, hx0, hx2, _, hS9, hc9, hsh9⟩
          have HV9 := hide' (hI.out.next (Hst.cus hc9 hsh9) hS9)
          clear HQ2 hI hS9 hc9 hsh9
          have hx2' := hx2 (by omega)
          clear hx2
          obtain rfl | rfl : x = 0 ∨ x = 1 := by omega
          · go_wp2_with fail
            go_ret
            exact ⟨some ⟨q, 0, none⟩, 7, 7, rkr, rfl, by omega, by omega, HV9.out.cut (m := 0) (by omega)⟩
          · go_wp2_with fail
            go_ret
            exact ⟨some ⟨q, 3, none⟩, 6, 6, rkr, rfl, by omega, by omega, HV9.out.cut (m := 1) (by omega)⟩
  · have HB := hide' (l1Below_hs HP2.out.2.1 4 (by omega))
    go_wp2_with fail
    refine HB.out.mono ?_
    rintro e w3 ⟨y, rfl, hy0, hy4, _, hS3, hc3, hsh3⟩
    have hy4' := hy4 (by omega)
    have HP3 := hide' (HP2.out.next (Hst.cus hc3 hsh3) hS3)
    have HD := hide' (l2drawName_hs B M rkr g A C cs _ hS3 hM)
    clear HB HP2 hS3 hc3 hsh3 hy4
    go_wp2_with fail
    refine HD.out.mono ?_
    rintro e w4 ⟨ad, nl, nc, rfl, hN1, hS4, hT4⟩
    have HP4 := hide' (HP3.out.next hT4 hS4)
    have HN4 := hide' hN1
    clear HD HP3 hS4 hT4 hN1
    have HA4 : Hid (∀ o : Obj, Below w4.heap.size w4 (w4.alloc o) ∧ (w4.alloc o).heap[w4.heap.size]? = some o) := fun o => ⟨(Below.refl _ _).alloc (Nat.le_refl _) o, heap_alloc_new w4 o⟩
    have HC : Hid (∀ k, k < 4 → ∃ y : Int, (w4.alloc (.cells #[.int .i64 0, .int .i64 (-1), .int .i64 1, .int .i64 40] 3)).cell? ⟨w4.heap.size, k, none⟩ = some (.int .i64 y)) := by
      intro k hk
      rw [cell_of_row _ w4.heap.size k _ 3 (0, 0) (HA4.out _).2]
      obtain rfl | rfl | rfl | rfl : k = 0 ∨ k = 1 ∨ k = 2 ∨ k = 3 := by omega
      all_goals exact ⟨_, rfl⟩
    have hHx := HP4.out.2.1.below (HP4.out.2.1.1.alloc_other #[.int .i64 0, .int .i64 (-1), .int .i64 1, .int .i64 40] 3 (0, 0) (by decide)) (HA4.out _).1
    have hgl4 := HP4.out.2.1.lt
    have HPk := hide' (l1PickInt_hs hHx w4.heap.size 4 4 (by omega) (by omega) (by omega) (by simp) HC.out)
    clear HC hHx
    go_wp2_with fail
    refine HPk.out.mono ?_
    rintro e w5 ⟨z, rfl, hS5, hc5, hsh5⟩
    have hT5 := (Hst.below (rk := rkr) (HA4.out (.cells #[.int .i64 0, .int .i64 (-1), .int .i64 1, .int .i64 40] 3)).1 (Rks.refl _ _)).trans (Hst.cus hc5 hsh5)
    have HP5 := hide' (HP4.out.next hT5 hS5)
    have HT5 : Hid (Tri3 B M w5 (.int .i64 (y - 1), .slice ad nl nc, .int .i64 z)) := hide' ⟨⟨_, rfl⟩, HN4.out.shp row3_b hT5.2.2 fun _ _ h => h, ⟨z, rfl⟩⟩
    have hy1 : IntKind.i64.wrap (y - 1) = y - 1 := by rw [IntKind.wrap_i64]; omega
    clear HPk HP4 HN4 HA4 hS5 hc5 hsh5 hT5 HZ
    go_wp2_with (first | (refine wpList_sps_app rfl _ _ rfl HP5.out (by omega) HT5.out rfl rfl ?_; intro g' off' cap' w6 hP6; have HP6 := hide' hP6; clear hP6) | fail)
    have HZ : Hid (n + 1 = 0 → (some ⟨g', off', none⟩ : Option Addr) = none) := hide' (fun h => by omega)
    clear HP5 HT5
    generalize (some ⟨g', off', none⟩ : Option Addr) = a6 at *
    have HQ := hide' (l1Once_hs HP6.out.2.1 20 (by omega))
    go_wp2_with fail
    refine HQ.out.mono ?_
    rintro e w7 ⟨b2, rfl, hS7, hc7, hsh7⟩
    have HP7 := hide' (HP6.out.next (Hst.cus hc7 hsh7) hS7)
    clear HQ HP6 hS7 hc7 hsh7
    cases b2
    · go_wp2_with fail
      go_ret
      exact ⟨_, _, _, rkr, rfl, by omega, HZ.out, HP7.out⟩
    · go_wp2_with (first | (at_make; refine wpList_make_sv rfl _ _ rfl HP7.out.2.1 HP7.out.2.2.1 HP7.out.2.2.2 rfl rfl ?_; intro w8 hV8; have HV8 := hide' hV8; clear hV8) | fail)
      have hq7 : w.heap.size ≤ w7.heap.size := HP7.out.2.2.1.2.1.size
      generalize w7.heap.size = q at *
      clear HP7 HZ
      go_loopw [4] (fun i wr => ∃ k : Nat, k ≤ 7 ∧ i = .int .i64 k ∧ Hid (SvSt B M rk g A C cs w q rkr wr)) (fun i _ => 7 - (intOf i).toNat)
      case atStart => exact ⟨0, by omega, rfl, HV8⟩
      case round =>
        obtain ⟨k, hk, rfl, hI⟩ := hrel
        clear HV8
        by_cases hlt : k < 7
        · have hlt' : (k : Int) < 7 := by omega
          have hk7 : (k : Int) < (7 : Nat) := by omega
          obtain ⟨cur, hq, hcz⟩ := hI.out.row
          have hqz := (Array.getElem?_eq_some_iff.1 hq).1
          have hconv := conv_same_hw #[.int .u8 97] 1 rfl wr
          have hc1 : wr.cell? ⟨q, k * 3 + 1, none⟩ = some cur[k * 3 + 1] := by rw [cell_of_row wr q _ cur _ (0, 0) hq]; exact Array.getElem?_eq_getElem (by omega)
          generalize cur[k * 3 + 1] = u1 at hc1
          have hf1 : wr.frozen? ⟨q, k * 3 + 1, none⟩ = false := frozen_of_row wr q _ cur _ hq
          have hne : q ≠ wr.heap.size := by omega
          have HN : Hid (SvSt B M rk g A C cs w q rkr ((wr.setCell ⟨q, k * 3 + 1, none⟩ (.slice (some ⟨wr.heap.size, 0, none⟩) 1 1)).alloc (.cells #[.int .u8 97] 5 (1, 2)))) := hide' (by rw [← setCell_alloc _ _ _ _ _ hqz]; exact sv_key hI.out (by omega : k < 7) hM)
          clear hI hq hcz
          go_wp2_with fail
          go_roundw
          case rel => exact ⟨k + 1, by omega, by go_num, hide' (by exact HN.out)⟩
          case measure => simp [intOf]; omega
        · have hltn : ¬ (k : Int) < 7 := by omega
          have HQ2 := hide' (l1Below_hs hI.out.2.2.1 2 (by omega))
          go_wp2_with fail
          refine HQ2.out.mono ?_
          rintro e w9 ⟨x, rfl, hx0, hx2, _, hS9, hc9, hsh9⟩
          have HV9 := hide' (hI.out.next (Hst.cus hc9 hsh9) hS9)
          clear HQ2 hI hS9 hc9 hsh9
          have hx2' := hx2 (by omega)
          clear hx2
          obtain rfl | rfl : x = 0 ∨ x = 1 := by omega
          · go_wp2_with fail
            go_ret
            exact ⟨some ⟨q, 0, none⟩, 7, 7, rkr, rfl, by omega, by omega, HV9.out.cut (m := 0) (by omega)⟩
          · go_wp2_with fail
            go_ret
            exact ⟨some ⟨q, 3, none⟩, 6, 6, rkr, rfl, by omega, by omega, HV9.out.cut (m := 1) (by omega)⟩
end Go.Proofs.YteafpgaefphkfaaGreatDoor
