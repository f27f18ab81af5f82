/-
  Texts that a law leans on, one behind the other; no statement is proved here.
-/
import Derived.Test.YtfokidhamjphfaaDoorPk32
import Derived.Test.YtfokidhamjphfaaDoorPk17
/-
  Kept names and words: kept, wordOk, saysOk of the program, l6kept, l6free of the specification.
-/
namespace Go.Proofs.YtfokidhamjphfaaDoor
open Go.RowKit
set_option linter.unusedVariables false
set_option linter.unusedSimpArgs false

set_option maxHeartbeats 1600000 in
set_option maxRecDepth 100000 in
theorem impl_kept_any (a : Option Addr) (cap : Nat) (xs : List Int) (w : World) (ha : Seg w a xs) :
    Calls Tryd.prog 79 #[.slice a xs.length cap] w fun e w' => e = .returned (.bool (keptB xs)) ∧ w = w' := by
  have hc := conv_seg cap ha
  go_enter Tryd.func79, Tryd.ntmps79
  go_wp2
  all_goals first
    | (exfalso; simp_all; done)
    | (go_ret; refine ⟨ret_bool ?_, rfl⟩; simp [keptB, keptS, *])

set_option maxHeartbeats 1600000 in
theorem impl_wordOk_any (a : Option Addr) (cap : Nat) (xs : List Int) (w : World) (ha : Seg w a xs) (hl : xs.length ≤ maxLen) :
    Calls Tryd.prog 75 #[.slice a xs.length cap] w fun e w' => e = .returned (.bool (wordB xs)) ∧ w = w' := by
  have HN := hide' (impl_NameOk_any a cap xs w ha hl)
  have HK := hide' (impl_kept_any a cap xs w ha)
  have HW : Hid (wordB xs = (nameB xs && !keptB xs)) := rfl
  generalize nameB xs = p at *
  generalize keptB xs = q at *
  clear ha hl
  cases p <;> cases q
  all_goals
    go_enter Tryd.func75, Tryd.ntmps75
    go_wp2_with (first
      | (go_at_call 8; refine HN.out.mono ?_; rintro e w1 ⟨rfl, e1⟩; obtain rfl := e1)
      | (go_at_call 79; refine HK.out.mono ?_; rintro e w1 ⟨rfl, e1⟩; obtain rfl := e1))
    go_ret
    exact ⟨ret_bool (by rw [HW.out]; rfl), rfl⟩

set_option maxHeartbeats 1600000 in
theorem impl_saysOk_any (c : Int) (a : Option Addr) (cap : Nat) (xs : List Int) (w : World) (ha : Seg w a xs) (hl : xs.length ≤ maxLen) :
    Calls Tryd.prog 70 #[.int .i64 c, .slice a xs.length cap] w fun e w' => e = .returned (.bool (saysB c xs)) ∧ w = w' := by
  by_cases h1 : c = 1
  · subst h1
    have HT := hide' (impl_textOk_any a cap xs w ha hl)
    have HW : Hid (saysB 1 xs = textB xs) := rfl
    clear ha hl
    go_enter Tryd.func70, Tryd.ntmps70
    go_wp2_with fail
    refine HT.out.mono ?_
    rintro e w1 ⟨rfl, e1⟩
    obtain rfl := e1
    go_wp2
    go_ret
    exact ⟨ret_bool (by rw [HW.out]), rfl⟩
  by_cases h2 : c = 2
  · subst h2
    have HT := hide' (impl_NameOk_any a cap xs w ha hl)
    have HW : Hid (saysB 2 xs = nameB xs) := rfl
    clear ha hl
    go_enter Tryd.func70, Tryd.ntmps70
    go_wp2_with fail
    refine HT.out.mono ?_
    rintro e w1 ⟨rfl, e1⟩
    obtain rfl := e1
    go_wp2
    go_ret
    exact ⟨ret_bool (by rw [HW.out]), rfl⟩
  by_cases h3 : c = 3
  · subst h3
    have HT := hide' (impl_wordOk_any a cap xs w ha hl)
    have HW : Hid (saysB 3 xs = wordB xs) := rfl
    clear ha hl
    go_enter Tryd.func70, Tryd.ntmps70
    go_wp2_with fail
    refine HT.out.mono ?_
    rintro e w1 ⟨rfl, e1⟩
    obtain rfl := e1
    go_wp2
    go_ret
    exact ⟨ret_bool (by rw [HW.out]), rfl⟩
  · have HW : Hid (saysB c xs = decide (xs.length = 0)) := by show saysB c xs = _; simp [saysB, h1, h2, h3]
    unfold maxLen at hl
    clear ha
    go_enter Tryd.func70, Tryd.ntmps70
    go_wp2
    go_ret
    exact ⟨ret_bool (by rw [HW.out]; cases xs <;> simp <;> omega), rfl⟩

theorem kept_at (k : Nat) (hk : k < 11) (w wr : World) (ob : Obj) (ho : ob = .cells (keptS.map Value.string).toArray 9) (h : Below (w.alloc ob).heap.size (w.alloc ob) wr) : wr.cell? ⟨w.heap.size, k, none⟩ = some (.string (keptS.getD k default)) := by
  subst ho
  rw [cell_of_row wr w.heap.size k _ _ (0, 0) (box_row h)]
  have hl : k < keptS.length := hk
  simp [hl]

theorem kept_yes {xs : List Int} {k : Nat} (hk : k < 11) (h : ((keptS.getD k default).toList == (strOf xs).toList) = true) : keptB xs = true := by
  have hl : k < keptS.length := hk
  rw [keptB, List.any_eq_true]
  refine ⟨keptS[k], List.getElem_mem hl, ?_⟩
  simp only [List.getD_eq_getElem?_getD, List.getElem?_eq_getElem hl, Option.getD_some] at h
  rw [beq_iff_eq] at h ⊢
  exact h.symm

theorem kept_no {xs : List Int} (h : ∀ k, k < 11 → ((keptS.getD k default).toList == (strOf xs).toList) = false) : keptB xs = false := by
  rw [keptB, List.any_eq_false]
  intro u hu
  obtain ⟨k, hl, rfl⟩ := List.getElem_of_mem hu
  have := h k hl
  simp only [List.getD_eq_getElem?_getD, List.getElem?_eq_getElem hl, Option.getD_some] at this
  intro e
  rw [beq_iff_eq] at e
  rw [e] at this
  simp at this

set_option maxHeartbeats 1600000 in
theorem spec_l6kept_any (a : Option Addr) (cap : Nat) (xs : List Int) (w : World) (ha : Seg w a xs) :
    Calls Tryd.prog 56 #[.slice a xs.length cap] w fun e w' => e = .returned (.bool (keptB xs)) ∧ Below w.heap.size w w' := by
  have HA := hide' ha
  have HY : Hid (∀ k, k < 11 → ((keptS.getD k default).toList == (strOf xs).toList) = true → keptB xs = true) := fun k hk h => kept_yes hk h
  have HNo : Hid ((∀ k, k < 11 → ((keptS.getD k default).toList == (strOf xs).toList) = false) → keptB xs = false) := kept_no
  have b0 : ∀ o : Obj, Below w.heap.size w (w.alloc o) := fun o => (Below.refl _ _).alloc (Nat.le_refl _) o
  have Hb := hide' b0
  generalize hO : Obj.cells (keptS.map Value.string).toArray 9 = ob
  have HOb := hide' hO
  have hO' := hO
  simp only [keptS, List.map_cons, List.map_nil] at hO'
  clear ha b0 hO
  go_enter Tryd.func56, Tryd.ntmps56
  go_wp2
  clear hO'
  go_loopw [4] (fun i wr => ∃ k : Nat, k ≤ 11 ∧ i = .int .i64 k ∧ Hid (∀ j, j < k → ((keptS.getD j default).toList == (strOf xs).toList) = false) ∧ Hid (Below (w.alloc ob).heap.size (w.alloc ob) wr)) (fun i _ => 11 - (intOf i).toNat)
  case atStart => exact ⟨0, by omega, rfl, fun j h => by omega, Below.refl _ _⟩
  case round =>
    obtain ⟨k, hk, rfl, hall, hbel⟩ := hrel
    have B := Below.on (Hb.out ob) hbel.out
    by_cases hlt : k < 11
    · have hcell := kept_at k hlt w wr ob HOb.out.symm hbel.out
      have hcv : ∀ n, (convert 22 9 (.slice a xs.length cap)).run Tryd.prog (wr.drewN n) = .ok (.string (strOf xs)) (wr.drewN n) := fun n => conv_seg (w := wr.drewN n) cap (HA.out.grow (w' := wr.drewN n) (below_drewN B n))
      have hlt' : (k : Int) < 11 := by omega
      by_cases ht : ((keptS.getD k default).toList == (strOf xs).toList) = true
      · have HF : Hid (keptB xs = true) := HY.out k hlt ht
        generalize keptS.getD k default = u at *
        go_wp2_with fail
        go_quiet (fail)
        go_wp2
        go_ret
        exact ⟨ret_bool HF.out.symm, below_drewN B _⟩
      · have ht' : ((keptS.getD k default).toList == (strOf xs).toList) = false := by simpa using ht
        have HF : Hid (∀ j, j < k + 1 → ((keptS.getD j default).toList == (strOf xs).toList) = false) := fun j hj => by
          by_cases e : j = k
          · rw [e]; exact ht'
          · exact hall.out j (by omega)
        clear ht
        generalize keptS.getD k default = u at *
        go_wp2_with fail
        go_quiet (fail)
        go_wp2
        go_roundw
        case rel => exact ⟨k + 1, by omega, by go_num, HF, below_drewN hbel.out _⟩
        case measure => simp [intOf]; omega
    · have HF : Hid (keptB xs = false) := HNo.out fun j hj => hall.out j (by omega)
      have hlt' : ¬ (k : Int) < 11 := by omega
      go_wp2
      go_ret
      exact ⟨ret_bool HF.out.symm, B⟩

set_option maxHeartbeats 1600000 in
theorem spec_l6free_any (a : Option Addr) (cap : Nat) (xs : List Int) (w : World) (ha : Seg w a xs) (hl : xs.length ≤ maxLen) :
    Calls Tryd.prog 57 #[.slice a xs.length cap] w fun e w' => e = .returned (.bool (wordB xs)) ∧ Below w.heap.size w w' := by
  have HN := hide' (spec_NameOk_any a cap xs w ha hl)
  have HK := hide' (spec_l6kept_any a cap xs w ha)
  have HW : Hid (wordB xs = (nameB xs && !keptB xs)) := rfl
  generalize nameB xs = p at *
  generalize keptB xs = q at *
  clear ha hl
  cases p with
  | false =>
    go_enter Tryd.func57, Tryd.ntmps57
    go_wp2_with (go_at_call 35; refine HN.out.mono ?_; rintro e w1 ⟨rfl, e1⟩; obtain rfl := e1)
    go_ret
    exact ⟨ret_bool (by rw [HW.out]; rfl), Below.refl _ _⟩
  | true =>
    cases q
    all_goals
      go_enter Tryd.func57, Tryd.ntmps57
      go_wp2_with (first
        | (go_at_call 35; refine HN.out.mono ?_; rintro e w1 ⟨rfl, e1⟩; obtain rfl := e1)
        | (go_at_call 56; refine HK.out.mono ?_; rintro e w1 ⟨rfl, b1⟩))
      go_ret
      exact ⟨ret_bool (by rw [HW.out]; rfl), b1⟩
end Go.Proofs.YtfokidhamjphfaaDoor
