/-
  Texts that a law leans on, one behind the other; no statement is proved here.
-/
import Derived.Test.YtcgmfmdoconecaaDoorPk4
import Derived.Test.YtcgmfmdoconecaaDoorPk1
import Derived.Maps.AppendAt
/-
  Rows of texts as strings, of the call's own; 'append(names, s)'.
-/
namespace Go.Proofs.YtcgmfmdoconecaaDoor
open Go.RowKit
set_option linter.unusedVariables false
set_option linter.unusedSimpArgs false

/-- Texts as cells of strings. -/
def strC (os : List (List Int)) : List Value := os.map fun xs => .string (strOf xs)
theorem strC_len (os : List (List Int)) : (strC os).length = os.length := by simp [strC]

theorem info9 : (Tryd.prog.info? 9).map (fun i => (i.zero, i.size, i.bytes)) = some (some (.string ⟨#[]⟩), 1, 16) := by kernel_rfl

/-- A row of the call's own that holds texts. -/
def SR (w : World) (base : Nat) (v : Value) (os : List (List Int)) : Prop := w.ownsRow base 9 1 v os.length (strC os)

theorem SR.shape {w : World} {base : Nat} {v : Value} {os : List (List Int)} (h : SR w base v os) : ∃ a cap, v = .slice a os.length cap := by
  obtain ⟨h2, h3⟩ := h
  rcases h3 with ⟨rfl, h0⟩ | ⟨g, cap, cur, rfl, _⟩
  · exact ⟨none, 0, by rw [h0]⟩
  · exact ⟨_, _, rfl⟩

theorem grown_on {w w1 w2 : World} {r r' : Option Nat} (h : w.grownBy w1 r) (k : w1.grownBy w2 r') (hr : ∀ j, r' = some j → r = some j ∨ w.heap.size ≤ j) : w.grownBy w2 r :=
  ⟨k.os.trans h.os, k.tape.trans h.tape, k.output.trans h.output, Nat.le_trans h.size k.size, fun i hi hne => (k.block i (Nat.lt_of_lt_of_le hi h.size) (fun e => by
    rcases hr i e.symm with h1 | h1
    · exact hne h1.symm
    · omega)).trans (h.block i hi hne)⟩

theorem loc_alloc {w : World} {o : Obj} {r r' : Option Nat} (h : ∀ g, r' = some g → r = some g ∨ (w.alloc o).heap.size ≤ g) : ∀ g, r' = some g → r = some g ∨ w.heap.size ≤ g := fun g hg => by
  rcases h g hg with k | k
  · exact .inl k
  · exact .inr (by simp at k; omega)

/-- 'append(names, s)'. -/
theorem wpList_SR_add {w : World} {ops : Array Oper} {rest : List Oper} {o : Oper} {a : Act} {Q : Exit → Act → World → Prop} (hgd : o.guard = none) (s x : Operand)
    (ho : o.op = .call { callee := .builtin .append, args := #[s, x], argTypes := #[52, 52] }) (base : Nat) (v : Value) (os : List (List Int)) (xs : List Int) (hs : a.eval s = v) (hR : SR w base v os)
    (q : Nat) (hq : w.heap.size = q) (hx : a.eval x = .slice (some ⟨q, 0, none⟩) 1 1) (n : Nat) (hn : os.length = n) (hlen : n ≤ 100000) (hbase : base ≤ w.heap.size)
    (h : ∀ a' c' w', SR w' base (.slice a' (n + 1) c') (os ++ [xs]) → w.grownBy w' v.ownBlock → (∀ g, (Value.slice a' (n + 1) c').ownBlock = some g → v.ownBlock = some g ∨ w.heap.size ≤ g) → wpList Tryd.prog ops Q rest (a.put o.dst (.slice a' (n + 1) c')) w') : wpList Tryd.prog ops Q (o :: rest) a (w.alloc (.cells #[.string (strOf xs)] 9)) := by
  subst hq
  obtain ⟨i9, hi9, hy0, hy1, hy2⟩ := info_parts info9
  have hown := World.ownsRow.alloc hR (.cells #[.string (strOf xs)] 9)
  refine wpList_append_own_at (w := w.alloc (.cells #[.string (strOf xs)] 9)) hgd s x 52 ho base 9 i9 (.string ⟨#[]⟩) 1 16 Tryd.underlying52 hi9 hy0 hy1 hy2 rfl (by decide) v os.length (strC os) hs hown ⟨w.heap.size, 0, none⟩ 1 1 [.string (strOf xs)] hx rfl (cell_one_new _ _ _) (by intro z hz; simp at hz; rw [hz]; rfl) (by unfold maxLen; omega) (by omega) (by simp; omega) ?_
  intro v' w' ho' hg' _ hloc
  have k1 : SR w' base v' (os ++ [xs]) := by
    show w'.ownsRow base 9 1 v' (os ++ [xs]).length (strC (os ++ [xs]))
    have e1 : strC (os ++ [xs]) = strC os ++ [.string (strOf xs)] := by simp [strC]
    rw [e1, List.length_append, List.length_singleton]
    exact ho'
  obtain ⟨a', c', e⟩ := k1.shape
  rw [List.length_append, List.length_singleton, hn] at e
  subst e
  refine h a' c' w' k1 (grownBy_trans (World.grownBy_alloc w _ _) hg') fun g hg => ?_
  rcases hloc with e2 | e2
  · exact .inl (e2.symm.trans hg)
  · rw [e2] at hg
    simp at hg
    exact .inr (by omega)
end Go.Proofs.YtcgmfmdoconecaaDoor
/-
  Kept names and words: kept, wordOk, saysOk of the program, l6kept, l6free of the specification.
-/
namespace Go.Proofs.YtcgmfmdoconecaaDoor
open Go.RowKit
set_option linter.unusedVariables false
set_option linter.unusedSimpArgs false

set_option maxHeartbeats 1600000 in
set_option maxRecDepth 100000 in
theorem impl_kept_any (a : Option Addr) (cap : Nat) (xs : List Int) (w : World) (ha : Seg w a xs) :
    Calls Tryd.prog 72 #[.slice a xs.length cap] w fun e w' => e = .returned (.bool (keptB xs)) ∧ w = w' := by
  have hc := conv_seg cap ha
  go_enter Tryd.func72, Tryd.ntmps72
  go_wp2
  all_goals first
    | (exfalso; simp_all; done)
    | (go_ret; refine ⟨ret_bool ?_, rfl⟩; simp [keptB, keptS, *])

set_option maxHeartbeats 1600000 in
theorem impl_wordOk_any (a : Option Addr) (cap : Nat) (xs : List Int) (w : World) (ha : Seg w a xs) (hl : xs.length ≤ maxLen) :
    Calls Tryd.prog 64 #[.slice a xs.length cap] w fun e w' => e = .returned (.bool (wordB xs)) ∧ w = w' := by
  have HN := hide' (impl_NameOk_any a cap xs w ha hl)
  have HK := hide' (impl_kept_any a cap xs w ha)
  have HW : Hid (wordB xs = (nameB xs && !keptB xs)) := rfl
  generalize nameB xs = p at *
  generalize keptB xs = q at *
  clear ha hl
  cases p <;> cases q
  all_goals
    go_enter Tryd.func64, Tryd.ntmps64
    go_wp2_with (first
      | (go_at_call 61; refine HN.out.mono ?_; rintro e w1 ⟨rfl, e1⟩; obtain rfl := e1)
      | (go_at_call 72; refine HK.out.mono ?_; rintro e w1 ⟨rfl, e1⟩; obtain rfl := e1))
    go_ret
    exact ⟨ret_bool (by rw [HW.out]; rfl), rfl⟩

set_option maxHeartbeats 1600000 in
theorem impl_saysOk_any (c : Int) (a : Option Addr) (cap : Nat) (xs : List Int) (w : World) (ha : Seg w a xs) (hl : xs.length ≤ maxLen) :
    Calls Tryd.prog 49 #[.int .i64 c, .slice a xs.length cap] w fun e w' => e = .returned (.bool (saysB c xs)) ∧ w = w' := by
  by_cases h1 : c = 1
  · subst h1
    have HT := hide' (impl_textOk_any a cap xs w ha hl)
    have HW : Hid (saysB 1 xs = textB xs) := rfl
    clear ha hl
    go_enter Tryd.func49, Tryd.ntmps49
    go_wp2_with fail
    refine HT.out.mono ?_
    rintro e w1 ⟨rfl, e1⟩
    obtain rfl := e1
    go_wp2
    go_ret
    exact ⟨ret_bool (by rw [HW.out]), rfl⟩
  by_cases h2 : c = 2
  · subst h2
    have HT := hide' (impl_NameOk_any a cap xs w ha hl)
    have HW : Hid (saysB 2 xs = nameB xs) := rfl
    clear ha hl
    go_enter Tryd.func49, Tryd.ntmps49
    go_wp2_with fail
    refine HT.out.mono ?_
    rintro e w1 ⟨rfl, e1⟩
    obtain rfl := e1
    go_wp2
    go_ret
    exact ⟨ret_bool (by rw [HW.out]), rfl⟩
  by_cases h3 : c = 3
  · subst h3
    have HT := hide' (impl_wordOk_any a cap xs w ha hl)
    have HW : Hid (saysB 3 xs = wordB xs) := rfl
    clear ha hl
    go_enter Tryd.func49, Tryd.ntmps49
    go_wp2_with fail
    refine HT.out.mono ?_
    rintro e w1 ⟨rfl, e1⟩
    obtain rfl := e1
    go_wp2
    go_ret
    exact ⟨ret_bool (by rw [HW.out]), rfl⟩
  · have HW : Hid (saysB c xs = decide (xs.length = 0)) := by show saysB c xs = _; simp [saysB, h1, h2, h3]
    unfold maxLen at hl
    clear ha
    go_enter Tryd.func49, Tryd.ntmps49
    go_wp2
    go_ret
    exact ⟨ret_bool (by rw [HW.out]; cases xs <;> simp <;> omega), rfl⟩

theorem kept_at (k : Nat) (hk : k < 11) (w wr : World) (ob : Obj) (ho : ob = .cells (keptS.map Value.string).toArray 9) (h : Below (w.alloc ob).heap.size (w.alloc ob) wr) : wr.cell? ⟨w.heap.size, k, none⟩ = some (.string (keptS.getD k default)) := by
  subst ho
  rw [cell_of_row wr w.heap.size k _ _ (0, 0) (box_row h)]
  have hl : k < keptS.length := hk
  simp [hl]

theorem kept_yes {xs : List Int} {k : Nat} (hk : k < 11) (h : ((keptS.getD k default).toList == (strOf xs).toList) = true) : keptB xs = true := by
  have hl : k < keptS.length := hk
  rw [keptB, List.any_eq_true]
  refine ⟨keptS[k], List.getElem_mem hl, ?_⟩
  simp only [List.getD_eq_getElem?_getD, List.getElem?_eq_getElem hl, Option.getD_some] at h
  rw [beq_iff_eq] at h ⊢
  exact h.symm

theorem kept_no {xs : List Int} (h : ∀ k, k < 11 → ((keptS.getD k default).toList == (strOf xs).toList) = false) : keptB xs = false := by
  rw [keptB, List.any_eq_false]
  intro u hu
  obtain ⟨k, hl, rfl⟩ := List.getElem_of_mem hu
  have := h k hl
  simp only [List.getD_eq_getElem?_getD, List.getElem?_eq_getElem hl, Option.getD_some] at this
  intro e
  rw [beq_iff_eq] at e
  rw [e] at this
  simp at this

set_option maxHeartbeats 1600000 in
theorem spec_l6kept_any (a : Option Addr) (cap : Nat) (xs : List Int) (w : World) (ha : Seg w a xs) :
    Calls Tryd.prog 39 #[.slice a xs.length cap] w fun e w' => e = .returned (.bool (keptB xs)) ∧ Below w.heap.size w w' := by
  have HA := hide' ha
  have HY : Hid (∀ k, k < 11 → ((keptS.getD k default).toList == (strOf xs).toList) = true → keptB xs = true) := fun k hk h => kept_yes hk h
  have HNo : Hid ((∀ k, k < 11 → ((keptS.getD k default).toList == (strOf xs).toList) = false) → keptB xs = false) := kept_no
  have b0 : ∀ o : Obj, Below w.heap.size w (w.alloc o) := fun o => (Below.refl _ _).alloc (Nat.le_refl _) o
  have Hb := hide' b0
  generalize hO : Obj.cells (keptS.map Value.string).toArray 9 = ob
  have HOb := hide' hO
  have hO' := hO
  simp only [keptS, List.map_cons, List.map_nil] at hO'
  clear ha b0 hO
  go_enter Tryd.func39, Tryd.ntmps39
  go_wp2
  clear hO'
  go_loopw [4] (fun i wr => ∃ k : Nat, k ≤ 11 ∧ i = .int .i64 k ∧ Hid (∀ j, j < k → ((keptS.getD j default).toList == (strOf xs).toList) = false) ∧ Hid (Below (w.alloc ob).heap.size (w.alloc ob) wr)) (fun i _ => 11 - (intOf i).toNat)
  case atStart => exact ⟨0, by omega, rfl, fun j h => by omega, Below.refl _ _⟩
  case round =>
    obtain ⟨k, hk, rfl, hall, hbel⟩ := hrel
    have B := Below.on (Hb.out ob) hbel.out
    by_cases hlt : k < 11
    · have hcell := kept_at k hlt w wr ob HOb.out.symm hbel.out
      have hcv : ∀ n, (convert 22 9 (.slice a xs.length cap)).run Tryd.prog (wr.drewN n) = .ok (.string (strOf xs)) (wr.drewN n) := fun n => conv_seg (w := wr.drewN n) cap (HA.out.grow (w' := wr.drewN n) (below_drewN B n))
      have hlt' : (k : Int) < 11 := by omega
      by_cases ht : ((keptS.getD k default).toList == (strOf xs).toList) = true
      · have HF : Hid (keptB xs = true) := HY.out k hlt ht
        generalize keptS.getD k default = u at *
        go_wp2_with fail
        go_quiet (fail)
        go_wp2
        go_ret
        exact ⟨ret_bool HF.out.symm, below_drewN B _⟩
      · have ht' : ((keptS.getD k default).toList == (strOf xs).toList) = false := by simpa using ht
        have HF : Hid (∀ j, j < k + 1 → ((keptS.getD j default).toList == (strOf xs).toList) = false) := fun j hj => by
          by_cases e : j = k
          · rw [e]; exact ht'
          · exact hall.out j (by omega)
        clear ht
        generalize keptS.getD k default = u at *
        go_wp2_with fail
        go_quiet (fail)
        go_wp2
        go_roundw
        case rel => exact ⟨k + 1, by omega, by go_num, HF, below_drewN hbel.out _⟩
        case measure => simp [intOf]; omega
    · have HF : Hid (keptB xs = false) := HNo.out fun j hj => hall.out j (by omega)
      have hlt' : ¬ (k : Int) < 11 := by omega
      go_wp2
      go_ret
      exact ⟨ret_bool HF.out.symm, B⟩

set_option maxHeartbeats 1600000 in
theorem spec_l6free_any (a : Option Addr) (cap : Nat) (xs : List Int) (w : World) (ha : Seg w a xs) (hl : xs.length ≤ maxLen) :
    Calls Tryd.prog 40 #[.slice a xs.length cap] w fun e w' => e = .returned (.bool (wordB xs)) ∧ Below w.heap.size w w' := by
  have HN := hide' (spec_NameOk_any a cap xs w ha hl)
  have HK := hide' (spec_l6kept_any a cap xs w ha)
  have HW : Hid (wordB xs = (nameB xs && !keptB xs)) := rfl
  generalize nameB xs = p at *
  generalize keptB xs = q at *
  clear ha hl
  cases p with
  | false =>
    go_enter Tryd.func40, Tryd.ntmps40
    go_wp2_with (go_at_call 38; refine HN.out.mono ?_; rintro e w1 ⟨rfl, e1⟩; obtain rfl := e1)
    go_ret
    exact ⟨ret_bool (by rw [HW.out]; rfl), Below.refl _ _⟩
  | true =>
    cases q
    all_goals
      go_enter Tryd.func40, Tryd.ntmps40
      go_wp2_with (first
        | (go_at_call 38; refine HN.out.mono ?_; rintro e w1 ⟨rfl, e1⟩; obtain rfl := e1)
        | (go_at_call 39; refine HK.out.mono ?_; rintro e w1 ⟨rfl, b1⟩))
      go_ret
      exact ⟨ret_bool (by rw [HW.out]; rfl), b1⟩
end Go.Proofs.YtcgmfmdoconecaaDoor
/-
  shaped of the program: what it answers where the table of shapes lies as it was laid: 'shpB'.
-/
namespace Go.Proofs.YtcgmfmdoconecaaDoor
open Go.RowKit
set_option linter.unusedVariables false
set_option linter.unusedSimpArgs false

/-- The table of shapes lies in its variable's block. -/
def ShpT (w : World) : Prop := ∀ k : Nat, k < 24 → w.cell? ⟨0, k * 4, none⟩ = some (.int .i64 (mostI k)) ∧ w.cell? ⟨0, k * 4 + 1, none⟩ = some (.int .i64 (saysI k)) ∧
  w.cell? ⟨0, k * 4 + 2, none⟩ = some (.bool (decide (k = 5))) ∧ w.cell? ⟨0, k * 4 + 3, none⟩ = some (.int .i64 (arI k))

theorem ShpT.lt {w : World} (h : ShpT w) : 0 < w.heap.size := World.block_lt_of_cell? w _ (h 0 (by omega)).1

theorem ShpT.below {w w' : World} (h : ShpT w) (hb : Below w.heap.size w w') : ShpT w' := fun k hk => by
  obtain ⟨h0, h1, h2, h3⟩ := h k hk
  have hl := h.lt
  exact ⟨(hb.cell (p := ⟨0, k * 4, none⟩) hl).trans h0, (hb.cell (p := ⟨0, k * 4 + 1, none⟩) hl).trans h1, (hb.cell (p := ⟨0, k * 4 + 2, none⟩) hl).trans h2, (hb.cell (p := ⟨0, k * 4 + 3, none⟩) hl).trans h3⟩

theorem ShpT.agree {R : Nat → Prop} {w w' : World} (h : ShpT w) (ha : Agree R w w') (hR : R 0) : ShpT w' := fun k hk => by
  obtain ⟨h0, h1, h2, h3⟩ := h k hk
  exact ⟨(cell_agree ha hR).trans h0, (cell_agree ha hR).trans h1, (cell_agree ha hR).trans h2, (cell_agree ha hR).trans h3⟩

set_option maxHeartbeats 1600000 in
theorem shaped_out (k n : Int) (c2 c3 c4 : Value) (w : World) (h : k < 0 ∨ 23 < k) :
    Calls Tryd.prog 45 #[.agg #[.int .i64 k, .int .i64 n, c2, c3, c4]] w fun e w' => e = .returned (.bool false) ∧ Below w.heap.size w w' := by
  have b0 : ∀ o : Obj, Below w.heap.size w (w.alloc o) := fun o => (Below.refl _ _).alloc (Nat.le_refl _) o
  have Hb := hide' b0
  clear b0
  rcases h with h | h
  all_goals
    go_enter Tryd.func45, Tryd.ntmps45
    go_wp2
    go_ret
    exact ⟨rfl, Hb.out _⟩

/-- What shaped answers, of numbers. -/
def shpR (kb : Bool) (q m n : Int) (l3 l4 : Nat) (ab sb : Bool) : Bool :=
  (if kb then decide (l3 = l4) && ab else decide (l3 = 0)) && (decide (q = -1) || decide (q = l4)) && decide (0 ≤ n) && decide (n ≤ m) && sb

theorem shpB_R (k : Nat) (hk : k < 24) (n : Int) (vs : List Int) (vK : List (List Int)) (l4 : Nat) :
    shpB k n vs vK l4 = shpR (decide (k = 5)) (arI k) (mostI k) n vK.length l4 (ascB vK) (saysB (saysI k) vs) := by
  have h1 : (0 : Int) ≤ (k : Int) := by omega
  have h2 : (k : Int) ≤ 23 := by omega
  have h3 : ((k : Int) = 5) ↔ k = 5 := by omega
  simp [shpB, shpR, keysB, kidsB, h1, h2, h3]

set_option maxHeartbeats 4000000 in
theorem shaped_in (R : Nat → Prop) (k : Nat) (hk : k < 24) (n : Int) (a2 a3 a4 : Option Addr) (p2 p3 p4 l4 : Nat) (vs : List Int) (vK : List (List Int)) (w : World) (hT : ShpT w) (s2 : Seg w a2 vs) (m2 : vs.length ≤ maxLen)
    (h3 : KSeg (fun b => b < w.heap.size) w (.slice a3 vK.length p3) vK) (hl4 : l4 ≤ maxLen) :
    Calls Tryd.prog 45 #[.agg #[.int .i64 k, .int .i64 n, .slice a2 vs.length p2, .slice a3 vK.length p3, .slice a4 l4 p4]] w fun e w' => e = .returned (.bool (shpB k n vs vK l4)) ∧ Below w.heap.size w w' := by
  have b0 : ∀ o : Obj, Below w.heap.size w (w.alloc o) := fun o => (Below.refl _ _).alloc (Nat.le_refl _) o
  have b1 : ∀ o o' : Obj, Below w.heap.size w ((w.alloc o).alloc o') := fun o o' => (b0 o).alloc (by simp) o'
  have Hb := hide' b1
  have hlt := hT.lt
  obtain ⟨t0, t1, t2, t3⟩ := hT k hk
  have u0 : ∀ o : Obj, (w.alloc o).cell? ⟨0, k * 4, none⟩ = some (.int .i64 (mostI k)) := fun o => ((b0 o).cell (p := ⟨0, k * 4, none⟩) hlt).trans t0
  have u1 : ∀ o : Obj, (w.alloc o).cell? ⟨0, k * 4 + 1, none⟩ = some (.int .i64 (saysI k)) := fun o => ((b0 o).cell (p := ⟨0, k * 4 + 1, none⟩) hlt).trans t1
  have u2 : ∀ o : Obj, (w.alloc o).cell? ⟨0, k * 4 + 2, none⟩ = some (.bool (decide (k = 5))) := fun o => ((b0 o).cell (p := ⟨0, k * 4 + 2, none⟩) hlt).trans t2
  have u3 : ∀ o : Obj, (w.alloc o).cell? ⟨0, k * 4 + 3, none⟩ = some (.int .i64 (arI k)) := fun o => ((b0 o).cell (p := ⟨0, k * 4 + 3, none⟩) hlt).trans t3
  have HA : Hid (∀ wx, Below w.heap.size w wx → Calls Tryd.prog 48 #[.slice a3 vK.length p3] wx fun e w' => e = .returned (.bool (ascB vK)) ∧ wx = w') := fun wx hb => ascendingNames_any _ _ vK wx (h3.agree (agree_below hb))
  have HS : Hid (∀ wx, Below w.heap.size w wx → Calls Tryd.prog 49 #[.int .i64 (saysI k), .slice a2 vs.length p2] wx fun e w' => e = .returned (.bool (saysB (saysI k) vs)) ∧ wx = w') := fun wx hb => impl_saysOk_any _ a2 p2 vs wx (s2.grow hb) m2
  have HW := hide' (shpB_R k hk n vs vK l4)
  have h1 : ¬ (k : Int) < 0 := by omega
  have h2 : ¬ (23 : Int) < (k : Int) := by omega
  have hl3 : vK.length ≤ maxLen := by
    obtain ⟨_, _, e, h, h', _⟩ := h3
    simp at e
    omega
  generalize ascB vK = ab at *
  generalize saysB (saysI k) vs = sb at *
  generalize saysI k = c at *
  generalize mostI k = m at *
  generalize arI k = q at *
  generalize decide (k = 5) = kb at *
  generalize vK.length = l3 at *
  unfold maxLen at hl4 hl3
  clear t0 t1 t2 t3 b0 b1 h3 s2 hT
  cases kb
  all_goals
    go_enter Tryd.func45, Tryd.ntmps45
    go_wp2_with (first
      | (go_at_call 48; refine (HA.out _ (Hb.out _ _)).mono ?_; rintro e w1 ⟨rfl, e1⟩; obtain rfl := e1)
      | (go_at_call 49; refine (HS.out _ (Hb.out _ _)).mono ?_; rintro e w1 ⟨rfl, e1⟩; obtain rfl := e1))
    all_goals
      go_ret
      refine ⟨ret_bool ?_, Hb.out _ _⟩
      rw [HW.out]
      clear HW HA HS Hb u0 u1 u2 u3
      first | (simp [shpR, *]; done) | (simp [shpR, *]; omega)
end Go.Proofs.YtcgmfmdoconecaaDoor
/-
  takes of the program: it counts the parts of an expression, and answers whether all may be: 'goodE'.
-/
namespace Go.Proofs.YtcgmfmdoconecaaDoor
open Go.RowKit
set_option linter.unusedVariables false
set_option linter.unusedSimpArgs false

theorem grownE_fresh {w w1 w2 : World} {r r' : Option Nat} (h : w.grownBy w1 r) (k : w1.grownBy w2 r') (hr : ∀ j, r' = some j → w.heap.size ≤ j) : w.grownBy w2 r :=
  ⟨k.os.trans h.os, k.tape.trans h.tape, k.output.trans h.output, Nat.le_trans h.size k.size, fun i hi hne => (k.block i (Nat.lt_of_lt_of_le hi h.size) (fun e => by have := hr i e.symm; omega)).trans (h.block i hi hne)⟩
theorem grownE_trans {w w1 w2 : World} {r : Option Nat} (h : w.grownBy w1 r) (k : w1.grownBy w2 r) : w.grownBy w2 r :=
  ⟨k.os.trans h.os, k.tape.trans h.tape, k.output.trans h.output, Nat.le_trans h.size k.size, fun i hi hne => (k.block i (Nat.lt_of_lt_of_le hi h.size) hne).trans (h.block i hi hne)⟩
theorem belowE_grown {w w' : World} (h : Below w.heap.size w w') (r : Option Nat) : w.grownBy w' r := ⟨h.os, h.tape, h.output, h.size, fun k hk _ => h.block k hk⟩
theorem agreeE_grown {N q : Nat} {w w' : World} (h : w.grownBy w' (some q)) (hN : N ≤ q) (hq : q < w.heap.size) : Agree (fun b => b < N) w w' := fun b hb => h.block b (by omega) (by simp; omega)

/-- The counter of a tally. -/
def ECnt (w : World) (q : Nat) (n : Nat) : Prop := w.heap[q]? = some (.cells #[.int .i64 n] 59 (0, 0))

theorem ECnt.cell {w : World} {q n : Nat} (h : ECnt w q n) : w.cell? ⟨q, 0, none⟩ = some (.int .i64 n) ∧ w.frozen? ⟨q, 0, none⟩ = false := by
  refine ⟨?_, frozen_of_row w q 0 _ _ h⟩
  rw [cell_of_row w q 0 _ _ (0, 0) h]
  rfl
theorem ECnt.set {w : World} {q n : Nat} (h : ECnt w q n) (m : Nat) : ECnt (w.setCell ⟨q, 0, none⟩ (.int .i64 m)) q m := heap_setCell_same w q 0 _ _ _ h
theorem ECnt.keep {w w' : World} {q n : Nat} {r : Option Nat} (h : ECnt w q n) (hg : w.grownBy w' r) (hr : some q ≠ r) : ECnt w' q n :=
  (hg.block q (Array.getElem?_eq_some_iff.1 h).1 hr).trans h

/-- The contract of takes at depth d. -/
def ETkAt (d : Nat) : Prop := ∀ (N q n : Nat) (c : Value × Value × Value × Value × Value) (v : Vl d) (deep : Nat) (w : World), VSeg (fun b => b < N) w d c v → N ≤ q → q < w.heap.size → ECnt w q n → ShpT w → 0 < N → n ≤ 150 → deep ≤ 11 →
  Calls Tryd.prog 42 #[.pointer (some ⟨q, 0, none⟩), .agg #[c.1, c.2.1, c.2.2.1, c.2.2.2.1, c.2.2.2.2], .int .i64 deep] w fun e w' =>
    w.grownBy w' (some q) ∧ ((e = .returned (.bool true) ∧ goodE d v deep = true ∧ n + partsE d v ≤ 150 ∧ ECnt w' q (n + partsE d v)) ∨ (e = .returned (.bool false) ∧ ¬ (goodE d v deep = true ∧ n + partsE d v ≤ 150)))

/-- What takes has done ahead of the kids: its counter has one more, its argument lies in a box. -/
def EAhead (w : World) (q n : Nat) (o : Obj) (w2 : World) : Prop :=
  w.grownBy w2 (some q) ∧ ECnt w2 q (n + 1) ∧ w2.heap[w.heap.size]? = some o

theorem eahead_of {w : World} {q n : Nat} {o : Obj} {w2 : World} {x : Int} (hx : x = (n : Int) + 1) (hq : q < w.heap.size) (hc : ECnt w q n)
    (hb : Below ((w.setCell ⟨q, 0, none⟩ (.int .i64 x)).alloc o).heap.size ((w.setCell ⟨q, 0, none⟩ (.int .i64 x)).alloc o) w2) :
    EAhead w q n o w2 := by
  subst hx
  have hg := grown1 w q 0 (.int .i64 ((n : Int) + 1))
  have hcs : ECnt (w.setCell ⟨q, 0, none⟩ (.int .i64 ((n : Int) + 1))) q (n + 1) := hc.set (n + 1)
  have hsz : (w.setCell ⟨q, 0, none⟩ (.int .i64 ((n : Int) + 1))).heap.size = w.heap.size := by simp [World.setCell]
  have hal := World.grownBy_alloc (w.setCell ⟨q, 0, none⟩ (.int .i64 ((n : Int) + 1))) o none
  have hb2 := belowE_grown hb none
  have hnew := (MapKept.heap_alloc (w.setCell ⟨q, 0, none⟩ (.int .i64 ((n : Int) + 1))) o).1
  rw [hsz] at hnew
  refine ⟨grownE_fresh (grownE_fresh hg hal (by simp)) hb2 (by simp), (hcs.keep hal (by simp)).keep hb2 (by simp), (hb2.block w.heap.size (by simp [hsz]) (by simp)).trans hnew⟩

set_option maxHeartbeats 4000000 in
set_option maxRecDepth 100000 in
theorem takes_over (q n : Nat) (vk vn : Int) (a2 a3 a4 : Option Addr) (l2 l3 l4 p2 p3 p4 : Nat) (deep : Nat) (w : World) (hq : q < w.heap.size) (hc : ECnt w q n) (hn : n ≤ 150) (hd : deep ≤ 11) (h : n = 150 ∨ 10 < deep) :
    Calls Tryd.prog 42 #[.pointer (some ⟨q, 0, none⟩), .agg #[.int .i64 vk, .int .i64 vn, .slice a2 l2 p2, .slice a3 l3 p3, .slice a4 l4 p4], .int .i64 deep] w fun e w' => w.grownBy w' (some q) ∧ e = .returned (.bool false) := by
  have HA : Hid (ECnt w q n) := hc
  obtain ⟨hc0, hf0⟩ := hc.cell
  have hne : q ≠ w.heap.size := by omega
  clear hc
  by_cases hn1 : n = 150
  · subst hn1
    go_enter Tryd.func42, Tryd.ntmps42
    go_wp2
    go_ret
    exact ⟨(eahead_of (n := 150) rfl hq HA.out (Below.refl _ _)).1, rfl⟩
  · have hnn : ¬ (150 : Int) < (n : Int) + 1 := by omega
    have hdd : (10 : Int) < (deep : Int) := by omega
    go_enter Tryd.func42, Tryd.ntmps42
    go_wp2
    go_ret
    exact ⟨(eahead_of rfl hq HA.out (Below.refl _ _)).1, rfl⟩

/-- What holds ahead of the round k of takes. -/
def TK (d : Nat) (vL : List (Vl d)) (deep n q : Nat) (w wr : World) (o : Obj) (k : Nat) : Prop :=
  k ≤ vL.length ∧ n + 1 + pre (partsE d) vL k ≤ 150 ∧ ECnt wr q (n + 1 + pre (partsE d) vL k) ∧ w.grownBy wr (some q) ∧ wr.heap[w.heap.size]? = some o ∧ ∀ j (h : j < vL.length), j < k → goodE d vL[j] (deep + 1) = true

set_option maxHeartbeats 8000000 in
set_option maxRecDepth 100000 in
theorem takes_succ (d : Nat) (ih : ETkAt d) : ETkAt (d + 1) := by
  intro N q n c v deep w hv hNq hq hc hT hgN hn hd
  obtain ⟨c0, c1, c2, c3, c4⟩ := c
  obtain ⟨vk, vn, vs, vK, vL⟩ := v
  obtain ⟨e0, e1, ht, hk, hl⟩ := (VSeg_succ _ _ _ _ _).1 hv
  simp only at e0 e1 ht hk hl
  subst e0
  subst e1
  clear hv
  simp only
  have HK := hide' hk
  have HL := hide' hl
  obtain ⟨a2, p2, rfl, s2, l2, m2, _, r2⟩ := ht
  obtain ⟨a3, p3, rfl, _, _, _, _⟩ := hk
  obtain ⟨a4, p4, rfl, hlc4, hcm4, _, _⟩ := hl
  by_cases h0 : n = 150 ∨ 10 < deep
  · refine (takes_over q n vk vn a2 a3 a4 _ _ _ p2 p3 p4 deep w hq hc hn hd h0).mono ?_
    rintro e w1 ⟨hg, rfl⟩
    refine ⟨hg, .inr ⟨rfl, ?_⟩⟩
    rintro ⟨h1, h2⟩
    have := ((goodE_succ _ _ _ _ _ _ _).1 h1).1
    have := partsE_pos d (vk, vn, vs, vK, vL)
    omega
  have hn1 : n < 150 := by omega
  have hd1 : deep ≤ 10 := by omega
  -- what shaped answers, in a world in which the counter has turned
  have HSh : Hid (∀ wx, Agree (fun b => b < N) w wx → w.heap.size ≤ wx.heap.size → Calls Tryd.prog 45 #[.agg #[.int .i64 vk, .int .i64 vn, .slice a2 vs.length p2, .slice a3 vK.length p3, .slice a4 vL.length p4]] wx fun e w' => e = .returned (.bool (shpB vk vn vs vK vL.length)) ∧ Below wx.heap.size wx w') := by
    intro wx ha hsz
    by_cases hr : vk < 0 ∨ 23 < vk
    · refine (shaped_out vk vn _ _ _ wx hr).mono ?_
      rintro e w' ⟨rfl, hb⟩
      refine ⟨ret_bool ?_, hb⟩
      rcases hr with hr | hr
      · have h1 : ¬ (0 : Int) ≤ vk := by omega
        simp [shpB, h1]
      · have h1 : ¬ vk ≤ 23 := by omega
        simp [shpB, h1]
    · obtain ⟨k, rfl⟩ : ∃ k : Nat, vk = k := ⟨vk.toNat, by omega⟩
      have hs : Seg wx a2 vs := by
        refine ⟨s2.1, ?_⟩
        rcases s2.2 with h0 | ⟨b, off, rfl, hcc⟩
        · exact .inl h0
        · by_cases he : vs = []
          · exact .inl he
          · exact .inr ⟨b, off, rfl, fun i hi => (cell_agree ha (r2 _ rfl he)).trans (hcc i hi)⟩
      exact shaped_in (fun _ => True) k (by omega) vn a2 a3 a4 p2 p3 p4 vL.length vs vK wx (hT.agree ha hgN) hs (by omega) ((HK.out.agree ha).mono (fun b hb => by omega)) (by omega)
  have HA : Hid (ECnt w q n) := hc
  obtain ⟨hc0, hf0⟩ := hc.cell
  have hne : q ≠ w.heap.size := by omega
  have hnn : ¬ (150 : Int) < (n : Int) + 1 := by omega
  have hdd : ¬ (10 : Int) < (deep : Int) := by omega
  have HAg : Hid (∀ (x : Int) (o : Obj), Agree (fun b => b < N) w ((w.setCell ⟨q, 0, none⟩ (.int .i64 x)).alloc o) ∧ w.heap.size ≤ ((w.setCell ⟨q, 0, none⟩ (.int .i64 x)).alloc o).heap.size) := by
    intro x o
    have hg := grownE_fresh (grown1 w q 0 (.int .i64 x)) (World.grownBy_alloc (w.setCell ⟨q, 0, none⟩ (.int .i64 x)) o none) (by simp)
    exact ⟨agreeE_grown hg hNq hq, hg.size⟩
  have HT := hide' hT
  have HI := hide' ih
  have Hd1 := hide' hd1
  clear hc hT ih s2
  cases hb : shpB vk vn vs vK vL.length with
  | false =>
    have HF : Hid (¬ (goodE (d + 1) (vk, vn, vs, vK, vL) deep = true ∧ n + partsE (d + 1) (vk, vn, vs, vK, vL) ≤ 150)) := fun ⟨h1, _⟩ => by
      have := ((goodE_succ _ _ _ _ _ _ _).1 h1).2.1
      rw [hb] at this
      simp at this
    rw [hb] at HSh
    clear hb
    go_enter Tryd.func42, Tryd.ntmps42
    go_wp2_with fail
    refine (HSh.out _ (HAg.out _ _).1 (HAg.out _ _).2).mono ?_
    rintro e w2 ⟨rfl, b2⟩
    have hA := hide' (eahead_of rfl hq HA.out b2)
    clear b2
    go_wp2
    go_ret
    exact ⟨hA.out.1, .inr ⟨rfl, HF.out⟩⟩
  | true =>
    rw [hb] at HSh
    have Hshp := hide' hb
    clear hb
    obtain ⟨ob, HOb⟩ : ∃ ob, Hid (ob = Obj.cells #[.int .i64 vk, .int .i64 vn, .slice a2 vs.length p2, .slice a3 vK.length p3, .slice a4 vL.length p4] 31) := ⟨_, rfl⟩
    unfold maxLen at hcm4
    go_enter Tryd.func42, Tryd.ntmps42
    go_wp2_with fail
    refine (HSh.out _ (HAg.out _ _).1 (HAg.out _ _).2).mono ?_
    rintro e w2 ⟨rfl, b2⟩
    have hA := eahead_of rfl hq HA.out b2
    have hrow := hA.2.2
    obtain ⟨y0, y1, y2, y3, y4, _⟩ := row5 hrow
    rw [← HOb.out] at hA
    have H0 : Hid (TK d vL deep n q w w2 ob 0) := ⟨Nat.zero_le _, by rw [pre_zero]; omega, by rw [pre_zero]; exact hA.2.1, hA.1, hA.2.2, fun j _ h => by omega⟩
    clear b2 hA hrow HSh HAg
    go_wp2
    go_loopw [33] (fun i wr => ∃ k : Nat, i = .int .i64 k ∧ TK d vL deep n q w wr ob k) (fun i _ => vL.length - (intOf i).toNat)
    case atStart => exact ⟨0, rfl, H0.out⟩
    case round =>
      clear y0 y1 y2 y3 y4 H0
      obtain ⟨k, rfl, hT⟩ := hrel
      have HTk := hide' hT
      obtain ⟨hk, hple, hcnt, hgr, hbox, hgood⟩ := hT
      clear hgood
      by_cases hlt : k < vL.length
      · have hlt' : (k : Int) < (vL.length : Int) := by omega
        have hag := agreeE_grown hgr hNq hq
        have hcell : ∃ b off c, a4 = some ⟨b, off, none⟩ ∧ Five wr b (off + k * 5) c ∧ VSeg (fun b => b < N) wr d c (vL[k]) := by
          obtain ⟨a', cap', e1, _, _, _, h5⟩ := HL.out
          simp only [Value.slice.injEq] at e1
          obtain ⟨rfl, _, _⟩ := e1
          rcases h5 with h0 | ⟨b, off, rfl, hR, hcc⟩
          · rw [h0] at hlt; simp at hlt
          · obtain ⟨c, h5, hv⟩ := hcc k hlt
            exact ⟨b, off, c, rfl, h5.agree hag hR, VSeg.agree hag d hv⟩
        obtain ⟨b, off, c, rfl, h5', hv⟩ := hcell
        obtain ⟨c0, c1, c2, c3, c4⟩ := c
        obtain ⟨q0, q1, q2, q3, q4⟩ := h5'
        simp only at q0 q1 q2 q3 q4
        have hs := hgr.size
        obtain ⟨ck, cn, s2, l2', e2, s3, l3, e3, s4, l4, e4, rfl, rfl, rfl, rfl, rfl⟩ := VSeg.form d hv
        have hgW := World.grownBy_alloc wr (.cells #[.int .i64 ck, .int .i64 cn, .slice s2 l2' e2, .slice s3 l3 e3, .slice s4 l4 e4] 31) none
        have hC := HI.out N q (n + 1 + pre (partsE d) vL k) _ vL[k] (deep + 1) _ (VSeg.agree (fun b hb => hgW.block b (by omega) (by simp)) d hv) hNq (by simp; omega) (hcnt.keep hgW (by simp)) ((HT.out.agree hag hgN).below ((Below.refl _ _).alloc (Nat.le_refl _) _)) hgN hple (by have := Hd1.out; omega)
        rw [Int.natCast_add] at hC
        have HC := hide' hC
        have HgW := hide' (grownE_fresh hgr hgW (by simp))
        have hszW : wr.heap.size < (wr.alloc (.cells #[.int .i64 ck, .int .i64 cn, .slice s2 l2' e2, .slice s3 l3 e3, .slice s4 l4 e4] 31)).heap.size := by simp
        have HboxW : Hid ((wr.alloc (.cells #[.int .i64 ck, .int .i64 cn, .slice s2 l2' e2, .slice s3 l3 e3, .slice s4 l4 e4] 31)).heap[w.heap.size]? = some ob) := (hgW.block _ (Array.getElem?_eq_some_iff.1 hbox).1 (by simp)).trans hbox
        have hltb := (Array.getElem?_eq_some_iff.1 hbox).1
        have HszW := hide' hszW
        clear hv hag hgr hC hgW hbox hcnt hszW
        go_wp2_with fail
        refine HC.out.mono ?_
        rintro e w1 ⟨hg1, hcase⟩
        clear q0 q1 q2 q3 q4
        have HG1 := hide' (grownE_trans HgW.out hg1)
        have HB1 : Hid (w1.heap[w.heap.size]? = some ob) := (hg1.block _ (by have := HszW.out; omega) (by simp; omega)).trans HboxW.out
        have hps := hide' (pre_succ (partsE d) vL k hlt)
        rcases hcase with ⟨rfl, hgd, hpl, hcn⟩ | ⟨rfl, hbad⟩
        · have HN : Hid (TK d vL deep n q w w1 ob (k + 1)) := by
            refine ⟨hlt, by rw [hps.out]; omega, by rw [hps.out, ← Nat.add_assoc]; exact hcn, HG1.out, HB1.out, fun j hj hjk => ?_⟩
            by_cases e : j = k
            · subst e; exact hgd
            · exact HTk.out.2.2.2.2.2 j hj (by omega)
          clear hg1 hgd hpl hcn
          go_wp2
          go_roundw
          case rel => exact ⟨k + 1, by go_num, HN.out⟩
          case measure => simp [intOf]; omega
        · have HF : Hid (¬ (goodE (d + 1) (vk, vn, vs, vK, vL) deep = true ∧ n + partsE (d + 1) (vk, vn, vs, vK, vL) ≤ 150)) := fun ⟨h1, h2⟩ => by
            refine hbad ⟨((goodE_succ _ _ _ _ _ _ _).1 h1).2.2 k hlt, ?_⟩
            rw [partsE_succ] at h2
            have h4 := pre_le (partsE d) vL (k + 1)
            have h5 := pre_all (partsE d) vL
            have h6 := hps.out
            omega
          clear hg1 hbad
          go_wp2
          go_ret
          exact ⟨HG1.out, .inr ⟨rfl, HF.out⟩⟩
      · have hkn : k = vL.length := by omega
        have hlt' : ¬ (k : Int) < (vL.length : Int) := by omega
        have HF : Hid (goodE (d + 1) (vk, vn, vs, vK, vL) deep = true ∧ n + partsE (d + 1) (vk, vn, vs, vK, vL) ≤ 150 ∧ ECnt wr q (n + partsE (d + 1) (vk, vn, vs, vK, vL))) := by
          have hp := partsE_succ d vk vn vs vK vL
          obtain ⟨_, g2, g3, _, _, g6⟩ := HTk.out
          rw [hkn] at g2 g3
          refine ⟨(goodE_succ _ _ _ _ _ _ _).2 ⟨Hd1.out, Hshp.out, fun j h => g6 j h (by omega)⟩, by rw [hp]; omega, ?_⟩
          rw [hp, ← Nat.add_assoc]
          exact g3
        have HG := hide' hgr
        clear hkn hgr hcnt hbox
        go_wp2
        go_ret
        exact ⟨HG.out, .inl ⟨rfl, HF.out⟩⟩

theorem takes_any (d : Nat) : ETkAt d := by
  induction d with
  | zero => intro N q n c v deep w hv; exact hv.elim
  | succ d ih => exact takes_succ d ih

end Go.Proofs.YtcgmfmdoconecaaDoor
