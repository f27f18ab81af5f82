/-
  Texts that a law leans on, one behind the other; no statement is proved here.
-/
import Derived.Test.YtfokidhamjphfaaDoorPk33
/-
  shaped of the program: what it answers where the table of shapes lies as it was laid: 'shpB'.
-/
namespace Go.Proofs.YtfokidhamjphfaaDoor
open Go.RowKit
set_option linter.unusedVariables false
set_option linter.unusedSimpArgs false

/-- The table of shapes lies in its variable's block. -/
def ShpT (w : World) : Prop := ∀ k : Nat, k < 24 → w.cell? ⟨0, k * 4, none⟩ = some (.int .i64 (mostI k)) ∧ w.cell? ⟨0, k * 4 + 1, none⟩ = some (.int .i64 (saysI k)) ∧
  w.cell? ⟨0, k * 4 + 2, none⟩ = some (.bool (decide (k = 5))) ∧ w.cell? ⟨0, k * 4 + 3, none⟩ = some (.int .i64 (arI k))

theorem ShpT.lt {w : World} (h : ShpT w) : 0 < w.heap.size := World.block_lt_of_cell? w _ (h 0 (by omega)).1

theorem ShpT.below {w w' : World} (h : ShpT w) (hb : Below w.heap.size w w') : ShpT w' := fun k hk => by
  obtain ⟨h0, h1, h2, h3⟩ := h k hk
  have hl := h.lt
  exact ⟨(hb.cell (p := ⟨0, k * 4, none⟩) hl).trans h0, (hb.cell (p := ⟨0, k * 4 + 1, none⟩) hl).trans h1, (hb.cell (p := ⟨0, k * 4 + 2, none⟩) hl).trans h2, (hb.cell (p := ⟨0, k * 4 + 3, none⟩) hl).trans h3⟩

theorem ShpT.agree {R : Nat → Prop} {w w' : World} (h : ShpT w) (ha : Agree R w w') (hR : R 0) : ShpT w' := fun k hk => by
  obtain ⟨h0, h1, h2, h3⟩ := h k hk
  exact ⟨(cell_agree ha hR).trans h0, (cell_agree ha hR).trans h1, (cell_agree ha hR).trans h2, (cell_agree ha hR).trans h3⟩

set_option maxHeartbeats 1600000 in
theorem shaped_out (k n : Int) (c2 c3 c4 : Value) (w : World) (h : k < 0 ∨ 23 < k) :
    Calls Tryd.prog 58 #[.agg #[.int .i64 k, .int .i64 n, c2, c3, c4]] w fun e w' => e = .returned (.bool false) ∧ Below w.heap.size w w' := by
  have b0 : ∀ o : Obj, Below w.heap.size w (w.alloc o) := fun o => (Below.refl _ _).alloc (Nat.le_refl _) o
  have Hb := hide' b0
  clear b0
  rcases h with h | h
  all_goals
    go_enter Tryd.func58, Tryd.ntmps58
    go_wp2
    go_ret
    exact ⟨rfl, Hb.out _⟩

/-- What shaped answers, of numbers. -/
def shpR (kb : Bool) (q m n : Int) (l3 l4 : Nat) (ab sb : Bool) : Bool :=
  (if kb then decide (l3 = l4) && ab else decide (l3 = 0)) && (decide (q = -1) || decide (q = l4)) && decide (0 ≤ n) && decide (n ≤ m) && sb

theorem shpB_R (k : Nat) (hk : k < 24) (n : Int) (vs : List Int) (vK : List (List Int)) (l4 : Nat) :
    shpB k n vs vK l4 = shpR (decide (k = 5)) (arI k) (mostI k) n vK.length l4 (ascB vK) (saysB (saysI k) vs) := by
  have h1 : (0 : Int) ≤ (k : Int) := by omega
  have h2 : (k : Int) ≤ 23 := by omega
  have h3 : ((k : Int) = 5) ↔ k = 5 := by omega
  simp [shpB, shpR, keysB, kidsB, h1, h2, h3]

set_option maxHeartbeats 4000000 in
theorem shaped_in (R : Nat → Prop) (k : Nat) (hk : k < 24) (n : Int) (a2 a3 a4 : Option Addr) (p2 p3 p4 l4 : Nat) (vs : List Int) (vK : List (List Int)) (w : World) (hT : ShpT w) (s2 : Seg w a2 vs) (m2 : vs.length ≤ maxLen)
    (h3 : KSeg (fun b => b < w.heap.size) w (.slice a3 vK.length p3) vK) (hl4 : l4 ≤ maxLen) :
    Calls Tryd.prog 58 #[.agg #[.int .i64 k, .int .i64 n, .slice a2 vs.length p2, .slice a3 vK.length p3, .slice a4 l4 p4]] w fun e w' => e = .returned (.bool (shpB k n vs vK l4)) ∧ Below w.heap.size w w' := by
  have b0 : ∀ o : Obj, Below w.heap.size w (w.alloc o) := fun o => (Below.refl _ _).alloc (Nat.le_refl _) o
  have b1 : ∀ o o' : Obj, Below w.heap.size w ((w.alloc o).alloc o') := fun o o' => (b0 o).alloc (by simp) o'
  have Hb := hide' b1
  have hlt := hT.lt
  obtain ⟨t0, t1, t2, t3⟩ := hT k hk
  have u0 : ∀ o : Obj, (w.alloc o).cell? ⟨0, k * 4, none⟩ = some (.int .i64 (mostI k)) := fun o => ((b0 o).cell (p := ⟨0, k * 4, none⟩) hlt).trans t0
  have u1 : ∀ o : Obj, (w.alloc o).cell? ⟨0, k * 4 + 1, none⟩ = some (.int .i64 (saysI k)) := fun o => ((b0 o).cell (p := ⟨0, k * 4 + 1, none⟩) hlt).trans t1
  have u2 : ∀ o : Obj, (w.alloc o).cell? ⟨0, k * 4 + 2, none⟩ = some (.bool (decide (k = 5))) := fun o => ((b0 o).cell (p := ⟨0, k * 4 + 2, none⟩) hlt).trans t2
  have u3 : ∀ o : Obj, (w.alloc o).cell? ⟨0, k * 4 + 3, none⟩ = some (.int .i64 (arI k)) := fun o => ((b0 o).cell (p := ⟨0, k * 4 + 3, none⟩) hlt).trans t3
  have HA : Hid (∀ wx, Below w.heap.size w wx → Calls Tryd.prog 69 #[.slice a3 vK.length p3] wx fun e w' => e = .returned (.bool (ascB vK)) ∧ wx = w') := fun wx hb => ascendingNames_any _ _ vK wx (h3.agree (agree_below hb))
  have HS : Hid (∀ wx, Below w.heap.size w wx → Calls Tryd.prog 70 #[.int .i64 (saysI k), .slice a2 vs.length p2] wx fun e w' => e = .returned (.bool (saysB (saysI k) vs)) ∧ wx = w') := fun wx hb => impl_saysOk_any _ a2 p2 vs wx (s2.grow hb) m2
  have HW := hide' (shpB_R k hk n vs vK l4)
  have h1 : ¬ (k : Int) < 0 := by omega
  have h2 : ¬ (23 : Int) < (k : Int) := by omega
  have hl3 : vK.length ≤ maxLen := by
    obtain ⟨_, _, e, h, h', _⟩ := h3
    simp at e
    omega
  generalize ascB vK = ab at *
  generalize saysB (saysI k) vs = sb at *
  generalize saysI k = c at *
  generalize mostI k = m at *
  generalize arI k = q at *
  generalize decide (k = 5) = kb at *
  generalize vK.length = l3 at *
  unfold maxLen at hl4 hl3
  clear t0 t1 t2 t3 b0 b1 h3 s2 hT
  cases kb
  all_goals
    go_enter Tryd.func58, Tryd.ntmps58
    go_wp2_with (first
      | (go_at_call 69; refine (HA.out _ (Hb.out _ _)).mono ?_; rintro e w1 ⟨rfl, e1⟩; obtain rfl := e1)
      | (go_at_call 70; refine (HS.out _ (Hb.out _ _)).mono ?_; rintro e w1 ⟨rfl, e1⟩; obtain rfl := e1))
    all_goals
      go_ret
      refine ⟨ret_bool ?_, Hb.out _ _⟩
      rw [HW.out]
      clear HW HA HS Hb u0 u1 u2 u3
      first | (simp [shpR, *]; done) | (simp [shpR, *]; omega)
end Go.Proofs.YtfokidhamjphfaaDoor
