/-
  Texts that a law leans on, one behind the other; no statement is proved here.
-/
import Derived.Test.YteafpgaefphkfaaGreatDoorPk19
import Derived.Test.YteafpgaefphkfaaGreatDoorPk11
/-
  l2ok of the specification at lists and maps.
-/
namespace Go.Proofs.YteafpgaefphkfaaGreatDoor
open Go.RowKit
set_option linter.unusedVariables false
set_option linter.unusedSimpArgs false

/-- What holds ahead of the round k of l2ok. -/
def L2K (d : Nat) (vL : List (Vl d)) (deep : Nat) (left : Int) (k : Nat) (l : Value) : Prop :=
  k ≤ vL.length ∧ l = .int .i64 (left - 1 - pre (partsV d) vL k) ∧ (pre (partsV d) vL k : Int) ≤ left - 1 ∧ ∀ j (h : j < vL.length), j < k → goodB d vL[j] (deep + 1) = true

theorem L2K_zero {d : Nat} {vL : List (Vl d)} {deep : Nat} {left : Int} (h : 1 ≤ left) : L2K d vL deep left 0 (.int .i64 (left - 1)) :=
  ⟨Nat.zero_le _, by rw [pre_zero]; simp, by rw [pre_zero]; simp; omega, fun j _ h => by omega⟩

theorem L2K_succ {d : Nat} {vL : List (Vl d)} {deep : Nat} {left : Int} {k : Nat} {l : Value} (h : L2K d vL deep left k l) (hk : k < vL.length) (hg : goodB d vL[k] (deep + 1) = true) (hp : (partsV d vL[k] : Int) ≤ left - 1 - pre (partsV d) vL k) :
    L2K d vL deep left (k + 1) (.int .i64 (left - 1 - pre (partsV d) vL k - partsV d vL[k])) := by
  have h3 := pre_succ (partsV d) vL k hk
  refine ⟨hk, by rw [h3]; simp; omega, by rw [h3]; simp; omega, fun j hj hjk => ?_⟩
  by_cases e : j = k
  · subst e; exact hg
  · exact h.2.2.2 j hj (by omega)

set_option maxHeartbeats 4000000 in
set_option maxRecDepth 100000 in
theorem l2ok_list (d : Nat) (ih : OkAt d) (N : Nat) (vL : List (Vl d)) (a2 a3 : Option Addr) (p2 p3 : Nat) (x : Value) (deep : Nat) (left : Int) (w : World) (hx : LSeg (fun b => b < N) w d x vL) (hN : N ≤ w.heap.size) (h1 : 1 ≤ left) (h2 : left ≤ 40) (h3 : deep ≤ 5) :
    Calls Tryz.prog 30 #[.agg #[.int .i64 4, .int .i64 0, .slice a2 0 p2, .slice a3 0 p3, x], .int .i64 deep, .int .i64 left] w fun e w' => e = .returned (.int .i64 (okI (d + 1) (4, 0, [], [], vL) deep left)) ∧ Below w.heap.size w w' := by
  have HX := hide' hx
  obtain ⟨a4, p4, rfl, hlc, hcm, ka, _⟩ := hx
  unfold maxLen at hcm
  have b0 : ∀ o : Obj, Below w.heap.size w (w.alloc o) := fun o => (Below.refl _ _).alloc (Nat.le_refl _) o
  have h4 : ¬ left - 1 < 0 := by omega
  have h5 : ¬ (5 : Int) < (deep : Int) := by omega
  have HI := hide' ih
  have Hb := hide' b0
  have H3 := hide' h3
  have H1 := hide' h1
  generalize hO : Obj.cells #[.int .i64 4, .int .i64 0, .slice a2 0 p2, .slice a3 0 p3, .slice a4 vL.length p4] 29 = ob
  have HOb := hide' hO
  clear ih b0 hO
  go_enter Tryz.func30, Tryz.ntmps30
  go_wp2
  go_loopw [2, 7] (fun l i wr => ∃ k : Nat, i = .int .i64 k ∧ L2K d vL deep left k l ∧ Hid (Below (w.alloc ob).heap.size (w.alloc ob) wr)) (fun _ i _ => vL.length - (intOf i).toNat)
  case atStart => exact ⟨0, rfl, L2K_zero H1.out, by rw [← HOb.out]; exact Below.refl _ _⟩
  case round =>
    obtain ⟨k, rfl, hK, hbel⟩ := hrel
    have hHK := hide' hK
    obtain ⟨hk, rfl, hple, _⟩ := hK
    have hrow := box_row hbel.out
    rw [← HOb.out] at hrow
    obtain ⟨y0, y1, y2, y3, y4, _⟩ := row5 hrow
    have B := Below.on (Hb.out ob) hbel.out
    clear hrow
    by_cases hlt : k < vL.length
    · have hlt' : (k : Int) < (vL.length : Int) := by omega
      obtain ⟨b, off, c, rfl, h5', hv⟩ := HX.out.at B hN hlt
      obtain ⟨c0, c1, c2, c3, c4⟩ := c
      obtain ⟨q0, q1, q2, q3, q4⟩ := h5'
      simp only at q0 q1 q2 q3 q4
      have hz := B.size
      have HC : Hid (∀ wx, Below w.heap.size w wx → Calls Tryz.prog 30 #[.agg #[c0, c1, c2, c3, c4], .int .i64 ((deep : Int) + 1), .int .i64 (left - 1 - pre (partsV d) vL k)] wx fun e w' => e = .returned (.int .i64 (okI d vL[k] (deep + 1) (left - 1 - pre (partsV d) vL k))) ∧ Below wx.heap.size wx w') := by
        intro wx hx
        have := HI.out N (c0, c1, c2, c3, c4) vL[k] (deep + 1) (left - 1 - pre (partsV d) vL k) wx (hv wx hx) (by have := hx.size; omega) (by omega) (by omega) (by omega)
        rw [Int.natCast_add] at this
        exact this
      have HN : Hid (¬ (goodB d vL[k] (deep + 1) = true ∧ (partsV d vL[k] : Int) ≤ left - 1 - pre (partsV d) vL k) → okI (d + 1) (4, 0, [], [], vL) deep left = -1) := fun h => okI_kid hlt h
      have HS : Hid (goodB d vL[k] (deep + 1) = true → (partsV d vL[k] : Int) ≤ left - 1 - pre (partsV d) vL k → L2K d vL deep left (k + 1) (.int .i64 (left - 1 - pre (partsV d) vL k - partsV d vL[k]))) := fun h h' => L2K_succ hHK.out hlt h h'
      by_cases hg : goodB d vL[k] (deep + 1) = true ∧ (partsV d vL[k] : Int) ≤ left - 1 - pre (partsV d) vL k
      · rw [okI_yes hg.1 hg.2] at HC
        have HF := hide' (HS.out hg.1 hg.2)
        have hnn : ¬ (left - 1 - pre (partsV d) vL k - partsV d vL[k] < 0) := by omega
        have hup : left - 1 - pre (partsV d) vL k - partsV d vL[k] ≤ 40 := by omega
        generalize partsV d vL[k] = q at *
        generalize pre (partsV d) vL k = p at *
        clear HN HS hg hv
        go_wp2_with fail
        go_quiet (fail)
        go_wp2_with fail
        refine (HC.out _ (below_drewN B _)).mono ?_
        rintro e w1 ⟨rfl, b1⟩
        have B1 : Hid (Below (w.alloc ob).heap.size (w.alloc ob) w1) := Below.on (below_drewN hbel.out _) b1
        clear q0 q1 q2 q3 q4 b1
        go_wp2
        go_roundw
        case rel => exact ⟨k + 1, by go_num, HF.out, B1⟩
        case measure => simp [intOf]; omega
      · rw [okI_no hg] at HC
        have HF := hide' (HN.out hg)
        generalize pre (partsV d) vL k = p at *
        clear HN HS hg hv
        go_wp2_with fail
        go_quiet (fail)
        go_wp2_with fail
        refine (HC.out _ (below_drewN B _)).mono ?_
        rintro e w1 ⟨rfl, b1⟩
        have B1 : Below w.heap.size w w1 := Below.on (below_drewN B _) b1
        clear q0 q1 q2 q3 q4 b1
        go_wp2
        go_ret
        exact ⟨ret_i64 (by rw [HF.out]), B1⟩
    · have hkn : k = vL.length := by omega
      have hlt' : ¬ (k : Int) < (vL.length : Int) := by omega
      have HF : Hid (okI (d + 1) (4, 0, [], [], vL) deep left = left - 1 - pre (partsV d) vL k) := by
        show okI (d + 1) (4, 0, [], [], vL) deep left = _
        rw [okI_all H3.out (by simp [shapeB, bareB]) (fun j h => hHK.out.2.2.2 j h (by omega)) (by rw [← hkn]; exact hple), ← hkn]
      clear hkn
      go_wp2
      go_ret
      exact ⟨ret_i64 (by rw [HF.out]), B⟩
end Go.Proofs.YteafpgaefphkfaaGreatDoor
