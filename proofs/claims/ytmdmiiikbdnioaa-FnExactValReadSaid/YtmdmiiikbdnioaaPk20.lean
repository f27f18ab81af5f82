/-
  Texts that a law leans on, one behind the other; no statement is proved here.
-/
import Derived.Test.YtmdmiiikbdnioaaPk16
import Derived.Test.YtmdmiiikbdnioaaPk19
/-
  l2ok and ValOk of the specification, at every value.
-/
namespace Go.Proofs.Ytmdmiiikbdnioaa
open Go.RowKit
set_option linter.unusedVariables false
set_option linter.unusedSimpArgs false

theorem okI_leaf_sel {d : Nat} {vk vn : Int} {vs : List Int} {vK : List (List Int)} {deep : Nat} {left : Int} (p : Bool) (h1 : deep ≤ 5) (h2 : shapeB vk vn vs vK 0 = p) (h4 : 1 ≤ left) : okI (d + 1) (vk, vn, vs, vK, []) deep left = sel p (left - 1) := by
  cases p with
  | true => rw [okI_leaf h1 h2 h4]; rfl
  | false => rw [okI_shape (d := d) (vL := []) deep left (by simpa using h2)]; rfl

set_option maxHeartbeats 1600000 in
theorem l2ok_succ (d : Nat) (ih : OkAt d) : OkAt (d + 1) := by
  intro N c v deep left w hv hN hd h0 h1
  obtain ⟨c0, c1, c2, c3, c4⟩ := c
  obtain ⟨vk, vn, vs, vK, vL⟩ := v
  obtain ⟨e0, e1, ht, hk, hl⟩ := (VSeg_succ _ _ _ _ _).1 hv
  simp only at e0 e1 ht hk hl
  subst e0
  subst e1
  clear hv
  simp only
  have HK := hk
  have HL := hl
  obtain ⟨a2, p2, rfl, s2, l2, m2, _, _⟩ := ht
  obtain ⟨a3, p3, rfl, _, _, _, _⟩ := hk
  obtain ⟨a4, p4, rfl, _, _, _, _⟩ := hl
  by_cases q1 : left < 1
  · exact (l2ok_left _ _ _ _ _ _ _ _ _ _ _ deep left w q1 h0).mono fun e w' h => ⟨h.1.trans (ret_i64 (okI_left _ deep q1).symm), h.2⟩
  by_cases q2 : 5 < deep
  · exact (l2ok_deep _ _ _ _ _ _ _ _ _ _ _ deep left w (by omega) h1 q2).mono fun e w' h => ⟨h.1.trans (ret_i64 (okI_deep _ left q2).symm), h.2⟩
  by_cases q3 : bareB vk vn vs.length vK.length vL.length = false
  · exact (l2ok_bare _ _ _ _ _ _ _ _ _ _ _ deep left w (by omega) h1 (by omega) q3).mono fun e w' h => ⟨h.1.trans (ret_i64 (okI_bare deep left q3).symm), h.2⟩
  have q4 : bareB vk vn vs.length vK.length vL.length = true := by simpa using q3
  have hL1 : 1 ≤ left := by omega
  have hD1 : deep ≤ 5 := by omega
  clear q1 q2 q3
  by_cases k0 : vk = 0 ∨ vk = 6
  · have : vn = 0 ∧ vs = [] ∧ vK = [] ∧ vL = [] := by rcases k0 with rfl | rfl <;> · simp [bareB] at q4; simpa [and_assoc] using q4
    obtain ⟨rfl, rfl, rfl, rfl⟩ := this
    exact (l2ok_null vk k0 _ _ _ _ _ _ deep left w hL1 h1 hD1).mono fun e w' h => ⟨h.1.trans (ret_i64 (okI_leaf_sel true hD1 (by rcases k0 with rfl | rfl <;> simp [shapeB, bareB]) hL1).symm), h.2⟩
  by_cases k1 : vk = 1
  · subst k1
    have : vs = [] ∧ vK = [] ∧ vL = [] := by simp [bareB] at q4; simpa [and_assoc] using q4
    obtain ⟨rfl, rfl, rfl⟩ := this
    exact (l2ok_bool vn _ _ _ _ _ _ deep left w hL1 h1 hD1).mono fun e w' h => ⟨h.1.trans (ret_i64 (okI_leaf_sel (decide (vn = 0) || decide (vn = 1)) hD1 (by simp [shapeB, bareB]) hL1).symm), h.2⟩
  by_cases k2 : vk = 2
  · subst k2
    have : vs = [] ∧ vK = [] ∧ vL = [] := by simp [bareB] at q4; simpa [and_assoc] using q4
    obtain ⟨rfl, rfl, rfl⟩ := this
    exact (l2ok_int vn _ _ _ _ _ _ deep left w hL1 h1 hD1).mono fun e w' h => ⟨h.1.trans (ret_i64 (okI_leaf_sel (intB vn) hD1 (by simp [shapeB, bareB]) hL1).symm), h.2⟩
  by_cases k3 : vk = 3
  · subst k3
    have : vn = 0 ∧ vK = [] ∧ vL = [] := by simp [bareB] at q4; simpa [and_assoc] using q4
    obtain ⟨rfl, rfl, rfl⟩ := this
    exact (l2ok_text vs _ _ _ _ _ _ deep left w s2 (by omega) hL1 h1 hD1).mono fun e w' h => ⟨h.1.trans (ret_i64 (okI_leaf_sel (textB vs) hD1 (by simp [shapeB, bareB]) hL1).symm), h.2⟩
  by_cases k4 : vk = 4
  · subst k4
    have : vn = 0 ∧ vs = [] ∧ vK = [] := by simp [bareB] at q4; simpa [and_assoc] using q4
    obtain ⟨rfl, rfl, rfl⟩ := this
    exact l2ok_list d ih N vL _ _ _ _ _ deep left w HL hN hL1 h1 hD1
  by_cases k5 : vk = 5
  · subst k5
    have : vn = 0 ∧ vs = [] := by simp [bareB] at q4; simpa [and_assoc] using q4
    obtain ⟨rfl, rfl⟩ := this
    exact l2ok_map d ih N vK vL _ _ _ _ deep left w HK HL hN hL1 h1 hD1
  · have : vn = 0 ∧ vs = [] ∧ vK = [] ∧ vL = [] := by simp [bareB, k1, k2, k3, k4, k5] at q4; simpa [and_assoc] using q4
    obtain ⟨rfl, rfl, rfl, rfl⟩ := this
    have k6 : ¬ vk = 6 := fun e => k0 (.inr e)
    have k0' : ¬ vk = 0 := fun e => k0 (.inl e)
    exact (l2ok_none vk k0' k1 k2 k3 k4 k5 k6 _ _ _ _ _ _ deep left w hL1 h1 hD1).mono fun e w' h => ⟨h.1.trans (ret_i64 (okI_leaf_sel false hD1 (by simp [shapeB, bareB, k0', k1, k2, k3, k4, k5, k6]) hL1).symm), h.2⟩

theorem l2ok_any (d : Nat) : OkAt d := by
  induction d with
  | zero => intro N c v deep left w hv; exact hv.elim
  | succ d ih => exact l2ok_succ d ih

/-- What ValOk answers. -/
def okB (d : Nat) (v : Vl d) : Bool := goodB d v 1 && decide (partsV d v ≤ 40)

theorem okI_okB (d : Nat) (v : Vl d) : (okB d v = true → 0 ≤ okI d v 1 40 ∧ okI d v 1 40 ≤ 40) ∧ (okB d v = false → okI d v 1 40 = -1) := by
  constructor
  · intro h
    simp [okB] at h
    rw [okI_yes h.1 (by omega)]
    omega
  · intro h
    refine okI_no fun ⟨h1, h2⟩ => ?_
    simp [okB, h1] at h
    omega

set_option maxHeartbeats 1600000 in
theorem spec_ValOk_any (d N : Nat) (c0 c1 c2 c3 c4 : Value) (v : Vl d) (w : World) (hv : VSeg (fun b => b < N) w d (c0, c1, c2, c3, c4) v) (hN : N ≤ w.heap.size) :
    Calls Try.prog 13 #[.agg #[c0, c1, c2, c3, c4]] w fun e w' => e = .returned (.bool (okB d v)) ∧ Below w.heap.size w w' := by
  have b0 : ∀ o : Obj, Below w.heap.size w (w.alloc o) := fun o => (Below.refl _ _).alloc (Nat.le_refl _) o
  have HC : Hid (∀ o : Obj, Calls Try.prog 29 #[.agg #[c0, c1, c2, c3, c4], .int .i64 1, .int .i64 40] (w.alloc o) fun e w' => e = .returned (.int .i64 (okI d v 1 40)) ∧ Below (w.alloc o).heap.size (w.alloc o) w') := fun o =>
    l2ok_any d N (c0, c1, c2, c3, c4) v 1 40 (w.alloc o) (VSeg.agree (agree_below ((b0 o).mono hN)) d hv) (by have := (b0 o).size; omega) (by omega) (by omega) (by omega)
  have Hb := hide' b0
  have hq := okI_okB d v
  clear b0
  cases hb : okB d v with
  | true =>
    obtain ⟨h1, h2⟩ := hq.1 hb
    generalize okI d v 1 40 = q at *
    clear hq hb
    go_enter Try.func13, Try.ntmps13
    go_wp2_with fail
    refine (HC.out _).mono ?_
    rintro e w1 ⟨rfl, b1⟩
    have B1 := Below.on (Hb.out _) b1
    clear b1
    go_wp2
    go_ret
    exact ⟨rfl, B1⟩
  | false =>
    have h1 := hq.2 hb
    rw [h1] at HC
    clear hq hb h1
    go_enter Try.func13, Try.ntmps13
    go_wp2_with fail
    refine (HC.out _).mono ?_
    rintro e w1 ⟨rfl, b1⟩
    have B1 := Below.on (Hb.out _) b1
    clear b1
    go_wp2
    go_ret
    exact ⟨rfl, B1⟩
end Go.Proofs.Ytmdmiiikbdnioaa
