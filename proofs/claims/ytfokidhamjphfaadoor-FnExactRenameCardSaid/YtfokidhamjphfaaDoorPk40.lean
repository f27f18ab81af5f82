/-
  Texts that a law leans on, one behind the other; no statement is proved here.
-/
import Derived.Test.YtfokidhamjphfaaDoorPk34
/-
  l6expr of the specification at kinds with kids (no keys), where all is right ahead of them: the loop.
-/
namespace Go.Proofs.YtfokidhamjphfaaDoor
open Go.RowKit
set_option linter.unusedVariables false
set_option linter.unusedSimpArgs false

/-- The contract of l6expr at depth d. -/
def E6At (d : Nat) : Prop := ∀ (N : Nat) (c : Value × Value × Value × Value × Value) (v : Vl d) (deep : Nat) (left : Int) (w : World), VSeg (fun b => b < N) w d c v → N ≤ w.heap.size → deep ≤ 11 → 0 ≤ left → left ≤ 150 →
  Calls Tryd.prog 28 #[.agg #[c.1, c.2.1, c.2.2.1, c.2.2.2.1, c.2.2.2.2], .int .i64 deep, .int .i64 left] w fun e w' => e = .returned (.int .i64 (okE d v deep left)) ∧ Below w.heap.size w w'

set_option maxHeartbeats 8000000 in
set_option maxRecDepth 100000 in
theorem l6loop_other (d : Nat) (ih : E6At d) (N : Nat) (k : Int) (k0 : 0 ≤ k) (k24 : k ≤ 23) (k1 : ¬ k = 1) (k2 : ¬ k = 2) (k3 : ¬ k = 3) (k4 : ¬ k = 4) (k5 : ¬ k = 5) (k6 : ¬ k = 6) (k7 : ¬ k = 7) (k8 : ¬ k = 8) (k23 : ¬ k = 23) (vL : List (Vl d)) (a2 a3 : Option Addr) (p2 p3 : Nat) (x : Value) (deep : Nat) (left : Int) (w : World) (hx : LSeg (fun b => b < N) w d x vL) (hN : N ≤ w.heap.size) (h1 : 1 ≤ left) (h2 : left ≤ 150) (h3 : deep ≤ 10) (hq : arI k = vL.length) (hsh : shpB k 0 [] [] vL.length = true) :
    Calls Tryd.prog 28 #[.agg #[.int .i64 k, .int .i64 0, .slice a2 0 p2, .slice a3 0 p3, x], .int .i64 deep, .int .i64 left] w fun e w' => e = .returned (.int .i64 (okE (d + 1) (k, 0, [], [], vL) deep left)) ∧ Below w.heap.size w w' := by
  have HX := hide' hx
  obtain ⟨a4, p4, rfl, hlc, hcm, ka, _⟩ := hx
  unfold maxLen at hcm
  have b0 : ∀ o : Obj, Below w.heap.size w (w.alloc o) := fun o => (Below.refl _ _).alloc (Nat.le_refl _) o
  have Hb := hide' b0
  have HAr : Hid (∀ wx, Calls Tryd.prog 54 #[.int .i64 k] wx fun e w' => e = .returned (.int .i64 (arI k)) ∧ wx = w') := fun wx => l6arity_any k wx
  rw [hq] at HAr
  have g0 : (0 : Int) ≤ (vL.length : Int) := by omega
  have f0 : ¬ k < 0 := by omega
  have f23 : ¬ (23 : Int) < k := by omega
  have e5 : (k == 5) = false := by simpa using k5
  have e5' : (k != 5) = true := by simpa using k5
  have e1 : (k == 1) = false := by simpa using k1
  have e2 : (k == 2) = false := by simpa using k2
  have e3 : (k == 3) = false := by simpa using k3
  have e6 : (k == 6) = false := by simpa using k6
  have e7 : (k == 7) = false := by simpa using k7
  have e8 : (k == 8) = false := by simpa using k8
  have e23 : (k == 23) = false := by simpa using k23
  clear hq
  have h4 : ¬ left - 1 < 0 := by omega
  have h5 : ¬ (10 : Int) < (deep : Int) := by omega
  have HI := hide' ih
  have H3 := hide' h3
  have H1 := hide' h1
  have HSH := hide' hsh
  obtain ⟨ob, HOb⟩ : ∃ ob, Hid (ob = Obj.cells #[.int .i64 k, .int .i64 0, .slice a2 0 p2, .slice a3 0 p3, .slice a4 vL.length p4] 26) := ⟨_, rfl⟩
  clear ih b0 hsh
  go_enter Tryd.func28, Tryd.ntmps28
  go_wp2_with (first | (go_at_call 54; refine (HAr.out _).mono ?_; rintro e w1 ⟨rfl, e1⟩; obtain rfl := e1))
  go_loopw [2, 8] (fun l i wr => ∃ k : Nat, i = .int .i64 k ∧ E6K d vL deep left k l ∧ Hid (Below (w.alloc ob).heap.size (w.alloc ob) wr)) (fun _ i _ => vL.length - (intOf i).toNat)
  case atStart => exact ⟨0, rfl, E6K_zero H1.out, by rw [HOb.out]; exact Below.refl _ _⟩
  case round =>
    obtain ⟨j, rfl, hK, hbel⟩ := hrel
    have hHK := hide' hK
    obtain ⟨hk, rfl, hple, _⟩ := hK
    have hrow := box_row hbel.out
    rw [HOb.out] at hrow
    obtain ⟨y0, y1, y2, y3, y4, _⟩ := row5 hrow
    have B := Below.on (Hb.out ob) hbel.out
    clear hrow
    by_cases hlt : j < vL.length
    · have hlt' : (j : Int) < (vL.length : Int) := by omega
      obtain ⟨b, off, c, rfl, h5', hv⟩ := HX.out.at B hN hlt
      obtain ⟨c0, c1, c2, c3, c4⟩ := c
      obtain ⟨q0, q1, q2, q3, q4⟩ := h5'
      simp only at q0 q1 q2 q3 q4
      have hz := B.size
      have HC : Hid (∀ wx, Below w.heap.size w wx → Calls Tryd.prog 28 #[.agg #[c0, c1, c2, c3, c4], .int .i64 ((deep : Int) + 1), .int .i64 (left - 1 - pre (partsE d) vL j)] wx fun e w' => e = .returned (.int .i64 (okE d vL[j] (deep + 1) (left - 1 - pre (partsE d) vL j))) ∧ Below wx.heap.size wx w') := by
        intro wx hx
        have := HI.out N (c0, c1, c2, c3, c4) vL[j] (deep + 1) (left - 1 - pre (partsE d) vL j) wx (hv wx hx) (by have := hx.size; omega) (by omega) (by omega) (by omega)
        rw [Int.natCast_add] at this
        exact this
      have HN : Hid (¬ (goodE d vL[j] (deep + 1) = true ∧ (partsE d vL[j] : Int) ≤ left - 1 - pre (partsE d) vL j) → okE (d + 1) (k, 0, [], [], vL) deep left = -1) := fun h => okE_kid hlt h
      have HSu : Hid (goodE d vL[j] (deep + 1) = true → (partsE d vL[j] : Int) ≤ left - 1 - pre (partsE d) vL j → E6K d vL deep left (j + 1) (.int .i64 (left - 1 - pre (partsE d) vL j - partsE d vL[j]))) := fun h h' => E6K_succ hHK.out hlt h h'
      by_cases hg : goodE d vL[j] (deep + 1) = true ∧ (partsE d vL[j] : Int) ≤ left - 1 - pre (partsE d) vL j
      · rw [okE_yes hg.1 hg.2] at HC
        have HF := hide' (HSu.out hg.1 hg.2)
        have hnn : ¬ (left - 1 - pre (partsE d) vL j - partsE d vL[j] < 0) := by omega
        have hup : left - 1 - pre (partsE d) vL j - partsE d vL[j] ≤ 150 := by omega
        generalize partsE d vL[j] = q at *
        generalize pre (partsE d) vL j = p at *
        clear HN HSu hg hv
        go_wp2_with fail
        go_quiet (fail)
        go_wp2_with fail
        refine (HC.out _ (below_drewN B _)).mono ?_
        rintro e w1 ⟨rfl, b1⟩
        have B1 : Hid (Below (w.alloc ob).heap.size (w.alloc ob) w1) := Below.on (below_drewN hbel.out _) b1
        clear q0 q1 q2 q3 q4 b1
        go_wp2
        go_roundw
        case rel => exact ⟨j + 1, by go_num, HF.out, B1⟩
        case measure => simp [intOf]; omega
      · rw [okE_no hg] at HC
        have HF := hide' (HN.out hg)
        generalize pre (partsE d) vL j = p at *
        clear HN HSu hg hv
        go_wp2_with fail
        go_quiet (fail)
        go_wp2_with fail
        refine (HC.out _ (below_drewN B _)).mono ?_
        rintro e w1 ⟨rfl, b1⟩
        have B1 : Below w.heap.size w w1 := Below.on (below_drewN B _) b1
        clear q0 q1 q2 q3 q4 b1
        go_wp2
        go_ret
        exact ⟨ret_i64 (by rw [HF.out]), B1⟩
    · have hkn : j = vL.length := by omega
      have hlt' : ¬ (j : Int) < (vL.length : Int) := by omega
      have HF : Hid (okE (d + 1) (k, 0, [], [], vL) deep left = left - 1 - pre (partsE d) vL j) := by
        show okE (d + 1) (k, 0, [], [], vL) deep left = _
        rw [okE_all H3.out HSH.out (fun j h => hHK.out.2.2.2 j h (by omega)) (by rw [← hkn]; exact hple), ← hkn]
      clear hkn
      go_wp2
      go_ret
      exact ⟨ret_i64 (by rw [HF.out]), B⟩

set_option maxHeartbeats 8000000 in
set_option maxRecDepth 100000 in
theorem l6loop_c4 (d : Nat) (ih : E6At d) (N : Nat) (vL : List (Vl d)) (a2 a3 : Option Addr) (p2 p3 : Nat) (x : Value) (deep : Nat) (left : Int) (w : World) (hx : LSeg (fun b => b < N) w d x vL) (hN : N ≤ w.heap.size) (h1 : 1 ≤ left) (h2 : left ≤ 150) (h3 : deep ≤ 10) (hsh : shpB 4 0 [] [] vL.length = true) :
    Calls Tryd.prog 28 #[.agg #[.int .i64 4, .int .i64 0, .slice a2 0 p2, .slice a3 0 p3, x], .int .i64 deep, .int .i64 left] w fun e w' => e = .returned (.int .i64 (okE (d + 1) (4, 0, [], [], vL) deep left)) ∧ Below w.heap.size w w' := by
  have HX := hide' hx
  obtain ⟨a4, p4, rfl, hlc, hcm, ka, _⟩ := hx
  unfold maxLen at hcm
  have b0 : ∀ o : Obj, Below w.heap.size w (w.alloc o) := fun o => (Below.refl _ _).alloc (Nat.le_refl _) o
  have Hb := hide' b0
  have HAr : Hid (∀ wx, Calls Tryd.prog 54 #[.int .i64 4] wx fun e w' => e = .returned (.int .i64 (-1)) ∧ wx = w') := fun wx => l6arity_any 4 wx
  have h4 : ¬ left - 1 < 0 := by omega
  have h5 : ¬ (10 : Int) < (deep : Int) := by omega
  have HI := hide' ih
  have H3 := hide' h3
  have H1 := hide' h1
  have HSH := hide' hsh
  obtain ⟨ob, HOb⟩ : ∃ ob, Hid (ob = Obj.cells #[.int .i64 4, .int .i64 0, .slice a2 0 p2, .slice a3 0 p3, .slice a4 vL.length p4] 26) := ⟨_, rfl⟩
  clear ih b0 hsh
  go_enter Tryd.func28, Tryd.ntmps28
  go_wp2_with (first | (go_at_call 54; refine (HAr.out _).mono ?_; rintro e w1 ⟨rfl, e1⟩; obtain rfl := e1))
  go_loopw [2, 8] (fun l i wr => ∃ k : Nat, i = .int .i64 k ∧ E6K d vL deep left k l ∧ Hid (Below (w.alloc ob).heap.size (w.alloc ob) wr)) (fun _ i _ => vL.length - (intOf i).toNat)
  case atStart => exact ⟨0, rfl, E6K_zero H1.out, by rw [HOb.out]; exact Below.refl _ _⟩
  case round =>
    obtain ⟨j, rfl, hK, hbel⟩ := hrel
    have hHK := hide' hK
    obtain ⟨hk, rfl, hple, _⟩ := hK
    have hrow := box_row hbel.out
    rw [HOb.out] at hrow
    obtain ⟨y0, y1, y2, y3, y4, _⟩ := row5 hrow
    have B := Below.on (Hb.out ob) hbel.out
    clear hrow
    by_cases hlt : j < vL.length
    · have hlt' : (j : Int) < (vL.length : Int) := by omega
      obtain ⟨b, off, c, rfl, h5', hv⟩ := HX.out.at B hN hlt
      obtain ⟨c0, c1, c2, c3, c4⟩ := c
      obtain ⟨q0, q1, q2, q3, q4⟩ := h5'
      simp only at q0 q1 q2 q3 q4
      have hz := B.size
      have HC : Hid (∀ wx, Below w.heap.size w wx → Calls Tryd.prog 28 #[.agg #[c0, c1, c2, c3, c4], .int .i64 ((deep : Int) + 1), .int .i64 (left - 1 - pre (partsE d) vL j)] wx fun e w' => e = .returned (.int .i64 (okE d vL[j] (deep + 1) (left - 1 - pre (partsE d) vL j))) ∧ Below wx.heap.size wx w') := by
        intro wx hx
        have := HI.out N (c0, c1, c2, c3, c4) vL[j] (deep + 1) (left - 1 - pre (partsE d) vL j) wx (hv wx hx) (by have := hx.size; omega) (by omega) (by omega) (by omega)
        rw [Int.natCast_add] at this
        exact this
      have HN : Hid (¬ (goodE d vL[j] (deep + 1) = true ∧ (partsE d vL[j] : Int) ≤ left - 1 - pre (partsE d) vL j) → okE (d + 1) (4, 0, [], [], vL) deep left = -1) := fun h => okE_kid hlt h
      have HSu : Hid (goodE d vL[j] (deep + 1) = true → (partsE d vL[j] : Int) ≤ left - 1 - pre (partsE d) vL j → E6K d vL deep left (j + 1) (.int .i64 (left - 1 - pre (partsE d) vL j - partsE d vL[j]))) := fun h h' => E6K_succ hHK.out hlt h h'
      by_cases hg : goodE d vL[j] (deep + 1) = true ∧ (partsE d vL[j] : Int) ≤ left - 1 - pre (partsE d) vL j
      · rw [okE_yes hg.1 hg.2] at HC
        have HF := hide' (HSu.out hg.1 hg.2)
        have hnn : ¬ (left - 1 - pre (partsE d) vL j - partsE d vL[j] < 0) := by omega
        have hup : left - 1 - pre (partsE d) vL j - partsE d vL[j] ≤ 150 := by omega
        generalize partsE d vL[j] = q at *
        generalize pre (partsE d) vL j = p at *
        clear HN HSu hg hv
        go_wp2_with fail
        go_quiet (fail)
        go_wp2_with fail
        refine (HC.out _ (below_drewN B _)).mono ?_
        rintro e w1 ⟨rfl, b1⟩
        have B1 : Hid (Below (w.alloc ob).heap.size (w.alloc ob) w1) := Below.on (below_drewN hbel.out _) b1
        clear q0 q1 q2 q3 q4 b1
        go_wp2
        go_roundw
        case rel => exact ⟨j + 1, by go_num, HF.out, B1⟩
        case measure => simp [intOf]; omega
      · rw [okE_no hg] at HC
        have HF := hide' (HN.out hg)
        generalize pre (partsE d) vL j = p at *
        clear HN HSu hg hv
        go_wp2_with fail
        go_quiet (fail)
        go_wp2_with fail
        refine (HC.out _ (below_drewN B _)).mono ?_
        rintro e w1 ⟨rfl, b1⟩
        have B1 : Below w.heap.size w w1 := Below.on (below_drewN B _) b1
        clear q0 q1 q2 q3 q4 b1
        go_wp2
        go_ret
        exact ⟨ret_i64 (by rw [HF.out]), B1⟩
    · have hkn : j = vL.length := by omega
      have hlt' : ¬ (j : Int) < (vL.length : Int) := by omega
      have HF : Hid (okE (d + 1) (4, 0, [], [], vL) deep left = left - 1 - pre (partsE d) vL j) := by
        show okE (d + 1) (4, 0, [], [], vL) deep left = _
        rw [okE_all H3.out HSH.out (fun j h => hHK.out.2.2.2 j h (by omega)) (by rw [← hkn]; exact hple), ← hkn]
      clear hkn
      go_wp2
      go_ret
      exact ⟨ret_i64 (by rw [HF.out]), B⟩

set_option maxHeartbeats 8000000 in
set_option maxRecDepth 100000 in
theorem l6loop_c8 (d : Nat) (ih : E6At d) (N : Nat) (vL : List (Vl d)) (a2 a3 : Option Addr) (p2 p3 : Nat) (x : Value) (vs : List Int) (deep : Nat) (left : Int) (w : World) (hx : LSeg (fun b => b < N) w d x vL) (hN : N ≤ w.heap.size) (h1 : 1 ≤ left) (h2 : left ≤ 150) (h3 : deep ≤ 10) (s2 : Seg w a2 vs) (hl2 : vs.length ≤ maxLen) (hs : nameB vs = true) (hq : vL.length = 1) (hsh : shpB 8 0 vs [] vL.length = true) :
    Calls Tryd.prog 28 #[.agg #[.int .i64 8, .int .i64 0, .slice a2 vs.length p2, .slice a3 0 p3, x], .int .i64 deep, .int .i64 left] w fun e w' => e = .returned (.int .i64 (okE (d + 1) (8, 0, vs, [], vL) deep left)) ∧ Below w.heap.size w w' := by
  have HX := hide' hx
  obtain ⟨a4, p4, rfl, hlc, hcm, ka, _⟩ := hx
  unfold maxLen at hcm
  have b0 : ∀ o : Obj, Below w.heap.size w (w.alloc o) := fun o => (Below.refl _ _).alloc (Nat.le_refl _) o
  have Hb := hide' b0
  have HAr : Hid (∀ wx, Calls Tryd.prog 54 #[.int .i64 8] wx fun e w' => e = .returned (.int .i64 (1)) ∧ wx = w') := fun wx => l6arity_any 8 wx
  have HS : Hid (∀ wx, Below w.heap.size w wx → Calls Tryd.prog 35 #[.slice a2 vs.length p2] wx fun e w' => e = .returned (.bool (nameB vs)) ∧ wx = w') := fun wx hb => spec_NameOk_any a2 p2 vs wx (s2.grow hb) hl2
  rw [hs] at HS
  unfold maxLen at hl2
  clear s2 hs
  have hq' : (vL.length : Int) = 1 := by omega
  clear hq
  have h4 : ¬ left - 1 < 0 := by omega
  have h5 : ¬ (10 : Int) < (deep : Int) := by omega
  have HI := hide' ih
  have H3 := hide' h3
  have H1 := hide' h1
  have HSH := hide' hsh
  obtain ⟨ob, HOb⟩ : ∃ ob, Hid (ob = Obj.cells #[.int .i64 8, .int .i64 0, .slice a2 vs.length p2, .slice a3 0 p3, .slice a4 vL.length p4] 26) := ⟨_, rfl⟩
  clear ih b0 hsh
  go_enter Tryd.func28, Tryd.ntmps28
  go_wp2_with (first | (go_at_call 54; refine (HAr.out _).mono ?_; rintro e w1 ⟨rfl, e1⟩; obtain rfl := e1) | (go_at_call 35; refine (HS.out _ (Hb.out _)).mono ?_; rintro e w1 ⟨rfl, e1⟩; obtain rfl := e1))
  go_loopw [2, 8] (fun l i wr => ∃ k : Nat, i = .int .i64 k ∧ E6K d vL deep left k l ∧ Hid (Below (w.alloc ob).heap.size (w.alloc ob) wr)) (fun _ i _ => vL.length - (intOf i).toNat)
  case atStart => exact ⟨0, rfl, E6K_zero H1.out, by rw [HOb.out]; exact Below.refl _ _⟩
  case round =>
    obtain ⟨j, rfl, hK, hbel⟩ := hrel
    have hHK := hide' hK
    obtain ⟨hk, rfl, hple, _⟩ := hK
    have hrow := box_row hbel.out
    rw [HOb.out] at hrow
    obtain ⟨y0, y1, y2, y3, y4, _⟩ := row5 hrow
    have B := Below.on (Hb.out ob) hbel.out
    clear hrow
    by_cases hlt : j < vL.length
    · have hlt' : (j : Int) < (vL.length : Int) := by omega
      obtain ⟨b, off, c, rfl, h5', hv⟩ := HX.out.at B hN hlt
      obtain ⟨c0, c1, c2, c3, c4⟩ := c
      obtain ⟨q0, q1, q2, q3, q4⟩ := h5'
      simp only at q0 q1 q2 q3 q4
      have hz := B.size
      have HC : Hid (∀ wx, Below w.heap.size w wx → Calls Tryd.prog 28 #[.agg #[c0, c1, c2, c3, c4], .int .i64 ((deep : Int) + 1), .int .i64 (left - 1 - pre (partsE d) vL j)] wx fun e w' => e = .returned (.int .i64 (okE d vL[j] (deep + 1) (left - 1 - pre (partsE d) vL j))) ∧ Below wx.heap.size wx w') := by
        intro wx hx
        have := HI.out N (c0, c1, c2, c3, c4) vL[j] (deep + 1) (left - 1 - pre (partsE d) vL j) wx (hv wx hx) (by have := hx.size; omega) (by omega) (by omega) (by omega)
        rw [Int.natCast_add] at this
        exact this
      have HN : Hid (¬ (goodE d vL[j] (deep + 1) = true ∧ (partsE d vL[j] : Int) ≤ left - 1 - pre (partsE d) vL j) → okE (d + 1) (8, 0, vs, [], vL) deep left = -1) := fun h => okE_kid hlt h
      have HSu : Hid (goodE d vL[j] (deep + 1) = true → (partsE d vL[j] : Int) ≤ left - 1 - pre (partsE d) vL j → E6K d vL deep left (j + 1) (.int .i64 (left - 1 - pre (partsE d) vL j - partsE d vL[j]))) := fun h h' => E6K_succ hHK.out hlt h h'
      by_cases hg : goodE d vL[j] (deep + 1) = true ∧ (partsE d vL[j] : Int) ≤ left - 1 - pre (partsE d) vL j
      · rw [okE_yes hg.1 hg.2] at HC
        have HF := hide' (HSu.out hg.1 hg.2)
        have hnn : ¬ (left - 1 - pre (partsE d) vL j - partsE d vL[j] < 0) := by omega
        have hup : left - 1 - pre (partsE d) vL j - partsE d vL[j] ≤ 150 := by omega
        generalize partsE d vL[j] = q at *
        generalize pre (partsE d) vL j = p at *
        clear HN HSu hg hv
        go_wp2_with fail
        go_quiet (fail)
        go_wp2_with fail
        refine (HC.out _ (below_drewN B _)).mono ?_
        rintro e w1 ⟨rfl, b1⟩
        have B1 : Hid (Below (w.alloc ob).heap.size (w.alloc ob) w1) := Below.on (below_drewN hbel.out _) b1
        clear q0 q1 q2 q3 q4 b1
        go_wp2
        go_roundw
        case rel => exact ⟨j + 1, by go_num, HF.out, B1⟩
        case measure => simp [intOf]; omega
      · rw [okE_no hg] at HC
        have HF := hide' (HN.out hg)
        generalize pre (partsE d) vL j = p at *
        clear HN HSu hg hv
        go_wp2_with fail
        go_quiet (fail)
        go_wp2_with fail
        refine (HC.out _ (below_drewN B _)).mono ?_
        rintro e w1 ⟨rfl, b1⟩
        have B1 : Below w.heap.size w w1 := Below.on (below_drewN B _) b1
        clear q0 q1 q2 q3 q4 b1
        go_wp2
        go_ret
        exact ⟨ret_i64 (by rw [HF.out]), B1⟩
    · have hkn : j = vL.length := by omega
      have hlt' : ¬ (j : Int) < (vL.length : Int) := by omega
      have HF : Hid (okE (d + 1) (8, 0, vs, [], vL) deep left = left - 1 - pre (partsE d) vL j) := by
        show okE (d + 1) (8, 0, vs, [], vL) deep left = _
        rw [okE_all H3.out HSH.out (fun j h => hHK.out.2.2.2 j h (by omega)) (by rw [← hkn]; exact hple), ← hkn]
      clear hkn
      go_wp2
      go_ret
      exact ⟨ret_i64 (by rw [HF.out]), B⟩

set_option maxHeartbeats 8000000 in
set_option maxRecDepth 100000 in
theorem l6loop_c23 (d : Nat) (ih : E6At d) (N : Nat) (vL : List (Vl d)) (a2 a3 : Option Addr) (p2 p3 : Nat) (x : Value) (vs : List Int) (deep : Nat) (left : Int) (w : World) (hx : LSeg (fun b => b < N) w d x vL) (hN : N ≤ w.heap.size) (h1 : 1 ≤ left) (h2 : left ≤ 150) (h3 : deep ≤ 10) (s2 : Seg w a2 vs) (hl2 : vs.length ≤ maxLen) (hs : nameB vs = true) (hs2 : keptB vs = false) (hsh : shpB 23 0 vs [] vL.length = true) :
    Calls Tryd.prog 28 #[.agg #[.int .i64 23, .int .i64 0, .slice a2 vs.length p2, .slice a3 0 p3, x], .int .i64 deep, .int .i64 left] w fun e w' => e = .returned (.int .i64 (okE (d + 1) (23, 0, vs, [], vL) deep left)) ∧ Below w.heap.size w w' := by
  have HX := hide' hx
  obtain ⟨a4, p4, rfl, hlc, hcm, ka, _⟩ := hx
  unfold maxLen at hcm
  have b0 : ∀ o : Obj, Below w.heap.size w (w.alloc o) := fun o => (Below.refl _ _).alloc (Nat.le_refl _) o
  have Hb := hide' b0
  have HAr : Hid (∀ wx, Calls Tryd.prog 54 #[.int .i64 23] wx fun e w' => e = .returned (.int .i64 (-1)) ∧ wx = w') := fun wx => l6arity_any 23 wx
  have HS : Hid (∀ wx, Below w.heap.size w wx → Calls Tryd.prog 35 #[.slice a2 vs.length p2] wx fun e w' => e = .returned (.bool (nameB vs)) ∧ wx = w') := fun wx hb => spec_NameOk_any a2 p2 vs wx (s2.grow hb) hl2
  have HS2 : Hid (∀ wx, Below w.heap.size w wx → Calls Tryd.prog 56 #[.slice a2 vs.length p2] wx fun e w' => e = .returned (.bool (keptB vs)) ∧ Below wx.heap.size wx w') := fun wx hb => spec_l6kept_any a2 p2 vs wx (s2.grow hb)
  rw [hs] at HS
  rw [hs2] at HS2
  unfold maxLen at hl2
  clear s2 hs hs2
  have h4 : ¬ left - 1 < 0 := by omega
  have h5 : ¬ (10 : Int) < (deep : Int) := by omega
  have HI := hide' ih
  have H3 := hide' h3
  have H1 := hide' h1
  have HSH := hide' hsh
  obtain ⟨ob, HOb⟩ : ∃ ob, Hid (ob = Obj.cells #[.int .i64 23, .int .i64 0, .slice a2 vs.length p2, .slice a3 0 p3, .slice a4 vL.length p4] 26) := ⟨_, rfl⟩
  clear ih b0 hsh
  go_enter Tryd.func28, Tryd.ntmps28
  go_wp2_with (first | (go_at_call 54; refine (HAr.out _).mono ?_; rintro e w1 ⟨rfl, e1⟩; obtain rfl := e1) | (go_at_call 35; refine (HS.out _ (Hb.out _)).mono ?_; rintro e w1 ⟨rfl, e1⟩; obtain rfl := e1) | (go_at_call 56; refine (HS2.out _ (Hb.out _)).mono ?_; rintro e w1 ⟨rfl, bw⟩))
  have Bbw : Hid (Below (w.alloc ob).heap.size (w.alloc ob) w1) := by rw [HOb.out]; exact bw
  obtain ⟨y0, y1, y2, y3, y4, _⟩ := row5 (box_row bw)
  clear bw
  go_wp2
  go_loopw [2, 8] (fun l i wr => ∃ k : Nat, i = .int .i64 k ∧ E6K d vL deep left k l ∧ Hid (Below (w.alloc ob).heap.size (w.alloc ob) wr)) (fun _ i _ => vL.length - (intOf i).toNat)
  case atStart => exact ⟨0, rfl, E6K_zero H1.out, Bbw⟩
  case round =>
    clear y0 y1 y2 y3 y4
    obtain ⟨j, rfl, hK, hbel⟩ := hrel
    have hHK := hide' hK
    obtain ⟨hk, rfl, hple, _⟩ := hK
    have hrow := box_row hbel.out
    rw [HOb.out] at hrow
    obtain ⟨y0, y1, y2, y3, y4, _⟩ := row5 hrow
    have B := Below.on (Hb.out ob) hbel.out
    clear hrow
    by_cases hlt : j < vL.length
    · have hlt' : (j : Int) < (vL.length : Int) := by omega
      obtain ⟨b, off, c, rfl, h5', hv⟩ := HX.out.at B hN hlt
      obtain ⟨c0, c1, c2, c3, c4⟩ := c
      obtain ⟨q0, q1, q2, q3, q4⟩ := h5'
      simp only at q0 q1 q2 q3 q4
      have hz := B.size
      have HC : Hid (∀ wx, Below w.heap.size w wx → Calls Tryd.prog 28 #[.agg #[c0, c1, c2, c3, c4], .int .i64 ((deep : Int) + 1), .int .i64 (left - 1 - pre (partsE d) vL j)] wx fun e w' => e = .returned (.int .i64 (okE d vL[j] (deep + 1) (left - 1 - pre (partsE d) vL j))) ∧ Below wx.heap.size wx w') := by
        intro wx hx
        have := HI.out N (c0, c1, c2, c3, c4) vL[j] (deep + 1) (left - 1 - pre (partsE d) vL j) wx (hv wx hx) (by have := hx.size; omega) (by omega) (by omega) (by omega)
        rw [Int.natCast_add] at this
        exact this
      have HN : Hid (¬ (goodE d vL[j] (deep + 1) = true ∧ (partsE d vL[j] : Int) ≤ left - 1 - pre (partsE d) vL j) → okE (d + 1) (23, 0, vs, [], vL) deep left = -1) := fun h => okE_kid hlt h
      have HSu : Hid (goodE d vL[j] (deep + 1) = true → (partsE d vL[j] : Int) ≤ left - 1 - pre (partsE d) vL j → E6K d vL deep left (j + 1) (.int .i64 (left - 1 - pre (partsE d) vL j - partsE d vL[j]))) := fun h h' => E6K_succ hHK.out hlt h h'
      by_cases hg : goodE d vL[j] (deep + 1) = true ∧ (partsE d vL[j] : Int) ≤ left - 1 - pre (partsE d) vL j
      · rw [okE_yes hg.1 hg.2] at HC
        have HF := hide' (HSu.out hg.1 hg.2)
        have hnn : ¬ (left - 1 - pre (partsE d) vL j - partsE d vL[j] < 0) := by omega
        have hup : left - 1 - pre (partsE d) vL j - partsE d vL[j] ≤ 150 := by omega
        generalize partsE d vL[j] = q at *
        generalize pre (partsE d) vL j = p at *
        clear HN HSu hg hv
        go_wp2_with fail
        go_quiet (fail)
        go_wp2_with fail
        refine (HC.out _ (below_drewN B _)).mono ?_
        rintro e w1 ⟨rfl, b1⟩
        have B1 : Hid (Below (w.alloc ob).heap.size (w.alloc ob) w1) := Below.on (below_drewN hbel.out _) b1
        clear q0 q1 q2 q3 q4 b1
        go_wp2
        go_roundw
        case rel => exact ⟨j + 1, by go_num, HF.out, B1⟩
        case measure => simp [intOf]; omega
      · rw [okE_no hg] at HC
        have HF := hide' (HN.out hg)
        generalize pre (partsE d) vL j = p at *
        clear HN HSu hg hv
        go_wp2_with fail
        go_quiet (fail)
        go_wp2_with fail
        refine (HC.out _ (below_drewN B _)).mono ?_
        rintro e w1 ⟨rfl, b1⟩
        have B1 : Below w.heap.size w w1 := Below.on (below_drewN B _) b1
        clear q0 q1 q2 q3 q4 b1
        go_wp2
        go_ret
        exact ⟨ret_i64 (by rw [HF.out]), B1⟩
    · have hkn : j = vL.length := by omega
      have hlt' : ¬ (j : Int) < (vL.length : Int) := by omega
      have HF : Hid (okE (d + 1) (23, 0, vs, [], vL) deep left = left - 1 - pre (partsE d) vL j) := by
        show okE (d + 1) (23, 0, vs, [], vL) deep left = _
        rw [okE_all H3.out HSH.out (fun j h => hHK.out.2.2.2 j h (by omega)) (by rw [← hkn]; exact hple), ← hkn]
      clear hkn
      go_wp2
      go_ret
      exact ⟨ret_i64 (by rw [HF.out]), B⟩
end Go.Proofs.YtfokidhamjphfaaDoor
