/-
  Texts that a law leans on, one behind the other; no statement is proved here.
-/
import Derived.Test.YtngjhimieacjhaaGreatDoorPk9
import Derived.Test.YtngjhimieacjhaaGreatDoorPk5
import Derived.Test.YtngjhimieacjhaaGreatDoorPk7
import Derived.BigQuiet
/-
  What a value that may be is, by its depth: 'goodB'; how many parts it has: 'partsV'; what the specification's l2ok answers: 'okI'. Plain mathematics.
-/
namespace Go.Proofs.YtngjhimieacjhaaGreatDoor
open Go.RowKit
set_option linter.unusedVariables false
set_option linter.unusedSimpArgs false

/-- The rules of one part by itself. -/
def shapeB (vk vn : Int) (vs : List Int) (vK : List (List Int)) (nL : Nat) : Bool :=
  bareB vk vn vs.length vK.length nL && (decide (vk = 0) || decide (vk = 6) || (decide (vk = 1) && (decide (vn = 0) || decide (vn = 1))) || (decide (vk = 2) && intB vn) || (decide (vk = 3) && textB vs) || decide (vk = 4) || (decide (vk = 5) && (decide (vK.length = nL) && ascB vK)))

/-- The rules of all parts, and of the depth. -/
def goodB : (d : Nat) → Vl d → Nat → Bool
  | 0, _, _ => false
  | d + 1, v, deep => decide (deep ≤ 5) && (shapeB v.1 v.2.1 v.2.2.1 v.2.2.2.1 v.2.2.2.2.length && v.2.2.2.2.all fun x => goodB d x (deep + 1))

/-- How many parts. -/
def partsV : (d : Nat) → Vl d → Nat
  | 0, _ => 0
  | d + 1, v => 1 + (v.2.2.2.2.map (partsV d)).sum

/-- What l2ok answers. -/
def okI (d : Nat) (v : Vl d) (deep : Nat) (left : Int) : Int := if goodB d v deep = true ∧ (partsV d v : Int) ≤ left then left - partsV d v else -1

theorem okI_yes {d : Nat} {v : Vl d} {deep : Nat} {left : Int} (h : goodB d v deep = true) (h2 : (partsV d v : Int) ≤ left) : okI d v deep left = left - partsV d v := by simp [okI, h, h2]
theorem okI_no {d : Nat} {v : Vl d} {deep : Nat} {left : Int} (h : ¬ (goodB d v deep = true ∧ (partsV d v : Int) ≤ left)) : okI d v deep left = -1 := by simp only [okI, h, if_false]

theorem good_succ (d : Nat) (vk vn : Int) (vs : List Int) (vK : List (List Int)) (vL : List (Vl d)) (deep : Nat) :
    goodB (d + 1) (vk, vn, vs, vK, vL) deep = true ↔ deep ≤ 5 ∧ shapeB vk vn vs vK vL.length = true ∧ ∀ j (h : j < vL.length), goodB d vL[j] (deep + 1) = true := by
  show (decide (deep ≤ 5) && (shapeB vk vn vs vK vL.length && vL.all fun x => goodB d x (deep + 1))) = true ↔ _
  simp only [Bool.and_eq_true, decide_eq_true_eq, List.all_eq_true]
  constructor
  · rintro ⟨h1, h2, h3⟩
    exact ⟨h1, h2, fun j h => h3 _ (List.getElem_mem h)⟩
  · rintro ⟨h1, h2, h3⟩
    refine ⟨h1, h2, fun x hx => ?_⟩
    obtain ⟨j, h, rfl⟩ := List.getElem_of_mem hx
    exact h3 j h

theorem parts_succ (d : Nat) (vk vn : Int) (vs : List Int) (vK : List (List Int)) (vL : List (Vl d)) : partsV (d + 1) (vk, vn, vs, vK, vL) = 1 + pre (partsV d) vL vL.length := by
  rw [pre_all]
  rfl

theorem parts_pos (d : Nat) (v : Vl (d + 1)) : 1 ≤ partsV (d + 1) v := by
  obtain ⟨vk, vn, vs, vK, vL⟩ := v
  rw [parts_succ]
  omega

theorem okI_left {d : Nat} (v : Vl (d + 1)) (deep : Nat) {left : Int} (h : left < 1) : okI (d + 1) v deep left = -1 :=
  okI_no fun ⟨_, h2⟩ => by have := parts_pos d v; omega

theorem okI_deep {d : Nat} (v : Vl (d + 1)) {deep : Nat} (left : Int) (h : 5 < deep) : okI (d + 1) v deep left = -1 := by
  obtain ⟨vk, vn, vs, vK, vL⟩ := v
  exact okI_no fun ⟨h1, _⟩ => by have := ((good_succ _ _ _ _ _ _ _).1 h1).1; omega

theorem okI_shape {d : Nat} {vk vn : Int} {vs : List Int} {vK : List (List Int)} {vL : List (Vl d)} (deep : Nat) (left : Int) (h : shapeB vk vn vs vK vL.length = false) : okI (d + 1) (vk, vn, vs, vK, vL) deep left = -1 :=
  okI_no fun ⟨h1, _⟩ => by have := ((good_succ _ _ _ _ _ _ _).1 h1).2.1; rw [h] at this; simp at this

theorem okI_bare {d : Nat} {vk vn : Int} {vs : List Int} {vK : List (List Int)} {vL : List (Vl d)} (deep : Nat) (left : Int) (h : bareB vk vn vs.length vK.length vL.length = false) : okI (d + 1) (vk, vn, vs, vK, vL) deep left = -1 :=
  okI_shape deep left (by simp [shapeB, h])

theorem okI_kid {d : Nat} {vk vn : Int} {vs : List Int} {vK : List (List Int)} {vL : List (Vl d)} {deep : Nat} {left : Int} {k : Nat} (hk : k < vL.length)
    (h : ¬ (goodB d vL[k] (deep + 1) = true ∧ (partsV d vL[k] : Int) ≤ left - 1 - pre (partsV d) vL k)) : okI (d + 1) (vk, vn, vs, vK, vL) deep left = -1 := by
  refine okI_no fun ⟨h1, h2⟩ => h ⟨((good_succ _ _ _ _ _ _ _).1 h1).2.2 k hk, ?_⟩
  rw [parts_succ] at h2
  have h3 := pre_succ (partsV d) vL k hk
  have h4 := pre_le (partsV d) vL (k + 1)
  have h5 := pre_all (partsV d) vL
  omega

theorem okI_all {d : Nat} {vk vn : Int} {vs : List Int} {vK : List (List Int)} {vL : List (Vl d)} {deep : Nat} {left : Int} (h1 : deep ≤ 5) (h2 : shapeB vk vn vs vK vL.length = true)
    (h3 : ∀ j (h : j < vL.length), goodB d vL[j] (deep + 1) = true) (h4 : (pre (partsV d) vL vL.length : Int) ≤ left - 1) : okI (d + 1) (vk, vn, vs, vK, vL) deep left = left - 1 - pre (partsV d) vL vL.length := by
  rw [okI_yes ((good_succ _ _ _ _ _ _ _).2 ⟨h1, h2, h3⟩) (by rw [parts_succ]; omega), parts_succ]
  omega

theorem okI_leaf {d : Nat} {vk vn : Int} {vs : List Int} {vK : List (List Int)} {deep : Nat} {left : Int} (h1 : deep ≤ 5) (h2 : shapeB vk vn vs vK 0 = true) (h4 : 1 ≤ left) : okI (d + 1) (vk, vn, vs, vK, []) deep left = left - 1 := by
  have := okI_all (d := d) (vL := []) (deep := deep) (left := left) h1 (by simpa using h2) (by intro j h; simp at h) (by simp [pre]; omega)
  simpa [pre] using this
end Go.Proofs.YtngjhimieacjhaaGreatDoor
/-
  l2ok of the specification, at every depth: 'okI'.
-/
namespace Go.Proofs.YtngjhimieacjhaaGreatDoor
open Go.RowKit
set_option linter.unusedVariables false
set_option linter.unusedSimpArgs false

/-- The contract of l2ok at depth d. -/
def OkAt (d : Nat) : Prop := ∀ (N : Nat) (c : Value × Value × Value × Value × Value) (v : Vl d) (deep : Nat) (left : Int) (w : World), VSeg (fun b => b < N) w d c v → N ≤ w.heap.size → deep ≤ 6 → 0 ≤ left → left ≤ 40 →
  Calls Tryz.prog 79 #[.agg #[c.1, c.2.1, c.2.2.1, c.2.2.2.1, c.2.2.2.2], .int .i64 deep, .int .i64 left] w fun e w' => e = .returned (.int .i64 (okI d v deep left)) ∧ Below w.heap.size w w'

/-- One of two answers. -/
def sel (p : Bool) (x : Int) : Int := cond p x (-1)
theorem sel_yes {p : Bool} (x : Int) (h : p = true) : sel p x = x := by rw [h]; rfl
theorem sel_no {p : Bool} (x : Int) (h : p = false) : sel p x = -1 := by rw [h]; rfl

set_option maxHeartbeats 4000000 in
set_option maxRecDepth 100000 in
theorem l2ok_null (vk : Int) (hvk : vk = 0 ∨ vk = 6) (a2 a3 a4 : Option Addr) (p2 p3 p4 : Nat) (deep : Nat) (left : Int) (w : World) (h1 : 1 ≤ left) (h2 : left ≤ 40) (h3 : deep ≤ 5) :
    Calls Tryz.prog 79 #[.agg #[.int .i64 vk, .int .i64 0, .slice a2 0 p2, .slice a3 0 p3, .slice a4 0 p4], .int .i64 deep, .int .i64 left] w fun e w' => e = .returned (.int .i64 (left - 1)) ∧ Below w.heap.size w w' := by
  have Hb : Hid (∀ o : Obj, Below w.heap.size w (w.alloc o)) := fun o => (Below.refl _ _).alloc (Nat.le_refl _) o
  have h4 : ¬ left - 1 < 0 := by omega
  have h5 : ¬ (5 : Int) < (deep : Int) := by omega
  rcases hvk with rfl | rfl <;>
  · go_enter Tryz.func79, Tryz.ntmps79
    go_wp2
    go_ret
    exact ⟨rfl, Hb.out _⟩

set_option maxHeartbeats 4000000 in
set_option maxRecDepth 100000 in
theorem l2ok_none (vk : Int) (k0 : ¬ vk = 0) (k1 : ¬ vk = 1) (k2 : ¬ vk = 2) (k3 : ¬ vk = 3) (k4 : ¬ vk = 4) (k5 : ¬ vk = 5) (k6 : ¬ vk = 6) (a2 a3 a4 : Option Addr) (p2 p3 p4 : Nat) (deep : Nat) (left : Int) (w : World) (h1 : 1 ≤ left) (h2 : left ≤ 40) (h3 : deep ≤ 5) :
    Calls Tryz.prog 79 #[.agg #[.int .i64 vk, .int .i64 0, .slice a2 0 p2, .slice a3 0 p3, .slice a4 0 p4], .int .i64 deep, .int .i64 left] w fun e w' => e = .returned (.int .i64 (-1)) ∧ Below w.heap.size w w' := by
  have Hb : Hid (∀ o : Obj, Below w.heap.size w (w.alloc o)) := fun o => (Below.refl _ _).alloc (Nat.le_refl _) o
  have h4 : ¬ left - 1 < 0 := by omega
  have h5 : ¬ (5 : Int) < (deep : Int) := by omega
  go_enter Tryz.func79, Tryz.ntmps79
  go_wp2
  go_ret
  exact ⟨rfl, Hb.out _⟩

set_option maxHeartbeats 4000000 in
set_option maxRecDepth 100000 in
theorem l2ok_bool (vn : Int) (a2 a3 a4 : Option Addr) (p2 p3 p4 : Nat) (deep : Nat) (left : Int) (w : World) (h1 : 1 ≤ left) (h2 : left ≤ 40) (h3 : deep ≤ 5) :
    Calls Tryz.prog 79 #[.agg #[.int .i64 1, .int .i64 vn, .slice a2 0 p2, .slice a3 0 p3, .slice a4 0 p4], .int .i64 deep, .int .i64 left] w fun e w' => e = .returned (.int .i64 (sel (decide (vn = 0) || decide (vn = 1)) (left - 1))) ∧ Below w.heap.size w w' := by
  have Hb : Hid (∀ o : Obj, Below w.heap.size w (w.alloc o)) := fun o => (Below.refl _ _).alloc (Nat.le_refl _) o
  have h4 : ¬ left - 1 < 0 := by omega
  have h5 : ¬ (5 : Int) < (deep : Int) := by omega
  by_cases hn : vn < 0
  · have HO : Hid ((sel (decide (vn = 0) || decide (vn = 1)) (left - 1)) = -1) := sel_no _ (by simp; omega)
    go_enter Tryz.func79, Tryz.ntmps79
    go_wp2
    go_ret
    exact ⟨ret_i64 (by rw [HO.out]), Hb.out _⟩
  by_cases hm : 1 < vn
  · have HO : Hid ((sel (decide (vn = 0) || decide (vn = 1)) (left - 1)) = -1) := sel_no _ (by simp; omega)
    go_enter Tryz.func79, Tryz.ntmps79
    go_wp2
    go_ret
    exact ⟨ret_i64 (by rw [HO.out]), Hb.out _⟩
  have HO : Hid ((sel (decide (vn = 0) || decide (vn = 1)) (left - 1)) = left - 1) := sel_yes _ (by simp; omega)
  go_enter Tryz.func79, Tryz.ntmps79
  go_wp2
  go_ret
  exact ⟨ret_i64 (by rw [HO.out]), Hb.out _⟩

set_option maxHeartbeats 4000000 in
set_option maxRecDepth 100000 in
theorem l2ok_int (vn : Int) (a2 a3 a4 : Option Addr) (p2 p3 p4 : Nat) (deep : Nat) (left : Int) (w : World) (h1 : 1 ≤ left) (h2 : left ≤ 40) (h3 : deep ≤ 5) :
    Calls Tryz.prog 79 #[.agg #[.int .i64 2, .int .i64 vn, .slice a2 0 p2, .slice a3 0 p3, .slice a4 0 p4], .int .i64 deep, .int .i64 left] w fun e w' => e = .returned (.int .i64 (sel (intB vn) (left - 1))) ∧ Below w.heap.size w w' := by
  have Hb : Hid (∀ o : Obj, Below w.heap.size w (w.alloc o)) := fun o => (Below.refl _ _).alloc (Nat.le_refl _) o
  have h4 : ¬ left - 1 < 0 := by omega
  have h5 : ¬ (5 : Int) < (deep : Int) := by omega
  have HI : Hid (∀ wx, Calls Tryz.prog 93 #[.int .i64 vn] wx fun e w' => e = .returned (.bool (intB vn)) ∧ wx = w') := fun wx => spec_l2int_any vn wx
  by_cases hi : intB vn = true
  · have HO : Hid ((sel (intB vn) (left - 1)) = left - 1) := sel_yes _ hi
    rw [hi] at HI
    clear hi
    go_enter Tryz.func79, Tryz.ntmps79
    go_wp2_with fail
    refine (HI.out _).mono ?_
    rintro e w1 ⟨rfl, e1⟩
    obtain rfl := e1
    go_wp2
    go_ret
    exact ⟨ret_i64 (by rw [HO.out]), Hb.out _⟩
  · have HO : Hid ((sel (intB vn) (left - 1)) = -1) := sel_no _ (by simpa using hi)
    have hi' : intB vn = false := by simpa using hi
    rw [hi'] at HI
    clear hi hi'
    go_enter Tryz.func79, Tryz.ntmps79
    go_wp2_with fail
    refine (HI.out _).mono ?_
    rintro e w1 ⟨rfl, e1⟩
    obtain rfl := e1
    go_wp2
    go_ret
    exact ⟨ret_i64 (by rw [HO.out]), Hb.out _⟩

set_option maxHeartbeats 4000000 in
set_option maxRecDepth 100000 in
theorem l2ok_text (vs : List Int) (a2 a3 a4 : Option Addr) (p2 p3 p4 : Nat) (deep : Nat) (left : Int) (w : World) (hs : Seg w a2 vs) (hm : vs.length ≤ maxLen) (h1 : 1 ≤ left) (h2 : left ≤ 40) (h3 : deep ≤ 5) :
    Calls Tryz.prog 79 #[.agg #[.int .i64 3, .int .i64 0, .slice a2 vs.length p2, .slice a3 0 p3, .slice a4 0 p4], .int .i64 deep, .int .i64 left] w fun e w' => e = .returned (.int .i64 (sel (textB vs) (left - 1))) ∧ Below w.heap.size w w' := by
  have b0 : ∀ o : Obj, Below w.heap.size w (w.alloc o) := fun o => (Below.refl _ _).alloc (Nat.le_refl _) o
  have Hb : Hid (∀ o : Obj, Below w.heap.size w (w.alloc o)) := b0
  have h4 : ¬ left - 1 < 0 := by omega
  have h5 : ¬ (5 : Int) < (deep : Int) := by omega
  have HI : Hid (∀ o : Obj, Calls Tryz.prog 94 #[.slice a2 vs.length p2] (w.alloc o) fun e w' => e = .returned (.bool (textB vs)) ∧ (w.alloc o) = w') := fun o => spec_l2text_any a2 p2 vs _ (hs.grow (b0 o)) hm
  by_cases hi : textB vs = true
  · have HO : Hid ((sel (textB vs) (left - 1)) = left - 1) := sel_yes _ hi
    rw [hi] at HI
    clear hi b0 hs
    go_enter Tryz.func79, Tryz.ntmps79
    go_wp2_with fail
    refine (HI.out _).mono ?_
    rintro e w1 ⟨rfl, e1⟩
    obtain rfl := e1
    go_wp2
    go_ret
    exact ⟨ret_i64 (by rw [HO.out]), Hb.out _⟩
  · have HO : Hid ((sel (textB vs) (left - 1)) = -1) := sel_no _ (by simpa using hi)
    have hi' : textB vs = false := by simpa using hi
    rw [hi'] at HI
    clear hi hi' b0 hs
    go_enter Tryz.func79, Tryz.ntmps79
    go_wp2_with fail
    refine (HI.out _).mono ?_
    rintro e w1 ⟨rfl, e1⟩
    obtain rfl := e1
    go_wp2
    go_ret
    exact ⟨ret_i64 (by rw [HO.out]), Hb.out _⟩
end Go.Proofs.YtngjhimieacjhaaGreatDoor
/-
  l2ok of the specification at lists and maps.
-/
namespace Go.Proofs.YtngjhimieacjhaaGreatDoor
open Go.RowKit
set_option linter.unusedVariables false
set_option linter.unusedSimpArgs false

/-- What holds ahead of the round k of l2ok. -/
def L2K (d : Nat) (vL : List (Vl d)) (deep : Nat) (left : Int) (k : Nat) (l : Value) : Prop :=
  k ≤ vL.length ∧ l = .int .i64 (left - 1 - pre (partsV d) vL k) ∧ (pre (partsV d) vL k : Int) ≤ left - 1 ∧ ∀ j (h : j < vL.length), j < k → goodB d vL[j] (deep + 1) = true

theorem L2K_zero {d : Nat} {vL : List (Vl d)} {deep : Nat} {left : Int} (h : 1 ≤ left) : L2K d vL deep left 0 (.int .i64 (left - 1)) :=
  ⟨Nat.zero_le _, by rw [pre_zero]; simp, by rw [pre_zero]; simp; omega, fun j _ h => by omega⟩

theorem L2K_succ {d : Nat} {vL : List (Vl d)} {deep : Nat} {left : Int} {k : Nat} {l : Value} (h : L2K d vL deep left k l) (hk : k < vL.length) (hg : goodB d vL[k] (deep + 1) = true) (hp : (partsV d vL[k] : Int) ≤ left - 1 - pre (partsV d) vL k) :
    L2K d vL deep left (k + 1) (.int .i64 (left - 1 - pre (partsV d) vL k - partsV d vL[k])) := by
  have h3 := pre_succ (partsV d) vL k hk
  refine ⟨hk, by rw [h3]; simp; omega, by rw [h3]; simp; omega, fun j hj hjk => ?_⟩
  by_cases e : j = k
  · subst e; exact hg
  · exact h.2.2.2 j hj (by omega)

set_option maxHeartbeats 4000000 in
set_option maxRecDepth 100000 in
theorem l2ok_list (d : Nat) (ih : OkAt d) (N : Nat) (vL : List (Vl d)) (a2 a3 : Option Addr) (p2 p3 : Nat) (x : Value) (deep : Nat) (left : Int) (w : World) (hx : LSeg (fun b => b < N) w d x vL) (hN : N ≤ w.heap.size) (h1 : 1 ≤ left) (h2 : left ≤ 40) (h3 : deep ≤ 5) :
    Calls Tryz.prog 79 #[.agg #[.int .i64 4, .int .i64 0, .slice a2 0 p2, .slice a3 0 p3, x], .int .i64 deep, .int .i64 left] w fun e w' => e = .returned (.int .i64 (okI (d + 1) (4, 0, [], [], vL) deep left)) ∧ Below w.heap.size w w' := by
  have HX := hide' hx
  obtain ⟨a4, p4, rfl, hlc, hcm, ka, _⟩ := hx
  unfold maxLen at hcm
  have b0 : ∀ o : Obj, Below w.heap.size w (w.alloc o) := fun o => (Below.refl _ _).alloc (Nat.le_refl _) o
  have h4 : ¬ left - 1 < 0 := by omega
  have h5 : ¬ (5 : Int) < (deep : Int) := by omega
  have HI := hide' ih
  have Hb := hide' b0
  have H3 := hide' h3
  have H1 := hide' h1
  generalize hO : Obj.cells #[.int .i64 4, .int .i64 0, .slice a2 0 p2, .slice a3 0 p3, .slice a4 vL.length p4] 49 = ob
  have HOb := hide' hO
  clear ih b0 hO
  go_enter Tryz.func79, Tryz.ntmps79
  go_wp2
  go_loopw [2, 7] (fun l i wr => ∃ k : Nat, i = .int .i64 k ∧ L2K d vL deep left k l ∧ Hid (Below (w.alloc ob).heap.size (w.alloc ob) wr)) (fun _ i _ => vL.length - (intOf i).toNat)
  case atStart => exact ⟨0, rfl, L2K_zero H1.out, by rw [← HOb.out]; exact Below.refl _ _⟩
  case round =>
    obtain ⟨k, rfl, hK, hbel⟩ := hrel
    have hHK := hide' hK
    obtain ⟨hk, rfl, hple, _⟩ := hK
    have hrow := box_row hbel.out
    rw [← HOb.out] at hrow
    obtain ⟨y0, y1, y2, y3, y4, _⟩ := row5 hrow
    have B := Below.on (Hb.out ob) hbel.out
    clear hrow
    by_cases hlt : k < vL.length
    · have hlt' : (k : Int) < (vL.length : Int) := by omega
      obtain ⟨b, off, c, rfl, h5', hv⟩ := HX.out.at B hN hlt
      obtain ⟨c0, c1, c2, c3, c4⟩ := c
      obtain ⟨q0, q1, q2, q3, q4⟩ := h5'
      simp only at q0 q1 q2 q3 q4
      have hz := B.size
      have HC : Hid (∀ wx, Below w.heap.size w wx → Calls Tryz.prog 79 #[.agg #[c0, c1, c2, c3, c4], .int .i64 ((deep : Int) + 1), .int .i64 (left - 1 - pre (partsV d) vL k)] wx fun e w' => e = .returned (.int .i64 (okI d vL[k] (deep + 1) (left - 1 - pre (partsV d) vL k))) ∧ Below wx.heap.size wx w') := by
        intro wx hx
        have := HI.out N (c0, c1, c2, c3, c4) vL[k] (deep + 1) (left - 1 - pre (partsV d) vL k) wx (hv wx hx) (by have := hx.size; omega) (by omega) (by omega) (by omega)
        rw [Int.natCast_add] at this
        exact this
      have HN : Hid (¬ (goodB d vL[k] (deep + 1) = true ∧ (partsV d vL[k] : Int) ≤ left - 1 - pre (partsV d) vL k) → okI (d + 1) (4, 0, [], [], vL) deep left = -1) := fun h => okI_kid hlt h
      have HS : Hid (goodB d vL[k] (deep + 1) = true → (partsV d vL[k] : Int) ≤ left - 1 - pre (partsV d) vL k → L2K d vL deep left (k + 1) (.int .i64 (left - 1 - pre (partsV d) vL k - partsV d vL[k]))) := fun h h' => L2K_succ hHK.out hlt h h'
      by_cases hg : goodB d vL[k] (deep + 1) = true ∧ (partsV d vL[k] : Int) ≤ left - 1 - pre (partsV d) vL k
      · rw [okI_yes hg.1 hg.2] at HC
        have HF := hide' (HS.out hg.1 hg.2)
        have hnn : ¬ (left - 1 - pre (partsV d) vL k - partsV d vL[k] < 0) := by omega
        have hup : left - 1 - pre (partsV d) vL k - partsV d vL[k] ≤ 40 := by omega
        generalize partsV d vL[k] = q at *
        generalize pre (partsV d) vL k = p at *
        clear HN HS hg hv
        go_wp2_with fail
        go_quiet (fail)
        go_wp2_with fail
        refine (HC.out _ (below_drewN B _)).mono ?_
        rintro e w1 ⟨rfl, b1⟩
        have B1 : Hid (Below (w.alloc ob).heap.size (w.alloc ob) w1) := Below.on (below_drewN hbel.out _) b1
        clear q0 q1 q2 q3 q4 b1
        go_wp2
        go_roundw
        case rel => exact ⟨k + 1, by go_num, HF.out, B1⟩
        case measure => simp [intOf]; omega
      · rw [okI_no hg] at HC
        have HF := hide' (HN.out hg)
        generalize pre (partsV d) vL k = p at *
        clear HN HS hg hv
        go_wp2_with fail
        go_quiet (fail)
        go_wp2_with fail
        refine (HC.out _ (below_drewN B _)).mono ?_
        rintro e w1 ⟨rfl, b1⟩
        have B1 : Below w.heap.size w w1 := Below.on (below_drewN B _) b1
        clear q0 q1 q2 q3 q4 b1
        go_wp2
        go_ret
        exact ⟨ret_i64 (by rw [HF.out]), B1⟩
    · have hkn : k = vL.length := by omega
      have hlt' : ¬ (k : Int) < (vL.length : Int) := by omega
      have HF : Hid (okI (d + 1) (4, 0, [], [], vL) deep left = left - 1 - pre (partsV d) vL k) := by
        show okI (d + 1) (4, 0, [], [], vL) deep left = _
        rw [okI_all H3.out (by simp [shapeB, bareB]) (fun j h => hHK.out.2.2.2 j h (by omega)) (by rw [← hkn]; exact hple), ← hkn]
      clear hkn
      go_wp2
      go_ret
      exact ⟨ret_i64 (by rw [HF.out]), B⟩
end Go.Proofs.YtngjhimieacjhaaGreatDoor
/-
  Addresses, each behind the one ahead of it: l4addrs of the specification, ascendingAddrs of the program.
-/
namespace Go.Proofs.YtngjhimieacjhaaGreatDoor
open Go.RowKit
set_option linter.unusedVariables false
set_option linter.unusedSimpArgs false

def stepA (ks : List (List Int)) (i : Nat) : Bool := addrB (ks.getD i []) && (i == 0 || ltS (ks.getD (i - 1) []) (ks.getD i []))
def ascA (ks : List (List Int)) : Bool := (List.range ks.length).all (stepA ks)
def addrsB (ks : List (List Int)) : Bool := decide (ks.length ≤ 8) && ascA ks
theorem ascA_yes {ks : List (List Int)} (h : ∀ i, i < ks.length → stepA ks i = true) : ascA ks = true := by
  unfold ascA
  rw [List.all_eq_true]
  exact fun i hi => h i (List.mem_range.1 hi)
theorem ascA_no {ks : List (List Int)} {i : Nat} (hi : i < ks.length) (h : stepA ks i = false) : ascA ks = false := by
  cases hc : ascA ks with
  | false => rfl
  | true =>
    unfold ascA at hc
    rw [List.all_eq_true.1 hc i (List.mem_range.2 hi)] at h
    cases h

/-- A key's bytes, its slice in full. -/
theorem KSeg.full {R : Nat → Prop} {w : World} {a : Option Addr} {n cap : Nat} {ks : List (List Int)} (h : KSeg R w (.slice a n cap) ks) {k : Nat} (hk : k < ks.length) :
    ∃ b off, a = some ⟨b, off, none⟩ ∧ ∀ i (hi : i < ks.length), ∃ a2 c2, w.cell? ⟨b, off + i, none⟩ = some (.slice a2 (ks.getD i []).length c2) ∧ Seg w a2 (ks.getD i []) ∧ (ks.getD i []).length ≤ c2 ∧ c2 ≤ maxLen ∧ (a2 = none → c2 = 0) := by
  obtain ⟨a', cap', g1, _, _, _, g5⟩ := h
  simp only [Value.slice.injEq] at g1
  obtain ⟨rfl, _, _⟩ := g1
  rcases g5 with e | ⟨b, off, hb, hR, hc⟩
  · rw [e] at hk; simp at hk
  · refine ⟨b, off, hb, fun i hi => ?_⟩
    obtain ⟨u, hu, hT⟩ := hc i hi
    obtain ⟨a2, c2, rfl, s2, l2, m2, k2, _⟩ := hT
    exact ⟨a2, c2, hu, s2, l2, m2, k2⟩

set_option maxHeartbeats 3200000 in
theorem ascendingAddrs_any (N : Nat) (x : Value) (ks : List (List Int)) (w : World) (hx : KSeg (fun b => b < N) w x ks) (hN : N ≤ w.heap.size) (hz : ∀ i, i < ks.length → (ks.getD i []).length ≤ 1048576) (hE : Errs w) :
    Calls Tryz.prog 47 #[x] w fun e w' => e = .returned (.bool (ascA ks)) ∧ Below w.heap.size w w' := by
  have HX := hide' hx
  have HZ := hide' hz
  have HEr := hide' hE
  obtain ⟨a, cap, rfl, hlc, hcm, ka, hc⟩ := hx
  unfold maxLen at hcm
  clear hc hz hE
  have HY : Hid ((∀ i, i < ks.length → stepA ks i = true) → ascA ks = true) := ascA_yes
  have HNo : Hid (∀ i, i < ks.length → stepA ks i = false → ascA ks = false) := fun i hi h => ascA_no hi h
  go_enter Tryz.func47, Tryz.ntmps47
  go_wp2
  go_loopw [7] (fun i wr => ∃ k : Nat, k ≤ ks.length ∧ i = .int .i64 k ∧ Hid ((∀ j, j < k → stepA ks j = true) ∧ Below w.heap.size w wr)) (fun i _ => ks.length - (intOf i).toNat)
  case atStart => exact ⟨0, Nat.zero_le _, rfl, fun j h => by omega, Below.refl _ _⟩
  case round =>
    obtain ⟨k, hk, rfl, hS⟩ := hrel
    obtain ⟨hall, hbr⟩ := hS.out
    have HAll := hide' hall
    have HB := hide' hbr
    by_cases hlt : k < ks.length
    rotate_left
    · have hlt' : ¬ (k : Int) < (ks.length : Int) := by omega
      have HF := hide' (HY.out fun i hi => hall i (by omega))
      clear hS hall hbr
      go_wp2
      go_ret
      exact ⟨ret_bool HF.out.symm, HB.out⟩
    have hlt' : (k : Int) < (ks.length : Int) := by omega
    obtain ⟨b, off, rfl, hat⟩ := (HX.out.agree (agree_below (hbr.mono hN))).full hlt
    obtain ⟨a2, c2, hu, s2, l2, m2, k2⟩ := hat k hlt
    have hzk := HZ.out k hlt
    have HAd := hide' (impl_AddrOk_any a2 c2 (ks.getD k []) wr s2 (by omega) l2 m2 k2 (HEr.out.grow hbr))
    clear hS hall hbr
    by_cases hn : addrB (ks.getD k []) = true
    rotate_left
    · have hn' : addrB (ks.getD k []) = false := by simpa using hn
      have HF := hide' (HNo.out k hlt (by unfold stepA; rw [hn']; rfl))
      rw [hn'] at HAd
      generalize (ks.getD k []) = ys at *
      clear hat hn hn'
      go_wp2_with fail
      refine HAd.out.mono ?_
      rintro e w1 ⟨rfl, b1⟩
      have B1 := hide' (Below.on HB.out b1)
      clear b1
      go_wp2
      go_ret
      exact ⟨ret_bool HF.out.symm, B1.out⟩
    rw [hn] at HAd
    cases k with
    | zero =>
      have HS : Hid (stepA ks 0 = true) := by show stepA ks 0 = true; unfold stepA; rw [hn]; rfl
      generalize (ks.getD 0 []) = ys at *
      simp only [Nat.add_zero] at hu
      clear hat
      go_wp2_with fail
      refine HAd.out.mono ?_
      rintro e w1 ⟨rfl, b1⟩
      have HS1 : ∀ j, j < 0 + 1 → stepA ks j = true := by
        intro j hj
        obtain rfl : j = 0 := by omega
        exact HS.out
      have HN : Hid ((∀ j, j < 0 + 1 → stepA ks j = true) ∧ Below w.heap.size w w1) := ⟨HS1, Below.on HB.out b1⟩
      clear HS1
      clear b1
      go_wp2
      go_roundw
      case rel => exact ⟨0 + 1, by omega, by go_num, HN⟩
      case measure => simp [intOf]; omega
    | succ j =>
      obtain ⟨a3, c3, hu3, s3, l3, m3, k3⟩ := hat j (by omega)
      have hst : stepA ks (j + 1) = ltS (ks.getD j []) (ks.getD (j + 1) []) := by simp only [stepA, hn]; simp
      have HC : Hid (∀ wx, Below wr.heap.size wr wx → Calls Tryz.prog 66 #[.slice a3 (ks.getD j []).length c3, .slice a2 (ks.getD (j + 1) []).length c2] wx fun e w' => e = .returned (.int .i64 (Lib.compareBytes (u8s (ks.getD j [])) (u8s (ks.getD (j + 1) [])))) ∧ wx = w') := fun wx hb => bytes_Compare_any a3 a2 c3 c2 (ks.getD j []) (ks.getD (j + 1) []) wx (s3.grow hb) (s2.grow hb)
      have Hu3 : Hid (∀ wx, Below wr.heap.size wr wx → wx.cell? ⟨b, off + j, none⟩ = some (.slice a3 (ks.getD j []).length c3)) := fun wx hb => (hb.cell (World.block_lt_of_cell? wr _ hu3)).trans hu3
      have hlc : ltS (ks.getD j []) (ks.getD (j + 1) []) = decide (Lib.compareBytes (u8s (ks.getD j [])) (u8s (ks.getD (j + 1) [])) < 0) := less_cmp _ _
      rw [hlc] at hst
      have hcr := cmp_range (u8s (ks.getD j [])) (u8s (ks.getD (j + 1) []))
      have HS := hide' hst
      generalize Lib.compareBytes (u8s (ks.getD j [])) (u8s (ks.getD (j + 1) [])) = q at *
      generalize (ks.getD (j + 1) []) = ys at *
      generalize (ks.getD j []) = zs at *
      clear hat hst hlc hn s2 s3 hu3
      go_wp2_with fail
      refine HAd.out.mono ?_
      rintro e w1 ⟨rfl, b1⟩
      have hu3 := Hu3.out _ b1
      have HC1 := hide' (HC.out _ b1)
      have B1 := hide' (Below.on HB.out b1)
      clear b1 hu HC Hu3
      go_wp2_with fail
      refine HC1.out.mono ?_
      rintro e w2 ⟨rfl, e2⟩
      obtain rfl := e2
      by_cases hq : 0 ≤ q
      · have HF := hide' (HNo.out (j + 1) (by omega) (by rw [HS.out]; simpa using hq))
        go_wp2
        go_ret
        exact ⟨ret_bool HF.out.symm, B1.out⟩
      · have HN : Hid ((∀ i, i < j + 2 → stepA ks i = true) ∧ Below w.heap.size w w1) := ⟨fun i hi => by
            by_cases e : i = j + 1
            · rw [e, HS.out]; simpa using hq
            · exact HAll.out i (by omega), B1.out⟩
        go_wp2
        go_roundw
        case rel => exact ⟨j + 2, by omega, by go_num, HN⟩
        case measure => simp [intOf]; omega

set_option maxHeartbeats 3200000 in
theorem l4addrs_any (N : Nat) (x : Value) (ks : List (List Int)) (w : World) (hx : KSeg (fun b => b < N) w x ks) (hN : N ≤ w.heap.size) :
    Calls Tryz.prog 44 #[x] w fun e w' => e = .returned (.bool (addrsB ks)) ∧ Below w.heap.size w w' := by
  have HX := hide' hx
  obtain ⟨a, cap, rfl, hlc, hcm, ka, hc⟩ := hx
  unfold maxLen at hcm
  clear hc
  by_cases h8 : 8 < ks.length
  · have h8' : (8 : Int) < (ks.length : Int) := by omega
    have HF : Hid (addrsB ks = false) := by show addrsB ks = false; unfold addrsB; rw [decide_eq_false (by omega)]; rfl
    go_enter Tryz.func44, Tryz.ntmps44
    go_wp2
    go_ret
    exact ⟨ret_bool HF.out.symm, Below.refl _ _⟩
  have h8' : ¬ (8 : Int) < (ks.length : Int) := by omega
  have HY : Hid ((∀ i, i < ks.length → stepA ks i = true) → addrsB ks = true) := fun h => by unfold addrsB; rw [ascA_yes h, decide_eq_true (by omega)]; rfl
  have HNo : Hid (∀ i, i < ks.length → stepA ks i = false → addrsB ks = false) := fun i hi h => by unfold addrsB; rw [ascA_no hi h]; simp
  go_enter Tryz.func44, Tryz.ntmps44
  go_wp2
  go_loopw [3] (fun i wr => ∃ k : Nat, k ≤ ks.length ∧ i = .int .i64 k ∧ Hid ((∀ j, j < k → stepA ks j = true) ∧ Below w.heap.size w wr)) (fun i _ => ks.length - (intOf i).toNat)
  case atStart => exact ⟨0, Nat.zero_le _, rfl, fun j h => by omega, Below.refl _ _⟩
  case round =>
    obtain ⟨k, hk, rfl, hS⟩ := hrel
    obtain ⟨hall, hbr⟩ := hS.out
    have HAll := hide' hall
    have HB := hide' hbr
    by_cases hlt : k < ks.length
    rotate_left
    · have hlt' : ¬ (k : Int) < (ks.length : Int) := by omega
      have HF := hide' (HY.out fun i hi => hall i (by omega))
      clear hS hall hbr
      go_wp2
      go_ret
      exact ⟨ret_bool HF.out.symm, HB.out⟩
    have hlt' : (k : Int) < (ks.length : Int) := by omega
    obtain ⟨b, off, rfl, hat⟩ := (HX.out.agree (agree_below (hbr.mono hN))).full hlt
    obtain ⟨a2, c2, hu, s2, l2, m2, k2⟩ := hat k hlt
    have HAd : Hid (∀ n, Calls Tryz.prog 42 #[.slice a2 (ks.getD k []).length c2] (wr.drewN n) fun e w' => e = .returned (.bool (addrB (ks.getD k []))) ∧ wr.drewN n = w') := fun n => spec_AddrOk_any a2 c2 (ks.getD k []) (wr.drewN n) s2 l2 m2 k2
    clear hS hall hbr
    by_cases hn : addrB (ks.getD k []) = true
    rotate_left
    · have hn' : addrB (ks.getD k []) = false := by simpa using hn
      have HF := hide' (HNo.out k hlt (by unfold stepA; rw [hn']; rfl))
      rw [hn'] at HAd
      generalize (ks.getD k []) = ys at *
      clear hat hn hn'
      go_wp2_with fail
      go_big_quiet ((go_at_call 42; exact quiet_same (HAd.out _)))
      go_wp2
      go_ret
      exact ⟨ret_bool HF.out.symm, below_drewN HB.out _⟩
    rw [hn] at HAd
    cases k with
    | zero =>
      have HS1 : ∀ j, j < 0 + 1 → stepA ks j = true := by
        intro j hj
        obtain rfl : j = 0 := by omega
        unfold stepA
        rw [hn]
        rfl
      have HN : Hid (∀ n, (∀ j, j < 0 + 1 → stepA ks j = true) ∧ Below w.heap.size w (wr.drewN n)) := fun n => ⟨HS1, below_drewN HB.out n⟩
      clear HS1
      generalize (ks.getD 0 []) = ys at *
      simp only [Nat.add_zero] at hu
      clear hat
      go_wp2_with fail
      go_big_quiet ((go_at_call 42; exact quiet_same (HAd.out _)))
      go_wp2
      go_roundw
      case rel => exact ⟨0 + 1, by omega, by go_num, HN.out _⟩
      case measure => simp [intOf]; omega
    | succ j =>
      obtain ⟨a3, c3, hu3, s3, l3, m3, k3⟩ := hat j (by omega)
      have hst : stepA ks (j + 1) = Op.bytesLess (strOf (ks.getD j [])).toList (strOf (ks.getD (j + 1) [])).toList := by
        rw [strOf_list, strOf_list]
        simp only [stepA, hn]
        simp [ltS]
      have hcv2 : ∀ n, (convert 22 9 (.slice a2 (ks.getD (j + 1) []).length c2)).run Tryz.prog (wr.drewN n) = .ok (.string (strOf (ks.getD (j + 1) []))) (wr.drewN n) := fun n => conv_seg (w := wr.drewN n) c2 s2
      have hcv3 : ∀ n, (convert 22 9 (.slice a3 (ks.getD j []).length c3)).run Tryz.prog (wr.drewN n) = .ok (.string (strOf (ks.getD j []))) (wr.drewN n) := fun n => conv_seg (w := wr.drewN n) c3 s3
      have hpos : (0 : Int) < ((j + 1 : Nat) : Int) := by omega
      by_cases hcmp : Op.bytesLess (strOf (ks.getD j [])).toList (strOf (ks.getD (j + 1) [])).toList = true
      · have HN : Hid (∀ n, (∀ i, i < j + 1 + 1 → stepA ks i = true) ∧ Below w.heap.size w (wr.drewN n)) := fun n => ⟨fun i hi => by
            by_cases e : i = j + 1
            · subst e; rw [hst]; exact hcmp
            · exact HAll.out i (by omega), below_drewN HB.out n⟩
        generalize ks.getD (j + 1) [] = ys at *
        generalize ks.getD j [] = zs at *
        clear hat hn hst s2 s3
        go_wp2_with fail
        go_quiet ((go_at_call 42; exact quiet_same (HAd.out _)))
        go_wp2
        go_roundw
        case rel => exact ⟨(j + 1) + 1, by omega, by go_num, HN.out _⟩
        case measure => simp [intOf]; omega
      · have hcmp' : Op.bytesLess (strOf (ks.getD j [])).toList (strOf (ks.getD (j + 1) [])).toList = false := by simpa using hcmp
        have HF := hide' (HNo.out (j + 1) hlt (by rw [hst]; exact hcmp'))
        generalize ks.getD (j + 1) [] = ys at *
        generalize ks.getD j [] = zs at *
        clear hat hn hst s2 s3 hcmp
        go_wp2_with fail
        go_quiet ((go_at_call 42; exact quiet_same (HAd.out _)))
        go_wp2
        go_ret
        exact ⟨ret_bool HF.out.symm, below_drewN HB.out _⟩
end Go.Proofs.YtngjhimieacjhaaGreatDoor
/-
  l2ok of the specification, its ways out ahead of the kinds: too many parts, too deep, a field that the kind does not have.
-/
namespace Go.Proofs.YtngjhimieacjhaaGreatDoor
open Go.RowKit
set_option linter.unusedVariables false
set_option linter.unusedSimpArgs false

set_option maxHeartbeats 4000000 in
set_option maxRecDepth 100000 in
theorem l2ok_left (vk vn : Int) (a2 a3 a4 : Option Addr) (n2 n3 n4 p2 p3 p4 : Nat) (deep : Nat) (left : Int) (w : World) (h1 : left < 1) (h2 : 0 ≤ left) :
    Calls Tryz.prog 79 #[.agg #[.int .i64 vk, .int .i64 vn, .slice a2 n2 p2, .slice a3 n3 p3, .slice a4 n4 p4], .int .i64 deep, .int .i64 left] w fun e w' => e = .returned (.int .i64 (-1)) ∧ Below w.heap.size w w' := by
  have Hb : Hid (∀ o : Obj, Below w.heap.size w (w.alloc o)) := fun o => (Below.refl _ _).alloc (Nat.le_refl _) o
  have h3 : left - 1 < 0 := by omega
  go_enter Tryz.func79, Tryz.ntmps79
  go_wp2
  go_ret
  exact ⟨rfl, Hb.out _⟩

set_option maxHeartbeats 4000000 in
set_option maxRecDepth 100000 in
theorem l2ok_deep (vk vn : Int) (a2 a3 a4 : Option Addr) (n2 n3 n4 p2 p3 p4 : Nat) (deep : Nat) (left : Int) (w : World) (h1 : 1 ≤ left) (h2 : left ≤ 40) (h3 : 5 < deep) :
    Calls Tryz.prog 79 #[.agg #[.int .i64 vk, .int .i64 vn, .slice a2 n2 p2, .slice a3 n3 p3, .slice a4 n4 p4], .int .i64 deep, .int .i64 left] w fun e w' => e = .returned (.int .i64 (-1)) ∧ Below w.heap.size w w' := by
  have Hb : Hid (∀ o : Obj, Below w.heap.size w (w.alloc o)) := fun o => (Below.refl _ _).alloc (Nat.le_refl _) o
  have h4 : ¬ left - 1 < 0 := by omega
  have h5 : (5 : Int) < (deep : Int) := by omega
  go_enter Tryz.func79, Tryz.ntmps79
  go_wp2
  go_ret
  exact ⟨rfl, Hb.out _⟩

set_option maxHeartbeats 8000000 in
set_option maxRecDepth 100000 in
theorem l2ok_bare (vk vn : Int) (a2 a3 a4 : Option Addr) (n2 n3 n4 p2 p3 p4 : Nat) (deep : Nat) (left : Int) (w : World) (h1 : 1 ≤ left) (h2 : left ≤ 40) (h3 : deep ≤ 5) (hbare : bareB vk vn n2 n3 n4 = false) :
    Calls Tryz.prog 79 #[.agg #[.int .i64 vk, .int .i64 vn, .slice a2 n2 p2, .slice a3 n3 p3, .slice a4 n4 p4], .int .i64 deep, .int .i64 left] w fun e w' => e = .returned (.int .i64 (-1)) ∧ Below w.heap.size w w' := by
  have Hb : Hid (∀ o : Obj, Below w.heap.size w (w.alloc o)) := fun o => (Below.refl _ _).alloc (Nat.le_refl _) o
  have h4 : ¬ left - 1 < 0 := by omega
  have h5 : ¬ (5 : Int) < (deep : Int) := by omega
  by_cases k1 : vk = 1
  · subst k1
    by_cases an2 : n2 = 0
    · subst an2
      by_cases an3 : n3 = 0
      · subst an3
        by_cases an4 : n4 = 0
        · subst an4
          simp [bareB, *] at hbare
        · have bn4 : (0 : Int) < (n4 : Int) := by omega
          clear hbare
          go_enter Tryz.func79, Tryz.ntmps79
          go_wp2
          go_ret
          exact ⟨rfl, Hb.out _⟩
      · have bn3 : (0 : Int) < (n3 : Int) := by omega
        clear hbare
        go_enter Tryz.func79, Tryz.ntmps79
        go_wp2
        go_ret
        exact ⟨rfl, Hb.out _⟩
    · have bn2 : (0 : Int) < (n2 : Int) := by omega
      clear hbare
      go_enter Tryz.func79, Tryz.ntmps79
      go_wp2
      go_ret
      exact ⟨rfl, Hb.out _⟩
  by_cases k2 : vk = 2
  · subst k2
    by_cases an2 : n2 = 0
    · subst an2
      by_cases an3 : n3 = 0
      · subst an3
        by_cases an4 : n4 = 0
        · subst an4
          simp [bareB, *] at hbare
        · have bn4 : (0 : Int) < (n4 : Int) := by omega
          clear hbare
          go_enter Tryz.func79, Tryz.ntmps79
          go_wp2
          go_ret
          exact ⟨rfl, Hb.out _⟩
      · have bn3 : (0 : Int) < (n3 : Int) := by omega
        clear hbare
        go_enter Tryz.func79, Tryz.ntmps79
        go_wp2
        go_ret
        exact ⟨rfl, Hb.out _⟩
    · have bn2 : (0 : Int) < (n2 : Int) := by omega
      clear hbare
      go_enter Tryz.func79, Tryz.ntmps79
      go_wp2
      go_ret
      exact ⟨rfl, Hb.out _⟩
  by_cases k3 : vk = 3
  · subst k3
    by_cases an3 : n3 = 0
    · subst an3
      by_cases an : vn = 0
      · subst an
        by_cases an4 : n4 = 0
        · subst an4
          simp [bareB, *] at hbare
        · have bn4 : (0 : Int) < (n4 : Int) := by omega
          clear hbare
          go_enter Tryz.func79, Tryz.ntmps79
          go_wp2
          go_ret
          exact ⟨rfl, Hb.out _⟩
      · clear hbare
        go_enter Tryz.func79, Tryz.ntmps79
        go_wp2
        go_ret
        exact ⟨rfl, Hb.out _⟩
    · have bn3 : (0 : Int) < (n3 : Int) := by omega
      clear hbare
      go_enter Tryz.func79, Tryz.ntmps79
      go_wp2
      go_ret
      exact ⟨rfl, Hb.out _⟩
  by_cases k4 : vk = 4
  · subst k4
    by_cases an2 : n2 = 0
    · subst an2
      by_cases an3 : n3 = 0
      · subst an3
        by_cases an : vn = 0
        · subst an
          simp [bareB, *] at hbare
        · clear hbare
          go_enter Tryz.func79, Tryz.ntmps79
          go_wp2
          go_ret
          exact ⟨rfl, Hb.out _⟩
      · have bn3 : (0 : Int) < (n3 : Int) := by omega
        clear hbare
        go_enter Tryz.func79, Tryz.ntmps79
        go_wp2
        go_ret
        exact ⟨rfl, Hb.out _⟩
    · have bn2 : (0 : Int) < (n2 : Int) := by omega
      clear hbare
      go_enter Tryz.func79, Tryz.ntmps79
      go_wp2
      go_ret
      exact ⟨rfl, Hb.out _⟩
  by_cases k5 : vk = 5
  · subst k5
    by_cases an2 : n2 = 0
    · subst an2
      by_cases an : vn = 0
      · subst an
        simp [bareB, *] at hbare
      · clear hbare
        go_enter Tryz.func79, Tryz.ntmps79
        go_wp2
        go_ret
        exact ⟨rfl, Hb.out _⟩
    · have bn2 : (0 : Int) < (n2 : Int) := by omega
      clear hbare
      go_enter Tryz.func79, Tryz.ntmps79
      go_wp2
      go_ret
      exact ⟨rfl, Hb.out _⟩
  have q1 : (vk != 1) = true := by simp [k1]
  have q2 : (vk != 2) = true := by simp [k2]
  have q3 : (vk != 3) = true := by simp [k3]
  have q4 : (vk != 4) = true := by simp [k4]
  have q5 : (vk != 5) = true := by simp [k5]
  by_cases an2 : n2 = 0
  · subst an2
    by_cases an3 : n3 = 0
    · subst an3
      by_cases an : vn = 0
      · subst an
        by_cases an4 : n4 = 0
        · subst an4
          simp [bareB, *] at hbare
        · have bn4 : (0 : Int) < (n4 : Int) := by omega
          clear hbare
          go_enter Tryz.func79, Tryz.ntmps79
          go_wp2
          go_ret
          exact ⟨rfl, Hb.out _⟩
      · clear hbare
        go_enter Tryz.func79, Tryz.ntmps79
        go_wp2
        go_ret
        exact ⟨rfl, Hb.out _⟩
    · have bn3 : (0 : Int) < (n3 : Int) := by omega
      clear hbare
      go_enter Tryz.func79, Tryz.ntmps79
      go_wp2
      go_ret
      exact ⟨rfl, Hb.out _⟩
  · have bn2 : (0 : Int) < (n2 : Int) := by omega
    clear hbare
    go_enter Tryz.func79, Tryz.ntmps79
    go_wp2
    go_ret
    exact ⟨rfl, Hb.out _⟩
end Go.Proofs.YtngjhimieacjhaaGreatDoor
