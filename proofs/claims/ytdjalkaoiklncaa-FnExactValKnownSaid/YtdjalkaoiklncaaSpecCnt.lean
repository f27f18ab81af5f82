/-
  l2parts, l2deep, l2known of the specification, and ValParts, ValDeep, ValKnown of it, at every value.
-/
import Derived.Test.YtdjalkaoiklncaaL2e
namespace Go.Proofs.Ytdjalkaoiklncaa
open Go.RowKit
set_option linter.unusedVariables false
set_option linter.unusedSimpArgs false

/-- How deep the deepest part is. -/
def deepV : (d : Nat) → Vl d → Nat
  | 0, _ => 0
  | d + 1, v => (v.2.2.2.2.map (deepV d)).foldr max 0 + 1
/-- No part is unknown. -/
def knownV : (d : Nat) → Vl d → Bool
  | 0, _ => false
  | d + 1, v => decide (v.1 ≠ 6) && v.2.2.2.2.all (knownV d)

/-- The greatest of the first k. -/
def mx {α : Type} (f : α → Nat) (l : List α) (k : Nat) : Nat := ((l.take k).map f).foldl max 0
theorem mx_zero {α : Type} (f : α → Nat) (l : List α) : mx f l 0 = 0 := by simp [mx]
theorem mx_succ {α : Type} (f : α → Nat) (l : List α) (k : Nat) (h : k < l.length) : mx f l (k + 1) = max (mx f l k) (f l[k]) := by
  unfold mx
  rw [List.take_succ_eq_append_getElem h, List.map_append, List.foldl_append]
  simp only [List.map_cons, List.map_nil, List.foldl_cons, List.foldl_nil]
theorem foldl_max (l : List Nat) : ∀ a, l.foldl max a = max a (l.foldr max 0) := by
  induction l with
  | nil => intro a; simp
  | cons x l ih => intro a; simp only [List.foldl_cons, List.foldr_cons]; rw [ih]; omega
theorem mx_all {α : Type} (f : α → Nat) (l : List α) : mx f l l.length = (l.map f).foldr max 0 := by
  unfold mx
  rw [List.take_length, foldl_max]
  omega
theorem deep_succ (d : Nat) (vk vn : Int) (vs : List Int) (vK : List (List Int)) (vL : List (Vl d)) : deepV (d + 1) (vk, vn, vs, vK, vL) = mx (deepV d) vL vL.length + 1 := by
  rw [mx_all]; rfl
theorem mx_le_pre {α : Type} (f g : α → Nat) (l : List α) (h : ∀ x, f x ≤ g x) : ∀ k, k ≤ l.length → mx f l k ≤ pre g l k
  | 0, _ => by simp [mx_zero]
  | k + 1, hk => by
    have := mx_le_pre f g l h k (by omega)
    have h1 := mx_succ f l k (by omega)
    have h2 := pre_succ g l k (by omega)
    have := h l[k]
    omega
theorem deep_le (d : Nat) : ∀ v : Vl d, deepV d v ≤ partsV d v := by
  induction d with
  | zero => intro v; exact v.elim
  | succ d ih =>
    intro v
    obtain ⟨vk, vn, vs, vK, vL⟩ := v
    rw [deep_succ, parts_succ]
    have := mx_le_pre (deepV d) (partsV d) vL ih vL.length (Nat.le_refl _)
    omega
theorem known_no {d : Nat} {vk vn : Int} {vs : List Int} {vK : List (List Int)} {vL : List (Vl d)} {k : Nat} (hk : k < vL.length) (h : knownV d vL[k] = false) : knownV (d + 1) (vk, vn, vs, vK, vL) = false := by
  show (decide (vk ≠ 6) && vL.all (knownV d)) = false
  rw [Bool.and_eq_false_iff]
  refine .inr ?_
  rw [List.all_eq_false]
  exact ⟨vL[k], List.getElem_mem hk, by simp [h]⟩
theorem known_yes {d : Nat} {vk vn : Int} {vs : List Int} {vK : List (List Int)} {vL : List (Vl d)} (hk : vk ≠ 6) (h : ∀ k (hk : k < vL.length), knownV d vL[k] = true) : knownV (d + 1) (vk, vn, vs, vK, vL) = true := by
  show (decide (vk ≠ 6) && vL.all (knownV d)) = true
  simp only [Bool.and_eq_true, decide_eq_true_eq, List.all_eq_true]
  refine ⟨hk, fun x hx => ?_⟩
  obtain ⟨i, hi, rfl⟩ := List.getElem_of_mem hx
  exact h i hi
theorem kid_parts {d : Nat} {vk vn : Int} {vs : List Int} {vK : List (List Int)} {vL : List (Vl d)} {k : Nat} (hk : k < vL.length) (h : partsV (d + 1) (vk, vn, vs, vK, vL) ≤ 40) : partsV d vL[k] ≤ 40 ∧ 1 + pre (partsV d) vL (k + 1) ≤ 40 := by
  rw [parts_succ] at h
  have h1 := pre_succ (partsV d) vL k hk
  have h2 := pre_le (partsV d) vL (k + 1)
  have h3 := pre_all (partsV d) vL
  omega
theorem pre_le_len {α : Type} (f : α → Nat) (l : List α) (k : Nat) : pre f l k ≤ pre f l l.length := by
  have := pre_le f l k
  have := pre_all f l
  omega

/-- A function of a value that only reads it: what it answers at depth d. -/
def FnAt (F : Nat) (ans : (d : Nat) → Vl d → Value) (d : Nat) : Prop := ∀ (N : Nat) (c : Value × Value × Value × Value × Value) (v : Vl d) (w : World), VSeg (fun b => b < N) w d c v → N ≤ w.heap.size → partsV d v ≤ 40 →
  Calls Try.prog F #[.agg #[c.1, c.2.1, c.2.2.1, c.2.2.2.1, c.2.2.2.2]] w fun e w' => e = .returned (ans d v) ∧ Below w.heap.size w w'

set_option maxHeartbeats 4000000 in
theorem l2parts_succ (d : Nat) (ih : FnAt 19 (fun d v => .int .i64 (partsV d v)) d) : FnAt 19 (fun d v => .int .i64 (partsV d v)) (d + 1) := by
  intro N c v w hv hN hp
  obtain ⟨c0, c1, c2, c3, c4⟩ := c
  obtain ⟨vk, vn, vs, vK, vL⟩ := v
  obtain ⟨e0, e1, ht, hk, hl⟩ := (VSeg_succ _ _ _ _ _).1 hv
  simp only at e0 e1 ht hk hl
  subst e0
  subst e1
  clear hv
  simp only
  have HX := hide' hl
  obtain ⟨a2, p2, rfl, s2, l2, m2, _, _⟩ := ht
  obtain ⟨a3, p3, rfl, _, _, _, _⟩ := hk
  obtain ⟨a4, p4, rfl, hlc, hcm, ka, _⟩ := hl
  unfold maxLen at hcm
  have b0 : ∀ o : Obj, Below w.heap.size w (w.alloc o) := fun o => (Below.refl _ _).alloc (Nat.le_refl _) o
  have Hb := hide' b0
  have HI := hide' ih
  have HP := hide' hp
  generalize hO : Obj.cells #[.int .i64 vk, .int .i64 vn, .slice a2 vs.length p2, .slice a3 vK.length p3, .slice a4 vL.length p4] 31 = ob
  have HOb := hide' hO
  clear ih b0 hO hp s2
  go_enter Try.func19, Try.ntmps19
  go_wp2
  go_loopw [3, 4] (fun n i wr => ∃ k : Nat, k ≤ vL.length ∧ n = .int .i64 ((1 + pre (partsV d) vL k : Nat) : Int) ∧ i = .int .i64 k ∧ Hid (Below (w.alloc ob).heap.size (w.alloc ob) wr)) (fun _ i _ => vL.length - (intOf i).toNat)
  case atStart => exact ⟨0, Nat.zero_le _, by rw [pre_zero]; rfl, rfl, by rw [← HOb.out]; exact Below.refl _ _⟩
  case round =>
    obtain ⟨k, hk, rfl, rfl, hbel⟩ := hrel
    have hrow := box_row hbel.out
    rw [← HOb.out] at hrow
    obtain ⟨y0, y1, y2, y3, y4, _⟩ := row5 hrow
    have B := Below.on (Hb.out ob) hbel.out
    clear hrow
    by_cases hlt : k < vL.length
    · have hlt' : (k : Int) < (vL.length : Int) := by omega
      obtain ⟨b, off, c, rfl, h5', hv⟩ := HX.out.at B hN hlt
      obtain ⟨c0, c1, c2, c3, c4⟩ := c
      obtain ⟨q0, q1, q2, q3, q4⟩ := h5'
      simp only at q0 q1 q2 q3 q4
      have hz := B.size
      obtain ⟨hp1, hp2⟩ := kid_parts hlt HP.out
      have HC0 := HI.out N (c0, c1, c2, c3, c4) vL[k] wr (hv wr B) (by omega) hp1
      dsimp only at HC0
      have HC := hide' HC0
      clear HC0
      have hps := pre_succ (partsV d) vL k hlt
      have HF : Hid ((1 + pre (partsV d) vL k : Nat) + partsV d vL[k] = 1 + pre (partsV d) vL (k + 1)) := by show _ + _ = _; omega
      have hb1 : ((1 + pre (partsV d) vL k : Nat) : Int) + (partsV d vL[k] : Nat) ≤ 40 := by omega
      generalize partsV d vL[k] = pk at *
      generalize 1 + pre (partsV d) vL k = pp at *
      clear hv hps hp2
      go_wp2_with fail
      refine HC.out.mono ?_
      rintro e w1 ⟨rfl, b1⟩
      have B1 : Hid (Below (w.alloc ob).heap.size (w.alloc ob) w1) := Below.on hbel.out b1
      clear q0 q1 q2 q3 q4 b1
      go_wp2
      go_roundw
      case rel => exact ⟨k + 1, by omega, by rw [← HF.out]; go_num, by go_num, B1⟩
      case measure => simp [intOf]; omega
    · have hkn : k = vL.length := by omega
      have hlt' : ¬ (k : Int) < (vL.length : Int) := by omega
      have HF : Hid (partsV (d + 1) (vk, vn, vs, vK, vL) = 1 + pre (partsV d) vL k) := by show partsV (d + 1) (vk, vn, vs, vK, vL) = _; rw [parts_succ, hkn]
      clear hkn
      go_wp2
      go_ret
      exact ⟨ret_i64 (by rw [HF.out]; omega), B⟩

set_option maxHeartbeats 4000000 in
theorem l2deep_succ (d : Nat) (ih : FnAt 28 (fun d v => .int .i64 (deepV d v)) d) : FnAt 28 (fun d v => .int .i64 (deepV d v)) (d + 1) := by
  intro N c v w hv hN hp
  obtain ⟨c0, c1, c2, c3, c4⟩ := c
  obtain ⟨vk, vn, vs, vK, vL⟩ := v
  obtain ⟨e0, e1, ht, hk, hl⟩ := (VSeg_succ _ _ _ _ _).1 hv
  simp only at e0 e1 ht hk hl
  subst e0
  subst e1
  clear hv
  simp only
  have HX := hide' hl
  obtain ⟨a2, p2, rfl, s2, l2, m2, _, _⟩ := ht
  obtain ⟨a3, p3, rfl, _, _, _, _⟩ := hk
  obtain ⟨a4, p4, rfl, hlc, hcm, ka, _⟩ := hl
  unfold maxLen at hcm
  have b0 : ∀ o : Obj, Below w.heap.size w (w.alloc o) := fun o => (Below.refl _ _).alloc (Nat.le_refl _) o
  have Hb := hide' b0
  have HI := hide' ih
  have HP := hide' hp
  generalize hO : Obj.cells #[.int .i64 vk, .int .i64 vn, .slice a2 vs.length p2, .slice a3 vK.length p3, .slice a4 vL.length p4] 31 = ob
  have HOb := hide' hO
  clear ih b0 hO hp s2
  go_enter Try.func28, Try.ntmps28
  go_wp2
  go_loopw [3, 4] (fun n i wr => ∃ k : Nat, k ≤ vL.length ∧ n = .int .i64 ((mx (deepV d) vL k : Nat) : Int) ∧ i = .int .i64 k ∧ Hid (Below (w.alloc ob).heap.size (w.alloc ob) wr)) (fun _ i _ => vL.length - (intOf i).toNat)
  case atStart => exact ⟨0, Nat.zero_le _, by rw [mx_zero]; rfl, rfl, by rw [← HOb.out]; exact Below.refl _ _⟩
  case round =>
    obtain ⟨k, hk, rfl, rfl, hbel⟩ := hrel
    have hrow := box_row hbel.out
    rw [← HOb.out] at hrow
    obtain ⟨y0, y1, y2, y3, y4, _⟩ := row5 hrow
    have B := Below.on (Hb.out ob) hbel.out
    clear hrow
    by_cases hlt : k < vL.length
    · have hlt' : (k : Int) < (vL.length : Int) := by omega
      obtain ⟨b, off, c, rfl, h5', hv⟩ := HX.out.at B hN hlt
      obtain ⟨c0, c1, c2, c3, c4⟩ := c
      obtain ⟨q0, q1, q2, q3, q4⟩ := h5'
      simp only at q0 q1 q2 q3 q4
      have hz := B.size
      obtain ⟨hp1, hp2⟩ := kid_parts hlt HP.out
      have HC0 := HI.out N (c0, c1, c2, c3, c4) vL[k] wr (hv wr B) (by omega) hp1
      dsimp only at HC0
      have HC := hide' HC0
      clear HC0
      have hms := mx_succ (deepV d) vL k hlt
      have hd1 := deep_le d vL[k]
      have hd2 := mx_le_pre (deepV d) (partsV d) vL (deep_le d) k (by omega)
      have hd3 := pre_succ (partsV d) vL k hlt
      have hb1 : mx (deepV d) vL k ≤ 40 := by omega
      have hb2 : deepV d vL[k] ≤ 40 := by omega
      have HF : Hid (mx (deepV d) vL (k + 1) = max (mx (deepV d) vL k) (deepV d vL[k])) := hms
      generalize deepV d vL[k] = pk at *
      generalize mx (deepV d) vL k = pp at *
      clear hv hms hd1 hd2 hd3 hp2 hp1
      by_cases hgt : pp < pk
      · have hgt' : (pp : Int) < (pk : Int) := by omega
        go_wp2_with fail
        refine HC.out.mono ?_
        rintro e w1 ⟨rfl, b1⟩
        have B1 : Hid (Below (w.alloc ob).heap.size (w.alloc ob) w1) := Below.on hbel.out b1
        clear q0 q1 q2 q3 q4 b1
        go_wp2
        go_roundw
        case rel => exact ⟨k + 1, by omega, by rw [HF.out, Nat.max_eq_right (by omega)], by go_num, B1⟩
        case measure => simp [intOf]; omega
      · have hgt' : ¬ (pp : Int) < (pk : Int) := by omega
        go_wp2_with fail
        refine HC.out.mono ?_
        rintro e w1 ⟨rfl, b1⟩
        have B1 : Hid (Below (w.alloc ob).heap.size (w.alloc ob) w1) := Below.on hbel.out b1
        clear q0 q1 q2 q3 q4 b1
        go_wp2
        go_roundw
        case rel => exact ⟨k + 1, by omega, by rw [HF.out, Nat.max_eq_left (by omega)], by go_num, B1⟩
        case measure => simp [intOf]; omega
    · have hkn : k = vL.length := by omega
      have hlt' : ¬ (k : Int) < (vL.length : Int) := by omega
      have hd2 := mx_le_pre (deepV d) (partsV d) vL (deep_le d) k (by omega)
      have hp3 := HP.out
      rw [parts_succ] at hp3
      have hp4 := pre_le_len (partsV d) vL k
      have hb1 : mx (deepV d) vL k ≤ 40 := by omega
      have HF : Hid (deepV (d + 1) (vk, vn, vs, vK, vL) = mx (deepV d) vL k + 1) := by show deepV (d + 1) (vk, vn, vs, vK, vL) = _; rw [deep_succ, hkn]
      generalize mx (deepV d) vL k = pp at *
      clear hkn hd2 hp3 hp4
      go_wp2
      go_ret
      exact ⟨ret_i64 (by rw [HF.out]; go_num), B⟩

set_option maxHeartbeats 4000000 in
theorem l2known_succ (d : Nat) (ih : FnAt 30 (fun d v => .bool (knownV d v)) d) : FnAt 30 (fun d v => .bool (knownV d v)) (d + 1) := by
  intro N c v w hv hN hp
  obtain ⟨c0, c1, c2, c3, c4⟩ := c
  obtain ⟨vk, vn, vs, vK, vL⟩ := v
  obtain ⟨e0, e1, ht, hk, hl⟩ := (VSeg_succ _ _ _ _ _).1 hv
  simp only at e0 e1 ht hk hl
  subst e0
  subst e1
  clear hv
  simp only
  have HX := hide' hl
  obtain ⟨a2, p2, rfl, s2, l2, m2, _, _⟩ := ht
  obtain ⟨a3, p3, rfl, _, _, _, _⟩ := hk
  obtain ⟨a4, p4, rfl, hlc, hcm, ka, _⟩ := hl
  unfold maxLen at hcm
  have b0 : ∀ o : Obj, Below w.heap.size w (w.alloc o) := fun o => (Below.refl _ _).alloc (Nat.le_refl _) o
  have Hb := hide' b0
  have HI := hide' ih
  have HP := hide' hp
  generalize hO : Obj.cells #[.int .i64 vk, .int .i64 vn, .slice a2 vs.length p2, .slice a3 vK.length p3, .slice a4 vL.length p4] 31 = ob
  have HOb := hide' hO
  clear ih b0 hp s2
  by_cases hk6 : vk = 6
  · subst hk6
    subst hO
    have HF : Hid (knownV (d + 1) (6, vn, vs, vK, vL) = false) := rfl
    go_enter Try.func30, Try.ntmps30
    go_wp2
    go_ret
    exact ⟨ret_bool HF.out.symm, Hb.out _⟩
  have HK6 : Hid (vk ≠ 6) := hk6
  clear hO
  go_enter Try.func30, Try.ntmps30
  go_wp2
  go_loopw [3] (fun i wr => ∃ k : Nat, k ≤ vL.length ∧ i = .int .i64 k ∧ (∀ j (h : j < vL.length), j < k → knownV d vL[j] = true) ∧ Hid (Below (w.alloc ob).heap.size (w.alloc ob) wr)) (fun i _ => vL.length - (intOf i).toNat)
  case atStart => exact ⟨0, Nat.zero_le _, rfl, fun j _ h => by omega, by rw [← HOb.out]; exact Below.refl _ _⟩
  case round =>
    obtain ⟨k, hk, rfl, hall, hbel⟩ := hrel
    have hrow := box_row hbel.out
    rw [← HOb.out] at hrow
    obtain ⟨y0, y1, y2, y3, y4, _⟩ := row5 hrow
    have B := Below.on (Hb.out ob) hbel.out
    clear hrow
    by_cases hlt : k < vL.length
    · have hlt' : (k : Int) < (vL.length : Int) := by omega
      obtain ⟨b, off, c, rfl, h5', hv⟩ := HX.out.at B hN hlt
      obtain ⟨c0, c1, c2, c3, c4⟩ := c
      obtain ⟨q0, q1, q2, q3, q4⟩ := h5'
      simp only at q0 q1 q2 q3 q4
      have hz := B.size
      obtain ⟨hp1, hp2⟩ := kid_parts hlt HP.out
      have HC0 := HI.out N (c0, c1, c2, c3, c4) vL[k] wr (hv wr B) (by omega) hp1
      dsimp only at HC0
      have HC := hide' HC0
      clear HC0
      cases hkb : knownV d vL[k] with
      | true =>
        have HF : Hid (∀ j (h : j < vL.length), j < k + 1 → knownV d vL[j] = true) := fun j h hj => by
          by_cases e : j = k
          · subst e; exact hkb
          · exact hall j h (by omega)
        rw [hkb] at HC
        clear hv hkb hall hp1 hp2
        go_wp2_with fail
        refine HC.out.mono ?_
        rintro e w1 ⟨rfl, b1⟩
        have B1 : Hid (Below (w.alloc ob).heap.size (w.alloc ob) w1) := Below.on hbel.out b1
        clear q0 q1 q2 q3 q4 b1
        go_wp2
        go_roundw
        case rel => exact ⟨k + 1, by omega, by go_num, HF.out, B1⟩
        case measure => simp [intOf]; omega
      | false =>
        have HF := hide' (known_no (vk := vk) (vn := vn) (vs := vs) (vK := vK) hlt hkb)
        rw [hkb] at HC
        clear hv hkb hall hp1 hp2
        go_wp2_with fail
        refine HC.out.mono ?_
        rintro e w1 ⟨rfl, b1⟩
        have B1 : Below w.heap.size w w1 := Below.on B b1
        clear q0 q1 q2 q3 q4 b1
        go_wp2
        go_ret
        exact ⟨ret_bool HF.out.symm, B1⟩
    · have hlt' : ¬ (k : Int) < (vL.length : Int) := by omega
      have HF := hide' (known_yes (vn := vn) (vs := vs) (vK := vK) HK6.out fun j h => hall j h (by omega))
      clear hall
      go_wp2
      go_ret
      exact ⟨ret_bool HF.out.symm, B⟩

theorem l2parts_any (d : Nat) : FnAt 19 (fun d v => .int .i64 (partsV d v)) d := by
  induction d with
  | zero => intro N c v w hv; exact hv.elim
  | succ d ih => exact l2parts_succ d ih

theorem l2deep_any (d : Nat) : FnAt 28 (fun d v => .int .i64 (deepV d v)) d := by
  induction d with
  | zero => intro N c v w hv; exact hv.elim
  | succ d ih => exact l2deep_succ d ih

theorem l2known_any (d : Nat) : FnAt 30 (fun d v => .bool (knownV d v)) d := by
  induction d with
  | zero => intro N c v w hv; exact hv.elim
  | succ d ih => exact l2known_succ d ih

/-- What ValParts answers. -/
def ansValParts (d : Nat) (v : Vl d) : Nat := cond (okB d v) (partsV d v) 0

set_option maxHeartbeats 1600000 in
theorem spec_ValParts_any (d N : Nat) (c0 c1 c2 c3 c4 : Value) (v : Vl d) (w : World) (hv : VSeg (fun b => b < N) w d (c0, c1, c2, c3, c4) v) (hN : N ≤ w.heap.size) :
    Calls Try.prog 7 #[.agg #[c0, c1, c2, c3, c4]] w fun e w' => e = .returned (.int .i64 (ansValParts d v)) ∧ Below w.heap.size w w' := by
  have b0 : ∀ o : Obj, Below w.heap.size w (w.alloc o) := fun o => (Below.refl _ _).alloc (Nat.le_refl _) o
  have HV : Hid (∀ wx, Below w.heap.size w wx → VSeg (fun b => b < N) wx d (c0, c1, c2, c3, c4) v) := fun wx hb => VSeg.agree (agree_below (hb.mono hN)) d hv
  have HC : Hid (∀ o : Obj, Calls Try.prog 18 #[.agg #[c0, c1, c2, c3, c4]] (w.alloc o) fun e w' => e = .returned (.bool (okB d v)) ∧ Below (w.alloc o).heap.size (w.alloc o) w') := fun o =>
    spec_ValOk_any d N c0 c1 c2 c3 c4 v (w.alloc o) (HV.out _ (b0 o)) (by have := (b0 o).size; omega)
  have Hb := hide' b0
  obtain ⟨ck, cn, a2, l2, p2, a3, l3, p3, a4, l4, p4, rfl, rfl, rfl, rfl, rfl⟩ := VSeg.form d hv
  clear b0 hv
  cases hb : okB d v with
  | true =>
    have hpar : partsV d v ≤ 40 := by simp [okB] at hb; exact hb.2
    have HA : Hid (ansValParts d v = partsV d v) := by simp [Hid, ansValParts, hb]
    rw [hb] at HC
    clear hb
    go_enter Try.func7, Try.ntmps7
    go_wp2_with fail
    refine (HC.out _).mono ?_
    rintro e w1 ⟨rfl, b1⟩
    have B1 := Below.on (Hb.out _) b1
    obtain ⟨y0, y1, y2, y3, y4, _⟩ := row5 (box_row b1)
    have hz := B1.size
    have HF := hide' (l2parts_any d N (_, _, _, _, _) v w1 (HV.out _ B1) (by omega) hpar)
    clear b1 HC HV
    go_wp2_with fail
    refine HF.out.mono ?_
    rintro e w2 ⟨rfl, b2⟩
    have B2 := Below.on B1 b2
    go_wp2
    go_ret
    exact ⟨ret_i64 (by rw [HA.out]), B2⟩
  | false =>
    have HA : Hid (ansValParts d v = 0) := by simp [Hid, ansValParts, hb]
    rw [hb] at HC
    clear hb
    go_enter Try.func7, Try.ntmps7
    go_wp2_with fail
    refine (HC.out _).mono ?_
    rintro e w1 ⟨rfl, b1⟩
    have B1 := Below.on (Hb.out _) b1
    go_wp2
    go_ret
    exact ⟨ret_i64 (by rw [HA.out]; rfl), B1⟩

/-- What ValDeep answers. -/
def ansValDeep (d : Nat) (v : Vl d) : Nat := cond (okB d v) (deepV d v) 0

set_option maxHeartbeats 1600000 in
theorem spec_ValDeep_any (d N : Nat) (c0 c1 c2 c3 c4 : Value) (v : Vl d) (w : World) (hv : VSeg (fun b => b < N) w d (c0, c1, c2, c3, c4) v) (hN : N ≤ w.heap.size) :
    Calls Try.prog 11 #[.agg #[c0, c1, c2, c3, c4]] w fun e w' => e = .returned (.int .i64 (ansValDeep d v)) ∧ Below w.heap.size w w' := by
  have b0 : ∀ o : Obj, Below w.heap.size w (w.alloc o) := fun o => (Below.refl _ _).alloc (Nat.le_refl _) o
  have HV : Hid (∀ wx, Below w.heap.size w wx → VSeg (fun b => b < N) wx d (c0, c1, c2, c3, c4) v) := fun wx hb => VSeg.agree (agree_below (hb.mono hN)) d hv
  have HC : Hid (∀ o : Obj, Calls Try.prog 18 #[.agg #[c0, c1, c2, c3, c4]] (w.alloc o) fun e w' => e = .returned (.bool (okB d v)) ∧ Below (w.alloc o).heap.size (w.alloc o) w') := fun o =>
    spec_ValOk_any d N c0 c1 c2 c3 c4 v (w.alloc o) (HV.out _ (b0 o)) (by have := (b0 o).size; omega)
  have Hb := hide' b0
  obtain ⟨ck, cn, a2, l2, p2, a3, l3, p3, a4, l4, p4, rfl, rfl, rfl, rfl, rfl⟩ := VSeg.form d hv
  clear b0 hv
  cases hb : okB d v with
  | true =>
    have hpar : partsV d v ≤ 40 := by simp [okB] at hb; exact hb.2
    have HA : Hid (ansValDeep d v = deepV d v) := by simp [Hid, ansValDeep, hb]
    rw [hb] at HC
    clear hb
    go_enter Try.func11, Try.ntmps11
    go_wp2_with fail
    refine (HC.out _).mono ?_
    rintro e w1 ⟨rfl, b1⟩
    have B1 := Below.on (Hb.out _) b1
    obtain ⟨y0, y1, y2, y3, y4, _⟩ := row5 (box_row b1)
    have hz := B1.size
    have HF := hide' (l2deep_any d N (_, _, _, _, _) v w1 (HV.out _ B1) (by omega) hpar)
    clear b1 HC HV
    go_wp2_with fail
    refine HF.out.mono ?_
    rintro e w2 ⟨rfl, b2⟩
    have B2 := Below.on B1 b2
    go_wp2
    go_ret
    exact ⟨ret_i64 (by rw [HA.out]), B2⟩
  | false =>
    have HA : Hid (ansValDeep d v = 0) := by simp [Hid, ansValDeep, hb]
    rw [hb] at HC
    clear hb
    go_enter Try.func11, Try.ntmps11
    go_wp2_with fail
    refine (HC.out _).mono ?_
    rintro e w1 ⟨rfl, b1⟩
    have B1 := Below.on (Hb.out _) b1
    go_wp2
    go_ret
    exact ⟨ret_i64 (by rw [HA.out]; rfl), B1⟩

/-- What ValKnown answers. -/
def ansValKnown (d : Nat) (v : Vl d) : Bool := okB d v && knownV d v

set_option maxHeartbeats 1600000 in
theorem spec_ValKnown_any (d N : Nat) (c0 c1 c2 c3 c4 : Value) (v : Vl d) (w : World) (hv : VSeg (fun b => b < N) w d (c0, c1, c2, c3, c4) v) (hN : N ≤ w.heap.size) :
    Calls Try.prog 13 #[.agg #[c0, c1, c2, c3, c4]] w fun e w' => e = .returned (.bool (ansValKnown d v)) ∧ Below w.heap.size w w' := by
  have b0 : ∀ o : Obj, Below w.heap.size w (w.alloc o) := fun o => (Below.refl _ _).alloc (Nat.le_refl _) o
  have HV : Hid (∀ wx, Below w.heap.size w wx → VSeg (fun b => b < N) wx d (c0, c1, c2, c3, c4) v) := fun wx hb => VSeg.agree (agree_below (hb.mono hN)) d hv
  have HC : Hid (∀ o : Obj, Calls Try.prog 18 #[.agg #[c0, c1, c2, c3, c4]] (w.alloc o) fun e w' => e = .returned (.bool (okB d v)) ∧ Below (w.alloc o).heap.size (w.alloc o) w') := fun o =>
    spec_ValOk_any d N c0 c1 c2 c3 c4 v (w.alloc o) (HV.out _ (b0 o)) (by have := (b0 o).size; omega)
  have Hb := hide' b0
  obtain ⟨ck, cn, a2, l2, p2, a3, l3, p3, a4, l4, p4, rfl, rfl, rfl, rfl, rfl⟩ := VSeg.form d hv
  clear b0 hv
  cases hb : okB d v with
  | true =>
    have hpar : partsV d v ≤ 40 := by simp [okB] at hb; exact hb.2
    have HA : Hid (ansValKnown d v = knownV d v) := by simp [Hid, ansValKnown, hb]
    rw [hb] at HC
    clear hb
    go_enter Try.func13, Try.ntmps13
    go_wp2_with fail
    refine (HC.out _).mono ?_
    rintro e w1 ⟨rfl, b1⟩
    have B1 := Below.on (Hb.out _) b1
    obtain ⟨y0, y1, y2, y3, y4, _⟩ := row5 (box_row b1)
    have hz := B1.size
    have HF := hide' (l2known_any d N (_, _, _, _, _) v w1 (HV.out _ B1) (by omega) hpar)
    clear b1 HC HV
    go_wp2_with fail
    refine HF.out.mono ?_
    rintro e w2 ⟨rfl, b2⟩
    have B2 := Below.on B1 b2
    go_wp2
    go_ret
    exact ⟨ret_bool HA.out.symm, B2⟩
  | false =>
    have HA : Hid (ansValKnown d v = false) := by simp [Hid, ansValKnown, hb]
    rw [hb] at HC
    clear hb
    go_enter Try.func13, Try.ntmps13
    go_wp2_with fail
    refine (HC.out _).mono ?_
    rintro e w1 ⟨rfl, b1⟩
    have B1 := Below.on (Hb.out _) b1
    go_wp2
    go_ret
    exact ⟨ret_bool HA.out.symm, B1⟩
end Go.Proofs.Ytdjalkaoiklncaa
