/-
  Texts that a law leans on, one behind the other; no statement is proved here.
-/
import Derived.Test.YthnkedbmfhokiaaGreatDoorPk9
import Derived.Test.YthnkedbmfhokiaaGreatDoorPk11
import Derived.Test.YthnkedbmfhokiaaGreatDoorPk0
import Derived.Test.YthnkedbmfhokiaaGreatDoorPk6
import Derived.Test.YthnkedbmfhokiaaGreatDoorPk13
import Derived.Maps.Own
import Derived.Deep.RegionLaw
import Derived.Maps.AppendAt
/-
  l2ok and ValOk of the specification, at every value.
-/
namespace Go.Proofs.YthnkedbmfhokiaaGreatDoor
open Go.RowKit
set_option linter.unusedVariables false
set_option linter.unusedSimpArgs false

theorem okI_leaf_sel {d : Nat} {vk vn : Int} {vs : List Int} {vK : List (List Int)} {deep : Nat} {left : Int} (p : Bool) (h1 : deep ≤ 5) (h2 : shapeB vk vn vs vK 0 = p) (h4 : 1 ≤ left) : okI (d + 1) (vk, vn, vs, vK, []) deep left = sel p (left - 1) := by
  cases p with
  | true => rw [okI_leaf h1 h2 h4]; rfl
  | false => rw [okI_shape (d := d) (vL := []) deep left (by simpa using h2)]; rfl

set_option maxHeartbeats 1600000 in
theorem l2ok_succ (d : Nat) (ih : OkAt d) : OkAt (d + 1) := by
  intro N c v deep left w hv hN hd h0 h1
  obtain ⟨c0, c1, c2, c3, c4⟩ := c
  obtain ⟨vk, vn, vs, vK, vL⟩ := v
  obtain ⟨e0, e1, ht, hk, hl⟩ := (VSeg_succ _ _ _ _ _).1 hv
  simp only at e0 e1 ht hk hl
  subst e0
  subst e1
  clear hv
  simp only
  have HK := hk
  have HL := hl
  obtain ⟨a2, p2, rfl, s2, l2, m2, _, _⟩ := ht
  obtain ⟨a3, p3, rfl, _, _, _, _⟩ := hk
  obtain ⟨a4, p4, rfl, _, _, _, _⟩ := hl
  by_cases q1 : left < 1
  · exact (l2ok_left _ _ _ _ _ _ _ _ _ _ _ deep left w q1 h0).mono fun e w' h => ⟨h.1.trans (ret_i64 (okI_left _ deep q1).symm), h.2⟩
  by_cases q2 : 5 < deep
  · exact (l2ok_deep _ _ _ _ _ _ _ _ _ _ _ deep left w (by omega) h1 q2).mono fun e w' h => ⟨h.1.trans (ret_i64 (okI_deep _ left q2).symm), h.2⟩
  by_cases q3 : bareB vk vn vs.length vK.length vL.length = false
  · exact (l2ok_bare _ _ _ _ _ _ _ _ _ _ _ deep left w (by omega) h1 (by omega) q3).mono fun e w' h => ⟨h.1.trans (ret_i64 (okI_bare deep left q3).symm), h.2⟩
  have q4 : bareB vk vn vs.length vK.length vL.length = true := by simpa using q3
  have hL1 : 1 ≤ left := by omega
  have hD1 : deep ≤ 5 := by omega
  clear q1 q2 q3
  by_cases k0 : vk = 0 ∨ vk = 6
  · have : vn = 0 ∧ vs = [] ∧ vK = [] ∧ vL = [] := by rcases k0 with rfl | rfl <;> · simp [bareB] at q4; simpa [and_assoc] using q4
    obtain ⟨rfl, rfl, rfl, rfl⟩ := this
    exact (l2ok_null vk k0 _ _ _ _ _ _ deep left w hL1 h1 hD1).mono fun e w' h => ⟨h.1.trans (ret_i64 (okI_leaf_sel true hD1 (by rcases k0 with rfl | rfl <;> simp [shapeB, bareB]) hL1).symm), h.2⟩
  by_cases k1 : vk = 1
  · subst k1
    have : vs = [] ∧ vK = [] ∧ vL = [] := by simp [bareB] at q4; simpa [and_assoc] using q4
    obtain ⟨rfl, rfl, rfl⟩ := this
    exact (l2ok_bool vn _ _ _ _ _ _ deep left w hL1 h1 hD1).mono fun e w' h => ⟨h.1.trans (ret_i64 (okI_leaf_sel (decide (vn = 0) || decide (vn = 1)) hD1 (by simp [shapeB, bareB]) hL1).symm), h.2⟩
  by_cases k2 : vk = 2
  · subst k2
    have : vs = [] ∧ vK = [] ∧ vL = [] := by simp [bareB] at q4; simpa [and_assoc] using q4
    obtain ⟨rfl, rfl, rfl⟩ := this
    exact (l2ok_int vn _ _ _ _ _ _ deep left w hL1 h1 hD1).mono fun e w' h => ⟨h.1.trans (ret_i64 (okI_leaf_sel (intB vn) hD1 (by simp [shapeB, bareB]) hL1).symm), h.2⟩
  by_cases k3 : vk = 3
  · subst k3
    have : vn = 0 ∧ vK = [] ∧ vL = [] := by simp [bareB] at q4; simpa [and_assoc] using q4
    obtain ⟨rfl, rfl, rfl⟩ := this
    exact (l2ok_text vs _ _ _ _ _ _ deep left w s2 (by omega) hL1 h1 hD1).mono fun e w' h => ⟨h.1.trans (ret_i64 (okI_leaf_sel (textB vs) hD1 (by simp [shapeB, bareB]) hL1).symm), h.2⟩
  by_cases k4 : vk = 4
  · subst k4
    have : vn = 0 ∧ vs = [] ∧ vK = [] := by simp [bareB] at q4; simpa [and_assoc] using q4
    obtain ⟨rfl, rfl, rfl⟩ := this
    exact l2ok_list d ih N vL _ _ _ _ _ deep left w HL hN hL1 h1 hD1
  by_cases k5 : vk = 5
  · subst k5
    have : vn = 0 ∧ vs = [] := by simp [bareB] at q4; simpa [and_assoc] using q4
    obtain ⟨rfl, rfl⟩ := this
    exact l2ok_map d ih N vK vL _ _ _ _ deep left w HK HL hN hL1 h1 hD1
  · have : vn = 0 ∧ vs = [] ∧ vK = [] ∧ vL = [] := by simp [bareB, k1, k2, k3, k4, k5] at q4; simpa [and_assoc] using q4
    obtain ⟨rfl, rfl, rfl, rfl⟩ := this
    have k6 : ¬ vk = 6 := fun e => k0 (.inr e)
    have k0' : ¬ vk = 0 := fun e => k0 (.inl e)
    exact (l2ok_none vk k0' k1 k2 k3 k4 k5 k6 _ _ _ _ _ _ deep left w hL1 h1 hD1).mono fun e w' h => ⟨h.1.trans (ret_i64 (okI_leaf_sel false hD1 (by simp [shapeB, bareB, k0', k1, k2, k3, k4, k5, k6]) hL1).symm), h.2⟩

theorem l2ok_any (d : Nat) : OkAt d := by
  induction d with
  | zero => intro N c v deep left w hv; exact hv.elim
  | succ d ih => exact l2ok_succ d ih

/-- What ValOk answers. -/
def okB (d : Nat) (v : Vl d) : Bool := goodB d v 1 && decide (partsV d v ≤ 40)

theorem okI_okB (d : Nat) (v : Vl d) : (okB d v = true → 0 ≤ okI d v 1 40 ∧ okI d v 1 40 ≤ 40) ∧ (okB d v = false → okI d v 1 40 = -1) := by
  constructor
  · intro h
    simp [okB] at h
    rw [okI_yes h.1 (by omega)]
    omega
  · intro h
    refine okI_no fun ⟨h1, h2⟩ => ?_
    simp [okB, h1] at h
    omega

set_option maxHeartbeats 1600000 in
theorem spec_ValOk_any (d N : Nat) (c0 c1 c2 c3 c4 : Value) (v : Vl d) (w : World) (hv : VSeg (fun b => b < N) w d (c0, c1, c2, c3, c4) v) (hN : N ≤ w.heap.size) :
    Calls Tryz.prog 6 #[.agg #[c0, c1, c2, c3, c4]] w fun e w' => e = .returned (.bool (okB d v)) ∧ Below w.heap.size w w' := by
  have b0 : ∀ o : Obj, Below w.heap.size w (w.alloc o) := fun o => (Below.refl _ _).alloc (Nat.le_refl _) o
  have HC : Hid (∀ o : Obj, Calls Tryz.prog 19 #[.agg #[c0, c1, c2, c3, c4], .int .i64 1, .int .i64 40] (w.alloc o) fun e w' => e = .returned (.int .i64 (okI d v 1 40)) ∧ Below (w.alloc o).heap.size (w.alloc o) w') := fun o =>
    l2ok_any d N (c0, c1, c2, c3, c4) v 1 40 (w.alloc o) (VSeg.agree (agree_below ((b0 o).mono hN)) d hv) (by have := (b0 o).size; omega) (by omega) (by omega) (by omega)
  have Hb := hide' b0
  have hq := okI_okB d v
  clear b0
  cases hb : okB d v with
  | true =>
    obtain ⟨h1, h2⟩ := hq.1 hb
    generalize okI d v 1 40 = q at *
    clear hq hb
    go_enter Tryz.func6, Tryz.ntmps6
    go_wp2_with fail
    refine (HC.out _).mono ?_
    rintro e w1 ⟨rfl, b1⟩
    have B1 := Below.on (Hb.out _) b1
    clear b1
    go_wp2
    go_ret
    exact ⟨rfl, B1⟩
  | false =>
    have h1 := hq.2 hb
    rw [h1] at HC
    clear hq hb h1
    go_enter Tryz.func6, Tryz.ntmps6
    go_wp2_with fail
    refine (HC.out _).mono ?_
    rintro e w1 ⟨rfl, b1⟩
    have B1 := Below.on (Hb.out _) b1
    clear b1
    go_wp2
    go_ret
    exact ⟨rfl, B1⟩
end Go.Proofs.YthnkedbmfhokiaaGreatDoor
/-
  A value as people read it. Plain mathematics.
-/
namespace Go.Proofs.YthnkedbmfhokiaaGreatDoor
open Go.RowKit
set_option linter.unusedVariables false
set_option linter.unusedSimpArgs false

/-- What stands at place k ahead of the kid: a comma, and its key. -/
def aheadS (m : Bool) (K : List (List Int)) (k : Nat) : List Int := (if k = 0 then [] else [44, 32]) ++ (if m then K.getD k [] ++ [32, 61, 32] else [])
/-- The first k kids. -/
def kidS {α : Type} (f : α → List Int) (m : Bool) (K : List (List Int)) (L : List α) : Nat → List Int
  | 0 => []
  | k + 1 => match L[k]? with
    | some x => kidS f m K L k ++ (aheadS m K k ++ f x)
    | none => kidS f m K L k

theorem kidS_succ {α : Type} (f : α → List Int) (m : Bool) (K : List (List Int)) (L : List α) (k : Nat) (h : k < L.length) : kidS f m K L (k + 1) = kidS f m K L k ++ (aheadS m K k ++ f L[k]) := by
  show (match L[k]? with | some x => _ | none => _) = _
  rw [List.getElem?_eq_getElem h]

/-- A value as people read it. -/
def sayV : (d : Nat) → Vl d → List Int
  | 0, _ => []
  | d + 1, v =>
    if v.1 = 0 then [110, 117, 108, 108]
    else if v.1 = 1 then (if v.2.1 = 0 then [102, 97, 108, 115, 101] else [116, 114, 117, 101])
    else if v.1 = 2 then intT v.2.1
    else if v.1 = 3 then quoT v.2.2.1
    else if v.1 = 4 ∨ v.1 = 5 then (if v.1 = 5 then 123 else 91) :: (kidS (sayV d) (decide (v.1 = 5)) v.2.2.2.1 v.2.2.2.2 v.2.2.2.2.length ++ [if v.1 = 5 then 125 else 93])
    else [63]

theorem sayV_null (d : Nat) (vn : Int) (vs : List Int) (vK : List (List Int)) (vL : List (Vl d)) : sayV (d + 1) (0, vn, vs, vK, vL) = [110, 117, 108, 108] := rfl
theorem sayV_bool (d : Nat) (vn : Int) (vs : List Int) (vK : List (List Int)) (vL : List (Vl d)) : sayV (d + 1) (1, vn, vs, vK, vL) = if vn = 0 then [102, 97, 108, 115, 101] else [116, 114, 117, 101] := rfl
theorem sayV_int (d : Nat) (vn : Int) (vs : List Int) (vK : List (List Int)) (vL : List (Vl d)) : sayV (d + 1) (2, vn, vs, vK, vL) = intT vn := rfl
theorem sayV_text (d : Nat) (vn : Int) (vs : List Int) (vK : List (List Int)) (vL : List (Vl d)) : sayV (d + 1) (3, vn, vs, vK, vL) = quoT vs := rfl
theorem sayV_list (d : Nat) (vn : Int) (vs : List Int) (vK : List (List Int)) (vL : List (Vl d)) : sayV (d + 1) (4, vn, vs, vK, vL) = 91 :: (kidS (sayV d) false vK vL vL.length ++ [93]) := rfl
theorem sayV_map (d : Nat) (vn : Int) (vs : List Int) (vK : List (List Int)) (vL : List (Vl d)) : sayV (d + 1) (5, vn, vs, vK, vL) = 123 :: (kidS (sayV d) true vK vL vL.length ++ [125]) := rfl
theorem sayV_unknown (d : Nat) (vn : Int) (vs : List Int) (vK : List (List Int)) (vL : List (Vl d)) : sayV (d + 1) (6, vn, vs, vK, vL) = [63] := rfl

/-- What a part takes at most. -/
theorem kidS_len {α : Type} (f : α → List Int) (c : α → Nat) (m : Bool) (K : List (List Int)) (L : List α) (hK : m = true → ∀ j, j < L.length → (K.getD j []).length ≤ 8) (hf : ∀ j (h : j < L.length), (f L[j]).length + 15 ≤ 60 * c L[j]) : ∀ k, k ≤ L.length → (kidS f m K L k).length ≤ 60 * pre c L k
  | 0, _ => by simp [kidS]
  | k + 1, hk => by
    have ih := kidS_len f c m K L hK hf k (by omega)
    have h1 := hf k (by omega)
    have h2 := pre_succ c L k (by omega)
    have h3 : (aheadS m K k).length ≤ 13 := by
      unfold aheadS
      rw [List.length_append]
      have e1 : (if k = 0 then [] else [(44 : Int), 32]).length ≤ 2 := by split <;> simp
      cases m with
      | true =>
        have := hK rfl k (by omega)
        simp only [if_true, List.length_append, List.length_cons, List.length_nil]
        omega
      | false => simp only [Bool.false_eq_true, if_false, List.length_nil]; omega
    rw [kidS_succ f m K L k (by omega), List.length_append, List.length_append]
    omega

theorem asc_few {vK : List (List Int)} (h : ascB vK = true) (j : Nat) (hj : j < vK.length) : (vK.getD j []).length ≤ 8 := by
  have h1 := ascB_at h hj
  unfold stepB nameB at h1
  simp only [Bool.and_eq_true, decide_eq_true_eq] at h1
  exact h1.1.1.2

theorem sayV_len : ∀ (d : Nat) (v : Vl d) (deep : Nat), goodB d v deep = true → (sayV d v).length + 15 ≤ 60 * partsV d v
  | 0, v, _, _ => v.elim
  | d + 1, v, deep, hg => by
    obtain ⟨vk, vn, vs, vK, vL⟩ := v
    have hp := parts_succ d vk vn vs vK vL
    obtain ⟨_, hsh, hkids⟩ := (good_succ _ _ _ _ _ _ _).1 hg
    unfold shapeB bareB intB at hsh
    simp only [Bool.and_eq_true, Bool.or_eq_true, decide_eq_true_eq] at hsh
    obtain ⟨_, h5⟩ := hsh
    have hK : ∀ m, m = true → vk = 5 → ∀ j, j < vL.length → (vK.getD j []).length ≤ 8 := fun m _ hk j hj => by
      rcases h5 with (((((h5 | h5) | h5) | h5) | h5) | h5) | h5
      all_goals first | omega | skip
      exact asc_few h5.2.2 j (by omega)
    rcases h5 with (((((h5 | h5) | h5) | h5) | h5) | h5) | h5
    · subst h5; rw [sayV_null, hp]; simp; omega
    · subst h5; rw [sayV_unknown, hp]; simp; omega
    · obtain ⟨rfl, _⟩ := h5; rw [sayV_bool, hp]; split <;> simp <;> omega
    · obtain ⟨rfl, h1, h2⟩ := h5; rw [sayV_int, hp]; have := intT_len vn h1 h2; omega
    · obtain ⟨rfl, h1⟩ := h5
      unfold textB at h1
      simp only [Bool.and_eq_true, decide_eq_true_eq] at h1
      rw [sayV_text, hp]; have := quoT_len vs; omega
    · subst h5
      rw [sayV_list, hp]
      have := kidS_len (sayV d) (partsV d) false vK vL (fun h => by simp at h) (fun j h => sayV_len d vL[j] (deep + 1) (hkids j h)) vL.length (Nat.le_refl _)
      simp only [List.length_cons, List.length_append, List.length_nil]
      omega
    · obtain ⟨rfl, h1⟩ := h5
      rw [sayV_map, hp]
      have := kidS_len (sayV d) (partsV d) true vK vL (fun h j hj => hK true h rfl j hj) (fun j h => sayV_len d vL[j] (deep + 1) (hkids j h)) vL.length (Nat.le_refl _)
      simp only [List.length_cons, List.length_append, List.length_nil]
      omega

/-- What ValText answers. -/
def valText (d : Nat) (v : Vl d) : List Int := if okB d v = true then sayV d v else []
end Go.Proofs.YthnkedbmfhokiaaGreatDoor
/-
  l2parts, l2deep, l2known of the specification, and ValParts, ValDeep, ValKnown of it, at every value.
-/
namespace Go.Proofs.YthnkedbmfhokiaaGreatDoor
open Go.RowKit
set_option linter.unusedVariables false
set_option linter.unusedSimpArgs false

/-- How deep the deepest part is. -/
def deepV : (d : Nat) → Vl d → Nat
  | 0, _ => 0
  | d + 1, v => (v.2.2.2.2.map (deepV d)).foldr max 0 + 1
/-- The greatest of the first k. -/
def mx {α : Type} (f : α → Nat) (l : List α) (k : Nat) : Nat := ((l.take k).map f).foldl max 0
theorem mx_zero {α : Type} (f : α → Nat) (l : List α) : mx f l 0 = 0 := by simp [mx]
theorem mx_succ {α : Type} (f : α → Nat) (l : List α) (k : Nat) (h : k < l.length) : mx f l (k + 1) = max (mx f l k) (f l[k]) := by
  unfold mx
  rw [List.take_succ_eq_append_getElem h, List.map_append, List.foldl_append]
  simp only [List.map_cons, List.map_nil, List.foldl_cons, List.foldl_nil]
theorem foldl_max (l : List Nat) : ∀ a, l.foldl max a = max a (l.foldr max 0) := by
  induction l with
  | nil => intro a; simp
  | cons x l ih => intro a; simp only [List.foldl_cons, List.foldr_cons]; rw [ih]; omega
theorem mx_all {α : Type} (f : α → Nat) (l : List α) : mx f l l.length = (l.map f).foldr max 0 := by
  unfold mx
  rw [List.take_length, foldl_max]
  omega
theorem deep_succ (d : Nat) (vk vn : Int) (vs : List Int) (vK : List (List Int)) (vL : List (Vl d)) : deepV (d + 1) (vk, vn, vs, vK, vL) = mx (deepV d) vL vL.length + 1 := by
  rw [mx_all]; rfl
theorem mx_le_pre {α : Type} (f g : α → Nat) (l : List α) (h : ∀ x, f x ≤ g x) : ∀ k, k ≤ l.length → mx f l k ≤ pre g l k
  | 0, _ => by simp [mx_zero]
  | k + 1, hk => by
    have := mx_le_pre f g l h k (by omega)
    have h1 := mx_succ f l k (by omega)
    have h2 := pre_succ g l k (by omega)
    have := h l[k]
    omega
theorem deep_le (d : Nat) : ∀ v : Vl d, deepV d v ≤ partsV d v := by
  induction d with
  | zero => intro v; exact v.elim
  | succ d ih =>
    intro v
    obtain ⟨vk, vn, vs, vK, vL⟩ := v
    rw [deep_succ, parts_succ]
    have := mx_le_pre (deepV d) (partsV d) vL ih vL.length (Nat.le_refl _)
    omega
theorem kid_parts {d : Nat} {vk vn : Int} {vs : List Int} {vK : List (List Int)} {vL : List (Vl d)} {k : Nat} (hk : k < vL.length) (h : partsV (d + 1) (vk, vn, vs, vK, vL) ≤ 40) : partsV d vL[k] ≤ 40 ∧ 1 + pre (partsV d) vL (k + 1) ≤ 40 := by
  rw [parts_succ] at h
  have h1 := pre_succ (partsV d) vL k hk
  have h2 := pre_le (partsV d) vL (k + 1)
  have h3 := pre_all (partsV d) vL
  omega
/-- What ValParts answers. -/
def ansValParts (d : Nat) (v : Vl d) : Nat := cond (okB d v) (partsV d v) 0

/-- What ValDeep answers. -/
def ansValDeep (d : Nat) (v : Vl d) : Nat := cond (okB d v) (deepV d v) 0

end Go.Proofs.YthnkedbmfhokiaaGreatDoor
/-
  The bytes of a value. Plain mathematics.
-/
namespace Go.Proofs.YthnkedbmfhokiaaGreatDoor
open Go.RowKit
set_option linter.unusedVariables false
set_option linter.unusedSimpArgs false

/-- A number with its sign. -/
def putI (xs : List Int) (n : Int) : List Int := if n < 0 then putNum (putNum (putNum xs 1) (-n / 1000000)) (-n % 1000000) else putNum (putNum (putNum xs 0) (n / 1000000)) (n % 1000000)

/-- The bytes of the first k kids, each behind its key, if there are keys. -/
def kidB {α : Type} (f : α → List Int → List Int) (m : Bool) (K : List (List Int)) (L : List α) (b : List Int) : Nat → List Int
  | 0 => b
  | k + 1 => match L[k]? with
    | some x => f x (if m then putText (kidB f m K L b k) (K.getD k []) else kidB f m K L b k)
    | none => kidB f m K L b k

/-- The bytes of a value, behind what is there. -/
def bytV : (d : Nat) → Vl d → List Int → List Int
  | 0, _, xs => xs
  | d + 1, v, xs =>
    if v.1 = 1 then putNum (putNum xs v.1) v.2.1
    else if v.1 = 2 then putI (putNum xs v.1) v.2.1
    else if v.1 = 3 then putText (putNum xs v.1) v.2.2.1
    else if v.1 = 4 ∨ v.1 = 5 then kidB (fun x b => bytV d x b) (decide (v.1 = 5)) v.2.2.2.1 v.2.2.2.2 (putNum (putNum xs v.1) v.2.2.2.2.length) v.2.2.2.2.length
    else putNum xs v.1

theorem kidB_succ {α : Type} (f : α → List Int → List Int) (m : Bool) (K : List (List Int)) (L : List α) (b : List Int) (k : Nat) (h : k < L.length) :
    kidB f m K L b (k + 1) = f L[k] (if m then putText (kidB f m K L b k) (K.getD k []) else kidB f m K L b k) := by
  show (match L[k]? with | some x => _ | none => _) = _
  rw [List.getElem?_eq_getElem h]

theorem putI_len (xs : List Int) (n : Int) : (putI xs n).length ≤ xs.length + 15 := by
  unfold putI
  split
  · have h1 := putNum_len xs 1
    have h2 := putNum_len (putNum xs 1) (-n / 1000000)
    have h3 := putNum_len (putNum (putNum xs 1) (-n / 1000000)) (-n % 1000000)
    omega
  · have h1 := putNum_len xs 0
    have h2 := putNum_len (putNum xs 0) (n / 1000000)
    have h3 := putNum_len (putNum (putNum xs 0) (n / 1000000)) (n % 1000000)
    omega

theorem kidB_len {α : Type} (f : α → List Int → List Int) (c : α → Nat) (hf : ∀ x b, (f x b).length + 25 ≤ b.length + 60 * c x) (m : Bool) (K : List (List Int)) (L : List α) (b : List Int) : ∀ k, k ≤ L.length → (kidB f m K L b k).length ≤ b.length + 60 * pre c L k
  | 0, _ => by simp [kidB]
  | k + 1, hk => by
    have ih := kidB_len f c hf m K L b k (by omega)
    rw [kidB_succ f m K L b k (by omega), pre_succ c L k (by omega)]
    cases m with
    | true =>
      have h1 := hf L[k] (putText (kidB f true K L b k) (K.getD k []))
      have h2 := putText_len (kidB f true K L b k) (K.getD k [])
      simp only [if_true]
      omega
    | false =>
      have h1 := hf L[k] (kidB f false K L b k)
      simp only [Bool.false_eq_true, if_false]
      omega

theorem bytV_len : ∀ (d : Nat) (v : Vl d) (xs : List Int), (bytV d v xs).length + 25 ≤ xs.length + 60 * partsV d v
  | 0, v, _ => v.elim
  | d + 1, v, xs => by
    obtain ⟨vk, vn, vs, vK, vL⟩ := v
    have hp := parts_succ d vk vn vs vK vL
    have h0 := putNum_len xs vk
    show (if vk = 1 then putNum (putNum xs vk) vn else if vk = 2 then putI (putNum xs vk) vn else if vk = 3 then putText (putNum xs vk) vs
      else if vk = 4 ∨ vk = 5 then kidB (fun x b => bytV d x b) (decide (vk = 5)) vK vL (putNum (putNum xs vk) vL.length) vL.length else putNum xs vk).length + 25 ≤ _
    split
    · have := putNum_len (putNum xs vk) vn
      omega
    split
    · have := putI_len (putNum xs vk) vn
      omega
    split
    · have := putText_len (putNum xs vk) vs
      omega
    split
    · have h1 := kidB_len (fun x b => bytV d x b) (partsV d) (fun x b => bytV_len d x b) (decide (vk = 5)) vK vL (putNum (putNum xs vk) vL.length) vL.length (Nat.le_refl _)
      have h2 := putNum_len (putNum xs vk) vL.length
      omega
    · omega

theorem bytV_bool (d : Nat) (vn : Int) (vs : List Int) (vK : List (List Int)) (vL : List (Vl d)) (xs : List Int) : bytV (d + 1) (1, vn, vs, vK, vL) xs = putNum (putNum xs 1) vn := rfl
theorem bytV_int (d : Nat) (vn : Int) (vs : List Int) (vK : List (List Int)) (vL : List (Vl d)) (xs : List Int) : bytV (d + 1) (2, vn, vs, vK, vL) xs = putI (putNum xs 2) vn := rfl
theorem bytV_text (d : Nat) (vn : Int) (vs : List Int) (vK : List (List Int)) (vL : List (Vl d)) (xs : List Int) : bytV (d + 1) (3, vn, vs, vK, vL) xs = putText (putNum xs 3) vs := rfl
theorem bytV_list (d : Nat) (vn : Int) (vs : List Int) (vK : List (List Int)) (vL : List (Vl d)) (xs : List Int) : bytV (d + 1) (4, vn, vs, vK, vL) xs = kidB (fun x b => bytV d x b) false vK vL (putNum (putNum xs 4) vL.length) vL.length := rfl
theorem bytV_map (d : Nat) (vn : Int) (vs : List Int) (vK : List (List Int)) (vL : List (Vl d)) (xs : List Int) : bytV (d + 1) (5, vn, vs, vK, vL) xs = kidB (fun x b => bytV d x b) true vK vL (putNum (putNum xs 5) vL.length) vL.length := rfl
theorem bytV_bare (d : Nat) (vk vn : Int) (hk : vk = 0 ∨ vk = 6) (vs : List Int) (vK : List (List Int)) (vL : List (Vl d)) (xs : List Int) : bytV (d + 1) (vk, vn, vs, vK, vL) xs = putNum xs vk := by
  rcases hk with rfl | rfl <;> rfl

/-- What ValBytes answers. -/
def valBytes (d : Nat) (v : Vl d) : List Int := if okB d v = true then bytV d v [] else []
end Go.Proofs.YthnkedbmfhokiaaGreatDoor
/-
  l2find of the specification: where a key stands.
-/
namespace Go.Proofs.YthnkedbmfhokiaaGreatDoor
open Go.RowKit
set_option linter.unusedVariables false
set_option linter.unusedSimpArgs false

end Go.Proofs.YthnkedbmfhokiaaGreatDoor
/-
  What the program's inner parts (an interface with one type a kind) hold: 'PSeg' reads one as a value; lists and maps of them.
-/
namespace Go.Proofs.YthnkedbmfhokiaaGreatDoor
open Go.RowKit
set_option linter.unusedVariables false
set_option linter.unusedSimpArgs false

/-- A part of the program's reads as a value of depth at most d; it lies in blocks of R. -/
def PSeg (R : Nat → Prop) (w : World) : (d : Nat) → Value → Vl d → Prop
  | 0, _, _ => False
  | d + 1, p, v =>
    (v.1 = 0 ∧ p = .iface 84 (.agg #[])) ∨ (v.1 = 6 ∧ p = .iface 88 (.agg #[])) ∨
    (v.1 = 1 ∧ p = .iface 67 (.agg #[.int .i64 v.2.1])) ∨ (v.1 = 2 ∧ p = .iface 68 (.agg #[.int .i64 v.2.1])) ∨
    (v.1 = 3 ∧ p = .iface 70 (.agg #[.string (strOf v.2.2.1)])) ∨
    (v.1 = 4 ∧ ∃ a cap, p = .iface 74 (.agg #[.slice a v.2.2.2.2.length cap]) ∧ (v.2.2.2.2 = [] ∨ ∃ b off, a = some ⟨b, off, none⟩ ∧ R b ∧ ∀ i (h : i < v.2.2.2.2.length), ∃ u, w.cell? ⟨b, off + i, none⟩ = some u ∧ PSeg R w d u (v.2.2.2.2[i]))) ∨
    (v.1 = 5 ∧ ∃ b ps, p = .iface 77 (.agg #[.map (some b)]) ∧ R b ∧ w.ownsMap Tryz.prog 9 tokR b 64 (mapD v.2.2.2.1 ps v.2.2.2.2.length) ∧ ∀ i (h : i < v.2.2.2.2.length), PSeg R w d (ps.getD i .nilIface) (v.2.2.2.2[i]))

/-- A slice of parts. -/
def PLSeg (R : Nat → Prop) (w : World) (d : Nat) (x : Value) (l : List (Vl d)) : Prop :=
  ∃ a cap, x = .slice a l.length cap ∧ (l = [] ∨ ∃ b off, a = some ⟨b, off, none⟩ ∧ R b ∧ ∀ i (h : i < l.length), ∃ u, w.cell? ⟨b, off + i, none⟩ = some u ∧ PSeg R w d u (l[i]))

theorem ownsMap_agree {R : Nat → Prop} {w w' : World} {b n : Nat} {D : DataW Value} (h : w.ownsMap Tryz.prog 9 tokR b n D) (ha : Agree R w w') (hb : R b) : w'.ownsMap Tryz.prog 9 tokR b n D := by
  obtain ⟨es, clock, h1, r⟩ := h
  exact ⟨es, clock, (ha b hb).trans h1, r⟩

theorem PSeg.carry {R R' : Nat → Prop} {w w' : World} (hr : ∀ b, R b → R' b) (ha : Agree R w w') (d : Nat) : ∀ {p : Value} {v : Vl d}, PSeg R w d p v → PSeg R' w' d p v := by
  induction d with
  | zero => intro p v h; exact h
  | succ d ih =>
    intro p v h
    rcases h with h | h | h | h | h | ⟨hk, a, cap, hp, hc⟩ | ⟨hk, b, ps, hp, hR, hm, hc⟩
    · exact .inl h
    · exact .inr (.inl h)
    · exact .inr (.inr (.inl h))
    · exact .inr (.inr (.inr (.inl h)))
    · exact .inr (.inr (.inr (.inr (.inl h))))
    · refine .inr (.inr (.inr (.inr (.inr (.inl ⟨hk, a, cap, hp, ?_⟩)))))
      rcases hc with h0 | ⟨b, off, e, hR, hc⟩
      · exact .inl h0
      · refine .inr ⟨b, off, e, hr b hR, fun i hi => ?_⟩
        obtain ⟨u, hu, hv⟩ := hc i hi
        exact ⟨u, (cell_agree ha hR).trans hu, ih hv⟩
    · exact .inr (.inr (.inr (.inr (.inr (.inr ⟨hk, b, ps, hp, hr b hR, ownsMap_agree hm ha hR, fun i hi => ih (hc i hi)⟩)))))

/-- What take leaves of all that was there: all but the block of its counter. -/
theorem agree_grown {N q : Nat} {w w' : World} (h : w.grownBy w' (some q)) (hN : N ≤ q) (hq : q < w.heap.size) : Agree (fun b => b < N) w w' := fun b hb => h.block b (by omega) (by simp; omega)

theorem run_makeMapN (t k e : TypeId) (n : Int) (w : World) (ht : Tryz.prog.underlying t = some (.map k e)) : (Instr.makeMap t (some (.int .i64 n))).run Tryz.prog w = .ok (.map (some w.heap.size)) (w.alloc (.map #[] 0)) := by
  unfold Instr.makeMap
  simp only [Sem.run_bind, Sem.run_pure, run_underlying ht, Result.andThen]
  rfl

theorem info_part : (Tryz.prog.info? 43).map (fun i => (i.zero, i.size, i.bytes)) = some (some .nilIface, 1, 16) := by kernel_rfl

/-- The counter of an intake. -/
def Cnt (w : World) (q : Nat) (n : Nat) : Prop := w.heap[q]? = some (.cells #[.int .i64 n] 62 (0, 0))

/-- What a good take has brought about. -/
def Took (d : Nat) (v : Vl d) (deep n q : Nat) (w w' : World) (p : Value) : Prop :=
  goodB d v deep = true ∧ n + partsV d v ≤ 40 ∧ Cnt w' q (n + partsV d v) ∧ PSeg (fun b => w.heap.size ≤ b ∧ b < w'.heap.size) w' d p v

/-- The contract of take at depth d. -/
def TakeAt (d : Nat) : Prop := ∀ (N q n : Nat) (c : Value × Value × Value × Value × Value) (v : Vl d) (deep : Nat) (w : World), VSeg (fun b => b < N) w d c v → N ≤ q → q < w.heap.size → Cnt w q n → n ≤ 40 → deep ≤ 6 →
  Calls Tryz.prog 32 #[.pointer (some ⟨q, 0, none⟩), .agg #[c.1, c.2.1, c.2.2.1, c.2.2.2.1, c.2.2.2.2], .int .i64 deep] w fun e w' =>
    w.grownBy w' (some q) ∧ ((∃ p, e = .returned (.tuple #[p, .bool true]) ∧ Took d v deep n q w w' p) ∨ (e = .returned (.tuple #[.nilIface, .bool false]) ∧ ¬ (goodB d v deep = true ∧ n + partsV d v ≤ 40)))

theorem Cnt.cell {w : World} {q n : Nat} (h : Cnt w q n) : w.cell? ⟨q, 0, none⟩ = some (.int .i64 n) ∧ w.frozen? ⟨q, 0, none⟩ = false := by
  refine ⟨?_, frozen_of_row w q 0 _ _ h⟩
  rw [cell_of_row w q 0 _ _ (0, 0) h]
  rfl

theorem Cnt.set {w : World} {q n : Nat} (h : Cnt w q n) (m : Nat) : Cnt (w.setCell ⟨q, 0, none⟩ (.int .i64 m)) q m := heap_setCell_same w q 0 _ _ _ h
end Go.Proofs.YthnkedbmfhokiaaGreatDoor
/-
  What l2drop is made of: parts of slices, appended one behind the other, and what is read of them; no statement is proved here.
-/
namespace Go.Proofs.YthnkedbmfhokiaaGreatDoor
open Go.RowKit
set_option linter.unusedVariables false
set_option linter.unusedSimpArgs false

theorem row_shape {w : World} {base : Nat} {e : TypeId} {s : Nat} {v : Value} {n : Nat} {xs : List Value} (h : w.ownsRow base e s v n xs) : ∃ a c, v = .slice a n c := by
  rcases h.2 with ⟨rfl, rfl⟩ | ⟨g, cap, cur, rfl, _⟩
  · exact ⟨_, _, rfl⟩
  · exact ⟨_, _, rfl⟩

/-- The cells cs lie from here on. -/
def Lie (w : World) (b off : Nat) (cs : List Value) : Prop := ∀ j u, cs[j]? = some u → w.cell? ⟨b, off + j, none⟩ = some u

theorem Lie.on {w w' : World} {b off : Nat} {cs : List Value} (h : Lie w b off cs) (hb : w'.heap[b]? = w.heap[b]?) : Lie w' b off cs := fun j u hu => (World.cell?_of_block (a := ⟨b, off + j, none⟩) hb).trans (h j u hu)

/-- A slice of texts lies as cells. -/
theorem KSeg.lie {R : Nat → Prop} {w : World} {a : Option Addr} {l p : Nat} {ks : List (List Int)} (h : KSeg R w (.slice a l p) ks) (hne : ks ≠ []) : l = ks.length ∧ ks.length ≤ p ∧ ∃ b off us, a = some ⟨b, off, none⟩ ∧ R b ∧ us.length = ks.length ∧ Lie w b off us ∧ (∀ u ∈ us, u.oneCell' = true) ∧ ∀ i (h : i < us.length), TSeg R w us[i] (ks.getD i []) := by
  obtain ⟨a', cap, e, h1, h2, h3, h4⟩ := h
  simp only [Value.slice.injEq] at e
  obtain ⟨rfl, rfl, rfl⟩ := e
  rcases h4 with h0 | ⟨b, off, ha, hR, hc⟩
  · exact absurd h0 hne
  · obtain ⟨us, hl, hu⟩ := list_of (Q := fun i u => w.cell? ⟨b, off + i, none⟩ = some u ∧ TSeg R w u (ks.getD i [])) ks.length hc
    refine ⟨rfl, h1, b, off, us, ha, hR, hl, fun j u hj => ?_, fun u hu' => ?_, fun i hi => (hu i hi).2⟩
    · obtain ⟨hj', rfl⟩ := List.getElem?_eq_some_iff.1 hj
      exact (hu j hj').1
    · obtain ⟨i, hi, rfl⟩ := List.mem_iff_getElem.1 hu'
      obtain ⟨aa, cc, e, _⟩ := (hu i hi).2
      rw [e]; rfl

end Go.Proofs.YthnkedbmfhokiaaGreatDoor
/-
  ValBytes of the specification: l2put.
-/
namespace Go.Proofs.YthnkedbmfhokiaaGreatDoor
open Go.RowKit
set_option linter.unusedVariables false
set_option linter.unusedSimpArgs false

/-- The contract of l2put at depth d. -/
def SByAt (d : Nat) : Prop := ∀ (N : Nat) (a : Option Addr) (cap : Nat) (xs : List Int) (c : Value × Value × Value × Value × Value) (v : Vl d) (deep : Nat) (w : World), VSeg (fun b => b < N) w d c v → N ≤ w.heap.size → Seg w a xs → (a = none → cap = 0) → goodB d v deep = true → xs.length + 60 * partsV d v ≤ 1000000 →
  Calls Tryz.prog 27 #[.slice a xs.length cap, .agg #[c.1, c.2.1, c.2.2.1, c.2.2.2.1, c.2.2.2.2]] w fun e w' => ∃ u, e = .returned u ∧ Bts w' w.heap.size u (bytV d v xs) ∧ Below w.heap.size w w'

/-- What a call of PutNum or PutText has left. -/
def PEnd (w : World) (ys : List Int) (e : Ending) (w' : World) : Prop := ∃ a c, e = .returned (.slice a ys.length c) ∧ Bts w' w.heap.size (.slice a ys.length c) ys ∧ Below w.heap.size w w' ∧ (a = none → c = 0)

theorem pend_of {w w' : World} {e : Ending} {ys : List Int} (h : ∃ v, e = .returned v ∧ Bts w' w.heap.size v ys ∧ Below w.heap.size w w') : PEnd w ys e w' := by
  obtain ⟨v, rfl, h1, h2⟩ := h
  obtain ⟨a, c, rfl, _, _, _, _, k⟩ := h1.shape
  exact ⟨a, c, rfl, h1, h2, k⟩

theorem spec_PutNum_end (a : Option Addr) (cap : Nat) (xs : List Int) (n : Int) (w : World) (hs : Seg w a xs) (hc : a = none → cap = 0) (hl : xs.length ≤ 2097152) : Calls Tryz.prog 49 #[.slice a xs.length cap, .int .i64 n] w (PEnd w (putNum xs n)) :=
  (spec_PutNum_any a cap xs n w hs hc hl).mono fun e w' h => pend_of h
theorem spec_PutText_end (a b : Option Addr) (c1 c2 : Nat) (xs ts : List Int) (w : World) (ha : Seg w a xs) (hb : Seg w b ts) (ka : a = none → c1 = 0) (kb : b = none → c2 = 0) (hl : xs.length ≤ 2097152) (hl2 : ts.length ≤ 2097152) : Calls Tryz.prog 50 #[.slice a xs.length c1, .slice b ts.length c2] w (PEnd w (putText xs ts)) :=
  (spec_PutText_any a b c1 c2 xs ts w ha hb ka kb hl hl2).mono fun e w' h => pend_of h

set_option maxHeartbeats 1000000 in
set_option maxRecDepth 100000 in
theorem l2put_leaf (d N : Nat) (a : Option Addr) (cap : Nat) (xs : List Int) (vk vn : Int) (vs : List Int) (vK : List (List Int)) (vL : List (Vl d)) (a2 : Option Addr) (p2 : Nat) (c3 c4 : Value) (w : World) (hs : Seg w a xs) (ka : a = none → cap = 0) (hl : xs.length ≤ 1000000) (s2 : Seg w a2 vs) (k2 : a2 = none → p2 = 0) (m2 : vs.length ≤ 1000000)
    (h3 : ∃ b n p, c3 = .slice b n p) (h4 : ∃ b n p, c4 = .slice b n p) (hk : vk = 0 ∨ vk = 6 ∨ vk = 1 ∨ vk = 3) :
    Calls Tryz.prog 27 #[.slice a xs.length cap, .agg #[.int .i64 vk, .int .i64 vn, .slice a2 vs.length p2, c3, c4]] w fun e w' => ∃ u, e = .returned u ∧ Bts w' w.heap.size u (bytV (d + 1) (vk, vn, vs, vK, vL) xs) ∧ Below w.heap.size w w' := by
  obtain ⟨b3, n3, q3, rfl⟩ := h3
  obtain ⟨b4, n4, q4, rfl⟩ := h4
  have b0 : ∀ o : Obj, Below w.heap.size w (w.alloc o) := fun o => (Below.refl _ _).alloc (Nat.le_refl _) o
  have Hb := hide' b0
  have H1 : Hid (∀ o : Obj, Calls Tryz.prog 49 #[.slice a xs.length cap, .int .i64 vk] (w.alloc o) (PEnd (w.alloc o) (putNum xs vk))) := fun o => spec_PutNum_end a cap xs vk _ (hs.grow (b0 o)) ka (by omega)
  have hpl := putNum_len xs vk
  have HS2 : Hid (∀ wx, Below w.heap.size w wx → Seg wx a2 vs) := fun wx hb => s2.grow hb
  have HP : Hid (∀ (a1 : Option Addr) (c1 : Nat) (ys : List Int) (n : Int) (wx : World), Bts wx 0 (.slice a1 ys.length c1) ys → (a1 = none → c1 = 0) → ys.length ≤ 2000000 → Calls Tryz.prog 49 #[.slice a1 ys.length c1, .int .i64 n] wx (PEnd wx (putNum ys n))) := fun a1 c1 ys n wx hB k hlen => spec_PutNum_end a1 c1 ys n wx hB.seg k (by omega)
  have HT : Hid (∀ (a1 : Option Addr) (c1 : Nat) (ys : List Int) (wx : World), Bts wx 0 (.slice a1 ys.length c1) ys → (a1 = none → c1 = 0) → ys.length ≤ 2000000 → Below w.heap.size w wx → Calls Tryz.prog 50 #[.slice a1 ys.length c1, .slice a2 vs.length p2] wx (PEnd wx (putText ys vs))) := fun a1 c1 ys wx hB k hlen hbw => spec_PutText_end a1 a2 c1 p2 ys vs wx hB.seg (HS2.out wx hbw) k k2 (by omega) (by omega)
  clear b0 hs s2
  rcases hk with hk | hk | rfl | rfl
  · subst hk
    have HF : Hid (bytV (d + 1) (0, vn, vs, vK, vL) xs = putNum xs 0) := bytV_bare d 0 vn (.inl rfl) vs vK vL xs
    go_enter Tryz.func27, Tryz.ntmps27
    go_wp2_with fail
    refine (H1.out _).mono ?_
    rintro e w1 ⟨a1, c1, rfl, hB1, b1, k1⟩
    obtain ⟨y0, y1, y2, y3, y4, _⟩ := row5 (box_row b1)
    have B1 := Below.on (Hb.out _) b1
    have HB1 := hide' (hB1.mono (base' := w.heap.size) (by simp))
    generalize (putNum xs 0).length = n1 at *
    clear b1 hB1
    go_wp2
    go_ret
    exact ⟨_, rfl, by rw [HF.out]; exact HB1.out, B1⟩
  · subst hk
    have HF : Hid (bytV (d + 1) (6, vn, vs, vK, vL) xs = putNum xs 6) := bytV_bare d 6 vn (.inr rfl) vs vK vL xs
    go_enter Tryz.func27, Tryz.ntmps27
    go_wp2_with fail
    refine (H1.out _).mono ?_
    rintro e w1 ⟨a1, c1, rfl, hB1, b1, k1⟩
    obtain ⟨y0, y1, y2, y3, y4, _⟩ := row5 (box_row b1)
    have B1 := Below.on (Hb.out _) b1
    have HB1 := hide' (hB1.mono (base' := w.heap.size) (by simp))
    generalize (putNum xs 6).length = n1 at *
    clear b1 hB1
    go_wp2
    go_ret
    exact ⟨_, rfl, by rw [HF.out]; exact HB1.out, B1⟩
  · have HF : Hid (bytV (d + 1) (1, vn, vs, vK, vL) xs = putNum (putNum xs 1) vn) := bytV_bool d vn vs vK vL xs
    go_enter Tryz.func27, Tryz.ntmps27
    go_wp2_with fail
    refine (H1.out _).mono ?_
    rintro e w1 ⟨a1, c1, rfl, hB1, b1, k1⟩
    obtain ⟨y0, y1, y2, y3, y4, _⟩ := row5 (box_row b1)
    have B1 := Below.on (Hb.out _) b1
    have H2 := hide' (HP.out a1 c1 (putNum xs 1) vn w1 (hB1.mono (by omega)) k1 (by omega))
    generalize putNum xs 1 = z1 at *
    generalize z1.length = n1 at *
    clear b1 hB1
    go_wp2_with fail
    refine H2.out.mono ?_
    rintro e w2 ⟨a2', c2', rfl, hB2, b2, k2'⟩
    have B2 := Below.on B1 b2
    have HB2 := hide' (hB2.mono (base' := w.heap.size) B1.size)
    generalize (putNum z1 vn).length = n2 at *
    clear b2 hB2 H2
    go_wp2
    go_ret
    exact ⟨_, rfl, by rw [HF.out]; exact HB2.out, B2⟩
  · have HF : Hid (bytV (d + 1) (3, vn, vs, vK, vL) xs = putText (putNum xs 3) vs) := bytV_text d vn vs vK vL xs
    go_enter Tryz.func27, Tryz.ntmps27
    go_wp2_with fail
    refine (H1.out _).mono ?_
    rintro e w1 ⟨a1, c1, rfl, hB1, b1, k1⟩
    obtain ⟨y0, y1, y2, y3, y4, _⟩ := row5 (box_row b1)
    have B1 := Below.on (Hb.out _) b1
    have H2 := hide' (HT.out a1 c1 (putNum xs 3) w1 (hB1.mono (by omega)) k1 (by omega) B1)
    generalize putNum xs 3 = z1 at *
    generalize z1.length = n1 at *
    clear b1 hB1
    go_wp2_with fail
    refine H2.out.mono ?_
    rintro e w2 ⟨a2', c2', rfl, hB2, b2, k2'⟩
    have B2 := Below.on B1 b2
    have HB2 := hide' (hB2.mono (base' := w.heap.size) B1.size)
    generalize (putText z1 vs).length = n2 at *
    clear b2 hB2 H2
    go_wp2
    go_ret
    exact ⟨_, rfl, by rw [HF.out]; exact HB2.out, B2⟩
end Go.Proofs.YthnkedbmfhokiaaGreatDoor
/-
  takeAll of the program: it takes a list of values in, out of what take does at one.
-/
namespace Go.Proofs.YthnkedbmfhokiaaGreatDoor
open Go.RowKit
set_option linter.unusedVariables false
set_option linter.unusedSimpArgs false

theorem grownBy_fresh {w w1 w2 : World} {r r' : Option Nat} (h : w.grownBy w1 r) (k : w1.grownBy w2 r') (hr : ∀ j, r' = some j → w.heap.size ≤ j) : w.grownBy w2 r :=
  ⟨k.os.trans h.os, k.tape.trans h.tape, k.output.trans h.output, Nat.le_trans h.size k.size, fun i hi hne => (k.block i (Nat.lt_of_lt_of_le hi h.size) (fun e => by have := hr i e.symm; omega)).trans (h.block i hi hne)⟩

theorem parts_one (d : Nat) (v : Vl d) : 1 ≤ partsV d v := by
  cases d with
  | zero => exact v.elim
  | succ d => exact parts_pos d v

theorem pre_ge (d : Nat) (l : List (Vl d)) (k : Nat) (h : k ≤ l.length) : k ≤ pre (partsV d) l k := by
  induction k with
  | zero => omega
  | succ k ih =>
    have := pre_succ (partsV d) l k (by omega)
    have := parts_one d l[k]
    have := ih (by omega)
    omega

theorem Cnt.keep {w w' : World} {q n : Nat} {r : Option Nat} (h : Cnt w q n) (hg : w.grownBy w' r) (hr : some q ≠ r) : Cnt w' q n :=
  (hg.block q (Array.getElem?_eq_some_iff.1 h).1 hr).trans h

/-- What holds after k rounds of takeAll. -/
def TA (d : Nat) (l : List (Vl d)) (deep n q : Nat) (w wr : World) (k : Nat) (y : Value) (ps : List Value) : Prop :=
  k ≤ l.length ∧ ps.length = k ∧ wr.ownsRow w.heap.size 43 1 y k ps ∧ (∀ j (h : j < l.length), j < k → goodB d l[j] deep = true) ∧ n + pre (partsV d) l k ≤ 40 ∧ Cnt wr q (n + pre (partsV d) l k) ∧
    (∀ j (h : j < l.length), j < k → PSeg (fun b => w.heap.size ≤ b ∧ b < wr.heap.size ∧ some b ≠ y.ownBlock) wr d (ps.getD j .nilIface) l[j]) ∧ w.grownBy wr (some q)

theorem TA_zero {d : Nat} {l : List (Vl d)} {deep n q : Nat} {w : World} (hc : Cnt w q n) (hn : n ≤ 40) : TA d l deep n q w w 0 (.slice none 0 0) [] :=
  ⟨Nat.zero_le _, rfl, World.ownsRow_nil w _ _ _, fun j _ h => by omega, by rw [pre_zero]; omega, by rw [pre_zero]; exact hc, fun j _ h => by omega, World.grownBy.refl _ _⟩

theorem own_ne {w : World} {base e n q : Nat} {y : Value} {xs : List Value} (h : w.ownsRow base e 1 y n xs) (hq : q < base) : some q ≠ y.ownBlock := fun e => by
  have := h.lt q e.symm
  omega

theorem TA_none {d : Nat} {l : List (Vl d)} {deep n q : Nat} {w wr W : World} {k : Nat} {y : Value} {ps : List Value} (h : TA d l deep n q w wr k y ps) (hg : wr.grownBy W none) : TA d l deep n q w W k y ps := by
  obtain ⟨h1, h2, h3, h4, h5, h6, h7, h8⟩ := h
  refine ⟨h1, h2, h3.kept hg ?_, h4, h5, h6.keep hg (by simp), fun j hj hjk => ?_, grownBy_fresh h8 hg (by simp)⟩
  · cases hy : y.ownBlock with
    | none => exact .inl rfl
    | some z => exact .inr (by simp)
  · refine PSeg.carry (fun b hb => ⟨hb.1, Nat.lt_of_lt_of_le hb.2.1 hg.size, hb.2.2⟩) (fun b hb => hg.block b hb.2.1 (by simp)) d (h7 j hj hjk)

/-- Behind take: the same, but for the counter. -/
theorem TA_row {d : Nat} {l : List (Vl d)} {deep n q : Nat} {w wr w1 : World} {k : Nat} {y : Value} {ps : List Value} (h : TA d l deep n q w wr k y ps) (hq : q < w.heap.size) (hg : wr.grownBy w1 (some q)) (o : Obj) : (w1.alloc o).ownsRow w.heap.size 43 1 y k ps := by
  obtain ⟨h1, h2, h3, h4, h5, h6, h7, h8⟩ := h
  have := h3.kept hg (.inr (fun e => own_ne h3 hq e.symm))
  exact this.alloc o

theorem TA_next {d : Nat} {l : List (Vl d)} {deep n q : Nat} {w wr w1 w2 : World} {k : Nat} {y y' p : Value} {ps : List Value} {T : TypeId} (h : TA d l deep n q w wr k y ps) (hq : q < w.heap.size) (hk : k < l.length) (hg : wr.grownBy w1 (some q))
    (ht : Took d l[k] deep (n + pre (partsV d) l k) q wr w1 p) (hown : w2.ownsRow w.heap.size 43 1 y' (k + 1) (ps ++ [p])) (hg2 : (w1.alloc (.cells #[p] T)).grownBy w2 y.ownBlock) (hloc : y'.ownBlock = y.ownBlock ∨ y'.ownBlock = some (w1.alloc (.cells #[p] T)).heap.size) :
    TA d l deep n q w w2 (k + 1) y' (ps ++ [p]) := by
  obtain ⟨h1, h2, h3, h4, h5, h6, h7, h8⟩ := h
  obtain ⟨t1, t2, t3, t4⟩ := ht
  have hps := pre_succ (partsV d) l k hk
  have hal : w1.grownBy (w1.alloc (.cells #[p] T)) none := World.grownBy_alloc w1 _ none
  have hsz : (w1.alloc (.cells #[p] T)).heap.size = w1.heap.size + 1 := by simp
  have hyb : ∀ j, y.ownBlock = some j → w.heap.size ≤ j ∧ j < wr.heap.size := fun j hj => h3.lt j hj
  have hs1 := hg.size
  have hs2 := hg2.size
  have hs8 := h8.size
  refine ⟨hk, by simp [h2], hown, fun j hj hjk => ?_, by rw [hps]; omega, ?_, fun j hj hjk => ?_, ?_⟩
  · by_cases e : j = k
    · subst e; exact t1
    · exact h4 j hj (by omega)
  · rw [hps, ← Nat.add_assoc]
    exact (t3.keep hal (by simp)).keep hg2 (fun e => by have := hyb q e.symm; omega)
  · by_cases e : j = k
    · subst e
      have : (ps ++ [p]).getD j .nilIface = p := by simp [List.getD_eq_getElem?_getD, ← h2]
      rw [this]
      refine PSeg.carry (fun b hb => ⟨by omega, by omega, fun e => ?_⟩) (fun b hb => (hg2.block b (by omega) (fun e => by have := hyb b e.symm; omega)).trans (hal.block b hb.2 (by simp))) d t4
      rcases hloc with e2 | e2
      · have := hyb b (e2.symm.trans e.symm); omega
      · rw [e2] at e; simp at e; omega
    · have hjk' : j < k := by omega
      have : (ps ++ [p]).getD j .nilIface = ps.getD j .nilIface := by
        simp only [List.getD_eq_getElem?_getD]
        rw [List.getElem?_append_left (by omega)]
      rw [this]
      refine PSeg.carry (fun b hb => ⟨hb.1, by omega, fun e => ?_⟩) (fun b hb => (hg2.block b (by omega) hb.2.2).trans ((hal.block b (by omega) (by simp)).trans (hg.block b hb.2.1 (by simp; omega)))) d (h7 j hj hjk')
      rcases hloc with e2 | e2
      · exact hb.2.2 (e.trans e2)
      · rw [e2] at e; simp at e; omega
  · exact grownBy_fresh (grownBy_fresh (grownBy_trans h8 hg) hal (by simp)) hg2 (fun j hj => (hyb j hj).1)

/-- What a good takeAll has brought about. -/
def TookAll (d : Nat) (l : List (Vl d)) (deep n q : Nat) (w w' : World) (y : Value) : Prop :=
  (∀ j (h : j < l.length), goodB d l[j] deep = true) ∧ n + pre (partsV d) l l.length ≤ 40 ∧ Cnt w' q (n + pre (partsV d) l l.length) ∧
    ∃ (a : Option Addr) (cap : Nat) (ps : List Value), y = .slice a l.length cap ∧ (l = [] ∨ ∃ b, a = some ⟨b, 0, none⟩ ∧ w.heap.size ≤ b ∧ b < w'.heap.size ∧ ∀ i, i < l.length → w'.cell? ⟨b, i, none⟩ = some (ps.getD i .nilIface)) ∧ ∀ i (h : i < l.length), PSeg (fun b => w.heap.size ≤ b ∧ b < w'.heap.size) w' d (ps.getD i .nilIface) l[i]

theorem TA_end {d : Nat} {l : List (Vl d)} {deep n q : Nat} {w wr : World} {y : Value} {ps : List Value} (h : TA d l deep n q w wr l.length y ps) : TookAll d l deep n q w wr y := by
  obtain ⟨h1, h2, h3, h4, h5, h6, h7, h8⟩ := h
  have hcell := fun g (hg : y.ownBlock = some g) => h3.lt g hg
  refine ⟨fun j hj => h4 j hj hj, h5, h6, ?_⟩
  have h3' := h3
  rcases h3.2 with ⟨rfl, e0⟩ | ⟨g, cap, cur, rfl, hg, hh, hle, hm, hsz, htk⟩
  · exact ⟨none, 0, ps, by rw [e0], .inl (List.eq_nil_of_length_eq_zero e0), fun i hi => by omega⟩
  · refine ⟨some ⟨g, 0, none⟩, cap, ps, rfl, .inr ⟨g, rfl, hg, (Array.getElem?_eq_some_iff.1 hh).1, fun i hi => ?_⟩, fun i hi => PSeg.carry (fun b hb => ⟨hb.1, hb.2.1⟩) (fun b _ => rfl) d (h7 i hi hi)⟩
    have := World.ownsRow.cellAt h3' i (by omega)
    rw [this]
    simp [List.getD_eq_getElem?_getD, show i < ps.length from by omega]

end Go.Proofs.YthnkedbmfhokiaaGreatDoor
