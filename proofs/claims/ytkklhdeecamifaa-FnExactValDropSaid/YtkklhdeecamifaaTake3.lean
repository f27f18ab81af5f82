/-
  take, partOf of the program, at every value.
-/
import Derived.Test.YtkklhdeecamifaaTake2
namespace Go.Proofs.Ytkklhdeecamifaa
open Go.RowKit
set_option linter.unusedVariables false
set_option linter.unusedSimpArgs false

/-- A leaf that was taken in. -/
theorem took_leaf {d : Nat} {vk vn : Int} {vs : List Int} {vK : List (List Int)} {deep n q : Nat} {w : World} {a2 a3 a4 : Option Addr} {l2 l3 l4 p2 p3 p4 : Nat} {p : Value} (hd : deep ≤ 5) (hn : n < 40) (hs : shapeB vk vn vs vK 0 = true)
    (hp : ∀ R w', PSeg R w' (d + 1) p (vk, vn, vs, vK, [])) (e : Ending) (w' : World) (h : Ahead w q n vk vn a2 a3 a4 l2 l3 l4 p2 p3 p4 w' ∧ e = .returned (.tuple #[p, .bool true])) : TakeEnd (d + 1) (vk, vn, vs, vK, []) deep n q w e w' := by
  obtain ⟨hA, rfl⟩ := h
  have e1 : partsV (d + 1) (vk, vn, vs, vK, []) = 1 := by rw [parts_succ]; simp [pre]
  refine ⟨hA.1, .inl ⟨p, rfl, (good_succ _ _ _ _ _ _ _).2 ⟨hd, by simpa using hs, fun j h => by simp at h⟩, by rw [e1]; omega, by rw [e1]; exact hA.2.1, hp _ _⟩⟩

theorem no_take {d : Nat} {v : Vl d} {deep n q : Nat} {w : World} {vk vn : Int} {a2 a3 a4 : Option Addr} {l2 l3 l4 p2 p3 p4 : Nat} (hno : ¬ (goodB d v deep = true ∧ n + partsV d v ≤ 40)) (e : Ending) (w' : World) (h : Ahead w q n vk vn a2 a3 a4 l2 l3 l4 p2 p3 p4 w' ∧ e = .returned (.tuple #[.nilIface, .bool false])) : TakeEnd d v deep n q w e w' := by
  obtain ⟨hA, rfl⟩ := h
  exact ⟨hA.1, .inr ⟨rfl, hno⟩⟩

theorem bad_shape {d : Nat} {vk vn : Int} {vs : List Int} {vK : List (List Int)} {vL : List (Vl d)} {deep n : Nat} (h : shapeB vk vn vs vK vL.length = false) : ¬ (goodB (d + 1) (vk, vn, vs, vK, vL) deep = true ∧ n + partsV (d + 1) (vk, vn, vs, vK, vL) ≤ 40) := fun ⟨h1, _⟩ => by
  have := ((good_succ _ _ _ _ _ _ _).1 h1).2.1
  rw [h] at this
  simp at this

set_option maxHeartbeats 1600000 in
theorem take_succ (d : Nat) (ih : TakeAt d) : TakeAt (d + 1) := by
  intro N q n c v deep w hv hNq hq hc hn hd
  show Calls _ _ _ _ (TakeEnd (d + 1) v deep n q w)
  obtain ⟨c0, c1, c2, c3, c4⟩ := c
  obtain ⟨vk, vn, vs, vK, vL⟩ := v
  obtain ⟨e0, e1, ht, hk, hl⟩ := (VSeg_succ _ _ _ _ _).1 hv
  simp only at e0 e1 ht hk hl
  subst e0
  subst e1
  clear hv
  simp only
  have HT := ht
  have HK := hk
  have HL := hl
  obtain ⟨a2, p2, rfl, s2, l2, m2, _, _⟩ := ht
  obtain ⟨a3, p3, rfl, _, _, _, _⟩ := hk
  obtain ⟨a4, p4, rfl, _, _, _, _⟩ := hl
  by_cases q1 : n = 40
  · refine (take_over q n vk vn a2 a3 a4 _ _ _ p2 p3 p4 deep w hq hc q1).mono fun e w' h => ⟨h.1, .inr ⟨h.2, fun ⟨_, h2⟩ => ?_⟩⟩
    have := parts_pos d (vk, vn, vs, vK, vL)
    omega
  have hn' : n < 40 := by omega
  by_cases q2 : 5 < deep
  · refine (take_deep q n vk vn _ _ _ a2 a3 a4 p2 p3 p4 deep w hq hc hn' q2).mono (no_take fun ⟨h1, _⟩ => ?_)
    have := ((good_succ _ _ _ _ _ _ _).1 h1).1
    omega
  have hD1 : deep ≤ 5 := by omega
  by_cases q3 : bareB vk vn vs.length vK.length vL.length = false
  · exact (take_bare q n vk vn _ _ _ a2 a3 a4 p2 p3 p4 deep w hq hc hn' hD1 q3).mono (no_take (bad_shape (by simp [shapeB, q3])))
  have q4 : bareB vk vn vs.length vK.length vL.length = true := by simpa using q3
  clear q1 q2 q3
  by_cases k0 : vk = 0
  · subst k0
    have : vn = 0 ∧ vs = [] ∧ vK = [] ∧ vL = [] := by simp [bareB] at q4; simpa [and_assoc] using q4
    obtain ⟨rfl, rfl, rfl, rfl⟩ := this
    exact (take_null q n a2 a3 a4 p2 p3 p4 deep w hq hc hn' hD1).mono (took_leaf hD1 hn' (by simp [shapeB, bareB]) fun R w' => .inl ⟨rfl, rfl⟩)
  by_cases k6 : vk = 6
  · subst k6
    have : vn = 0 ∧ vs = [] ∧ vK = [] ∧ vL = [] := by simp [bareB] at q4; simpa [and_assoc] using q4
    obtain ⟨rfl, rfl, rfl, rfl⟩ := this
    exact (take_unknown q n a2 a3 a4 p2 p3 p4 deep w hq hc hn' hD1).mono (took_leaf hD1 hn' (by simp [shapeB, bareB]) fun R w' => .inr (.inl ⟨rfl, rfl⟩))
  by_cases k1 : vk = 1
  · subst k1
    have : vs = [] ∧ vK = [] ∧ vL = [] := by simp [bareB] at q4; simpa [and_assoc] using q4
    obtain ⟨rfl, rfl, rfl⟩ := this
    by_cases v0 : vn = 0
    · subst v0
      exact (take_bool0 q n a2 a3 a4 p2 p3 p4 deep w hq hc hn' hD1).mono (took_leaf hD1 hn' (by simp [shapeB, bareB]) fun R w' => .inr (.inr (.inl ⟨rfl, rfl⟩)))
    by_cases v1 : vn = 1
    · subst v1
      exact (take_bool1 q n a2 a3 a4 p2 p3 p4 deep w hq hc hn' hD1).mono (took_leaf hD1 hn' (by simp [shapeB, bareB]) fun R w' => .inr (.inr (.inl ⟨rfl, rfl⟩)))
    · exact (take_boolno q n vn v0 v1 a2 a3 a4 p2 p3 p4 deep w hq hc hn' hD1).mono (no_take (bad_shape (by simp [shapeB, bareB, v0, v1])))
  by_cases k2 : vk = 2
  · subst k2
    have : vs = [] ∧ vK = [] ∧ vL = [] := by simp [bareB] at q4; simpa [and_assoc] using q4
    obtain ⟨rfl, rfl, rfl⟩ := this
    by_cases v0 : -1000000000000 ≤ vn
    · by_cases v1 : vn ≤ 1000000000000
      · exact (take_int q n vn v0 v1 a2 a3 a4 p2 p3 p4 deep w hq hc hn' hD1).mono (took_leaf hD1 hn' (by simp [shapeB, bareB, intB, v0, v1]) fun R w' => .inr (.inr (.inr (.inl ⟨rfl, rfl⟩))))
      · exact (take_inthigh q n vn v0 v1 a2 a3 a4 p2 p3 p4 deep w hq hc hn' hD1).mono (no_take (bad_shape (by simp [shapeB, bareB, intB, v1])))
    · exact (take_intlow q n vn v0 a2 a3 a4 p2 p3 p4 deep w hq hc hn' hD1).mono (no_take (bad_shape (by simp [shapeB, bareB, intB, v0])))
  by_cases k3 : vk = 3
  · subst k3
    have : vn = 0 ∧ vK = [] ∧ vL = [] := by simp [bareB] at q4; simpa [and_assoc] using q4
    obtain ⟨rfl, rfl, rfl⟩ := this
    cases htb : textB vs with
    | true => exact (take_text q n N vs hNq a2 a3 a4 p2 p3 p4 deep w hq hc hn' hD1 HT htb).mono (took_leaf hD1 hn' (by simp [shapeB, bareB, htb]) fun R w' => .inr (.inr (.inr (.inr (.inl ⟨rfl, rfl⟩)))))
    | false => exact (take_textno q n N vs hNq a2 a3 a4 p2 p3 p4 deep w hq hc hn' hD1 HT htb).mono (no_take (bad_shape (by simp [shapeB, bareB, htb])))
  by_cases k4 : vk = 4
  · subst k4
    have : vn = 0 ∧ vs = [] ∧ vK = [] := by simp [bareB] at q4; simpa [and_assoc] using q4
    obtain ⟨rfl, rfl, rfl⟩ := this
    exact take_list d ih N q n _ vL a2 a3 p2 p3 deep w HL hNq hq hc hn' hD1
  by_cases k5 : vk = 5
  · subst k5
    have : vn = 0 ∧ vs = [] := by simp [bareB] at q4; simpa [and_assoc] using q4
    obtain ⟨rfl, rfl⟩ := this
    exact take_map d ih N q n _ _ vK vL a2 p2 deep w HK HL hNq hq hc hn' hD1
  · have : vn = 0 ∧ vs = [] ∧ vK = [] ∧ vL = [] := by simp [bareB, k1, k2, k3, k4, k5] at q4; simpa [and_assoc] using q4
    obtain ⟨rfl, rfl, rfl, rfl⟩ := this
    exact (take_none q n vk k0 k1 k2 k3 k4 k5 k6 a2 a3 a4 p2 p3 p4 deep w hq hc hn' hD1).mono (no_take (bad_shape (by simp [shapeB, bareB, k0, k1, k2, k3, k4, k5, k6])))

theorem take_any (d : Nat) : TakeAt d := by
  induction d with
  | zero => intro N q n c v deep w hv; exact hv.elim
  | succ d ih => exact take_succ d ih

/-- What partOf says. -/
def PartEnd (d : Nat) (v : Vl d) (w : World) (e : Ending) (w' : World) : Prop :=
  Below w.heap.size w w' ∧ ((∃ p, e = .returned (.tuple #[p, .bool true]) ∧ okB d v = true ∧ PSeg (fun b => w.heap.size ≤ b ∧ b < w'.heap.size) w' d p v) ∨ (e = .returned (.tuple #[.nilIface, .bool false]) ∧ okB d v = false))

set_option maxHeartbeats 1600000 in
theorem partOf_any (d N : Nat) (c0 c1 c2 c3 c4 : Value) (v : Vl d) (w : World) (hv : VSeg (fun b => b < N) w d (c0, c1, c2, c3, c4) v) (hN : N ≤ w.heap.size) :
    Calls Try.prog 41 #[.agg #[c0, c1, c2, c3, c4]] w (PartEnd d v w) := by
  have b0 : ∀ o o' : Obj, Below w.heap.size w ((w.alloc o).alloc o') := fun o o' => ((Below.refl _ _).alloc (Nat.le_refl _) o).alloc (by simp) o'
  have HC : Hid (∀ o : Obj, Calls Try.prog 48 #[.pointer (some ⟨w.heap.size + 1, 0, none⟩), .agg #[c0, c1, c2, c3, c4], .int .i64 1] ((w.alloc o).alloc (.cells #[.int .i64 0] 84)) (TakeEnd d v 1 0 (w.heap.size + 1) ((w.alloc o).alloc (.cells #[.int .i64 0] 84)))) := fun o =>
    take_any d N (w.heap.size + 1) 0 (c0, c1, c2, c3, c4) v 1 ((w.alloc o).alloc (.cells #[.int .i64 0] 84)) (VSeg.agree (agree_below ((b0 o _).mono hN)) d hv) (by omega) (by rw [size2]; omega) (two_boxes w o _).2 (by omega) (by omega)
  have Hb := hide' b0
  have hsz := fun o o' => size2 w o o'
  have Hsz := hide' hsz
  clear b0 hsz
  go_enter Try.func41, Try.ntmps41
  go_wp2_with fail
  refine (HC.out _).mono ?_
  rintro e w1 ⟨hg1, hcase⟩
  have hB1 := (Hb.out _ _).grown hg1 (by rw [Hsz.out]; omega) (by intro j hj; simp at hj; omega)
  rcases hcase with ⟨p, rfl, h1, h2, h3, h4⟩ | ⟨rfl, hno⟩
  · have hE : Hid (okB d v = true ∧ PSeg (fun b => w.heap.size ≤ b ∧ b < w1.heap.size) w1 d p v) := ⟨by simp [okB, h1]; omega, PSeg.carry (fun b hb => ⟨by have := hb.1; rw [Hsz.out] at this; omega, hb.2⟩) (fun b _ => rfl) d h4⟩
    clear h1 h2 h3 h4 hg1
    go_wp2
    go_ret2
    exact ⟨hB1, .inl ⟨_, rfl, hE.out⟩⟩
  · have hE : Hid (okB d v = false) := by
      show okB d v = false
      cases h : okB d v with
      | false => rfl
      | true => simp [okB] at h; exact absurd ⟨h.1, by omega⟩ hno
    clear hno hg1
    go_wp2
    go_ret2
    exact ⟨hB1, .inr ⟨rfl, hE.out⟩⟩

end Go.Proofs.Ytkklhdeecamifaa
