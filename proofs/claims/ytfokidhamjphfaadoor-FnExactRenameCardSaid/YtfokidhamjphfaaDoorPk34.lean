/-
  Texts that a law leans on, one behind the other; no statement is proved here.
-/
import Derived.Test.YtfokidhamjphfaaDoorPk32
import Derived.Test.YtfokidhamjphfaaDoorPk22
import Derived.Test.YtfokidhamjphfaaDoorPk33
import Derived.Deep.Light
/-
  What is owned, behind later calls; how many marks a value takes.
-/
namespace Go.Proofs.YtfokidhamjphfaaDoor
open Go.RowKit
set_option linter.unusedVariables false
set_option linter.unusedSimpArgs false

theorem KOwn.on {w w' : World} {v : Value} {ks : List (List Int)} {B : List Nat} (h : KOwn w v ks B) (hb : Below w.heap.size w w') : KOwn w' v ks B := h.agree fun b hb' => hb.block b (h.lt b hb')
theorem VOwn.on {w w' : World} {d : Nat} {c : Value × Value × Value × Value × Value} {v : Vl d} {B : List Nat} (h : VOwn w d c v B) (hb : Below w.heap.size w w') : VOwn w' d c v B := VOwn.agree d h fun b hb' => hb.block b (VOwn.lt d h b hb')
theorem KOwn.far {w w' : World} {v : Value} {ks : List (List Int)} {B B' : List Nat} (h : KOwn w v ks B) (hT : Turned B' w w') (hd : ∀ b ∈ B, b ∉ B') : KOwn w' v ks B := h.agree fun b hb' => hT.block b (h.lt b hb') (hd b hb')
theorem KOwn.read {w : World} {v : Value} {ks : List (List Int)} {B : List Nat} (h : KOwn w v ks B) : KSeg (fun b => b < w.heap.size) w v ks := h.seg.mono fun b hb => h.lt b hb

theorem sum_cE {d : Nat} (h : ∀ v : Vl d, cE d v ≤ 2 + 2 * szV d v) : ∀ l : List (Vl d), (l.map (cE d)).sum ≤ 2 * l.length + 2 * (l.map (szV d)).sum
  | [] => by simp
  | x :: r => by
    have h1 := h x
    have h2 := sum_cE h r
    simp only [List.map_cons, List.sum_cons, List.length_cons]
    omega

theorem cE_sz : ∀ (d : Nat) (v : Vl d), cE d v ≤ 2 + 2 * szV d v
  | 0, _ => by simp [cE]
  | d + 1, (vk, vn, vs, vK, vL) => by
    have h2 := sum_cE (cE_sz d) vL
    have h3 : szV (d + 1) (vk, vn, vs, vK, vL) = szT vs + szK vK + (vL.length + (vL.map (szV d)).sum) := rfl
    have h4 : cE (d + 1) (vk, vn, vs, vK, vL) = 2 + (vs.length + ((vK.map List.length).sum + (vL.map (cE d)).sum)) := rfl
    have h5 : szK vK = vK.length + (vK.map List.length).sum := rfl
    have h6 : vs.length ≤ szT vs := by unfold szT; omega
    omega

theorem cV_le (d : Nat) (v : Vl (d + 1)) : cV d v ≤ 2 * szV (d + 1) v := by
  obtain ⟨vk, vn, vs, vK, vL⟩ := v
  have h2 := sum_cE (cE_sz d) vL
  have h3 : szV (d + 1) (vk, vn, vs, vK, vL) = szT vs + szK vK + (vL.length + (vL.map (szV d)).sum) := rfl
  have h4 : cV d (vk, vn, vs, vK, vL) = vs.length + (vK.map List.length).sum + (vL.map (cE d)).sum := rfl
  have h5 : szK vK = vK.length + (vK.map List.length).sum := rfl
  have h6 : vs.length ≤ szT vs := by unfold szT; omega
  omega

theorem VOwn.far {w w' : World} {d : Nat} {c : Value × Value × Value × Value × Value} {v : Vl d} {B B' : List Nat} (h : VOwn w d c v B) (hT : Turned B' w w') (hd : ∀ b ∈ B, b ∉ B') : VOwn w' d c v B := VOwn.agree d h fun b hb' => hT.block b (VOwn.lt d h b hb') (hd b hb')
theorem VOwn.read {w : World} {d : Nat} {c : Value × Value × Value × Value × Value} {v : Vl d} {B : List Nat} (h : VOwn w d c v B) : VSeg (fun b => b < w.heap.size) w d c v := h.below (Below.refl _ _)
theorem row_on {w w' : World} {b : Nat} {o : Obj} (h : w.heap[b]? = some o) (hb : Below w.heap.size w w') : w'.heap[b]? = some o := (hb.block b (Array.getElem?_eq_some_iff.1 h).1).trans h
theorem row_far {w w' : World} {b : Nat} {o : Obj} {B : List Nat} (h : w.heap[b]? = some o) (hT : Turned B w w') (hn : b ∉ B) : w'.heap[b]? = some o := (hT.block b (Array.getElem?_eq_some_iff.1 h).1 hn).trans h
/-- What a call that hands out a value and a word leaves: a value of the call's own, and the word. -/
def Ans (D : Nat) (a : Vl (D + 1)) (bb : Bool) (w : World) (e : Ending) (w' : World) : Prop := ∃ u0 u1 u2 u3 u4, e = .returned (.tuple #[.agg #[u0, u1, u2, u3, u4], .bool bb]) ∧ ∃ B, VOwn w' (D + 1) (u0, u1, u2, u3, u4) a B ∧ (∀ b ∈ B, w.heap.size ≤ b ∧ b < w'.heap.size) ∧ Below w.heap.size w w'

/-- The value that holds nothing. -/
def vNil (d : Nat) : Vl (d + 1) := ((0 : Int), (0 : Int), ([] : List Int), ([] : List (List Int)), ([] : List (Vl d)))

theorem sz_vNil (d : Nat) : szV (d + 1) (vNil d) = 0 := rfl

theorem tOwn_nil (w : World) : TOwn w (.slice none 0 0) [] [] := ⟨⟨by simp, rfl, .inl ⟨rfl, rfl⟩⟩, .inl ⟨rfl, rfl⟩⟩

theorem own_vNil (d : Nat) (w : World) : VOwn w (d + 1) (.int .i64 0, .int .i64 0, .slice none 0 0, .slice none 0 0, .slice none 0 0) (vNil d) [] :=
  (VOwn_succ _ _ _ _ _).2 ⟨rfl, rfl, [], [], [], tOwn_nil w, .inl ⟨rfl, rfl, rfl⟩, .inl ⟨rfl, rfl, rfl⟩, rfl, by simp⟩
end Go.Proofs.YtfokidhamjphfaaDoor
/-
  l6arity of the specification; l6expr where something is wrong ahead of the kids.
-/
namespace Go.Proofs.YtfokidhamjphfaaDoor
open Go.RowKit
set_option linter.unusedVariables false
set_option linter.unusedSimpArgs false

set_option maxHeartbeats 1600000 in
theorem l6arity_any (k : Int) (w : World) :
    Calls Tryd.prog 54 #[.int .i64 k] w fun e w' => e = .returned (.int .i64 (arI k)) ∧ w = w' := by
  go_enter Tryd.func54, Tryd.ntmps54
  go_wp2
  all_goals first
    | (exfalso; simp_all; done)
    | (go_ret; refine ⟨ret_i64 ?_, rfl⟩; simp_all [arI]; done)
    | (go_ret; refine ⟨ret_i64 ?_, rfl⟩; simp_all [arI]; omega)

/-- What is asked of one part ahead of its kids and of its keys' order. -/
def hdR (kb : Bool) (q m n : Int) (l3 l4 : Nat) (sb : Bool) : Bool :=
  (if kb then decide (l3 = l4) else decide (l3 = 0)) && (decide (q = -1) || decide (q = l4)) && decide (0 ≤ n) && decide (n ≤ m) && sb

set_option maxHeartbeats 4000000 in
set_option maxRecDepth 100000 in
theorem l6bad_other (k : Int) (k0 : 0 ≤ k) (k24 : k ≤ 23) (k1 : ¬ k = 1) (k2 : ¬ k = 2) (k3 : ¬ k = 3) (k4 : ¬ k = 4) (k5 : ¬ k = 5) (k6 : ¬ k = 6) (k7 : ¬ k = 7) (k8 : ¬ k = 8) (k23 : ¬ k = 23) (n : Int) (a2 a3 a4 : Option Addr) (p2 p3 p4 l2 l3 l4 : Nat) (deep : Nat) (left : Int) (w : World)
    (h1 : 1 ≤ left) (h2 : left ≤ 150) (h3 : deep ≤ 10) (hl2 : l2 ≤ maxLen) (hl3 : l3 ≤ maxLen) (hl4 : l4 ≤ maxLen) (hq : -1 ≤ arI k ∧ arI k ≤ 3) (hbad : hdR false (arI k) 0 n l3 l4 (decide (l2 = 0)) = false) :
    Calls Tryd.prog 28 #[.agg #[.int .i64 k, .int .i64 n, .slice a2 l2 p2, .slice a3 l3 p3, .slice a4 l4 p4], .int .i64 deep, .int .i64 left] w fun e w' => e = .returned (.int .i64 (-1)) ∧ Below w.heap.size w w' := by
  have b0 : ∀ o : Obj, Below w.heap.size w (w.alloc o) := fun o => (Below.refl _ _).alloc (Nat.le_refl _) o
  have Hb := hide' b0
  have HAr : Hid (∀ wx, Calls Tryd.prog 54 #[.int .i64 k] wx fun e w' => e = .returned (.int .i64 (arI k)) ∧ wx = w') := fun wx => l6arity_any k wx
  have Hbad := hide' hbad
  generalize arI k = q at *
  have d1 : ¬ left - 1 < 0 := by omega
  have d2 : ¬ (10 : Int) < (deep : Int) := by omega
  have d3 : ¬ k < 0 := by omega
  have d4 : ¬ (23 : Int) < k := by omega
  have e5 : (k == 5) = false := by simpa using k5
  have e5' : (k != 5) = true := by simpa using k5
  obtain ⟨q1, q2⟩ := hq
  unfold maxLen at hl2 hl3 hl4
  clear b0 hbad
  go_enter Tryd.func28, Tryd.ntmps28
  go_wp2_with (go_at_call 54; refine (HAr.out _).mono ?_; rintro e w1 ⟨rfl, e1⟩; obtain rfl := e1)
  all_goals first
    | (go_ret; exact ⟨rfl, Hb.out _⟩)
    | (exfalso; have hbad := Hbad.out; clear Hbad HAr Hb; go_light; simp [hdR] at hbad; simp_all <;> omega)
end Go.Proofs.YtfokidhamjphfaaDoor
