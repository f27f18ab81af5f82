/-
  Texts that a law leans on, one behind the other; no statement is proved here.
-/
import Derived.Test.YtdhlmcgbgdljmaaGreatDoorPk11
import Derived.Test.YtdhlmcgbgdljmaaGreatDoorPk9
import Derived.Test.YtdhlmcgbgdljmaaGreatDoorPk10
import Derived.Test.YtdhlmcgbgdljmaaGreatDoorPk7
import Derived.Deep.RegionHeld3
/-
  l2say of whatever value; ValText of the specification.
-/
namespace Go.Proofs.YtdhlmcgbgdljmaaGreatDoor
open Go.RowKit
set_option linter.unusedVariables false
set_option linter.unusedSimpArgs false

theorem shape_says {vk vn : Int} {vs : List Int} {vK : List (List Int)} {n : Nat} (h : shapeB vk vn vs vK n = true) :
    vs.length ≤ 20 ∧ (vk = 0 ∨ vk = 6 ∨ (vk = 1 ∧ (vn = 0 ∨ vn = 1)) ∨ (vk = 2 ∧ -1000000000000 ≤ vn ∧ vn ≤ 1000000000000) ∨ vk = 3 ∨ (vk = 4 ∧ vK.length = 0) ∨ (vk = 5 ∧ vK.length = n ∧ ascB vK = true)) := by
  unfold shapeB bareB intB at h
  simp only [Bool.and_eq_true, Bool.or_eq_true, decide_eq_true_eq] at h
  obtain ⟨⟨⟨⟨h1, h2⟩, h3⟩, h4⟩, h5⟩ := h
  have htx : textB vs = true → vs.length ≤ 20 := fun ht => by
    unfold textB at ht
    simp only [Bool.and_eq_true, decide_eq_true_eq] at ht
    exact ht.1
  rcases h5 with (((((h5 | h5) | h5) | h5) | h5) | h5) | h5
  · exact ⟨by omega, .inl h5⟩
  · exact ⟨by omega, .inr (.inl h5)⟩
  · exact ⟨by omega, .inr (.inr (.inl h5))⟩
  · exact ⟨by omega, .inr (.inr (.inr (.inl ⟨h5.1, h5.2.1, h5.2.2⟩)))⟩
  · exact ⟨htx h5.2, .inr (.inr (.inr (.inr (.inl h5.1))))⟩
  · exact ⟨by omega, .inr (.inr (.inr (.inr (.inr (.inl ⟨h5, by omega⟩)))))⟩
  · exact ⟨by omega, .inr (.inr (.inr (.inr (.inr (.inr ⟨h5.1, h5.2.1, h5.2.2⟩)))))⟩

theorem kids_less {d : Nat} (vL : List (Vl d)) : ∀ k, k ≤ vL.length → k ≤ pre (partsV d) vL k := by
  intro k
  induction k with
  | zero => intro _; exact Nat.zero_le _
  | succ k ih =>
    intro hk
    have h1 := pre_succ (partsV d) vL k (by omega)
    have h2 := ih (by omega)
    have h3 : 1 ≤ partsV d vL[k] := by
      cases d with
      | zero => exact (vL[k]).elim
      | succ d => exact parts_pos d _
    omega

theorem l2say_succ (d : Nat) (ih : SayAt d) : SayAt (d + 1) := by
  intro N c v deep w hv hN hg hlen
  obtain ⟨c0, c1, c2, c3, c4⟩ := c
  obtain ⟨vk, vn, vs, vK, vL⟩ := v
  obtain ⟨_, hsh, hkids⟩ := (good_succ _ _ _ _ _ _ _).1 hg
  obtain ⟨hvs, hk⟩ := shape_says hsh
  obtain ⟨e0, e1, ht, hK, hl⟩ := (VSeg_succ _ _ _ _ _).1 hv
  simp only at e0 e1 ht hK hl
  subst e0
  subst e1
  rw [parts_succ] at hlen
  have hfew := kids_less vL vL.length (Nat.le_refl _)
  have hl' := hl
  have hK' := hK
  obtain ⟨a2, p2, rfl, s2, l2, m2, k2, r2⟩ := ht
  obtain ⟨a3, p3, rfl, _⟩ := hK
  obtain ⟨a4, p4, rfl, _⟩ := hl
  rcases hk with rfl | rfl | ⟨rfl, rfl | rfl⟩ | ⟨rfl, hlo, hhi⟩ | rfl | ⟨rfl, h0⟩ | ⟨rfl, h1, h2⟩
  · rw [sayV_null]; exact l2say_null vn vs a2 p2 a3 _ p3 a4 _ p4 w
  · rw [sayV_unknown]; exact l2say_unknown vn vs a2 p2 a3 _ p3 a4 _ p4 w
  · rw [sayV_bool]; exact l2say_false 0 vs a2 p2 a3 _ p3 a4 _ p4 w
  · rw [sayV_bool]; exact l2say_true 1 vs a2 p2 a3 _ p3 a4 _ p4 w
  · rw [sayV_int]; exact l2say_int vn vs a2 p2 a3 _ p3 a4 _ p4 w hlo hhi
  · rw [sayV_text]; exact l2say_text vn vs a2 p2 a3 _ p3 a4 _ p4 w s2 (by omega)
  · rw [sayV_list]; exact l2say_list d ih N vn vK vL a2 _ p2 a3 p3 a4 p4 (deep + 1) w hN hl' hK' trivial trivial hkids hlen (by omega)
  · rw [sayV_map]; exact l2say_map d ih N vn vK vL a2 _ p2 a3 p3 a4 p4 (deep + 1) w hN hl' hK' h1 (fun j hj => asc_few h2 j hj) hkids hlen (by omega)

theorem l2say_any (d : Nat) : SayAt d := by
  induction d with
  | zero => intro N c v deep w hv; exact hv.elim
  | succ d ih => exact l2say_succ d ih

theorem ok_says {d : Nat} {v : Vl d} (h : okB d v = true) : goodB d v 1 = true ∧ partsV d v ≤ 40 := by
  unfold okB at h
  simp only [Bool.and_eq_true, decide_eq_true_eq] at h
  exact h

end Go.Proofs.YtdhlmcgbgdljmaaGreatDoor
/-
  What ChangeText tells (mathematics).
-/
namespace Go.Proofs.YtdhlmcgbgdljmaaGreatDoor
open Go.RowKit
set_option linter.unusedVariables false
set_option linter.unusedSimpArgs false

/-- The parts of what ChangeText tells. -/
def sidT (b : Bool) (c : Int) (s : List Int) : List Int := if b = true then [32, c, 32] ++ s else []
/-- What ChangeText tells. -/
def chgT (d : Nat) (x : Chg d) : List Int := if okC d x = true then (pathT x.1 ++ sidT x.2.1 45 (sayV d x.2.2.1)) ++ sidT x.2.2.2.1 43 (sayV d x.2.2.2.2) else []
theorem chgT_no {d : Nat} {x : Chg d} (h : okC d x = false) : chgT d x = [] := by unfold chgT; rw [h]; rfl
theorem chgT_yes {d : Nat} {x : Chg d} (h : okC d x = true) : chgT d x = (pathT x.1 ++ sidT x.2.1 45 (sayV d x.2.2.1)) ++ sidT x.2.2.2.1 43 (sayV d x.2.2.2.2) := by unfold chgT; rw [if_pos h]
theorem okC_parts {d : Nat} {x : Chg d} (h : okC d x = true) : pathB x.1 = true ∧ okB d x.2.2.1 = true ∧ okB d x.2.2.2.2 = true := by
  unfold okC at h
  simp only [Bool.and_eq_true] at h
  exact ⟨h.1, h.2.1, h.2.2.1⟩
theorem say_len {d : Nat} {v : Vl d} (h : okB d v = true) : (sayV d v).length ≤ 2400 := by
  have h2 := ok_says h
  have h1 := sayV_len d v 1 h2.1
  omega
theorem sidT_len (b : Bool) (c : Int) {s : List Int} (h : s.length ≤ 2400) : (sidT b c s).length ≤ 2403 := by
  unfold sidT
  split
  · simp; omega
  · simp
theorem chgT_len {d : Nat} {x : Chg d} : (chgT d x).length ≤ 5000 := by
  unfold chgT
  split
  · next h =>
    obtain ⟨_, h2, h3⟩ := okC_parts h
    have q1 := pathT_len x.1
    have q2 := sidT_len x.2.1 45 (say_len h2)
    have q3 := sidT_len x.2.2.2.1 43 (say_len h3)
    simp only [List.length_append]
    omega
  · simp
theorem chB_one {d : Nat} (x : Chg d) : chB d [x] = okC d x := by
  cases h : okC d x with
  | false => exact chB_bad (k := 0) (by simp) h
  | true =>
    refine chB_yes (by simp) fun i hi _ => ?_
    have : i = 0 := by simp at hi; omega
    subst this
    exact ⟨h, fun h0 => by omega⟩
end Go.Proofs.YtdhlmcgbgdljmaaGreatDoor
/-
  Changes, the specification's side: l3zero, l3within.
-/
namespace Go.Proofs.YtdhlmcgbgdljmaaGreatDoor
open Go.RowKit
set_option linter.unusedVariables false
set_option linter.unusedSimpArgs false

theorem shape_null {vn : Int} {vs : List Int} {vK : List (List Int)} {n : Nat} (h : shapeB 0 vn vs vK n = true) : vn = 0 ∧ n = 0 := by
  unfold shapeB bareB at h
  simp only [Bool.and_eq_true, Bool.or_eq_true, decide_eq_true_eq] at h
  omega

set_option maxHeartbeats 3200000 in
set_option maxRecDepth 100000 in
theorem l2cmp_zero (bk bn : Int) (a2 : Option Addr) (l2 p2 : Nat) (a3 : Option Addr) (l3 p3 : Nat) (a4 : Option Addr) (l4 p4 : Nat) (hq : bk = 0 → bn = 0 ∧ l4 = 0) (wx : World) :
    Calls Tryz.prog 59 #[.agg #[.int .i64 bk, .int .i64 bn, .slice a2 l2 p2, .slice a3 l3 p3, .slice a4 l4 p4], .agg #[.int .i64 0, .int .i64 0, .slice none 0 0, .slice none 0 0, .slice none 0 0]] wx fun e w' => e = .returned (.int .i64 (numC bk 0)) ∧ Below wx.heap.size wx w' := by
  have HA : Hid (∀ o o' : Obj, Below wx.heap.size wx ((wx.alloc o).alloc o')) := fun o o' => ((Below.refl _ _).alloc (Nat.le_refl _) o).alloc (by simp) o'
  have HN : Hid (∀ w, Calls Tryz.prog 61 #[.int .i64 bk, .int .i64 0] w fun e w' => e = .returned (.int .i64 (numC bk 0)) ∧ w = w') := fun w => l2num_any bk 0 w
  by_cases h0 : bk = 0
  · obtain ⟨rfl, rfl⟩ := hq h0
    subst h0
    have e0 : numC 0 0 = 0 := numC_eq 0
    rw [e0] at HN ⊢
    clear hq e0
    go_enter Tryz.func59, Tryz.ntmps59
    go_wp2_with fail
    go_loopw [5] (fun i wr => i = .int .i64 0 ∧ wr = (wx.alloc (.cells #[.int .i64 0, .int .i64 0, .slice a2 l2 p2, .slice a3 l3 p3, .slice a4 0 p4] 35)).alloc (.cells #[.int .i64 0, .int .i64 0, .slice none 0 0, .slice none 0 0, .slice none 0 0] 35)) (fun _ _ => 0)
    case atStart => exact ⟨rfl, rfl⟩
    case round =>
      obtain ⟨rfl, rfl⟩ := hrel
      go_wp2_with fail
      refine (HN.out _).mono ?_
      rintro e w1 ⟨rfl, rfl⟩
      go_wp2
      go_ret
      exact ⟨rfl, HA.out _ _⟩
  · have h0' : (bk != 0) = true := by simpa using h0
    generalize numC bk 0 = q at *
    clear hq
    go_enter Tryz.func59, Tryz.ntmps59
    go_wp2_with fail
    refine (HN.out _).mono ?_
    rintro e w1 ⟨rfl, rfl⟩
    go_wp2
    go_ret
    exact ⟨rfl, HA.out _ _⟩

set_option maxHeartbeats 3200000 in
set_option maxRecDepth 100000 in
theorem l3zero_any (d N : Nat) (c0 c1 c2 c3 c4 : Value) (v : Vl d) (w : World) (hv : VSeg (fun b => b < N) w d (c0, c1, c2, c3, c4) v) (hN : N ≤ w.heap.size) (hok : okB d v = true) :
    Calls Tryz.prog 33 #[.agg #[c0, c1, c2, c3, c4]] w fun e w' => e = .returned (.bool (decide (kdV d v = 0))) ∧ Below w.heap.size w w' := by
  cases d with
  | zero => exact hv.elim
  | succ d =>
  obtain ⟨bk, bn, a2, l2, p2, a3, l3, p3, a4, l4, p4, rfl, rfl, rfl, rfl, rfl⟩ := VSeg.form (d + 1) hv
  obtain ⟨vk, vn, vs, vK, vL⟩ := v
  obtain ⟨e0, e1, _, _, hl⟩ := hv
  simp only [Value.int.injEq, true_and] at e0 e1
  subst e0 e1
  obtain ⟨a4', c4', e4, _⟩ := hl
  simp only [Value.slice.injEq] at e4
  obtain ⟨-, hl4, -⟩ := e4
  have hk : kdV (d + 1) (bk, bn, vs, vK, vL) = bk := rfl
  rw [hk]
  have hg : goodB (d + 1) (bk, bn, vs, vK, vL) 1 = true := by unfold okB at hok; rw [Bool.and_eq_true] at hok; exact hok.1
  have hsh := ((good_succ _ _ _ _ _ _ _).1 hg).2.1
  have HA1 : Hid (∀ o : Obj, Below w.heap.size w (w.alloc o)) := fun o => (Below.refl _ _).alloc (Nat.le_refl _) o
  have HC : Hid (∀ wx, Calls Tryz.prog 59 #[.agg #[.int .i64 bk, .int .i64 bn, .slice a2 l2 p2, .slice a3 l3 p3, .slice a4 l4 p4], .agg #[.int .i64 0, .int .i64 0, .slice none 0 0, .slice none 0 0, .slice none 0 0]] wx fun e w' => e = .returned (.int .i64 (numC bk 0)) ∧ Below wx.heap.size wx w') := fun wx => l2cmp_zero bk bn a2 l2 p2 a3 l3 p3 a4 l4 p4 (fun h0 => by subst h0; obtain ⟨q1, q2⟩ := shape_null hsh; exact ⟨q1, by omega⟩) wx
  have Hbox : Hid (∀ o wx, Below (w.alloc o).heap.size (w.alloc o) wx → wx.heap[w.heap.size]? = some o) := fun o wx h => box_row h
  by_cases h0 : bk = 0
  · subst h0
    obtain ⟨q1, q2⟩ := shape_null hsh
    subst q1
    have ql : l4 = 0 := by omega
    have e0 : numC 0 0 = 0 := numC_eq 0
    rw [e0] at HC
    clear hsh hg hok hk hl4 q2
    subst ql
    go_enter Tryz.func33, Tryz.ntmps33
    go_wp2_with fail
    refine (HC.out _).mono ?_
    rintro e w1 ⟨rfl, b1⟩
    have hr := Hbox.out _ _ b1
    have B1 := hide' (Below.on (HA1.out _) b1)
    clear hr b1
    go_wp2
    go_ret
    exact ⟨rfl, B1.out⟩
  · have hnz : ¬ numC bk 0 = 0 := by
      unfold numC
      split
      · omega
      · split <;> omega
    have hd : decide (bk = 0) = false := decide_eq_false h0
    rw [hd]
    generalize numC bk 0 = q at *
    have hq : (q == 0) = false := by simpa using hnz
    clear hsh hg hok hk hl4
    go_enter Tryz.func33, Tryz.ntmps33
    go_wp2_with fail
    refine (HC.out _).mono ?_
    rintro e w1 ⟨rfl, b1⟩
    have B1 := hide' (Below.on (HA1.out _) b1)
    clear b1
    go_wp2
    go_ret
    exact ⟨rfl, B1.out⟩


theorem elemSt (w : World) : (sizeOf (Tryz.prog.elem 32)).run Tryz.prog w = .ok 3 w := by kernel_rfl
theorem sliceSt_to (w : World) (a : Option Addr) (len cap n : Nat) (h : n ≤ cap) (hm : cap ≤ maxLen) : (Instr.slice 32 (.slice a len cap) none (some (.int .i64 n)) none).run Tryz.prog w = .ok (.slice a n cap) w := by
  unfold maxLen at hm
  rw [run_slice_h (P := Tryz.prog) w 32 a len cap (by kernel_rfl) .i64 n (by omega) (by omega), elemSt]
  cases a <;> simp [Result.andThen, sliced, Addr.add]

set_option maxHeartbeats 3200000 in
set_option maxRecDepth 100000 in
theorem l3within_any (N : Nat) (a : Option Addr) (n p : Nat) (a' : Option Addr) (n' p' : Nat) (l m : List Stp) (w : World) (hx : PthSeg (fun b => b < N) w (.slice a n p) l) (hy : PthSeg (fun b => b < N) w (.slice a' n' p') m) (hN : N ≤ w.heap.size) :
    Calls Tryz.prog 35 #[.slice a n p, .slice a' n' p'] w fun e w' => e = .returned (.bool (wiB l m)) ∧ Below w.heap.size w w' := by
  obtain ⟨_, _, e1, q1, q2, _⟩ := id hx
  simp only [Value.slice.injEq] at e1
  obtain ⟨-, hn, rfl⟩ := e1
  obtain ⟨_, _, e1, q1', q2', _⟩ := id hy
  simp only [Value.slice.injEq] at e1
  obtain ⟨-, hn', rfl⟩ := e1
  have HC : Hid (n ≤ n' → Calls Tryz.prog 34 #[.slice a n p, .slice a' n p'] w fun e w' => e = .returned (.int .i64 (pthC l (m.take l.length))) ∧ Below w.heap.size w w') := fun h => by
    refine l3cmp_any N _ _ l (m.take l.length) w hx ?_ hN
    rw [← hn]
    exact hy.take n (by omega)
  have HW : Hid (wiB l m = (decide (n ≤ n') && decide (pthC l (m.take l.length) = 0))) := by show _ = _; unfold wiB; rw [hn, hn']
  have hcap : n ≤ n' → n ≤ p' := fun h => by omega
  generalize wiB l m = ans at *
  generalize pthC l (m.take l.length) = q at *
  unfold maxLen at q2 q2'
  have q3 : n ≤ 9223372036854775807 := by omega
  have q3' : n' ≤ 9223372036854775807 := by omega
  by_cases h : n ≤ n'
  · have HC2 := hide' (HC.out h)
    have hs := sliceSt_to w a' n' p' n (hcap h) (by unfold maxLen; omega)
    have h' : (n : Int) ≤ (n' : Int) := by omega
    by_cases h0 : q = 0
    · subst h0
      have HF : Hid (ans = true) := by show _ = _; rw [HW.out]; simp [h]
      clear HC HW hx hy hn hn' q1 q1' hcap q2 q2'
      go_enter Tryz.func35, Tryz.ntmps35
      go_wp2_with fail
      refine HC2.out.mono ?_
      rintro e w1 ⟨rfl, b1⟩
      go_wp2
      go_ret
      exact ⟨ret_bool HF.out.symm, b1⟩
    · have h0' : (q == 0) = false := by simpa using h0
      have HF : Hid (ans = false) := by show _ = _; rw [HW.out]; simp [h0]
      clear HC HW hx hy hn hn' q1 q1' hcap q2 q2'
      go_enter Tryz.func35, Tryz.ntmps35
      go_wp2_with fail
      refine HC2.out.mono ?_
      rintro e w1 ⟨rfl, b1⟩
      go_wp2
      go_ret
      exact ⟨ret_bool HF.out.symm, b1⟩
  · have h' : ¬ (n : Int) ≤ (n' : Int) := by omega
    have HF : Hid (ans = false) := by show _ = _; rw [HW.out]; simp [h]
    clear HC HW hx hy hn hn' q1 q1' hcap q2 q2'
    go_enter Tryz.func35, Tryz.ntmps35
    go_wp2
    go_ret
    exact ⟨ret_bool HF.out.symm, Below.refl _ _⟩
end Go.Proofs.YtdhlmcgbgdljmaaGreatDoor
/-
  Regions that draw, walked by hand in the order of the text: the library's 'wpAnyH_take' with the slot said; no statement is proved here. For guarded operations that are not wanted.
-/
namespace Go.Proofs.YtdhlmcgbgdljmaaGreatDoor
set_option linter.unusedVariables false

section
variable {P : Program} {ops : Array Oper} {Q : Exit → Act → World → Prop} {md : Region.Mode} {S : World → Prop}
theorem take_yes {i : Nat} (d : Nat) {oi : Oper} {v : Value} {fuel : Nat} {listed : Array Bool} {a : Act} {w : World} (hi : ops[i]? = some oi) (hd : oi.dst = some d)
    (hs : Region.noSelect ops = true) (hf : Region.free md ops listed i = true) (hr : (Region.ready md ops listed).contains i = true)
    (hQ : ∀ c a w, Q (.panic c) (a.put (some d) v) w → Q (.panic c) a w) (hw : Region.wanted oi (yielded ops a.tmps) = true) (hS : S w)
    (hy : ∀ w, S w → (execOp a.eval oi).run P w = .ok (.value v) w)
    (h : wpAnyH P md ops Q S fuel (listed.setIfInBounds i true) (a.put (some d) v) w) : wpAnyH P md ops Q S (fuel + 1) listed a w :=
  wpAnyH_take hi hs hf hr (by rw [hd]; exact hQ) (Or.inl ⟨hw, hy⟩) hS (by rw [hd]; exact h)
theorem take_not {i : Nat} (d : Nat) {oi : Oper} {fuel : Nat} {listed : Array Bool} {a : Act} {w : World} (hi : ops[i]? = some oi) (hd : oi.dst = some d)
    (hs : Region.noSelect ops = true) (hf : Region.free md ops listed i = true) (hr : (Region.ready md ops listed).contains i = true)
    (hQ : ∀ c a w, Q (.panic c) (a.put (some d) undef) w → Q (.panic c) a w) (hw : Region.wanted oi (yielded ops a.tmps) = false) (hS : S w)
    (h : wpAnyH P md ops Q S fuel (listed.setIfInBounds i true) (a.put (some d) undef) w) : wpAnyH P md ops Q S (fuel + 1) listed a w :=
  wpAnyH_take hi hs hf hr (by rw [hd]; exact hQ) (Or.inr ⟨hw, rfl⟩) hS (by rw [hd]; exact h)
end
end Go.Proofs.YtdhlmcgbgdljmaaGreatDoor
