/-
  Texts that a law leans on, one behind the other; no statement is proved here.
-/
import Derived.Test.YtcepgdlnlmhecaaPk6
import Derived.Test.YtcepgdlnlmhecaaPk5
import Derived.Test.YtcepgdlnlmhecaaPk4
import Derived.Maps.Own
import Derived.Shelf.Abstract
import Derived.Maps.AppendAt
/-
  Changes, the specification's side: l3zero, l3within.
-/
namespace Go.Proofs.Ytcepgdlnlmhecaa
open Go.RowKit
set_option linter.unusedVariables false
set_option linter.unusedSimpArgs false

theorem shape_null {vn : Int} {vs : List Int} {vK : List (List Int)} {n : Nat} (h : shapeB 0 vn vs vK n = true) : vn = 0 ∧ n = 0 := by
  unfold shapeB bareB at h
  simp only [Bool.and_eq_true, Bool.or_eq_true, decide_eq_true_eq] at h
  omega

set_option maxHeartbeats 3200000 in
set_option maxRecDepth 100000 in
theorem l2cmp_zero (bk bn : Int) (a2 : Option Addr) (l2 p2 : Nat) (a3 : Option Addr) (l3 p3 : Nat) (a4 : Option Addr) (l4 p4 : Nat) (hq : bk = 0 → bn = 0 ∧ l4 = 0) (wx : World) :
    Calls Try.prog 22 #[.agg #[.int .i64 bk, .int .i64 bn, .slice a2 l2 p2, .slice a3 l3 p3, .slice a4 l4 p4], .agg #[.int .i64 0, .int .i64 0, .slice none 0 0, .slice none 0 0, .slice none 0 0]] wx fun e w' => e = .returned (.int .i64 (numC bk 0)) ∧ Below wx.heap.size wx w' := by
  have HA : Hid (∀ o o' : Obj, Below wx.heap.size wx ((wx.alloc o).alloc o')) := fun o o' => ((Below.refl _ _).alloc (Nat.le_refl _) o).alloc (by simp) o'
  have HN : Hid (∀ w, Calls Try.prog 24 #[.int .i64 bk, .int .i64 0] w fun e w' => e = .returned (.int .i64 (numC bk 0)) ∧ w = w') := fun w => l2num_any bk 0 w
  by_cases h0 : bk = 0
  · obtain ⟨rfl, rfl⟩ := hq h0
    subst h0
    have e0 : numC 0 0 = 0 := numC_eq 0
    rw [e0] at HN ⊢
    clear hq e0
    go_enter Try.func22, Try.ntmps22
    go_wp2_with fail
    go_loopw [5] (fun i wr => i = .int .i64 0 ∧ wr = (wx.alloc (.cells #[.int .i64 0, .int .i64 0, .slice a2 l2 p2, .slice a3 l3 p3, .slice a4 0 p4] 41)).alloc (.cells #[.int .i64 0, .int .i64 0, .slice none 0 0, .slice none 0 0, .slice none 0 0] 41)) (fun _ _ => 0)
    case atStart => exact ⟨rfl, rfl⟩
    case round =>
      obtain ⟨rfl, rfl⟩ := hrel
      go_wp2_with fail
      refine (HN.out _).mono ?_
      rintro e w1 ⟨rfl, rfl⟩
      go_wp2
      go_ret
      exact ⟨rfl, HA.out _ _⟩
  · have h0' : (bk != 0) = true := by simpa using h0
    generalize numC bk 0 = q at *
    clear hq
    go_enter Try.func22, Try.ntmps22
    go_wp2_with fail
    refine (HN.out _).mono ?_
    rintro e w1 ⟨rfl, rfl⟩
    go_wp2
    go_ret
    exact ⟨rfl, HA.out _ _⟩

set_option maxHeartbeats 3200000 in
set_option maxRecDepth 100000 in
theorem l3zero_any (d N : Nat) (c0 c1 c2 c3 c4 : Value) (v : Vl d) (w : World) (hv : VSeg (fun b => b < N) w d (c0, c1, c2, c3, c4) v) (hN : N ≤ w.heap.size) (hok : okB d v = true) :
    Calls Try.prog 12 #[.agg #[c0, c1, c2, c3, c4]] w fun e w' => e = .returned (.bool (decide (kdV d v = 0))) ∧ Below w.heap.size w w' := by
  cases d with
  | zero => exact hv.elim
  | succ d =>
  obtain ⟨bk, bn, a2, l2, p2, a3, l3, p3, a4, l4, p4, rfl, rfl, rfl, rfl, rfl⟩ := VSeg.form (d + 1) hv
  obtain ⟨vk, vn, vs, vK, vL⟩ := v
  obtain ⟨e0, e1, _, _, hl⟩ := hv
  simp only [Value.int.injEq, true_and] at e0 e1
  subst e0 e1
  obtain ⟨a4', c4', e4, _⟩ := hl
  simp only [Value.slice.injEq] at e4
  obtain ⟨-, hl4, -⟩ := e4
  have hk : kdV (d + 1) (bk, bn, vs, vK, vL) = bk := rfl
  rw [hk]
  have hg : goodB (d + 1) (bk, bn, vs, vK, vL) 1 = true := by unfold okB at hok; rw [Bool.and_eq_true] at hok; exact hok.1
  have hsh := ((good_succ _ _ _ _ _ _ _).1 hg).2.1
  have HA1 : Hid (∀ o : Obj, Below w.heap.size w (w.alloc o)) := fun o => (Below.refl _ _).alloc (Nat.le_refl _) o
  have HC : Hid (∀ wx, Calls Try.prog 22 #[.agg #[.int .i64 bk, .int .i64 bn, .slice a2 l2 p2, .slice a3 l3 p3, .slice a4 l4 p4], .agg #[.int .i64 0, .int .i64 0, .slice none 0 0, .slice none 0 0, .slice none 0 0]] wx fun e w' => e = .returned (.int .i64 (numC bk 0)) ∧ Below wx.heap.size wx w') := fun wx => l2cmp_zero bk bn a2 l2 p2 a3 l3 p3 a4 l4 p4 (fun h0 => by subst h0; obtain ⟨q1, q2⟩ := shape_null hsh; exact ⟨q1, by omega⟩) wx
  have Hbox : Hid (∀ o wx, Below (w.alloc o).heap.size (w.alloc o) wx → wx.heap[w.heap.size]? = some o) := fun o wx h => box_row h
  by_cases h0 : bk = 0
  · subst h0
    obtain ⟨q1, q2⟩ := shape_null hsh
    subst q1
    have ql : l4 = 0 := by omega
    have e0 : numC 0 0 = 0 := numC_eq 0
    rw [e0] at HC
    clear hsh hg hok hk hl4 q2
    subst ql
    go_enter Try.func12, Try.ntmps12
    go_wp2_with fail
    refine (HC.out _).mono ?_
    rintro e w1 ⟨rfl, b1⟩
    have hr := Hbox.out _ _ b1
    have B1 := hide' (Below.on (HA1.out _) b1)
    clear hr b1
    go_wp2
    go_ret
    exact ⟨rfl, B1.out⟩
  · have hnz : ¬ numC bk 0 = 0 := by
      unfold numC
      split
      · omega
      · split <;> omega
    have hd : decide (bk = 0) = false := decide_eq_false h0
    rw [hd]
    generalize numC bk 0 = q at *
    have hq : (q == 0) = false := by simpa using hnz
    clear hsh hg hok hk hl4
    go_enter Try.func12, Try.ntmps12
    go_wp2_with fail
    refine (HC.out _).mono ?_
    rintro e w1 ⟨rfl, b1⟩
    have B1 := hide' (Below.on (HA1.out _) b1)
    clear b1
    go_wp2
    go_ret
    exact ⟨rfl, B1.out⟩


theorem elemSt (w : World) : (sizeOf (Try.prog.elem 38)).run Try.prog w = .ok 3 w := by kernel_rfl
theorem sliceSt_to (w : World) (a : Option Addr) (len cap n : Nat) (h : n ≤ cap) (hm : cap ≤ maxLen) : (Instr.slice 38 (.slice a len cap) none (some (.int .i64 n)) none).run Try.prog w = .ok (.slice a n cap) w := by
  unfold maxLen at hm
  rw [run_slice_h (P := Try.prog) w 38 a len cap (by kernel_rfl) .i64 n (by omega) (by omega), elemSt]
  cases a <;> simp [Result.andThen, sliced, Addr.add]

set_option maxHeartbeats 3200000 in
set_option maxRecDepth 100000 in
theorem l3within_any (N : Nat) (a : Option Addr) (n p : Nat) (a' : Option Addr) (n' p' : Nat) (l m : List Stp) (w : World) (hx : PthSeg (fun b => b < N) w (.slice a n p) l) (hy : PthSeg (fun b => b < N) w (.slice a' n' p') m) (hN : N ≤ w.heap.size) :
    Calls Try.prog 14 #[.slice a n p, .slice a' n' p'] w fun e w' => e = .returned (.bool (wiB l m)) ∧ Below w.heap.size w w' := by
  obtain ⟨_, _, e1, q1, q2, _⟩ := id hx
  simp only [Value.slice.injEq] at e1
  obtain ⟨-, hn, rfl⟩ := e1
  obtain ⟨_, _, e1, q1', q2', _⟩ := id hy
  simp only [Value.slice.injEq] at e1
  obtain ⟨-, hn', rfl⟩ := e1
  have HC : Hid (n ≤ n' → Calls Try.prog 13 #[.slice a n p, .slice a' n p'] w fun e w' => e = .returned (.int .i64 (pthC l (m.take l.length))) ∧ Below w.heap.size w w') := fun h => by
    refine l3cmp_any N _ _ l (m.take l.length) w hx ?_ hN
    rw [← hn]
    exact hy.take n (by omega)
  have HW : Hid (wiB l m = (decide (n ≤ n') && decide (pthC l (m.take l.length) = 0))) := by show _ = _; unfold wiB; rw [hn, hn']
  have hcap : n ≤ n' → n ≤ p' := fun h => by omega
  generalize wiB l m = ans at *
  generalize pthC l (m.take l.length) = q at *
  unfold maxLen at q2 q2'
  have q3 : n ≤ 9223372036854775807 := by omega
  have q3' : n' ≤ 9223372036854775807 := by omega
  by_cases h : n ≤ n'
  · have HC2 := hide' (HC.out h)
    have hs := sliceSt_to w a' n' p' n (hcap h) (by unfold maxLen; omega)
    have h' : (n : Int) ≤ (n' : Int) := by omega
    by_cases h0 : q = 0
    · subst h0
      have HF : Hid (ans = true) := by show _ = _; rw [HW.out]; simp [h]
      clear HC HW hx hy hn hn' q1 q1' hcap q2 q2'
      go_enter Try.func14, Try.ntmps14
      go_wp2_with fail
      refine HC2.out.mono ?_
      rintro e w1 ⟨rfl, b1⟩
      go_wp2
      go_ret
      exact ⟨ret_bool HF.out.symm, b1⟩
    · have h0' : (q == 0) = false := by simpa using h0
      have HF : Hid (ans = false) := by show _ = _; rw [HW.out]; simp [h0]
      clear HC HW hx hy hn hn' q1 q1' hcap q2 q2'
      go_enter Try.func14, Try.ntmps14
      go_wp2_with fail
      refine HC2.out.mono ?_
      rintro e w1 ⟨rfl, b1⟩
      go_wp2
      go_ret
      exact ⟨ret_bool HF.out.symm, b1⟩
  · have h' : ¬ (n : Int) ≤ (n' : Int) := by omega
    have HF : Hid (ans = false) := by show _ = _; rw [HW.out]; simp [h]
    clear HC HW hx hy hn hn' q1 q1' hcap q2 q2'
    go_enter Try.func14, Try.ntmps14
    go_wp2
    go_ret
    exact ⟨ret_bool HF.out.symm, Below.refl _ _⟩
end Go.Proofs.Ytcepgdlnlmhecaa
/-
  PathCmp of the program.
-/
namespace Go.Proofs.Ytcepgdlnlmhecaa
open Go.RowKit
set_option linter.unusedVariables false
set_option linter.unusedSimpArgs false

/-- What PathCmp answers. -/
def pcI (l m : List Stp) : Int := if pathB l = true ∧ pathB m = true then pthC l m else 0
theorem pcI_no1 {l m : List Stp} (h : pathB l = false) : pcI l m = 0 := by simp [pcI, h]
theorem pcI_no2 {l m : List Stp} (h : pathB m = false) : pcI l m = 0 := by simp [pcI, h]
theorem pcI_yes {l m : List Stp} (h : pathB l = true) (h' : pathB m = true) : pcI l m = pthC l m := by simp [pcI, h, h']
theorem pathB_each {l : List Stp} (h : pathB l = true) : l.all stpB = true := by
  unfold pathB at h
  simp only [Bool.and_eq_true] at h
  exact h.2

set_option maxHeartbeats 1600000 in
theorem impl_PathCmp_any (N : Nat) (x y : Value) (l m : List Stp) (w : World) (hx : PthSeg (fun b => b < N) w x l) (hy : PthSeg (fun b => b < N) w y m) (hN : N ≤ w.heap.size) :
    Calls Try.prog 46 #[x, y] w fun e w' => e = .returned (.int .i64 (pcI l m)) ∧ Below w.heap.size w w' := by
  have H1 : Hid (Calls Try.prog 43 #[x] w fun e w' => e = .returned (.bool (pathB l)) ∧ Below w.heap.size w w') := impl_PathOk_any N x l w hx hN
  have H2 : Hid (∀ w1, Below w.heap.size w w1 → Calls Try.prog 43 #[y] w1 fun e w' => e = .returned (.bool (pathB m)) ∧ Below w1.heap.size w1 w') := fun w1 hb => impl_PathOk_any N y m w1 (hy.agree (agree_below (hb.mono hN))) (by have := hb.size; omega)
  have H3 : Hid (pathB l = true → pathB m = true → ∀ w1, Below w.heap.size w w1 → CmpEnd_impl x y l m w1) := fun h1 h2 w1 hb => cmpEnd_impl N x y l m w1 (hx.agree (agree_below (hb.mono hN))) (hy.agree (agree_below (hb.mono hN))) (by have := hb.size; omega) (pathB_each h1) (pathB_each h2)
  obtain ⟨xa, xn, xp, rfl⟩ := hx.form
  obtain ⟨ya, yn, yp, rfl⟩ := hy.form
  clear hx hy
  cases hp1 : pathB l
  · have HO := hide' (pcI_no1 (m := m) hp1)
    rw [hp1] at H1
    clear hp1 H2 H3
    go_enter Try.func46, Try.ntmps46
    go_wp2_with fail
    refine H1.out.mono ?_
    rintro e w1 ⟨rfl, B1⟩
    go_wp2
    go_ret
    exact ⟨ret_i64 (by rw [HO.out]), B1⟩
  · rw [hp1] at H1
    cases hp2 : pathB m
    · have HO := hide' (pcI_no2 (l := l) hp2)
      rw [hp2] at H2
      clear hp1 hp2 H3
      go_enter Try.func46, Try.ntmps46
      go_wp2_with fail
      refine H1.out.mono ?_
      rintro e w1 ⟨rfl, B1⟩
      have HB1 := hide' B1
      have H2' := hide' (H2.out w1 B1)
      clear B1 H2
      go_wp2_with fail
      refine H2'.out.mono ?_
      rintro e w2 ⟨rfl, b2⟩
      have B2 := Below.on HB1.out b2
      go_wp2
      go_ret
      exact ⟨ret_i64 (by rw [HO.out]), B2⟩
    · have HO := hide' (pcI_yes hp1 hp2)
      have H4 := hide' (H3.out hp1 hp2)
      rw [hp2] at H2
      clear hp1 hp2 H3
      go_enter Try.func46, Try.ntmps46
      go_wp2_with fail
      refine H1.out.mono ?_
      rintro e w1 ⟨rfl, B1⟩
      have HB1 := hide' B1
      have H2' := hide' (H2.out w1 B1)
      clear B1 H2
      go_wp2_with fail
      refine H2'.out.mono ?_
      rintro e w2 ⟨rfl, b2⟩
      have B2 := Below.on HB1.out b2
      have HB2 := hide' B2
      have H5 := H4.out w2 B2
      unfold CmpEnd_impl at H5
      have H5' := hide' H5
      clear B2 b2 HB1 H4 H5 H2'
      go_wp2_with fail
      refine H5'.out.mono ?_
      rintro e w3 ⟨rfl, b3⟩
      have B3 := Below.on HB2.out b3
      go_wp2
      go_ret
      exact ⟨ret_i64 (by rw [HO.out]), B3⟩

end Go.Proofs.Ytcepgdlnlmhecaa
/-
  The datum of a map of parts while its keys are put; no statement is proved here.
-/
namespace Go.Proofs.Ytcepgdlnlmhecaa
open Go.RowKit
set_option linter.unusedVariables false

/-- How an element of a map of parts reads: as itself. -/
def tokR (v : Value) : Option (DataW Value × List MemPlace) := some (.held v, [])

/-- The map's datum after the first k of its keys were put. -/
def mapD (vK : List (List Int)) (ps : List Value) : Nat → DataW Value
  | 0 => .map []
  | k + 1 => (mapD vK ps k).put (.string (u8s (vK.getD k []))) (.held (ps.getD k .nilIface))

theorem below_grows {w w' : World} (h : Below w.heap.size w w') (r : Option Nat) : w.grownBy w' r := ⟨h.os, h.tape, h.output, h.size, fun k hk _ => h.block k hk⟩
end Go.Proofs.Ytcepgdlnlmhecaa
/-
  What the program's inner parts (an interface with one type a kind) hold: 'PSeg' reads one as a value; lists and maps of them.
-/
namespace Go.Proofs.Ytcepgdlnlmhecaa
open Go.RowKit
set_option linter.unusedVariables false
set_option linter.unusedSimpArgs false

/-- A part of the program's reads as a value of depth at most d; it lies in blocks of R. -/
def PSeg (R : Nat → Prop) (w : World) : (d : Nat) → Value → Vl d → Prop
  | 0, _, _ => False
  | d + 1, p, v =>
    (v.1 = 0 ∧ p = .iface 102 (.agg #[])) ∨ (v.1 = 6 ∧ p = .iface 103 (.agg #[])) ∨
    (v.1 = 1 ∧ p = .iface 105 (.agg #[.int .i64 v.2.1])) ∨ (v.1 = 2 ∧ p = .iface 106 (.agg #[.int .i64 v.2.1])) ∨
    (v.1 = 3 ∧ p = .iface 108 (.agg #[.string (strOf v.2.2.1)])) ∨
    (v.1 = 4 ∧ ∃ a cap, p = .iface 113 (.agg #[.slice a v.2.2.2.2.length cap]) ∧ (v.2.2.2.2 = [] ∨ ∃ b off, a = some ⟨b, off, none⟩ ∧ R b ∧ ∀ i (h : i < v.2.2.2.2.length), ∃ u, w.cell? ⟨b, off + i, none⟩ = some u ∧ PSeg R w d u (v.2.2.2.2[i]))) ∨
    (v.1 = 5 ∧ ∃ b ps, p = .iface 118 (.agg #[.map (some b)]) ∧ R b ∧ w.ownsMap Try.prog 9 tokR b 64 (mapD v.2.2.2.1 ps v.2.2.2.2.length) ∧ ∀ i (h : i < v.2.2.2.2.length), PSeg R w d (ps.getD i .nilIface) (v.2.2.2.2[i]))

/-- A slice of parts. -/
def PLSeg (R : Nat → Prop) (w : World) (d : Nat) (x : Value) (l : List (Vl d)) : Prop :=
  ∃ a cap, x = .slice a l.length cap ∧ (l = [] ∨ ∃ b off, a = some ⟨b, off, none⟩ ∧ R b ∧ ∀ i (h : i < l.length), ∃ u, w.cell? ⟨b, off + i, none⟩ = some u ∧ PSeg R w d u (l[i]))

theorem ownsMap_agree {R : Nat → Prop} {w w' : World} {b n : Nat} {D : DataW Value} (h : w.ownsMap Try.prog 9 tokR b n D) (ha : Agree R w w') (hb : R b) : w'.ownsMap Try.prog 9 tokR b n D := by
  obtain ⟨es, clock, h1, r⟩ := h
  exact ⟨es, clock, (ha b hb).trans h1, r⟩

theorem PSeg.carry {R R' : Nat → Prop} {w w' : World} (hr : ∀ b, R b → R' b) (ha : Agree R w w') (d : Nat) : ∀ {p : Value} {v : Vl d}, PSeg R w d p v → PSeg R' w' d p v := by
  induction d with
  | zero => intro p v h; exact h
  | succ d ih =>
    intro p v h
    rcases h with h | h | h | h | h | ⟨hk, a, cap, hp, hc⟩ | ⟨hk, b, ps, hp, hR, hm, hc⟩
    · exact .inl h
    · exact .inr (.inl h)
    · exact .inr (.inr (.inl h))
    · exact .inr (.inr (.inr (.inl h)))
    · exact .inr (.inr (.inr (.inr (.inl h))))
    · refine .inr (.inr (.inr (.inr (.inr (.inl ⟨hk, a, cap, hp, ?_⟩)))))
      rcases hc with h0 | ⟨b, off, e, hR, hc⟩
      · exact .inl h0
      · refine .inr ⟨b, off, e, hr b hR, fun i hi => ?_⟩
        obtain ⟨u, hu, hv⟩ := hc i hi
        exact ⟨u, (cell_agree ha hR).trans hu, ih hv⟩
    · exact .inr (.inr (.inr (.inr (.inr (.inr ⟨hk, b, ps, hp, hr b hR, ownsMap_agree hm ha hR, fun i hi => ih (hc i hi)⟩)))))

/-- What take leaves of all that was there: all but the block of its counter. -/
theorem agree_grown {N q : Nat} {w w' : World} (h : w.grownBy w' (some q)) (hN : N ≤ q) (hq : q < w.heap.size) : Agree (fun b => b < N) w w' := fun b hb => h.block b (by omega) (by simp; omega)

theorem run_makeMapN (t k e : TypeId) (n : Int) (w : World) (ht : Try.prog.underlying t = some (.map k e)) : (Instr.makeMap t (some (.int .i64 n))).run Try.prog w = .ok (.map (some w.heap.size)) (w.alloc (.map #[] 0)) := by
  unfold Instr.makeMap
  simp only [Sem.run_bind, Sem.run_pure, run_underlying ht, Result.andThen]
  rfl

theorem info_part : (Try.prog.info? 65).map (fun i => (i.zero, i.size, i.bytes)) = some (some .nilIface, 1, 16) := by kernel_rfl

/-- The counter of an intake. -/
def Cnt (w : World) (q : Nat) (n : Nat) : Prop := w.heap[q]? = some (.cells #[.int .i64 n] 96 (0, 0))

/-- What a good take has brought about. -/
def Took (d : Nat) (v : Vl d) (deep n q : Nat) (w w' : World) (p : Value) : Prop :=
  goodB d v deep = true ∧ n + partsV d v ≤ 40 ∧ Cnt w' q (n + partsV d v) ∧ PSeg (fun b => w.heap.size ≤ b ∧ b < w'.heap.size) w' d p v

/-- The contract of take at depth d. -/
def TakeAt (d : Nat) : Prop := ∀ (N q n : Nat) (c : Value × Value × Value × Value × Value) (v : Vl d) (deep : Nat) (w : World), VSeg (fun b => b < N) w d c v → N ≤ q → q < w.heap.size → Cnt w q n → n ≤ 40 → deep ≤ 6 →
  Calls Try.prog 56 #[.pointer (some ⟨q, 0, none⟩), .agg #[c.1, c.2.1, c.2.2.1, c.2.2.2.1, c.2.2.2.2], .int .i64 deep] w fun e w' =>
    w.grownBy w' (some q) ∧ ((∃ p, e = .returned (.tuple #[p, .bool true]) ∧ Took d v deep n q w w' p) ∨ (e = .returned (.tuple #[.nilIface, .bool false]) ∧ ¬ (goodB d v deep = true ∧ n + partsV d v ≤ 40)))

theorem Cnt.cell {w : World} {q n : Nat} (h : Cnt w q n) : w.cell? ⟨q, 0, none⟩ = some (.int .i64 n) ∧ w.frozen? ⟨q, 0, none⟩ = false := by
  refine ⟨?_, frozen_of_row w q 0 _ _ h⟩
  rw [cell_of_row w q 0 _ _ (0, 0) h]
  rfl

theorem Cnt.set {w : World} {q n : Nat} (h : Cnt w q n) (m : Nat) : Cnt (w.setCell ⟨q, 0, none⟩ (.int .i64 m)) q m := heap_setCell_same w q 0 _ _ _ h
end Go.Proofs.Ytcepgdlnlmhecaa
/-
  The kind of a part: a method of an interface value, by the value's own type.
-/
namespace Go.Proofs.Ytcepgdlnlmhecaa
open Go.RowKit Go.Shelf
set_option linter.unusedVariables false
set_option linter.unusedSimpArgs false

theorem meth_nullPart (x : Value) (w : World) : (method 237 102 x "loop.example/g00407/impl.kind").run Try.prog w = .ok (86, x) w := by kernel_rfl
theorem calls_nullPart (args : Array Value) (w : World) : (callFunc 86 args).run Try.prog w = .ok (.enter 86 args) w := enters_of Try.func86 (by kernel_rfl) rfl args w
theorem meth_unknownPart (x : Value) (w : World) : (method 237 103 x "loop.example/g00407/impl.kind").run Try.prog w = .ok (87, x) w := by kernel_rfl
theorem calls_unknownPart (args : Array Value) (w : World) : (callFunc 87 args).run Try.prog w = .ok (.enter 87 args) w := enters_of Try.func87 (by kernel_rfl) rfl args w
theorem meth_boolPart (x : Value) (w : World) : (method 237 105 x "loop.example/g00407/impl.kind").run Try.prog w = .ok (88, x) w := by kernel_rfl
theorem calls_boolPart (args : Array Value) (w : World) : (callFunc 88 args).run Try.prog w = .ok (.enter 88 args) w := enters_of Try.func88 (by kernel_rfl) rfl args w
theorem meth_intPart (x : Value) (w : World) : (method 237 106 x "loop.example/g00407/impl.kind").run Try.prog w = .ok (89, x) w := by kernel_rfl
theorem calls_intPart (args : Array Value) (w : World) : (callFunc 89 args).run Try.prog w = .ok (.enter 89 args) w := enters_of Try.func89 (by kernel_rfl) rfl args w
theorem meth_textPart (x : Value) (w : World) : (method 237 108 x "loop.example/g00407/impl.kind").run Try.prog w = .ok (90, x) w := by kernel_rfl
theorem calls_textPart (args : Array Value) (w : World) : (callFunc 90 args).run Try.prog w = .ok (.enter 90 args) w := enters_of Try.func90 (by kernel_rfl) rfl args w
theorem meth_listPart (x : Value) (w : World) : (method 237 113 x "loop.example/g00407/impl.kind").run Try.prog w = .ok (91, x) w := by kernel_rfl
theorem calls_listPart (args : Array Value) (w : World) : (callFunc 91 args).run Try.prog w = .ok (.enter 91 args) w := enters_of Try.func91 (by kernel_rfl) rfl args w
theorem meth_mapPart (x : Value) (w : World) : (method 237 118 x "loop.example/g00407/impl.kind").run Try.prog w = .ok (92, x) w := by kernel_rfl
theorem calls_mapPart (args : Array Value) (w : World) : (callFunc 92 args).run Try.prog w = .ok (.enter 92 args) w := enters_of Try.func92 (by kernel_rfl) rfl args w

set_option maxHeartbeats 800000 in
theorem kind_nullPart (w : World) : Calls Try.prog 86 #[.agg #[]] w fun e w' => e = .returned (.int .i64 0) ∧ Below w.heap.size w w' := by
  have Hb : Hid (∀ o : Obj, Below w.heap.size w (w.alloc o)) := fun o => (Below.refl _ _).alloc (Nat.le_refl _) o
  go_enter Try.func86, Try.ntmps86
  go_wp2
  go_ret
  exact ⟨rfl, Hb.out _⟩
set_option maxHeartbeats 800000 in
theorem kind_unknownPart (w : World) : Calls Try.prog 87 #[.agg #[]] w fun e w' => e = .returned (.int .i64 6) ∧ Below w.heap.size w w' := by
  have Hb : Hid (∀ o : Obj, Below w.heap.size w (w.alloc o)) := fun o => (Below.refl _ _).alloc (Nat.le_refl _) o
  go_enter Try.func87, Try.ntmps87
  go_wp2
  go_ret
  exact ⟨rfl, Hb.out _⟩
set_option maxHeartbeats 800000 in
theorem kind_boolPart (n : Int) (w : World) : Calls Try.prog 88 #[.agg #[.int .i64 n]] w fun e w' => e = .returned (.int .i64 1) ∧ Below w.heap.size w w' := by
  have Hb : Hid (∀ o : Obj, Below w.heap.size w (w.alloc o)) := fun o => (Below.refl _ _).alloc (Nat.le_refl _) o
  go_enter Try.func88, Try.ntmps88
  go_wp2
  go_ret
  exact ⟨rfl, Hb.out _⟩
set_option maxHeartbeats 800000 in
theorem kind_intPart (n : Int) (w : World) : Calls Try.prog 89 #[.agg #[.int .i64 n]] w fun e w' => e = .returned (.int .i64 2) ∧ Below w.heap.size w w' := by
  have Hb : Hid (∀ o : Obj, Below w.heap.size w (w.alloc o)) := fun o => (Below.refl _ _).alloc (Nat.le_refl _) o
  go_enter Try.func89, Try.ntmps89
  go_wp2
  go_ret
  exact ⟨rfl, Hb.out _⟩
set_option maxHeartbeats 800000 in
theorem kind_textPart (s : ByteArray) (w : World) : Calls Try.prog 90 #[.agg #[.string s]] w fun e w' => e = .returned (.int .i64 3) ∧ Below w.heap.size w w' := by
  have Hb : Hid (∀ o : Obj, Below w.heap.size w (w.alloc o)) := fun o => (Below.refl _ _).alloc (Nat.le_refl _) o
  go_enter Try.func90, Try.ntmps90
  go_wp2
  go_ret
  exact ⟨rfl, Hb.out _⟩
set_option maxHeartbeats 800000 in
theorem kind_listPart (a : Option Addr) (n c : Nat) (w : World) : Calls Try.prog 91 #[.agg #[.slice a n c]] w fun e w' => e = .returned (.int .i64 4) ∧ Below w.heap.size w w' := by
  have Hb : Hid (∀ o : Obj, Below w.heap.size w (w.alloc o)) := fun o => (Below.refl _ _).alloc (Nat.le_refl _) o
  go_enter Try.func91, Try.ntmps91
  go_wp2
  go_ret
  exact ⟨rfl, Hb.out _⟩
set_option maxHeartbeats 800000 in
theorem kind_mapPart (b : Nat) (w : World) : Calls Try.prog 92 #[.agg #[.map (some b)]] w fun e w' => e = .returned (.int .i64 5) ∧ Below w.heap.size w w' := by
  have Hb : Hid (∀ o : Obj, Below w.heap.size w (w.alloc o)) := fun o => (Below.refl _ _).alloc (Nat.le_refl _) o
  go_enter Try.func92, Try.ntmps92
  go_wp2
  go_ret
  exact ⟨rfl, Hb.out _⟩

/-- What a call of kind leans on. -/
def KindOf (pt : TypeId) (px : Value) (vk : Int) : Prop := ∃ f : Nat, (∀ w, (method 237 pt px "loop.example/g00407/impl.kind").run Try.prog w = .ok (f, px) w) ∧ (∀ args w, (callFunc f args).run Try.prog w = .ok (.enter f args) w) ∧ ∀ w, Calls Try.prog f #[px] w fun e w' => e = .returned (.int .i64 vk) ∧ Below w.heap.size w w'

theorem kind_of {R : Nat → Prop} {w : World} {d : Nat} {pt : TypeId} {px : Value} {v : Vl (d + 1)} (h : PSeg R w (d + 1) (.iface pt px) v) : KindOf pt px v.1 := by
  rcases h with ⟨hk, e⟩ | ⟨hk, e⟩ | ⟨hk, e⟩ | ⟨hk, e⟩ | ⟨hk, e⟩ | ⟨hk, a, cap, e, _⟩ | ⟨hk, b, ps, e, _⟩ <;>
    simp only [Value.iface.injEq] at e <;> obtain ⟨rfl, rfl⟩ := e <;> rw [hk]
  · exact ⟨_, meth_nullPart _, calls_nullPart, kind_nullPart⟩
  · exact ⟨_, meth_unknownPart _, calls_unknownPart, kind_unknownPart⟩
  · exact ⟨_, meth_boolPart _, calls_boolPart, kind_boolPart _⟩
  · exact ⟨_, meth_intPart _, calls_intPart, kind_intPart _⟩
  · exact ⟨_, meth_textPart _, calls_textPart, kind_textPart _⟩
  · exact ⟨_, meth_listPart _, calls_listPart, kind_listPart _ _ _⟩
  · exact ⟨_, meth_mapPart _, calls_mapPart, kind_mapPart _⟩
end Go.Proofs.Ytcepgdlnlmhecaa
/-
  takeAll of the program: it takes a list of values in, out of what take does at one.
-/
namespace Go.Proofs.Ytcepgdlnlmhecaa
open Go.RowKit
set_option linter.unusedVariables false
set_option linter.unusedSimpArgs false

theorem grownBy_fresh {w w1 w2 : World} {r r' : Option Nat} (h : w.grownBy w1 r) (k : w1.grownBy w2 r') (hr : ∀ j, r' = some j → w.heap.size ≤ j) : w.grownBy w2 r :=
  ⟨k.os.trans h.os, k.tape.trans h.tape, k.output.trans h.output, Nat.le_trans h.size k.size, fun i hi hne => (k.block i (Nat.lt_of_lt_of_le hi h.size) (fun e => by have := hr i e.symm; omega)).trans (h.block i hi hne)⟩

theorem parts_one (d : Nat) (v : Vl d) : 1 ≤ partsV d v := by
  cases d with
  | zero => exact v.elim
  | succ d => exact parts_pos d v

theorem pre_ge (d : Nat) (l : List (Vl d)) (k : Nat) (h : k ≤ l.length) : k ≤ pre (partsV d) l k := by
  induction k with
  | zero => omega
  | succ k ih =>
    have := pre_succ (partsV d) l k (by omega)
    have := parts_one d l[k]
    have := ih (by omega)
    omega

theorem Cnt.keep {w w' : World} {q n : Nat} {r : Option Nat} (h : Cnt w q n) (hg : w.grownBy w' r) (hr : some q ≠ r) : Cnt w' q n :=
  (hg.block q (Array.getElem?_eq_some_iff.1 h).1 hr).trans h

/-- What holds after k rounds of takeAll. -/
def TA (d : Nat) (l : List (Vl d)) (deep n q : Nat) (w wr : World) (k : Nat) (y : Value) (ps : List Value) : Prop :=
  k ≤ l.length ∧ ps.length = k ∧ wr.ownsRow w.heap.size 65 1 y k ps ∧ (∀ j (h : j < l.length), j < k → goodB d l[j] deep = true) ∧ n + pre (partsV d) l k ≤ 40 ∧ Cnt wr q (n + pre (partsV d) l k) ∧
    (∀ j (h : j < l.length), j < k → PSeg (fun b => w.heap.size ≤ b ∧ b < wr.heap.size ∧ some b ≠ y.ownBlock) wr d (ps.getD j .nilIface) l[j]) ∧ w.grownBy wr (some q)

theorem TA_zero {d : Nat} {l : List (Vl d)} {deep n q : Nat} {w : World} (hc : Cnt w q n) (hn : n ≤ 40) : TA d l deep n q w w 0 (.slice none 0 0) [] :=
  ⟨Nat.zero_le _, rfl, World.ownsRow_nil w _ _ _, fun j _ h => by omega, by rw [pre_zero]; omega, by rw [pre_zero]; exact hc, fun j _ h => by omega, World.grownBy.refl _ _⟩

theorem own_ne {w : World} {base e n q : Nat} {y : Value} {xs : List Value} (h : w.ownsRow base e 1 y n xs) (hq : q < base) : some q ≠ y.ownBlock := fun e => by
  have := h.lt q e.symm
  omega

theorem TA_none {d : Nat} {l : List (Vl d)} {deep n q : Nat} {w wr W : World} {k : Nat} {y : Value} {ps : List Value} (h : TA d l deep n q w wr k y ps) (hg : wr.grownBy W none) : TA d l deep n q w W k y ps := by
  obtain ⟨h1, h2, h3, h4, h5, h6, h7, h8⟩ := h
  refine ⟨h1, h2, h3.kept hg ?_, h4, h5, h6.keep hg (by simp), fun j hj hjk => ?_, grownBy_fresh h8 hg (by simp)⟩
  · cases hy : y.ownBlock with
    | none => exact .inl rfl
    | some z => exact .inr (by simp)
  · refine PSeg.carry (fun b hb => ⟨hb.1, Nat.lt_of_lt_of_le hb.2.1 hg.size, hb.2.2⟩) (fun b hb => hg.block b hb.2.1 (by simp)) d (h7 j hj hjk)

/-- Behind take: the same, but for the counter. -/
theorem TA_row {d : Nat} {l : List (Vl d)} {deep n q : Nat} {w wr w1 : World} {k : Nat} {y : Value} {ps : List Value} (h : TA d l deep n q w wr k y ps) (hq : q < w.heap.size) (hg : wr.grownBy w1 (some q)) (o : Obj) : (w1.alloc o).ownsRow w.heap.size 65 1 y k ps := by
  obtain ⟨h1, h2, h3, h4, h5, h6, h7, h8⟩ := h
  have := h3.kept hg (.inr (fun e => own_ne h3 hq e.symm))
  exact this.alloc o

theorem TA_next {d : Nat} {l : List (Vl d)} {deep n q : Nat} {w wr w1 w2 : World} {k : Nat} {y y' p : Value} {ps : List Value} {T : TypeId} (h : TA d l deep n q w wr k y ps) (hq : q < w.heap.size) (hk : k < l.length) (hg : wr.grownBy w1 (some q))
    (ht : Took d l[k] deep (n + pre (partsV d) l k) q wr w1 p) (hown : w2.ownsRow w.heap.size 65 1 y' (k + 1) (ps ++ [p])) (hg2 : (w1.alloc (.cells #[p] T)).grownBy w2 y.ownBlock) (hloc : y'.ownBlock = y.ownBlock ∨ y'.ownBlock = some (w1.alloc (.cells #[p] T)).heap.size) :
    TA d l deep n q w w2 (k + 1) y' (ps ++ [p]) := by
  obtain ⟨h1, h2, h3, h4, h5, h6, h7, h8⟩ := h
  obtain ⟨t1, t2, t3, t4⟩ := ht
  have hps := pre_succ (partsV d) l k hk
  have hal : w1.grownBy (w1.alloc (.cells #[p] T)) none := World.grownBy_alloc w1 _ none
  have hsz : (w1.alloc (.cells #[p] T)).heap.size = w1.heap.size + 1 := by simp
  have hyb : ∀ j, y.ownBlock = some j → w.heap.size ≤ j ∧ j < wr.heap.size := fun j hj => h3.lt j hj
  have hs1 := hg.size
  have hs2 := hg2.size
  have hs8 := h8.size
  refine ⟨hk, by simp [h2], hown, fun j hj hjk => ?_, by rw [hps]; omega, ?_, fun j hj hjk => ?_, ?_⟩
  · by_cases e : j = k
    · subst e; exact t1
    · exact h4 j hj (by omega)
  · rw [hps, ← Nat.add_assoc]
    exact (t3.keep hal (by simp)).keep hg2 (fun e => by have := hyb q e.symm; omega)
  · by_cases e : j = k
    · subst e
      have : (ps ++ [p]).getD j .nilIface = p := by simp [List.getD_eq_getElem?_getD, ← h2]
      rw [this]
      refine PSeg.carry (fun b hb => ⟨by omega, by omega, fun e => ?_⟩) (fun b hb => (hg2.block b (by omega) (fun e => by have := hyb b e.symm; omega)).trans (hal.block b hb.2 (by simp))) d t4
      rcases hloc with e2 | e2
      · have := hyb b (e2.symm.trans e.symm); omega
      · rw [e2] at e; simp at e; omega
    · have hjk' : j < k := by omega
      have : (ps ++ [p]).getD j .nilIface = ps.getD j .nilIface := by
        simp only [List.getD_eq_getElem?_getD]
        rw [List.getElem?_append_left (by omega)]
      rw [this]
      refine PSeg.carry (fun b hb => ⟨hb.1, by omega, fun e => ?_⟩) (fun b hb => (hg2.block b (by omega) hb.2.2).trans ((hal.block b (by omega) (by simp)).trans (hg.block b hb.2.1 (by simp; omega)))) d (h7 j hj hjk')
      rcases hloc with e2 | e2
      · exact hb.2.2 (e.trans e2)
      · rw [e2] at e; simp at e; omega
  · exact grownBy_fresh (grownBy_fresh (grownBy_trans h8 hg) hal (by simp)) hg2 (fun j hj => (hyb j hj).1)

/-- What a good takeAll has brought about. -/
def TookAll (d : Nat) (l : List (Vl d)) (deep n q : Nat) (w w' : World) (y : Value) : Prop :=
  (∀ j (h : j < l.length), goodB d l[j] deep = true) ∧ n + pre (partsV d) l l.length ≤ 40 ∧ Cnt w' q (n + pre (partsV d) l l.length) ∧
    ∃ (a : Option Addr) (cap : Nat) (ps : List Value), y = .slice a l.length cap ∧ (l = [] ∨ ∃ b, a = some ⟨b, 0, none⟩ ∧ w.heap.size ≤ b ∧ b < w'.heap.size ∧ ∀ i, i < l.length → w'.cell? ⟨b, i, none⟩ = some (ps.getD i .nilIface)) ∧ ∀ i (h : i < l.length), PSeg (fun b => w.heap.size ≤ b ∧ b < w'.heap.size) w' d (ps.getD i .nilIface) l[i]

theorem TA_end {d : Nat} {l : List (Vl d)} {deep n q : Nat} {w wr : World} {y : Value} {ps : List Value} (h : TA d l deep n q w wr l.length y ps) : TookAll d l deep n q w wr y := by
  obtain ⟨h1, h2, h3, h4, h5, h6, h7, h8⟩ := h
  have hcell := fun g (hg : y.ownBlock = some g) => h3.lt g hg
  refine ⟨fun j hj => h4 j hj hj, h5, h6, ?_⟩
  have h3' := h3
  rcases h3.2 with ⟨rfl, e0⟩ | ⟨g, cap, cur, rfl, hg, hh, hle, hm, hsz, htk⟩
  · exact ⟨none, 0, ps, by rw [e0], .inl (List.eq_nil_of_length_eq_zero e0), fun i hi => by omega⟩
  · refine ⟨some ⟨g, 0, none⟩, cap, ps, rfl, .inr ⟨g, rfl, hg, (Array.getElem?_eq_some_iff.1 hh).1, fun i hi => ?_⟩, fun i hi => PSeg.carry (fun b hb => ⟨hb.1, hb.2.1⟩) (fun b _ => rfl) d (h7 i hi hi)⟩
    have := World.ownsRow.cellAt h3' i (by omega)
    rw [this]
    simp [List.getD_eq_getElem?_getD, show i < ps.length from by omega]

end Go.Proofs.Ytcepgdlnlmhecaa
/-
  takeAll of the program, walked.
-/
namespace Go.Proofs.Ytcepgdlnlmhecaa
open Go.RowKit
set_option linter.unusedVariables false
set_option linter.unusedSimpArgs false

theorem PSeg.shape {R : Nat → Prop} {w : World} {d : Nat} {p : Value} {v : Vl d} (h : PSeg R w d p v) : ∃ t x, p = .iface t x := by
  cases d with
  | zero => exact h.elim
  | succ d =>
    rcases h with ⟨_, rfl⟩ | ⟨_, rfl⟩ | ⟨_, rfl⟩ | ⟨_, rfl⟩ | ⟨_, rfl⟩ | ⟨_, _, _, rfl, _⟩ | ⟨_, _, _, rfl, _⟩ <;> exact ⟨_, _, rfl⟩

set_option maxHeartbeats 4000000 in
theorem takeAll_of (d : Nat) (ih : TakeAt d) (N q n : Nat) (x : Value) (l : List (Vl d)) (deep : Nat) (w : World) (hx : LSeg (fun b => b < N) w d x l) (hNq : N ≤ q) (hq : q < w.heap.size) (hc : Cnt w q n) (hn : n ≤ 40) (hd : deep ≤ 6) :
    Calls Try.prog 64 #[.pointer (some ⟨q, 0, none⟩), x, .int .i64 deep] w fun e w' =>
      w.grownBy w' (some q) ∧ ((∃ y, e = .returned (.tuple #[y, .bool true]) ∧ TookAll d l deep n q w w' y) ∨ (e = .returned (.tuple #[.slice none 0 0, .bool false]) ∧ ¬ ((∀ j (h : j < l.length), goodB d l[j] deep = true) ∧ n + pre (partsV d) l l.length ≤ 40))) := by
  have HX := hide' hx
  obtain ⟨a4, p4, rfl, hlc, hcm, ka, _⟩ := hx
  unfold maxLen at hcm
  have HI := hide' ih
  have H0 : Hid (TA d l deep n q w w 0 (.slice none 0 0) []) := TA_zero hc hn
  obtain ⟨i0, hi, hz0, hz1, hz2⟩ := info_parts info_part
  clear ih hc
  go_enter Try.func64, Try.ntmps64
  go_wp2
  go_loopw [8, 15] (fun y i wr => ∃ (k : Nat) (ps : List Value), i = .int .i64 k ∧ TA d l deep n q w wr k y ps) (fun _ i _ => l.length - (intOf i).toNat)
  case atStart => exact ⟨0, [], rfl, H0.out⟩
  case round =>
    obtain ⟨k, ps, rfl, hT⟩ := hrel
    have HT := hide' hT
    obtain ⟨hk, hps, hown, hgood, hple, hcnt, hpseg, hgr⟩ := hT
    clear hgood hpseg hcnt
    by_cases hlt : k < l.length
    · have hlt' : (k : Int) < (l.length : Int) := by omega
      have hag := agree_grown hgr hNq hq
      have hcell : ∃ b off c, a4 = some ⟨b, off, none⟩ ∧ Five wr b (off + k * 5) c ∧ VSeg (fun b => b < N) wr d c (l[k]) := by
        obtain ⟨a', cap', e1, _, _, _, h5⟩ := HX.out
        simp only [Value.slice.injEq] at e1
        obtain ⟨rfl, _, _⟩ := e1
        rcases h5 with h0 | ⟨b, off, rfl, hR, hcc⟩
        · rw [h0] at hlt; simp at hlt
        · obtain ⟨c, h5, hv⟩ := hcc k hlt
          exact ⟨b, off, c, rfl, h5.agree hag hR, VSeg.agree hag d hv⟩
      obtain ⟨b, off, c, rfl, h5', hv⟩ := hcell
      obtain ⟨c0, c1, c2, c3, c4⟩ := c
      obtain ⟨q0, q1, q2, q3, q4⟩ := h5'
      simp only at q0 q1 q2 q3 q4
      have HV := hide' hv
      have hs := hgr.size
      obtain ⟨ck, cn, s2, l2, e2, s3, l3, e3, s4, l4, e4, rfl, rfl, rfl, rfl, rfl⟩ := VSeg.form d hv
      have hgW := World.grownBy_alloc wr (.cells #[.int .i64 ck, .int .i64 cn, .slice s2 l2 e2, .slice s3 l3 e3, .slice s4 l4 e4] 41) none
      have hTW := TA_none HT.out hgW
      have hC := HI.out N q (n + pre (partsV d) l k) _ l[k] deep _ (VSeg.agree (fun b hb => hgW.block b (by omega) (by simp)) d hv) hNq (by simp; omega) hTW.2.2.2.2.2.1 hple hd
      have HC := hide' hC
      have HTW := hide' hTW
      clear hv hag hgr hTW hC hgW
      go_wp2_with fail
      refine HC.out.mono ?_
      rintro e w1 ⟨hg1, hcase⟩
      clear q0 q1 q2 q3 q4
      rcases hcase with ⟨p, rfl, htook⟩ | ⟨rfl, hbad⟩
      · obtain ⟨pt, px, rfl⟩ := htook.2.2.2.shape
        have hrw := TA_row HTW.out hq hg1 (.cells #[.iface pt px] 65)
        have h63 : k + 1 ≤ 40 := by have := pre_ge d l (k + 1) hlt; have := pre_succ (partsV d) l k hlt; have := htook.2.1; omega
        have hs1 := hg1.size
        have hsW := HTW.out.2.2.2.2.2.2.2.size
        have HK := hide' htook
        clear htook hown
        go_wp2_with (at_builtin; refine wpList_append_own_at _ rfl _ _ 109 rfl w.heap.size 65 i0 .nilIface 1 16 Try.underlying109 hi hz0 hz1 hz2 rfl (by decide) _ k ps rfl hrw ⟨w1.heap.size, 0, none⟩ 1 1 [.iface pt px] rfl rfl (cell_one_new _ _ _) (by intro u hu; simp at hu; rw [hu]; rfl) (by unfold maxLen; omega) (by omega) (by simp; omega) ?_; intro y' w2 hown' hg2 hnil hloc)
        have hN := TA_next HTW.out hq hlt hg1 HK.out hown' hg2 hloc
        clear hown' hg2 hnil hloc hrw HK HTW HC
        go_wp2
        go_roundw
        case rel => exact ⟨k + 1, _, by go_num, hN⟩
        case measure => simp [intOf]; omega
      · have hgf := grownBy_trans HTW.out.2.2.2.2.2.2.2 hg1
        have hno : ¬ ((∀ j (h : j < l.length), goodB d l[j] deep = true) ∧ n + pre (partsV d) l l.length ≤ 40) := fun ⟨h1, h2⟩ => hbad ⟨h1 k hlt, by
          have h3 := pre_succ (partsV d) l k hlt
          have h4 := pre_le (partsV d) l (k + 1)
          have h5 := pre_all (partsV d) l
          omega⟩
        go_wp2
        go_ret2
        exact ⟨hgf, .inr ⟨rfl, hno⟩⟩
    · have hkn : k = l.length := by omega
      have hlt' : ¬ (k : Int) < (l.length : Int) := by omega
      rw [hkn] at HT
      have hE := TA_end HT.out
      have hgf := HT.out.2.2.2.2.2.2.2
      clear hkn
      go_wp2
      go_ret2
      exact ⟨hgf, .inl ⟨_, rfl, hE⟩⟩
end Go.Proofs.Ytcepgdlnlmhecaa
/-
  mapWith of the program, walked: it makes a map of names and parts.
-/
namespace Go.Proofs.Ytcepgdlnlmhecaa
open Go.RowKit
set_option linter.unusedVariables false
set_option linter.unusedSimpArgs false

theorem keyS (xs : List Int) (h : xs.length ≤ maxLen) : Go.keyOf Try.prog 9 (.string (strOf xs)) = some (.string (u8s xs)) :=
  WideMaps.keyOf_string_mk Try.underlying9 (by show (xs.map _).toArray.size ≤ maxLen; rw [List.size_toArray, List.length_map]; exact h)

/-- What mapWith leaves: a new map with these entries. -/
def MapWEnd (vK : List (List Int)) (ps : List Value) (m : Nat) (w : World) (e : Ending) (w' : World) : Prop :=
  ∃ b, e = .returned (.agg #[.map (some b)]) ∧ w.heap.size ≤ b ∧ b < w'.heap.size ∧ w'.ownsMap Try.prog 9 tokR b m (mapD vK ps m) ∧ Below w.heap.size w w'

set_option maxHeartbeats 4000000 in
theorem mapWith_of (N : Nat) (z : Value) (vK : List (List Int)) (m : Nat) (a : Option Addr) (cap : Nat) (ps : List Value) (w : World) (hz : KSeg (fun b => b < N) w z vK) (hN : N ≤ w.heap.size) (hkl : vK.length = m) (hlen : m ≤ 40)
    (hcell : m = 0 ∨ ∃ b off, a = some ⟨b, off, none⟩ ∧ b < w.heap.size ∧ ∀ i, i < m → w.cell? ⟨b, off + i, none⟩ = some (ps.getD i .nilIface)) (hsh : ∀ i, i < m → ∃ pt px, ps.getD i .nilIface = .iface pt px) :
    Calls Try.prog 69 #[z, .slice a m cap] w (MapWEnd vK ps m w) := by
  have HZ := hide' hz
  have HC := hide' hcell
  have HSh := hide' hsh
  have HKL := hide' hkl
  obtain ⟨a3, p3, rfl, hlc3, hcm3, ka3, _⟩ := hz
  unfold maxLen at hcm3
  have hmk := run_makeMapN 116 9 65 (m : Int) (w.alloc (.cells #[.map none] 118)) Try.underlying116
  have hM0 : ((w.alloc (.cells #[.map none] 118)).alloc (.map #[] 0)).ownsMap Try.prog 9 tokR (w.heap.size + 1) 0 (mapD vK ps 0) := by
    have := World.ownsMap_made (w.alloc (.cells #[.map none] 118)) Try.prog 9 tokR
    rw [World.size_alloc] at this
    exact this
  rw [World.size_alloc] at hmk
  rw [hkl] at HZ
  rw [hkl] at hlc3
  rw [hkl]
  clear hcell hsh hkl
  go_enter Try.func69, Try.ntmps69
  go_wp2
  go_loopw [13] (fun i wr => ∃ k : Nat, k ≤ m ∧ i = .int .i64 k ∧ wr.ownsMap Try.prog 9 tokR (w.heap.size + 1) k (mapD vK ps k) ∧ Hid (((w.alloc (.cells #[.map none] 118)).alloc (.map #[] 0)).grownBy wr (some (w.heap.size + 1)))) (fun i _ => m - (intOf i).toNat)
  case atStart => exact ⟨0, Nat.zero_le _, rfl, hM0, World.grownBy.refl _ _⟩
  case round =>
    obtain ⟨k, hk, rfl, hown, hgr⟩ := hrel
    clear hM0 hmk
    have hal1 : w.grownBy (w.alloc (.cells #[.map none] 118)) none := World.grownBy_alloc w _ none
    have hal2 : (w.alloc (.cells #[.map none] 118)).grownBy ((w.alloc (.cells #[.map none] 118)).alloc (.map #[] 0)) none := World.grownBy_alloc _ _ none
    have hlow2 : ∀ b, b < w.heap.size + 1 → wr.heap[b]? = (w.alloc (.cells #[.map none] 118)).heap[b]? := fun b hb => (hgr.out.block b (by simp; omega) (by simp; omega)).trans (hal2.block b (by simp; omega) (by simp))
    have hlow : ∀ b, b < w.heap.size → wr.heap[b]? = w.heap[b]? := fun b hb => (hlow2 b (by omega)).trans (hal1.block b hb (by simp))
    by_cases hlt : k < m
    · have hlt' : (k : Int) < (m : Int) := by omega
      have hit : ∃ b off, a = some ⟨b, off, none⟩ ∧ wr.cell? ⟨b, off + k, none⟩ = some (ps.getD k .nilIface) := by
        rcases HC.out with h0 | ⟨b, off, rfl, hb, hcc⟩
        · omega
        · exact ⟨b, off, rfl, (World.cell?_of_block (hlow b hb)).trans (hcc k hlt)⟩
      obtain ⟨ib, io, rfl, hitem⟩ := hit
      have hag : Agree (fun b => b < N) w wr := fun b hb => hlow b (by omega)
      have hKr : KSeg (fun b => b < N) wr (.slice a3 m p3) vK := HZ.out.agree hag
      have hltK : k < vK.length := by have := HKL.out; omega
      obtain ⟨kb, ko, rfl, hat⟩ := hKr.at hltK
      obtain ⟨s2, e2, hu, g2, m2⟩ := hat k hltK
      have hcv := conv_seg e2 g2
      have hkey := keyS (vK.getD k []) m2
      have HD : Hid (mapD vK ps (k + 1) = (mapD vK ps k).put (.string (u8s (vK.getD k []))) (.held (ps.getD k .nilIface))) := rfl
      obtain ⟨pt, px, hpx⟩ := HSh.out k hlt
      rw [hpx] at hitem HD
      generalize vK.getD k [] = ys at *
      clear hlow hlow2 hag hKr hat g2 hal1 hal2 hpx
      go_wp2_with (at_mapUpdate; refine wpList_mapUpdate_own _ rfl _ _ _ 116 rfl 9 65 (Maps.string_keyed Try.underlying9) Try.underlying116 tokR (w.heap.size + 1) k _ rfl hown (by unfold maxLen; omega) _ _ _ rfl rfl hkey _ [] rfl ?_; intro w3 hown3 hg3)
      have hown4 : w3.ownsMap Try.prog 9 tokR (w.heap.size + 1) (k + 1) (mapD vK ps (k + 1)) := by rw [HD.out]; exact hown3
      have hgr3 : Hid (((w.alloc (.cells #[.map none] 118)).alloc (.map #[] 0)).grownBy w3 (some (w.heap.size + 1))) := grownBy_trans hgr.out hg3
      clear hown3 hg3 hown hgr hkey hcv hitem hu
      go_wp2
      go_roundw
      case rel => exact ⟨k + 1, by omega, by go_num, hown4, hgr3⟩
      case measure => simp [intOf]; omega
    · have hkn : k = m := by omega
      have hlt' : ¬ (k : Int) < (m : Int) := by omega
      obtain rfl := hkn
      have hsz3 : w.heap.size + 2 ≤ wr.heap.size := by have := hgr.out.size; simpa using this
      have hR : wr.heap[w.heap.size]? = some (.cells #[.map none] 118 (0, 0)) := (hlow2 w.heap.size (by omega)).trans (MapKept.heap_alloc w _).1
      have rc : wr.cell? ⟨w.heap.size, 0, none⟩ = some (.map none) := by rw [cell_of_row wr w.heap.size 0 _ _ _ hR]; rfl
      have rf : wr.frozen? ⟨w.heap.size, 0, none⟩ = false := frozen_of_row _ _ _ _ _ hR
      have hBw : Below w.heap.size w wr := ⟨hgr.out.os, hgr.out.tape, hgr.out.output, by omega, fun b hb => hlow b hb⟩
      have HR := hide' hR
      have HBw := hide' hBw
      clear hlow hlow2 hal1 hal2 hgr hR hBw
      go_wp2_with fail
      have hrow := heap_setCell_same wr w.heap.size 0 _ _ (.map (some (w.heap.size + 1))) HR.out
      have hc := cell_of_row _ _ 0 _ _ _ hrow
      have hg := grown1 wr w.heap.size 0 (.map (some (w.heap.size + 1)))
      refine bodyPost_ret (v := .agg #[.map (some (w.heap.size + 1))]) (by simp [results, Try.results69, go_sem, hc]) rfl ?_
      exact ⟨w.heap.size + 1, rfl, by omega, by simp [World.setCell]; omega, hown.kept hg (by simp), HBw.out.grown hg (by omega) (by intro j hj; simp at hj; omega)⟩
end Go.Proofs.Ytcepgdlnlmhecaa
