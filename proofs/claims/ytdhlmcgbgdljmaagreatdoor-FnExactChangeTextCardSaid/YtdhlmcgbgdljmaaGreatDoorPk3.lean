/-
  Texts that a law leans on, one behind the other; no statement is proved here.
-/
import Derived.Test.YtdhlmcgbgdljmaaGreatDoorPk2
import Derived.Test.YtdhlmcgbgdljmaaGreatDoorPk1
import Derived.Deep.MidRow
import Derived.Deep.Cut
/-
  Changes: what thirteen cells of memory read as; lists of them; szChange.
-/
namespace Go.Proofs.YtdhlmcgbgdljmaaGreatDoor
open Go.RowKit
set_option linter.unusedVariables false
set_option linter.unusedSimpArgs false

/-- A change: path, had, old, has, new. -/
def Chg (d : Nat) : Type := List Stp × Bool × Vl d × Bool × Vl d

/-- Thirteen cells that read as a change. -/
def CSg (R : Nat → Prop) (w : World) (d : Nat) (cs : List Value) (x : Chg d) : Prop :=
  ∃ c0 c2 c3 c4 c5 c6 c8 c9 c10 c11 c12, cs = [c0, .bool x.2.1, c2, c3, c4, c5, c6, .bool x.2.2.2.1, c8, c9, c10, c11, c12] ∧ PthSeg R w c0 x.1 ∧ VSeg R w d (c2, c3, c4, c5, c6) x.2.2.1 ∧ VSeg R w d (c8, c9, c10, c11, c12) x.2.2.2.2

/-- A list of changes, read. -/
def CLSg (R : Nat → Prop) (w : World) (d : Nat) (x : Value) (l : List (Chg d)) : Prop :=
  ∃ a cap, x = .slice a l.length cap ∧ l.length ≤ cap ∧ cap ≤ maxLen ∧ (a = none → cap = 0) ∧ (l = [] ∨ ∃ b off, a = some ⟨b, off, none⟩ ∧ R b ∧ ∀ i (h : i < l.length), ∃ cs, w.rangeAt b (off + i * 13) cs ∧ CSg R w d cs l[i])

theorem range_agree {R : Nat → Prop} {w w' : World} {b o : Nat} {cs : List Value} (h : w.rangeAt b o cs) (ha : Agree R w w') (hb : R b) : w'.rangeAt b o cs := fun j v hv => (World.cell?_of_block (ha b hb)).trans (h j v hv)
theorem CSg.agree {R : Nat → Prop} {w w' : World} {d : Nat} {cs : List Value} {x : Chg d} (h : CSg R w d cs x) (ha : Agree R w w') : CSg R w' d cs x := by
  obtain ⟨c0, c2, c3, c4, c5, c6, c8, c9, c10, c11, c12, e, h1, h2, h3⟩ := h
  exact ⟨c0, c2, c3, c4, c5, c6, c8, c9, c10, c11, c12, e, h1.agree ha, VSeg.agree ha d h2, VSeg.agree ha d h3⟩
theorem CSg.mono {R R' : Nat → Prop} {w : World} {d : Nat} {cs : List Value} {x : Chg d} (h : CSg R w d cs x) (hr : ∀ b, R b → R' b) : CSg R' w d cs x := by
  obtain ⟨c0, c2, c3, c4, c5, c6, c8, c9, c10, c11, c12, e, h1, h2, h3⟩ := h
  exact ⟨c0, c2, c3, c4, c5, c6, c8, c9, c10, c11, c12, e, h1.mono hr, VSeg.mono hr d h2, VSeg.mono hr d h3⟩
theorem CLSg.agree {R : Nat → Prop} {w w' : World} {d : Nat} {x : Value} {l : List (Chg d)} (h : CLSg R w d x l) (ha : Agree R w w') : CLSg R w' d x l := by
  obtain ⟨a, cap, e, h1, h2, h3, h4⟩ := h
  refine ⟨a, cap, e, h1, h2, h3, ?_⟩
  rcases h4 with h0 | ⟨b, off, ea, hb, hc⟩
  · exact .inl h0
  · refine .inr ⟨b, off, ea, hb, fun i hi => ?_⟩
    obtain ⟨cs, hr, hv⟩ := hc i hi
    exact ⟨cs, range_agree hr ha hb, hv.agree ha⟩
theorem CLSg.mono {R R' : Nat → Prop} {w : World} {d : Nat} {x : Value} {l : List (Chg d)} (h : CLSg R w d x l) (hr : ∀ b, R b → R' b) : CLSg R' w d x l := by
  obtain ⟨a, cap, e, h1, h2, h3, h4⟩ := h
  refine ⟨a, cap, e, h1, h2, h3, ?_⟩
  rcases h4 with h0 | ⟨b, off, ea, hb, hc⟩
  · exact .inl h0
  · refine .inr ⟨b, off, ea, hr b hb, fun i hi => ?_⟩
    obtain ⟨cs, hq, hv⟩ := hc i hi
    exact ⟨cs, hq, hv.mono hr⟩
theorem CLSg.at {R : Nat → Prop} {w : World} {d : Nat} {a : Option Addr} {n cap : Nat} {l : List (Chg d)} (h : CLSg R w d (.slice a n cap) l) {k : Nat} (hk : k < l.length) :
    ∃ b off, a = some ⟨b, off, none⟩ ∧ R b ∧ ∀ i (h : i < l.length), ∃ cs, w.rangeAt b (off + i * 13) cs ∧ CSg R w d cs l[i] := by
  obtain ⟨a', cap', g1, _, _, _, g5⟩ := h
  simp only [Value.slice.injEq] at g1
  obtain ⟨rfl, _, _⟩ := g1
  rcases g5 with e | ⟨b, off, hb, hR, hc⟩
  · rw [e] at hk; simp at hk
  · exact ⟨b, off, hb, hR, hc⟩
theorem CLSg.form {R : Nat → Prop} {w : World} {d : Nat} {x : Value} {l : List (Chg d)} (h : CLSg R w d x l) : ∃ a p, x = .slice a l.length p := by
  obtain ⟨a, cap, h1, _⟩ := h
  exact ⟨_, _, h1⟩
theorem PthSeg.sl {R : Nat → Prop} {w : World} {x : Value} {l : List Stp} (h : PthSeg R w x l) : ∃ a p, x = .slice a l.length p := by
  obtain ⟨a, p, e, _⟩ := h
  exact ⟨a, p, e⟩
/-- The cells, in full. -/
theorem CSg.form {R : Nat → Prop} {w : World} {d : Nat} {cs : List Value} {x : Chg d} (h : CSg R w d cs x) :
    ∃ (pa : Option Addr) (pc : Nat) (ok on : Int) (o2 : Option Addr) (ol2 op2 : Nat) (o3 : Option Addr) (ol3 op3 : Nat) (o4 : Option Addr) (ol4 op4 : Nat) (nk nn : Int) (n2 : Option Addr) (nl2 np2 : Nat) (n3 : Option Addr) (nl3 np3 : Nat) (n4 : Option Addr) (nl4 np4 : Nat), cs = [.slice pa x.1.length pc, .bool x.2.1, .int .i64 ok, .int .i64 on, .slice o2 ol2 op2, .slice o3 ol3 op3, .slice o4 ol4 op4, .bool x.2.2.2.1, .int .i64 nk, .int .i64 nn, .slice n2 nl2 np2, .slice n3 nl3 np3, .slice n4 nl4 np4] ∧ PthSeg R w (.slice pa x.1.length pc) x.1 ∧ VSeg R w d (.int .i64 ok, .int .i64 on, .slice o2 ol2 op2, .slice o3 ol3 op3, .slice o4 ol4 op4) x.2.2.1 ∧ VSeg R w d (.int .i64 nk, .int .i64 nn, .slice n2 nl2 np2, .slice n3 nl3 np3, .slice n4 nl4 np4) x.2.2.2.2 := by
  obtain ⟨c0, c2, c3, c4, c5, c6, c8, c9, c10, c11, c12, rfl, h1, h2, h3⟩ := h
  obtain ⟨ok, on, o2, ol2, op2, o3, ol3, op3, o4, ol4, op4, rfl, rfl, rfl, rfl, rfl⟩ := VSeg.form d h2
  obtain ⟨nk, nn, n2, nl2, np2, n3, nl3, np3, n4, nl4, np4, rfl, rfl, rfl, rfl, rfl⟩ := VSeg.form d h3
  obtain ⟨pa, pc, rfl⟩ := h1.sl
  exact ⟨pa, pc, ok, on, o2, ol2, op2, o3, ol3, op3, o4, ol4, op4, nk, nn, n2, nl2, np2, n3, nl3, np3, n4, nl4, np4, rfl, h1, h2, h3⟩
theorem CSg.len {R : Nat → Prop} {w : World} {d : Nat} {cs : List Value} {x : Chg d} (h : CSg R w d cs x) : cs.length = 13 := by
  obtain ⟨c0, c2, c3, c4, c5, c6, c8, c9, c10, c11, c12, rfl, _⟩ := h
  rfl
theorem CSg.one {R : Nat → Prop} {w : World} {d : Nat} {cs : List Value} {x : Chg d} (h : CSg R w d cs x) : ∀ v ∈ cs, v.oneCell' = true := by
  obtain ⟨pa, pc, ok, on, o2, ol2, op2, o3, ol3, op3, o4, ol4, op4, nk, nn, n2, nl2, np2, n3, nl3, np3, n4, nl4, np4, rfl, _⟩ := h.form
  intro v hv
  simp only [List.mem_cons, List.not_mem_nil, or_false] at hv
  rcases hv with rfl | rfl | rfl | rfl | rfl | rfl | rfl | rfl | rfl | rfl | rfl | rfl | rfl <;> rfl
/-- Its parts are none too great. -/
def CSz (d : Nat) (x : Chg d) : Prop := szP x.1 ≤ 1048576 ∧ szV d x.2.2.1 ≤ 1048576 ∧ szV d x.2.2.2.2 ≤ 1048576

set_option maxHeartbeats 3200000 in
set_option maxRecDepth 100000 in
theorem szChange_any (d N : Nat) (cs : List Value) (x : Chg d) (n : Int) (w : World) (h : CSg (fun b => b < N) w d cs x) (hN : N ≤ w.heap.size) (h0 : 0 ≤ n) (h1 : n ≤ 1048576) :
    Calls Tryz.prog 4 #[.agg cs.toArray, .int .i64 n] w fun e w' => (e = .returned (.int .i64 (-1)) ∨ ∃ m : Int, 0 ≤ m ∧ m ≤ n ∧ e = .returned (.int .i64 m) ∧ CSz d x) ∧ Below w.heap.size w w' := by
  obtain ⟨pa, pc, ok, on, o2, ol2, op2, o3, ol3, op3, o4, ol4, op4, nk, nn, n2, nl2, np2, n3, nl3, np3, n4, nl4, np4, rfl, ht, hv, hu⟩ := h.form
  obtain ⟨pth, had, old, has, new⟩ := x
  simp only at ht hv hu ⊢
  have HB : Hid (∀ o : Obj, Below w.heap.size w (w.alloc o)) := fun o => (Below.refl _ _).alloc (Nat.le_refl _) o
  have HT : Hid (∀ wx, Below w.heap.size w wx → Calls Tryz.prog 13 #[.slice pa pth.length pc, .int .i64 n] wx fun e w' => e = .returned (.int .i64 (less n (szP pth))) ∧ Below wx.heap.size wx w') := fun wx hb => szStepS_any N _ pth n wx (ht.agree (agree_below (hb.mono hN))) (by have := hb.size; omega) h0 h1
  have HV : Hid (∀ (m : Int) wx, 0 ≤ m → m ≤ 1048576 → Below w.heap.size w wx → Calls Tryz.prog 14 #[.agg #[.int .i64 ok, .int .i64 on, .slice o2 ol2 op2, .slice o3 ol3 op3, .slice o4 ol4 op4], .int .i64 m] wx fun e w' => e = .returned (.int .i64 (less m (szV d old))) ∧ Below wx.heap.size wx w') := fun m wx g0 g1 hb => szValue_any d N (.int .i64 ok, .int .i64 on, .slice o2 ol2 op2, .slice o3 ol3 op3, .slice o4 ol4 op4) old m wx (VSeg.agree (agree_below (hb.mono hN)) d hv) (by have := hb.size; omega) g0 g1
  have HU : Hid (∀ (m : Int) wx, 0 ≤ m → m ≤ 1048576 → Below w.heap.size w wx → Calls Tryz.prog 14 #[.agg #[.int .i64 nk, .int .i64 nn, .slice n2 nl2 np2, .slice n3 nl3 np3, .slice n4 nl4 np4], .int .i64 m] wx fun e w' => e = .returned (.int .i64 (less m (szV d new))) ∧ Below wx.heap.size wx w') := fun m wx g0 g1 hb => szValue_any d N (.int .i64 nk, .int .i64 nn, .slice n2 nl2 np2, .slice n3 nl3 np3, .slice n4 nl4 np4) new m wx (VSeg.agree (agree_below (hb.mono hN)) d hu) (by have := hb.size; omega) g0 g1
  have Hbox : Hid (∀ o wx, Below (w.alloc o).heap.size (w.alloc o) wx → wx.heap[w.heap.size]? = some o) := fun o wx h => box_row h
  clear ht hv hu h
  unfold CSz
  simp only
  generalize szP pth = s0 at *
  generalize szV d old = s1 at *
  generalize szV d new = s2 at *
  generalize pth.length = pl at *
  go_enter Tryz.func4, Tryz.ntmps4
  go_wp2_with fail
  refine (HT.out _ (HB.out _)).mono ?_
  rintro e w1 ⟨rfl, b1⟩
  by_cases q0 : n < (s0 : Int)
  · rw [less_no _ _ q0]
    have B1 := hide' (Below.on (HB.out _) b1)
    clear b1
    go_wp2
    go_ret
    exact ⟨.inl rfl, B1.out⟩
  rw [less_yes _ _ q0]
  obtain ⟨n1, e1⟩ : ∃ m : Int, m = n - s0 := ⟨_, rfl⟩
  rw [← e1]
  have g10 : 0 ≤ n1 := by omega
  have g11 : n1 ≤ 1048576 := by omega
  have z0 : s0 ≤ 1048576 := by omega
  have y1 : n1 ≤ n := by omega
  have hr1 := Hbox.out _ _ b1
  have u2 := cell_of_row _ _ 2 _ _ _ hr1
  have u3 := cell_of_row _ _ 3 _ _ _ hr1
  have u4 := cell_of_row _ _ 4 _ _ _ hr1
  have u5 := cell_of_row _ _ 5 _ _ _ hr1
  have u6 := cell_of_row _ _ 6 _ _ _ hr1
  simp at u2 u3 u4 u5 u6
  have B1 := hide' b1
  clear e1 q0 b1 hr1
  go_wp2_with fail
  refine (HV.out n1 _ g10 g11 (Below.on (HB.out _) B1.out)).mono ?_
  rintro e w2 ⟨rfl, b2⟩
  have B2 := hide' (Below.on B1.out b2)
  clear b2 u2 u3 u4 u5 u6
  by_cases q1 : n1 < (s1 : Int)
  · rw [less_no _ _ q1]
    have B3 := hide' (Below.on (HB.out _) B2.out)
    go_wp2
    go_ret
    exact ⟨.inl rfl, B3.out⟩
  rw [less_yes _ _ q1]
  obtain ⟨n2, e2⟩ : ∃ m : Int, m = n1 - s1 := ⟨_, rfl⟩
  rw [← e2]
  have g20 : 0 ≤ n2 := by omega
  have g21 : n2 ≤ 1048576 := by omega
  have z1 : s1 ≤ 1048576 := by omega
  have y2 : n2 ≤ n := by omega
  have hr2 := Hbox.out _ _ B2.out
  have u8 := cell_of_row _ _ 8 _ _ _ hr2
  have u9 := cell_of_row _ _ 9 _ _ _ hr2
  have u10 := cell_of_row _ _ 10 _ _ _ hr2
  have u11 := cell_of_row _ _ 11 _ _ _ hr2
  have u12 := cell_of_row _ _ 12 _ _ _ hr2
  simp at u8 u9 u10 u11 u12
  clear e2 q1 hr2
  go_wp2_with fail
  refine (HU.out n2 _ g20 g21 (Below.on (HB.out _) B2.out)).mono ?_
  rintro e w3 ⟨rfl, b3⟩
  have B3 := hide' (Below.on (HB.out _) (Below.on B2.out b3))
  clear b3 u8 u9 u10 u11 u12
  by_cases q2 : n2 < (s2 : Int)
  · rw [less_no _ _ q2]
    go_wp2
    go_ret
    exact ⟨.inl rfl, B3.out⟩
  rw [less_yes _ _ q2]
  obtain ⟨n3, e3⟩ : ∃ m : Int, m = n2 - s2 := ⟨_, rfl⟩
  rw [← e3]
  have g30 : 0 ≤ n3 := by omega
  have z2 : s2 ≤ 1048576 := by omega
  have y3 : n3 ≤ n := by omega
  have hn3 : ¬ n3 < 0 := by omega
  clear e3 q2
  go_wp2
  go_ret
  exact ⟨.inr ⟨n3, g30, y3, rfl, z0, z1, z2⟩, B3.out⟩
end Go.Proofs.YtdhlmcgbgdljmaaGreatDoor
/-
  szChangeS: a list of changes is not too great.
-/
namespace Go.Proofs.YtdhlmcgbgdljmaaGreatDoor
open Go.RowKit
set_option linter.unusedVariables false
set_option linter.unusedSimpArgs false

theorem info_laws_chg {n : Nat} (h : n = 13) : (Tryz.prog.info? 29).map (·.size) = some n := by rw [h]; kernel_rfl
theorem info_chg {n : Nat} (h : n = 13) : (Tryz.prog.info? 37).map (·.size) = some n := by rw [h]; kernel_rfl

/-- What szChangeS leaves. -/
def SzCEnd (d : Nat) (l : List (Chg d)) (w : World) (e : Ending) (w' : World) : Prop := (e = .returned (.int .i64 (-1)) ∨ ∃ n : Int, 0 ≤ n ∧ n ≤ 1048576 ∧ e = .returned (.int .i64 n) ∧ l.length ≤ 1048576 ∧ ∀ i (h : i < l.length), CSz d l[i]) ∧ Below w.heap.size w w'

end Go.Proofs.YtdhlmcgbgdljmaaGreatDoor
/-
  toStep, toStepS of the laws: they make a path of their own that holds what their argument holds.
-/
namespace Go.Proofs.YtdhlmcgbgdljmaaGreatDoor
open Go.RowKit
set_option linter.unusedVariables false

theorem infoP : (Tryz.prog.info? 70).map (fun i => (i.zero, i.size, i.bytes)) = some (some (.agg #[.int .i64 0, .slice none 0 0, .int .i64 0]), 3, 40) := by kernel_rfl

/-- The cells of a block of three that is known. -/
theorem row3 {w : World} {g : Nat} {T : TypeId} {c0 c1 c2 : Value} (h : w.heap[g]? = some (.cells #[c0, c1, c2] T (0, 0))) :
    w.cell? ⟨g, 0, none⟩ = some c0 ∧ w.cell? ⟨g, 1, none⟩ = some c1 ∧ w.cell? ⟨g, 2, none⟩ = some c2 ∧ ∀ j, w.frozen? ⟨g, j, none⟩ = false := by
  refine ⟨?_, ?_, ?_, fun j => frozen_of_row w g j _ T h⟩ <;> rw [cell_of_row w g _ _ T (0, 0) h] <;> rfl

/-- Three blocks, one behind the other. -/
theorem three_boxes (w : World) (o1 o2 o3 : Obj) : (((w.alloc o1).alloc o2).alloc o3).heap[w.heap.size]? = some o1 ∧ (((w.alloc o1).alloc o2).alloc o3).heap[w.heap.size + 1]? = some o2 ∧ (((w.alloc o1).alloc o2).alloc o3).heap[w.heap.size + 1 + 1]? = some o3 ∧ (((w.alloc o1).alloc o2).alloc o3).heap.size = w.heap.size + 3 ∧ Below w.heap.size w (((w.alloc o1).alloc o2).alloc o3) := by
  obtain ⟨h1, h2⟩ := two_boxes w o1 o2
  have z2 := size2 w o1 o2
  have hb : Below ((w.alloc o1).alloc o2).heap.size ((w.alloc o1).alloc o2) (((w.alloc o1).alloc o2).alloc o3) := (Below.refl _ _).alloc (Nat.le_refl _) o3
  refine ⟨(hb.block _ (by omega)).trans h1, (hb.block _ (by omega)).trans h2, ?_, by simp, ((((Below.refl _ _).alloc (Nat.le_refl _) o1).alloc (by simp) o2).alloc (by simp; omega) o3)⟩
  have h := (MapKept.heap_alloc ((w.alloc o1).alloc o2) o3).1
  rw [z2] at h
  exact h

set_option maxHeartbeats 1600000 in
theorem toStep_any (N : Nat) (c0 c1 c2 : Value) (s : Stp) (w : World) (hs : StSeg (fun b => b < N) w (c0, c1, c2) s) (hN : N ≤ w.heap.size) (hz : s.2.1.length ≤ 1048576) :
    Calls Tryz.prog 38 #[.agg #[c0, c1, c2]] w fun e w' => ∃ d0 d1 d2, e = .returned (.agg #[d0, d1, d2]) ∧ ∃ B, StOwn w' (d0, d1, d2) s B ∧ (∀ b ∈ B, w.heap.size ≤ b ∧ b < w'.heap.size) ∧ B.Nodup ∧ Below w.heap.size w w' := by
  obtain ⟨sk, ss, si⟩ := s
  obtain ⟨e0, ht, e2⟩ := hs
  simp only at e0 ht e2 hz
  subst e0
  subst e2
  have Ht : Hid (∀ w' : World, Below w.heap.size w w' → TSeg (fun b => b < N) w' c1 ss) := fun w' h => ht.agree (agree_below (h.mono hN))
  obtain ⟨a2, cp2, rfl, s2, hl2, hm2, _, _⟩ := ht
  have H3 := hide' (three_boxes w (.cells #[.int .i64 sk, .slice a2 ss.length cp2, .int .i64 si] 65) (.cells #[.int .i64 0, .slice none 0 0, .int .i64 0] 70) (.cells #[.int .i64 sk, .slice none 0 0, .int .i64 0] 70))
  clear s2
  go_enter Tryz.func38, Tryz.ntmps38
  go_wp2_with fail
  obtain ⟨hr1, hr2, hr3, hsz, hb0⟩ := H3.out
  generalize ((w.alloc (.cells #[.int .i64 sk, .slice a2 ss.length cp2, .int .i64 si] 65)).alloc (.cells #[.int .i64 0, .slice none 0 0, .int .i64 0] 70)).alloc (.cells #[.int .i64 sk, .slice none 0 0, .int .i64 0] 70) = w0 at *
  obtain ⟨a2', cp2', e2, sT, _⟩ := Ht.out _ hb0
  simp only [Value.slice.injEq, true_and] at e2
  obtain ⟨rfl, rfl⟩ := e2
  refine (toByteS_any _ _ ss _ sT (by omega)).mono ?_
  rintro e w1 ⟨rfl, hB1, b1⟩
  have hT1 := tOwn_new hB1
  have hz1 := b1.size
  obtain ⟨x0, x1, x2, _⟩ := row3 ((b1.block _ (by omega)).trans hr1)
  have hr2' := (b1.block _ (by omega)).trans hr2
  have hr3' := (b1.block _ (by omega)).trans hr3
  obtain ⟨y0, y1, y2, yf⟩ := row3 hr2'
  obtain ⟨z0, z1, z2, zf⟩ := row3 hr3'
  have zf1 := zf 1
  have zf2 := zf 2
  have yf0 := yf 0
  have yf1 := yf 1
  have yf2 := yf 2
  have hlt1 := hT1.lt w0.heap.size (by simp)
  have B1 := Below.on hb0 b1
  have hgS : w.heap.size + 3 ≤ w0.heap.size := by omega
  clear hsz b1 hB1 sT
  generalize w0.heap.size = gS at *
  have hrow : (set3 ((w1.setCell ⟨w.heap.size + 1 + 1, 1, none⟩ (.slice (some ⟨gS, 0, none⟩) ss.length ss.length)).setCell ⟨w.heap.size + 1 + 1, 2, none⟩ (.int .i64 si)) (w.heap.size + 1) 0 (.int .i64 sk) (.slice (some ⟨gS, 0, none⟩) ss.length ss.length) (.int .i64 si)).heap[w.heap.size + 1]? = some (.cells #[.int .i64 sk, .slice (some ⟨gS, 0, none⟩) ss.length ss.length, .int .i64 si] 70 (0, 0)) :=
    set3_heap _ _ _ ((Below.heap_setCell _ _ _ _ (by show w.heap.size + 1 ≠ w.heap.size + 1 + 1; omega)).trans ((Below.heap_setCell w1 _ _ _ (by show w.heap.size + 1 ≠ w.heap.size + 1 + 1; omega)).trans hr2'))
  have hk3 := row3 hrow
  simp only [set3, Nat.zero_add] at hk3
  have Hk3 := hide' hk3
  have HT1 := hide' hT1
  clear hrow hk3 hT1 hr1 hr2 hr3 hr2' hr3' zf yf H3
  go_wp2_with fail
  obtain ⟨u0, u1, u2, _⟩ := Hk3.out
  refine bodyPost_ret (v := .agg #[.int .i64 sk, .slice (some ⟨gS, 0, none⟩) ss.length ss.length, .int .i64 si]) (by simp [results, Tryz.results38, go_sem, u0, u1, u2]) rfl ?_
  have g1 := grown1 w1 (w.heap.size + 1 + 1) 1 (.slice (some ⟨gS, 0, none⟩) ss.length ss.length)
  have g2 := grown1 (w1.setCell ⟨w.heap.size + 1 + 1, 1, none⟩ (.slice (some ⟨gS, 0, none⟩) ss.length ss.length)) (w.heap.size + 1 + 1) 2 (.int .i64 si)
  have gA := grownBy_trans g1 g2
  have gB := set3_grown ((w1.setCell ⟨w.heap.size + 1 + 1, 1, none⟩ (.slice (some ⟨gS, 0, none⟩) ss.length ss.length)).setCell ⟨w.heap.size + 1 + 1, 2, none⟩ (.int .i64 si)) (w.heap.size + 1) 0 (.int .i64 sk) (.slice (some ⟨gS, 0, none⟩) ss.length ss.length) (.int .i64 si)
  have hs2 : ((w1.setCell ⟨w.heap.size + 1 + 1, 1, none⟩ (.slice (some ⟨gS, 0, none⟩) ss.length ss.length)).setCell ⟨w.heap.size + 1 + 1, 2, none⟩ (.int .i64 si)).heap.size = w1.heap.size := by simp [World.setCell]
  have hs3 := set3_size ((w1.setCell ⟨w.heap.size + 1 + 1, 1, none⟩ (.slice (some ⟨gS, 0, none⟩) ss.length ss.length)).setCell ⟨w.heap.size + 1 + 1, 2, none⟩ (.int .i64 si)) (w.heap.size + 1) 0 (.int .i64 sk) (.slice (some ⟨gS, 0, none⟩) ss.length ss.length) (.int .i64 si)
  have hBf : Below w.heap.size w (set3 ((w1.setCell ⟨w.heap.size + 1 + 1, 1, none⟩ (.slice (some ⟨gS, 0, none⟩) ss.length ss.length)).setCell ⟨w.heap.size + 1 + 1, 2, none⟩ (.int .i64 si)) (w.heap.size + 1) 0 (.int .i64 sk) (.slice (some ⟨gS, 0, none⟩) ss.length ss.length) (.int .i64 si)) :=
    (B1.grown gA B1.size (by intro j hj; simp at hj; omega)).grown gB (by omega) (by intro j hj; simp at hj; omega)
  refine ⟨_, _, _, rfl, [gS], ⟨rfl, HT1.out.agree fun b hb => ?_, rfl⟩, ?_, by simp, hBf⟩
  · simp at hb
    subst hb
    refine (gB.block _ (by omega) (by simp; omega)).trans (gA.block _ hlt1 (by simp; omega))
  · intro b hb
    rw [List.mem_singleton] at hb
    rw [hb]
    show _ ∧ _ < (set3 ((w1.setCell ⟨w.heap.size + 1 + 1, 1, none⟩ (.slice (some ⟨gS, 0, none⟩) ss.length ss.length)).setCell ⟨w.heap.size + 1 + 1, 2, none⟩ (.int .i64 si)) (w.heap.size + 1) 0 (.int .i64 sk) (.slice (some ⟨gS, 0, none⟩) ss.length ss.length) (.int .i64 si)).heap.size
    rw [hs3, hs2]
    omega

theorem StOwn.form {w : World} {c0 c1 c2 : Value} {s : Stp} {B : List Nat} (h : StOwn w (c0, c1, c2) s B) : ∃ (k i : Int) (a : Option Addr) (n p : Nat), c0 = .int .i64 k ∧ c1 = .slice a n p ∧ c2 = .int .i64 i := by
  obtain ⟨e0, ht, e2⟩ := h
  obtain ⟨a2, p2, e1, _⟩ := ht.1.shape
  exact ⟨_, _, _, _, _, e0, e1, e2⟩

set_option maxHeartbeats 1600000 in
theorem toStepS_any (N : Nat) (x : Value) (l : List Stp) (w : World) (hx : PthSeg (fun b => b < N) w x l) (hN : N ≤ w.heap.size) (hz : szP l ≤ 1048576) :
    Calls Tryz.prog 18 #[x] w fun e w' => ∃ u, e = .returned u ∧ ∃ B, PthOwn w' u l B ∧ (∀ b ∈ B, w.heap.size ≤ b ∧ b < w'.heap.size) ∧ Below w.heap.size w w' := by
  have HC := hide' hx
  obtain ⟨a, cap, rfl, hlc, hcm, ka, hc⟩ := hx
  unfold maxLen at hcm
  obtain ⟨i0, hi, hz0, hz1, hz2⟩ := info_parts infoP
  have hn : l.length ≤ 1048576 := by unfold szP at hz; omega
  have HZ := hide' hz
  clear hc hz
  go_enter Tryz.func18, Tryz.ntmps18
  go_wp2_with (refine wpList_make_full _ rfl _ _ 32 rfl w.heap.size 70 i0 (.agg #[.int .i64 0, .slice none 0 0, .int .i64 0]) 3 Tryz.underlying32 hi hz0 hz1 .i64 .i64 _ _ l.length rfl rfl rfl rfl (by rw [hz2]; omega) (by unfold maxLen; omega) (Nat.le_refl _) ?_; intro w1 hown hgrow)
  have hK0 : PPart w1 w.heap.size l.length l 0 (w.heap.size + 1) := by
    rcases hown.2 with ⟨h1, _⟩ | ⟨g, cp, cur, h1, _, h3, _, _, h6, _⟩
    · simp at h1
    · simp only [Value.slice.injEq, Option.some.injEq, Addr.mk.injEq, and_true, true_and] at h1
      obtain ⟨e1, e2⟩ := h1
      subst e1
      exact ⟨cur, [], h3, by omega, rfl, by intro i _ h; omega, by simp, by simp⟩
  have hb1 : Below w.heap.size w w1 := (Below.refl _ _).grown hgrow (Nat.le_refl _) (by simp)
  clear hown hgrow
  go_loopw [4] (fun i wr => ∃ k : Nat, k ≤ l.length ∧ i = .int .i64 k ∧ PPart wr w.heap.size l.length l k (w.heap.size + 1) ∧ Below w.heap.size w wr) (fun i _ => l.length - (intOf i).toNat)
  case atStart => exact ⟨0, Nat.zero_le _, rfl, hK0, hb1⟩
  case round =>
    obtain ⟨k, hk, rfl, hK, hbel⟩ := hrel
    clear hK0 hb1
    by_cases hlt : k < l.length
    · have hlt' : (k : Int) < (l.length : Int) := by omega
      obtain ⟨b, off, e0, e1, e2, rfl, _, h3, hv⟩ := (HC.out.agree (agree_below (hbel.mono hN))).at hlt
      obtain ⟨q0, q1, q2⟩ := h3
      simp only at q0 q1 q2
      have HV := hide' hv
      clear hv
      have hzk := hide' (Nat.le_trans (szP_elem hlt) HZ.out)
      have hgw : w.heap.size < wr.heap.size := by
        obtain ⟨cur, Bs, h1, _⟩ := hK
        exact (Array.getElem?_eq_some_iff.1 h1).1
      go_wp2_with fail
      refine (toStep_any N e0 e1 e2 l[k] wr HV.out (by omega) hzk.out).mono ?_
      rintro e w2 ⟨c0, c1, c2, rfl, B, hB2, hBb, hBn, b2⟩
      clear q0 q1 q2 HV
      obtain ⟨ck, ci, s2, l2, p2, rfl, rfl, rfl⟩ := hB2.form
      have hcells : ∃ cur : Array Value, w2.heap[w.heap.size]? = some (.cells cur 70 (0, 0)) ∧ cur.size = l.length * 3 := by
        obtain ⟨cur, Bs, h1, h2, _⟩ := hK
        exact ⟨cur, (b2.block _ hgw).trans h1, h2⟩
      obtain ⟨cur, hcur, hcs⟩ := hcells
      have hx : ∀ j, j < l.length * 3 → ∃ x, w2.cell? ⟨w.heap.size, j, none⟩ = some x := by
        intro j hj
        rw [cell_of_row w2 _ j cur _ (0, 0) hcur]
        exact ⟨_, Array.getElem?_eq_getElem (by omega)⟩
      have hf : ∀ j, w2.frozen? ⟨w.heap.size, j, none⟩ = false := fun j => frozen_of_row w2 _ j cur _ hcur
      obtain ⟨x0, hx0⟩ := hx (k * 3) (by omega)
      obtain ⟨x1, hx1⟩ := hx (k * 3 + 1) (by omega)
      obtain ⟨x2, hx2⟩ := hx (k * 3 + 2) (by omega)
      have f0 := hf (k * 3)
      have f1 := hf (k * 3 + 1)
      have f2 := hf (k * 3 + 2)
      have hL := pPart_next hK (by omega) hlt hlt b2 (by omega) _ _ _ B hB2 hBb hBn
      have hb2 := Below.on hbel b2
      have hb3 := hb2.grown (set3_grown w2 w.heap.size (k * 3) (.int .i64 ck) (.slice s2 l2 p2) (.int .i64 ci)) hb2.size (by intro j hj; simp at hj; omega)
      have HL := hide' hL
      have HB := hide' hb3
      clear hx hf hcur hL hb2 hb3 hK hB2
      go_wp2
      go_roundw
      case rel => exact ⟨k + 1, by omega, by go_num, HL.out, HB.out⟩
      case measure => simp [intOf]; omega
    · have hkn : k = l.length := by omega
      have hkn' : ¬ (k : Int) < (l.length : Int) := by omega
      rw [hkn] at hK
      clear hkn
      go_wp2
      go_ret
      obtain ⟨cur, Bi, h1, h2, h3, h4, h5, h6⟩ := hK
      have hgw := (Array.getElem?_eq_some_iff.1 h1).1
      refine ⟨_, rfl, w.heap.size :: Bi.flatten, ⟨w.heap.size, l.length, cur, Bi, rfl, h1, Nat.le_refl _, by unfold maxLen; omega, h2, h3, fun i h => h4 i h h, rfl, ?_⟩, ?_, hbel⟩
      · rw [List.nodup_cons]
        exact ⟨fun hm => by have := h5 _ hm; omega, h6⟩
      · intro b hb
        rcases List.mem_cons.1 hb with rfl | hb
        · exact ⟨Nat.le_refl _, hgw⟩
        · have := h5 b hb
          omega
end Go.Proofs.YtdhlmcgbgdljmaaGreatDoor
/-
  A function that copies a struct: the argument's box, the answer's, the variable's; and rows of cells by ranges.
-/
namespace Go.Proofs.YtdhlmcgbgdljmaaGreatDoor
open Go.RowKit
set_option linter.unusedVariables false
set_option linter.unusedSimpArgs false

theorem range_of_row {w : World} {g : Nat} {cs : List Value} {T : TypeId} {fr : Nat × Nat} (h : w.heap[g]? = some (.cells cs.toArray T fr)) : w.rangeAt g 0 cs := fun j v hv => by
  rw [Nat.zero_add, cell_of_row w g j _ _ _ h]
  simpa using hv
theorem there_of_row {w : World} {g : Nat} {cs : Array Value} {T : TypeId} (h : w.heap[g]? = some (.cells cs T (0, 0))) : w.there g 0 cs.size := fun j hj => by
  rw [Nat.zero_add, cell_of_row w g j _ _ _ h]
  exact ⟨by simp [hj], frozen_of_row _ _ _ _ _ h⟩
theorem results_cell {P : Program} {fn : Func} {tmps : Array Value} {w : World} {v : Value} {ad : Addr} (s : Nat) (t : TypeId) (hr : fn.results = #[.cell s t]) (hp : tmps.getD s undef = .pointer (some ad)) (hl : (loadVar t ad).run P w = .ok v w) : (results fn tmps).run P w = .ok v w := by
  unfold results
  rw [hr]
  simp only [Array.mapM_eq_mapM_toList, List.mapM_cons, List.mapM_nil, Sem.run_bind, Sem.run_pure, Result.andThen_ok, hp]
  simp [asAddr, hl]
theorem grown_setCells (g : Nat) : ∀ (vs : List Value) (o : Nat) (w : World), w.grownBy (w.setCells g o vs) (some g)
  | [], _, w => World.grownBy.refl w _
  | v :: r, o, w => grownBy_trans (grown1 w g o v) (grown_setCells g r (o + 1) (w.setCell ⟨g, o, none⟩ v))

/-- The three boxes. -/
def BxSt (w : World) (T1 T2 : TypeId) (arg zer cur : Array Value) (wx : World) : Prop :=
  Below w.heap.size w wx ∧ wx.heap[w.heap.size]? = some (.cells arg T1 (0, 0)) ∧ wx.heap[w.heap.size + 1]? = some (.cells zer T2 (0, 0)) ∧ wx.heap[w.heap.size + 1 + 1]? = some (.cells cur T2 (0, 0)) ∧ w.heap.size + 3 ≤ wx.heap.size

theorem bx_start (w : World) (T1 T2 : TypeId) (arg zer cur : Array Value) : BxSt w T1 T2 arg zer cur (((w.alloc (.cells arg T1)).alloc (.cells zer T2)).alloc (.cells cur T2)) := by
  refine ⟨(((Below.refl _ _).alloc (Nat.le_refl _) _).alloc (by simp) _).alloc (by simp; omega) _, ?_, ?_, ?_, by simp⟩
  · rw [Below.heap_alloc _ _ _ (by simp; omega), Below.heap_alloc _ _ _ (by simp)]
    exact (MapKept.heap_alloc w _).1
  · rw [Below.heap_alloc _ _ _ (by simp)]
    have := (MapKept.heap_alloc (w.alloc (.cells arg T1)) (.cells zer T2)).1
    simpa using this
  · have := (MapKept.heap_alloc ((w.alloc (.cells arg T1)).alloc (.cells zer T2)) (.cells cur T2)).1
    simpa using this
theorem bx_below {w wx w1 : World} {T1 T2 : TypeId} {arg zer cur : Array Value} (h : BxSt w T1 T2 arg zer cur wx) (b : Below wx.heap.size wx w1) : BxSt w T1 T2 arg zer cur w1 := by
  obtain ⟨h1, h2, h3, h4, h5⟩ := h
  have hz := b.size
  exact ⟨Below.on h1 b, (b.block _ (by omega)).trans h2, (b.block _ (by omega)).trans h3, (b.block _ (by omega)).trans h4, by omega⟩
theorem bx_turn {w w1 w2 : World} {T1 T2 : TypeId} {arg zer cur cur' : Array Value} (h : BxSt w T1 T2 arg zer cur w1) (hg : w1.grownBy w2 (some (w.heap.size + 1 + 1))) (hr : w2.heap[w.heap.size + 1 + 1]? = some (.cells cur' T2 (0, 0))) : BxSt w T1 T2 arg zer cur' w2 := by
  obtain ⟨h1, h2, h3, h4, h5⟩ := h
  refine ⟨h1.grown hg (by omega) (by intro k hk; simp at hk; omega), (hg.block _ (by omega) (by simp; omega)).trans h2, (hg.block _ (by omega) (by simp)).trans h3, hr, by have := hg.size; omega⟩
theorem bx_set {w w1 : World} {T1 T2 : TypeId} {arg zer cur cur' : Array Value} (h : BxSt w T1 T2 arg zer cur w1) (j : Nat) (v : Value) (hc : cur.setIfInBounds j v = cur') : BxSt w T1 T2 arg zer cur' (w1.setCell ⟨w.heap.size + 1 + 1, j, none⟩ v) := by
  subst hc
  exact bx_turn h (grown1 _ _ _ _) (heap_setCell_same _ _ _ _ _ _ h.2.2.2.1)
theorem bx_set5 {w w1 : World} {T1 T2 : TypeId} {arg zer cur cur' : Array Value} (h : BxSt w T1 T2 arg zer cur w1) (j : Nat) (c0 c1 c2 c3 c4 : Value) (hc : ((((cur.setIfInBounds j c0).setIfInBounds (j + 1) c1).setIfInBounds (j + 2) c2).setIfInBounds (j + 3) c3).setIfInBounds (j + 4) c4 = cur') : BxSt w T1 T2 arg zer cur' (set5 w1 (w.heap.size + 1 + 1) j c0 c1 c2 c3 c4) := by
  subst hc
  exact bx_turn h (set5_grown _ _ _ _ _ _ _ _) (set5_heap _ _ _ _ _ h.2.2.2.1)

/-- Behind the boxes. -/
def Beh (w wx : World) (b : Nat) : Prop := w.heap.size + 3 ≤ b ∧ b < wx.heap.size
theorem beh_below {w wx w1 : World} (b : Below wx.heap.size wx w1) : Agree (Beh w wx) wx w1 := fun k hk => b.block k hk.2
theorem beh_turn {w wx w1 : World} (hg : wx.grownBy w1 (some (w.heap.size + 1 + 1))) : Agree (Beh w wx) wx w1 := fun k hk => hg.block k hk.2 (by have := hk.1; simp; omega)
theorem beh_mono {w wx w1 : World} (h : wx.heap.size ≤ w1.heap.size) : ∀ b, Beh w wx b → Beh w w1 b := fun b hb => ⟨hb.1, Nat.lt_of_lt_of_le hb.2 h⟩
end Go.Proofs.YtdhlmcgbgdljmaaGreatDoor
/-
  toChange: a change copied.
-/
namespace Go.Proofs.YtdhlmcgbgdljmaaGreatDoor
open Go.RowKit
set_option linter.unusedVariables false
set_option linter.unusedSimpArgs false

/-- What toChange leaves. -/
def CgEnd (d : Nat) (x : Chg d) (w : World) (e : Ending) (w' : World) : Prop := ∃ cs, e = .returned (.agg cs.toArray) ∧ CSg (fun b => w.heap.size ≤ b ∧ b < w'.heap.size) w' d cs x ∧ Below w.heap.size w w'

set_option maxHeartbeats 6400000 in
set_option maxRecDepth 100000 in
theorem toChange_any (d N : Nat) (cs : List Value) (x : Chg d) (w : World) (h : CSg (fun b => b < N) w d cs x) (hN : N ≤ w.heap.size) (hz : CSz d x) :
    Calls Tryz.prog 6 #[.agg cs.toArray] w (CgEnd d x w) := by
  obtain ⟨pa, pc, ok, on, o2, ol2, op2, o3, ol3, op3, o4, ol4, op4, nk, nn, n2, nl2, np2, n3, nl3, np3, n4, nl4, np4, rfl, ht, hv, hu⟩ := h.form
  obtain ⟨pth, had, old, has, new⟩ := x
  obtain ⟨z0, z1, z2⟩ := hz
  simp only at ht hv hu z0 z1 z2 ⊢
  have hA : ∀ wx, Below w.heap.size w wx → Agree (fun b => b < N) w wx := fun wx hb => agree_below (hb.mono hN)
  have HT : Hid (∀ wx, Below w.heap.size w wx → w.heap.size + 3 ≤ wx.heap.size → Calls Tryz.prog 18 #[.slice pa pth.length pc] wx fun e w' => ∃ ga gc, e = .returned (.slice ga pth.length gc) ∧ PthSeg (Beh w w') w' (.slice ga pth.length gc) pth ∧ Below wx.heap.size wx w') := fun wx hb hs => by
    refine (toStepS_any N _ pth wx (ht.agree (hA wx hb)) (by have := hb.size; omega) z0).mono ?_
    rintro e w' ⟨u, rfl, B, hO, hB, b⟩
    have hq := hO.seg.mono (R' := Beh w w') fun b' hb' => by have := hB b' hb'; exact ⟨by omega, this.2⟩
    obtain ⟨ga, gc, rfl⟩ := hq.sl
    exact ⟨ga, gc, rfl, hq, b⟩
  have HV : Hid (∀ wx, Below w.heap.size w wx → w.heap.size + 3 ≤ wx.heap.size → Calls Tryz.prog 19 #[.agg #[.int .i64 ok, .int .i64 on, .slice o2 ol2 op2, .slice o3 ol3 op3, .slice o4 ol4 op4]] wx fun e w' => ∃ c0 c1 c2 c3 c4, e = .returned (.agg #[c0, c1, c2, c3, c4]) ∧ VSeg (Beh w w') w' d (c0, c1, c2, c3, c4) old ∧ Below wx.heap.size wx w') := fun wx hb hs => by
    refine (toValue_any d N (.int .i64 ok, .int .i64 on, .slice o2 ol2 op2, .slice o3 ol3 op3, .slice o4 ol4 op4) old wx (VSeg.agree (hA wx hb) d hv) (by have := hb.size; omega) z1).mono ?_
    rintro e w' ⟨c0, c1, c2, c3, c4, rfl, B, hO, hB, b⟩
    exact ⟨_, _, _, _, _, rfl, VSeg.mono (fun b' hb' => by have := hB b' hb'; exact ⟨by omega, this.2⟩) d (VOwn.seg d hO), b⟩
  have HU : Hid (∀ wx, Below w.heap.size w wx → w.heap.size + 3 ≤ wx.heap.size → Calls Tryz.prog 19 #[.agg #[.int .i64 nk, .int .i64 nn, .slice n2 nl2 np2, .slice n3 nl3 np3, .slice n4 nl4 np4]] wx fun e w' => ∃ c0 c1 c2 c3 c4, e = .returned (.agg #[c0, c1, c2, c3, c4]) ∧ VSeg (Beh w w') w' d (c0, c1, c2, c3, c4) new ∧ Below wx.heap.size wx w') := fun wx hb hs => by
    refine (toValue_any d N (.int .i64 nk, .int .i64 nn, .slice n2 nl2 np2, .slice n3 nl3 np3, .slice n4 nl4 np4) new wx (VSeg.agree (hA wx hb) d hu) (by have := hb.size; omega) z2).mono ?_
    rintro e w' ⟨c0, c1, c2, c3, c4, rfl, B, hO, hB, b⟩
    exact ⟨_, _, _, _, _, rfl, VSeg.mono (fun b' hb' => by have := hB b' hb'; exact ⟨by omega, this.2⟩) d (VOwn.seg d hO), b⟩
  clear ht hv hu h hA
  have hst0 := hide' (bx_start w 29 37 #[.slice pa pth.length pc, .bool had, .int .i64 ok, .int .i64 on, .slice o2 ol2 op2, .slice o3 ol3 op3, .slice o4 ol4 op4, .bool has, .int .i64 nk, .int .i64 nn, .slice n2 nl2 np2, .slice n3 nl3 np3, .slice n4 nl4 np4] #[.slice none 0 0, .bool false, .int .i64 0, .int .i64 0, .slice none 0 0, .slice none 0 0, .slice none 0 0, .bool false, .int .i64 0, .int .i64 0, .slice none 0 0, .slice none 0 0, .slice none 0 0] #[.slice none 0 0, .bool false, .int .i64 0, .int .i64 0, .slice none 0 0, .slice none 0 0, .slice none 0 0, .bool false, .int .i64 0, .int .i64 0, .slice none 0 0, .slice none 0 0, .slice none 0 0])
  generalize hn0 : pth.length = pl at *
  have Hn0 := hide' hn0
  clear hn0 z0 z1 z2
  go_enter Tryz.func6, Tryz.ntmps6
  go_wp2_with fail
  refine (HT.out _ hst0.out.1 hst0.out.2.2.2.2).mono ?_
  rintro e w1 ⟨ga, gc, rfl, hT1, b1⟩
  have hq := bx_below hst0.out b1
  have hs1 := bx_set hq 0 (.slice ga pl gc) rfl
  have hs1' := hide' (bx_set hs1 1 (.bool had) rfl)
  have hg1 := grownBy_trans (grown1 w1 (w.heap.size + 1 + 1) 0 (.slice ga pl gc)) (grown1 _ (w.heap.size + 1 + 1) 1 (.bool had))
  have HT1 := hide' ((hT1.agree (beh_turn hg1)).mono (beh_mono hg1.size))
  have u1 := cell_of_row _ _ 1 _ _ _ hq.2.1
  have u2 := cell_of_row _ _ 2 _ _ _ hq.2.1
  have u3 := cell_of_row _ _ 3 _ _ _ hq.2.1
  have u4 := cell_of_row _ _ 4 _ _ _ hq.2.1
  have u5 := cell_of_row _ _ 5 _ _ _ hq.2.1
  have u6 := cell_of_row _ _ 6 _ _ _ hq.2.1
  have t0 := cell_of_row _ _ 0 _ _ _ hq.2.2.2.1
  have t1 := cell_of_row _ _ 1 _ _ _ hq.2.2.2.1
  have f0 := frozen_of_row _ _ 0 _ _ hq.2.2.2.1
  have f1 := frozen_of_row _ _ 1 _ _ hq.2.2.2.1
  simp at u1 u2 u3 u4 u5 u6 t0 t1 hs1'
  clear hT1 b1 hq hs1 hg1 hst0 HT
  go_wp2_with fail
  refine (HV.out _ hs1'.out.1 hs1'.out.2.2.2.2).mono ?_
  rintro e w2 ⟨v0, v1, v2, v3, v4, rfl, hV2, b2⟩
  obtain ⟨vk, vn, e2, m2, q2, e3, m3, q3, e4, m4, q4, rfl, rfl, rfl, rfl, rfl⟩ := VSeg.form d hV2
  have hq := bx_below hs1'.out b2
  have hs2 := bx_set5 hq 2 (.int .i64 vk) (.int .i64 vn) (.slice e2 m2 q2) (.slice e3 m3 q3) (.slice e4 m4 q4) rfl
  have hs2' := hide' (bx_set hs2 7 (.bool has) rfl)
  have hg2 := grownBy_trans (set5_grown w2 (w.heap.size + 1 + 1) 2 (.int .i64 vk) (.int .i64 vn) (.slice e2 m2 q2) (.slice e3 m3 q3) (.slice e4 m4 q4)) (grown1 _ (w.heap.size + 1 + 1) 7 (.bool has))
  have HT2 := hide' ((((HT1.out.agree (beh_below b2)).mono (beh_mono b2.size)).agree (beh_turn hg2)).mono (beh_mono hg2.size))
  have HV2 := hide' (VSeg.mono (beh_mono hg2.size) d (VSeg.agree (beh_turn hg2) d hV2))
  have x7 := cell_of_row _ _ 7 _ _ _ hq.2.1
  have x8 := cell_of_row _ _ 8 _ _ _ hq.2.1
  have x9 := cell_of_row _ _ 9 _ _ _ hq.2.1
  have x10 := cell_of_row _ _ 10 _ _ _ hq.2.1
  have x11 := cell_of_row _ _ 11 _ _ _ hq.2.1
  have x12 := cell_of_row _ _ 12 _ _ _ hq.2.1
  have r2 := cell_of_row _ _ 2 _ _ _ hq.2.2.2.1
  have k2 := frozen_of_row _ _ 2 _ _ hq.2.2.2.1
  have r3 := cell_of_row _ _ 3 _ _ _ hq.2.2.2.1
  have k3 := frozen_of_row _ _ 3 _ _ hq.2.2.2.1
  have r4 := cell_of_row _ _ 4 _ _ _ hq.2.2.2.1
  have k4 := frozen_of_row _ _ 4 _ _ hq.2.2.2.1
  have r5 := cell_of_row _ _ 5 _ _ _ hq.2.2.2.1
  have k5 := frozen_of_row _ _ 5 _ _ hq.2.2.2.1
  have r6 := cell_of_row _ _ 6 _ _ _ hq.2.2.2.1
  have k6 := frozen_of_row _ _ 6 _ _ hq.2.2.2.1
  have r7 := cell_of_row _ _ 7 _ _ _ hq.2.2.2.1
  have k7 := frozen_of_row _ _ 7 _ _ hq.2.2.2.1
  simp at x7 x8 x9 x10 x11 x12 r2 r3 r4 r5 r6 r7 hs2'
  clear hV2 b2 hq hg2 hs2 hs1' HV HT1 u1 u2 u3 u4 u5 u6 t0 t1 f0 f1
  go_wp2_with fail
  refine (HU.out _ hs2'.out.1 hs2'.out.2.2.2.2).mono ?_
  rintro e w3 ⟨v0, v1, v2, v3, v4, rfl, hU3, b3⟩
  obtain ⟨xk, xn, f2, r2', t2, f3, r3', t3, f4, r4', t4, rfl, rfl, rfl, rfl, rfl⟩ := VSeg.form d hU3
  have hq := bx_below hs2'.out b3
  have hs3 := hide' (bx_set5 hq 8 (.int .i64 xk) (.int .i64 xn) (.slice f2 r2' t2) (.slice f3 r3' t3) (.slice f4 r4' t4) rfl)
  have hg3 := set5_grown w3 (w.heap.size + 1 + 1) 8 (.int .i64 xk) (.int .i64 xn) (.slice f2 r2' t2) (.slice f3 r3' t3) (.slice f4 r4' t4)
  have HT3 := hide' ((((HT2.out.agree (beh_below b3)).mono (beh_mono b3.size)).agree (beh_turn hg3)).mono (beh_mono hg3.size))
  have HV3 := hide' (VSeg.mono (beh_mono hg3.size) d (VSeg.agree (beh_turn hg3) d (VSeg.mono (beh_mono b3.size) d (VSeg.agree (beh_below b3) d HV2.out))))
  have HU3 := hide' (VSeg.mono (beh_mono hg3.size) d (VSeg.agree (beh_turn hg3) d hU3))
  clear r2 r3 r4 r5 r6 r7 k2 k3 k4 k5 k6 k7 x7 x8 x9 x10 x11 x12
  have r8 := cell_of_row _ _ 8 _ _ _ hq.2.2.2.1
  have k8 := frozen_of_row _ _ 8 _ _ hq.2.2.2.1
  have r9 := cell_of_row _ _ 9 _ _ _ hq.2.2.2.1
  have k9 := frozen_of_row _ _ 9 _ _ hq.2.2.2.1
  have r10 := cell_of_row _ _ 10 _ _ _ hq.2.2.2.1
  have k10 := frozen_of_row _ _ 10 _ _ hq.2.2.2.1
  have r11 := cell_of_row _ _ 11 _ _ _ hq.2.2.2.1
  have k11 := frozen_of_row _ _ 11 _ _ hq.2.2.2.1
  have r12 := cell_of_row _ _ 12 _ _ _ hq.2.2.2.1
  have k12 := frozen_of_row _ _ 12 _ _ hq.2.2.2.1
  simp at r8 r9 r10 r11 r12 hs3
  clear hU3 b3 hq hg3 hs2' HU HT2 HV2
  go_upto_region 7 with fail
  have hset : Hid (BxSt w 29 37 #[.slice pa pl pc, .bool had, .int .i64 ok, .int .i64 on, .slice o2 ol2 op2, .slice o3 ol3 op3, .slice o4 ol4 op4, .bool has, .int .i64 nk, .int .i64 nn, .slice n2 nl2 np2, .slice n3 nl3 np3, .slice n4 nl4 np4] #[.slice none 0 0, .bool false, .int .i64 0, .int .i64 0, .slice none 0 0, .slice none 0 0, .slice none 0 0, .bool false, .int .i64 0, .int .i64 0, .slice none 0 0, .slice none 0 0, .slice none 0 0] #[.slice ga pl gc, .bool had, .int .i64 vk, .int .i64 vn, .slice e2 m2 q2, .slice e3 m3 q3, .slice e4 m4 q4, .bool has, .int .i64 xk, .int .i64 xn, .slice f2 r2' t2, .slice f3 r3' t3, .slice f4 r4' t4] (set5 w3 (w.heap.size + 1 + 1) 8 (.int .i64 xk) (.int .i64 xn) (.slice f2 r2' t2) (.slice f3 r3' t3) (.slice f4 r4' t4))) := hs3.out
  clear hs3
  simp only [set5] at hset HT3 HV3 HU3
  generalize ((((w3.setCell ⟨w.heap.size + 1 + 1, 8, none⟩ (.int .i64 xk)).setCell ⟨w.heap.size + 1 + 1, 9, none⟩ (.int .i64 xn)).setCell ⟨w.heap.size + 1 + 1, 10, none⟩ (.slice f2 r2' t2)).setCell ⟨w.heap.size + 1 + 1, 11, none⟩ (.slice f3 r3' t3)).setCell ⟨w.heap.size + 1 + 1, 12, none⟩ (.slice f4 r4' t4) = wA at *
  clear r8 r9 r10 r11 r12 k8 k9 k10 k11 k12
  have hr := range_of_row (cs := [.slice ga pl gc, .bool had, .int .i64 vk, .int .i64 vn, .slice e2 m2 q2, .slice e3 m3 q3, .slice e4 m4 q4, .bool has, .int .i64 xk, .int .i64 xn, .slice f2 r2' t2, .slice f3 r3' t3, .slice f4 r4' t4]) hset.out.2.2.2.1
  have hth : wA.there (w.heap.size + 1) 0 13 := there_of_row hset.out.2.2.1
  have hone : ∀ v ∈ [Value.slice ga pl gc, .bool had, .int .i64 vk, .int .i64 vn, .slice e2 m2 q2, .slice e3 m3 q3, .slice e4 m4 q4, .bool has, .int .i64 xk, .int .i64 xn, .slice f2 r2' t2, .slice f3 r3' t3, .slice f4 r4' t4], v.oneCell' = true := by
    intro v hv
    simp only [List.mem_cons, List.not_mem_nil, or_false] at hv
    rcases hv with rfl | rfl | rfl | rfl | rfl | rfl | rfl | rfl | rfl | rfl | rfl | rfl | rfl <;> rfl
  have hld := run_loadVar_mid (P := Tryz.prog) _ _ _ 37 _ _ (World.rangeAt_setCells_same wA (w.heap.size + 1) 0 [.slice ga pl gc, .bool had, .int .i64 vk, .int .i64 vn, .slice e2 m2 q2, .slice e3 m3 q3, .slice e4 m4 q4, .bool has, .int .i64 xk, .int .i64 xn, .slice f2 r2' t2, .slice f3 r3' t3, .slice f4 r4' t4] hth) Tryz.underlying37 rfl (by kernel_rfl)
  have hg := grown_setCells (w.heap.size + 1) [.slice ga pl gc, .bool had, .int .i64 vk, .int .i64 vn, .slice e2 m2 q2, .slice e3 m3 q3, .slice e4 m4 q4, .bool has, .int .i64 xk, .int .i64 xn, .slice f2 r2' t2, .slice f3 r3' t3, .slice f4 r4' t4] 0 wA
  go_wp2_with (first | (refine wpList_load_mid rfl 37 (.tmp 3) (by rfl) (w.heap.size + 1 + 1) 0 (by rfl) _ _ hr Tryz.underlying37 rfl (by kernel_rfl) ?_) | (refine wpList_store_mid rfl 37 (.tmp 2) (.tmp 22) (by rfl) (w.heap.size + 1) 0 #[.slice ga pl gc, .bool had, .int .i64 vk, .int .i64 vn, .slice e2 m2 q2, .slice e3 m3 q3, .slice e4 m4 q4, .bool has, .int .i64 xk, .int .i64 xn, .slice f2 r2' t2, .slice f3 r3' t3, .slice f4 r4' t4] (by rfl) (by rfl) hth (by kernel_rfl) (all_oneCell_toArray hone) ?_))
  refine bodyPost_ret (v := .agg #[.slice ga pl gc, .bool had, .int .i64 vk, .int .i64 vn, .slice e2 m2 q2, .slice e3 m3 q3, .slice e4 m4 q4, .bool has, .int .i64 xk, .int .i64 xn, .slice f2 r2' t2, .slice f3 r3' t3, .slice f4 r4' t4]) (results_cell 2 37 Tryz.results6 (by rfl) hld) rfl ?_
  have hAg : Agree (Beh w wA) wA _ := fun b hb => hg.block b hb.2 (by have := hb.1; simp; omega)
  have hMo : ∀ b, Beh w wA b → (w.heap.size ≤ b ∧ b < (wA.setCells (w.heap.size + 1) 0 [.slice ga pl gc, .bool had, .int .i64 vk, .int .i64 vn, .slice e2 m2 q2, .slice e3 m3 q3, .slice e4 m4 q4, .bool has, .int .i64 xk, .int .i64 xn, .slice f2 r2' t2, .slice f3 r3' t3, .slice f4 r4' t4]).heap.size) := fun b hb => ⟨by have := hb.1; omega, Nat.lt_of_lt_of_le hb.2 hg.size⟩
  exact ⟨_, rfl, ⟨_, _, _, _, _, _, _, _, _, _, _, rfl, by rw [Hn0.out] at *; exact (HT3.out.agree hAg).mono hMo, VSeg.mono hMo d (VSeg.agree hAg d HV3.out), VSeg.mono hMo d (VSeg.agree hAg d HU3.out)⟩, hset.out.1.grown hg (by have := hset.out.2.2.2.2; omega) (by intro j hj; simp at hj; omega)⟩
end Go.Proofs.YtdhlmcgbgdljmaaGreatDoor
