/-
  Texts that a law leans on, one behind the other; no statement is proved here.
-/
import Derived.Test.YtfkmmhlllnjhoaaGreatDoorPk4
import Derived.Test.YtfkmmhlllnjhoaaGreatDoorPk3
import Derived.Deep.MidRow
import Derived.Deep.Cut
import Derived.Test.YtfkmmhlllnjhoaaGreatDoorPk0
/-
  Records: what nine cells of memory read as; lists of them.
-/
namespace Go.Proofs.YtfkmmhlllnjhoaaGreatDoor
open Go.RowKit
set_option linter.unusedVariables false
set_option linter.unusedSimpArgs false

/-- A record: kind, name, many, by, names, expressions. -/
def Rcd (d : Nat) : Type := Int × List Int × Int × Vl d × List (List Int)

/-- Nine cells that read as a record. -/
def RSg (R : Nat → Prop) (w : World) (d : Nat) (cs : List Value) (it : Rcd d) : Prop :=
  ∃ c1 c3 c4 c5 c6 c7 c8, cs = [.int .i64 it.1, c1, .int .i64 it.2.2.1, c3, c4, c5, c6, c7, c8] ∧ TSeg R w c1 it.2.1 ∧ VSeg R w d (c3, c4, c5, c6, c7) it.2.2.2.1 ∧ KSeg R w c8 it.2.2.2.2

/-- A list of records, read. -/
def RLSg (R : Nat → Prop) (w : World) (d : Nat) (x : Value) (l : List (Rcd d)) : Prop :=
  ∃ a cap, x = .slice a l.length cap ∧ l.length ≤ cap ∧ cap ≤ maxLen ∧ (a = none → cap = 0) ∧ (l = [] ∨ ∃ b off, a = some ⟨b, off, none⟩ ∧ R b ∧ ∀ i (h : i < l.length), ∃ cs, w.rangeAt b (off + i * 9) cs ∧ RSg R w d cs l[i])

theorem range_agree {R : Nat → Prop} {w w' : World} {b o : Nat} {cs : List Value} (h : w.rangeAt b o cs) (ha : Agree R w w') (hb : R b) : w'.rangeAt b o cs := fun j v hv => (World.cell?_of_block (ha b hb)).trans (h j v hv)

theorem RSg.agree {R : Nat → Prop} {w w' : World} {d : Nat} {cs : List Value} {it : Rcd d} (h : RSg R w d cs it) (ha : Agree R w w') : RSg R w' d cs it := by
  obtain ⟨c1, c3, c4, c5, c6, c7, c8, e, h1, h2, h3⟩ := h
  exact ⟨c1, c3, c4, c5, c6, c7, c8, e, h1.agree ha, VSeg.agree ha d h2, h3.agree ha⟩
theorem RSg.mono {R R' : Nat → Prop} {w : World} {d : Nat} {cs : List Value} {it : Rcd d} (h : RSg R w d cs it) (hr : ∀ b, R b → R' b) : RSg R' w d cs it := by
  obtain ⟨c1, c3, c4, c5, c6, c7, c8, e, h1, h2, h3⟩ := h
  exact ⟨c1, c3, c4, c5, c6, c7, c8, e, h1.mono hr, VSeg.mono hr d h2, h3.mono hr⟩
theorem RLSg.agree {R : Nat → Prop} {w w' : World} {d : Nat} {x : Value} {l : List (Rcd d)} (h : RLSg R w d x l) (ha : Agree R w w') : RLSg R w' d x l := by
  obtain ⟨a, cap, e, h1, h2, h3, h4⟩ := h
  refine ⟨a, cap, e, h1, h2, h3, ?_⟩
  rcases h4 with h0 | ⟨b, off, ea, hb, hc⟩
  · exact .inl h0
  · refine .inr ⟨b, off, ea, hb, fun i hi => ?_⟩
    obtain ⟨cs, hr, hv⟩ := hc i hi
    exact ⟨cs, range_agree hr ha hb, hv.agree ha⟩
theorem RLSg.at {R : Nat → Prop} {w : World} {d : Nat} {a : Option Addr} {n cap : Nat} {l : List (Rcd d)} (h : RLSg R w d (.slice a n cap) l) {k : Nat} (hk : k < l.length) :
    ∃ b off cs, a = some ⟨b, off, none⟩ ∧ R b ∧ w.rangeAt b (off + k * 9) cs ∧ RSg R w d cs l[k] := by
  obtain ⟨a', cap', g1, _, _, _, g5⟩ := h
  simp only [Value.slice.injEq] at g1
  obtain ⟨rfl, _, _⟩ := g1
  rcases g5 with e | ⟨b, off, hb, hR, hc⟩
  · rw [e] at hk; simp at hk
  · obtain ⟨cs, hr, hv⟩ := hc k hk
    exact ⟨b, off, cs, hb, hR, hr, hv⟩
theorem RLSg.form {R : Nat → Prop} {w : World} {d : Nat} {x : Value} {l : List (Rcd d)} (h : RLSg R w d x l) : ∃ a p, x = .slice a l.length p := by
  obtain ⟨a, cap, h1, _⟩ := h
  exact ⟨_, _, h1⟩

/-- The nine cells, in full. -/
theorem RSg.form {R : Nat → Prop} {w : World} {d : Nat} {cs : List Value} {it : Rcd d} (h : RSg R w d cs it) :
    ∃ (na : Option Addr) (np : Nat) (bk bn : Int) (a2 : Option Addr) (l2 p2 : Nat) (a3 : Option Addr) (l3 p3 : Nat) (a4 : Option Addr) (l4 p4 : Nat) (xa : Option Addr) (xp : Nat),
      cs = [.int .i64 it.1, .slice na it.2.1.length np, .int .i64 it.2.2.1, .int .i64 bk, .int .i64 bn, .slice a2 l2 p2, .slice a3 l3 p3, .slice a4 l4 p4, .slice xa it.2.2.2.2.length xp] ∧
      TSeg R w (.slice na it.2.1.length np) it.2.1 ∧ VSeg R w d (.int .i64 bk, .int .i64 bn, .slice a2 l2 p2, .slice a3 l3 p3, .slice a4 l4 p4) it.2.2.2.1 ∧ KSeg R w (.slice xa it.2.2.2.2.length xp) it.2.2.2.2 := by
  obtain ⟨c1, c3, c4, c5, c6, c7, c8, rfl, h1, h2, h3⟩ := h
  obtain ⟨bk, bn, a2, l2, p2, a3, l3, p3, a4, l4, p4, rfl, rfl, rfl, rfl, rfl⟩ := VSeg.form d h2
  have h1' := h1
  have h3' := h3
  obtain ⟨na, np, rfl, _⟩ := h1
  obtain ⟨xa, xp, rfl, _⟩ := h3
  exact ⟨na, np, bk, bn, a2, l2, p2, a3, l3, p3, a4, l4, p4, xa, xp, rfl, h1', h2, h3'⟩

theorem RSg.len {R : Nat → Prop} {w : World} {d : Nat} {cs : List Value} {it : Rcd d} (h : RSg R w d cs it) : cs.length = 9 := by
  obtain ⟨_, _, _, _, _, _, _, _, _, _, _, _, _, _, _, rfl, _⟩ := h.form
  rfl
theorem RSg.one {R : Nat → Prop} {w : World} {d : Nat} {cs : List Value} {it : Rcd d} (h : RSg R w d cs it) : ∀ v ∈ cs, v.oneCell' = true := by
  obtain ⟨_, _, _, _, _, _, _, _, _, _, _, _, _, _, _, rfl, _⟩ := h.form
  intro v hv
  simp only [List.mem_cons, List.not_mem_nil, or_false] at hv
  rcases hv with rfl | rfl | rfl | rfl | rfl | rfl | rfl | rfl | rfl <;> rfl

/-- A record's parts are none too great. -/
def RSz (d : Nat) (it : Rcd d) : Prop := it.2.1.length ≤ 1048576 ∧ szV d it.2.2.2.1 ≤ 1048576 ∧ szK it.2.2.2.2 ≤ 1048576

set_option maxHeartbeats 3200000 in
set_option maxRecDepth 100000 in
theorem szAct_any (d N : Nat) (cs : List Value) (it : Rcd d) (n : Int) (w : World) (h : RSg (fun b => b < N) w d cs it) (hN : N ≤ w.heap.size) (h0 : 0 ≤ n) (h1 : n ≤ 1048576) :
    Calls Tryz.prog 14 #[.agg cs.toArray, .int .i64 n] w fun e w' => (e = .returned (.int .i64 (-1)) ∨ ∃ m : Int, 0 ≤ m ∧ m ≤ n ∧ e = .returned (.int .i64 m) ∧ RSz d it) ∧ Below w.heap.size w w' := by
  obtain ⟨na, np, bk, bn, a2, l2, p2, a3, l3, p3, a4, l4, p4, xa, xp, rfl, ht, hv, hk⟩ := h.form
  obtain ⟨k, nm, mn, by', ks⟩ := it
  simp only at ht hv hk ⊢
  have HB : Hid (∀ o : Obj, Below w.heap.size w (w.alloc o)) := fun o => (Below.refl _ _).alloc (Nat.le_refl _) o
  have hnm : nm.length ≤ maxLen := by obtain ⟨a, c, e, _, h2, h3, _⟩ := ht; omega
  have HT : Hid (∀ wx, Calls Tryz.prog 25 #[.slice na nm.length np, .int .i64 n] wx fun e w' => e = .returned (.int .i64 (less n nm.length)) ∧ wx = w') := fun wx => szByteS_any na nm.length np n wx h0 h1 hnm
  have HV : Hid (∀ (m : Int) wx, 0 ≤ m → m ≤ 1048576 → Below w.heap.size w wx → Calls Tryz.prog 26 #[.agg #[.int .i64 bk, .int .i64 bn, .slice a2 l2 p2, .slice a3 l3 p3, .slice a4 l4 p4], .int .i64 m] wx fun e w' => e = .returned (.int .i64 (less m (szV d by'))) ∧ Below wx.heap.size wx w') := fun m wx g0 g1 hb =>
    szValue_any d N (.int .i64 bk, .int .i64 bn, .slice a2 l2 p2, .slice a3 l3 p3, .slice a4 l4 p4) by' m wx (VSeg.agree (agree_below (hb.mono hN)) d hv) (by have := hb.size; omega) g0 g1
  have HK : Hid (∀ (m : Int) wx, 0 ≤ m → m ≤ 1048576 → Below w.heap.size w wx → Calls Tryz.prog 27 #[.slice xa ks.length xp, .int .i64 m] wx fun e w' => e = .returned (.int .i64 (less m (szK ks))) ∧ wx = w') := fun m wx g0 g1 hb => szByteSS_any _ _ ks m wx (hk.agree (agree_below (hb.mono hN))) g0 g1

  have Hbox : Hid (∀ o wx, Below (w.alloc o).heap.size (w.alloc o) wx → wx.heap[w.heap.size]? = some o) := fun o wx h => box_row h
  clear ht hv hk h
  unfold RSz
  simp only
  generalize szV d by' = s1 at *
  generalize szK ks = s2 at *
  generalize nm.length = s0 at *
  generalize ks.length = kl at *
  go_enter Tryz.func14, Tryz.ntmps14
  go_wp2_with fail
  refine (HT.out _).mono ?_
  rintro e w1 ⟨rfl, rfl⟩
  by_cases q0 : n < (s0 : Int)
  · rw [less_no _ _ q0]
    go_wp2
    go_ret
    exact ⟨.inl rfl, HB.out _⟩
  rw [less_yes _ _ q0]
  obtain ⟨n1, e1⟩ : ∃ m : Int, m = n - s0 := ⟨_, rfl⟩
  rw [← e1]
  have g10 : 0 ≤ n1 := by omega
  have g11 : n1 ≤ 1048576 := by omega
  have z0 : s0 ≤ 1048576 := by omega
  have y1 : n1 ≤ n := by omega
  clear e1 q0
  go_wp2_with fail
  refine (HV.out n1 _ g10 g11 (HB.out _)).mono ?_
  rintro e w2 ⟨rfl, b2⟩
  by_cases q1 : n1 < (s1 : Int)
  · rw [less_no _ _ q1]
    have B2 := hide' (Below.on (HB.out _) b2)
    clear b2
    go_wp2
    go_ret
    exact ⟨.inl rfl, B2.out⟩
  rw [less_yes _ _ q1]
  obtain ⟨n2, e2⟩ : ∃ m : Int, m = n1 - s1 := ⟨_, rfl⟩
  rw [← e2]
  have g20 : 0 ≤ n2 := by omega
  have g21 : n2 ≤ 1048576 := by omega
  have z1 : s1 ≤ 1048576 := by omega
  have y2 : n2 ≤ n := by omega
  have hr2 := Hbox.out _ _ b2
  have x8 : w2.cell? ⟨w.heap.size, 8, none⟩ = some (.slice xa kl xp) := by rw [cell_of_row _ _ 8 _ _ _ hr2]; rfl
  have B2 := hide' (Below.on (HB.out _) b2)
  clear e2 q1 hr2 b2
  go_wp2_with fail
  refine (HK.out n2 _ g20 g21 B2.out).mono ?_
  rintro e w3 ⟨rfl, rfl⟩
  by_cases q2 : n2 < (s2 : Int)
  · rw [less_no _ _ q2]
    go_wp2
    go_ret
    exact ⟨.inl rfl, B2.out⟩
  rw [less_yes _ _ q2]
  obtain ⟨n3, e3⟩ : ∃ m : Int, m = n2 - s2 := ⟨_, rfl⟩
  rw [← e3]
  have g30 : 0 ≤ n3 := by omega
  have g31 : n3 ≤ 1048576 := by omega
  have z2 : s2 ≤ 1048576 := by omega
  have y3 : n3 ≤ n := by omega
  clear e3 q2
  go_wp2
  go_ret
  exact ⟨.inr ⟨n3, g30, y3, rfl, z0, z1, z2⟩, B2.out⟩
end Go.Proofs.YtfkmmhlllnjhoaaGreatDoor
/-
  szItemS: a list of records is not too great.
-/
namespace Go.Proofs.YtfkmmhlllnjhoaaGreatDoor
open Go.RowKit
set_option linter.unusedVariables false
set_option linter.unusedSimpArgs false

theorem info_laws_Act {n : Nat} (h : n = 9) : (Tryz.prog.info? 45).map (·.size) = some n := by rw [h]; kernel_rfl
theorem info_Act {n : Nat} (h : n = 9) : (Tryz.prog.info? 50).map (·.size) = some n := by rw [h]; kernel_rfl

/-- What szActS leaves. -/
def SzREnd (d : Nat) (l : List (Rcd d)) (w : World) (e : Ending) (w' : World) : Prop := (e = .returned (.int .i64 (-1)) ∨ ∃ n : Int, 0 ≤ n ∧ n ≤ 1048576 ∧ e = .returned (.int .i64 n) ∧ l.length ≤ 1048576 ∧ ∀ i (h : i < l.length), RSz d l[i]) ∧ Below w.heap.size w w'

set_option maxHeartbeats 3200000 in
set_option maxRecDepth 100000 in
theorem szActS_any (d N : Nat) (x : Value) (l : List (Rcd d)) (w : World) (hx : RLSg (fun b => b < N) w d x l) (hN : N ≤ w.heap.size) :
    Calls Tryz.prog 9 #[x, .int .i64 1048576] w (SzREnd d l w) := by
  have HX := hide' hx
  obtain ⟨a, cap, rfl, hlc, hcm, _, _⟩ := hx
  unfold maxLen at hcm
  by_cases hl : (1048576 : Int) - (l.length : Int) < 0
  · go_enter Tryz.func9, Tryz.ntmps9
    go_wp2
    go_ret
    exact ⟨.inl rfl, Below.refl _ _⟩
  have hll : l.length ≤ 1048576 := by omega
  go_enter Tryz.func9, Tryz.ntmps9
  go_wp2
  go_loopw [1, 5] (fun n i wr => ∃ (k : Nat) (m : Int), k ≤ l.length ∧ n = .int .i64 m ∧ 0 ≤ m ∧ m ≤ 1048576 ∧ i = .int .i64 k ∧ Below w.heap.size w wr ∧ Hid (∀ j (h : j < l.length), j < k → RSz d l[j])) (fun _ i _ => l.length - (intOf i).toNat)
  case atStart => exact ⟨0, _, Nat.zero_le _, rfl, by omega, by omega, rfl, Below.refl _ _, fun j h h' => by omega⟩
  case round =>
    obtain ⟨k, m, hk, rfl, hm0, hm1, rfl, hbel, hall⟩ := hrel
    have hz := hbel.size
    by_cases hlt : k < l.length
    · have hlt' : (k : Int) < (l.length : Int) := by omega
      have hXr := HX.out.agree (agree_below (hbel.mono hN))
      obtain ⟨b, off, cs, rfl, hbN, hr, hs⟩ := hXr.at hlt
      have HC := hide' (szAct_any d N cs l[k] m wr hs (by omega) hm0 hm1)
      have hlen := hs.len
      clear hs hXr
      go_wp2_with (refine wpList_load_mid rfl 45 (.tmp 20) (by rfl) b (off + k * 9) (by rfl) cs _ hr Tryz.underlying45 rfl (info_laws_Act hlen) ?_)
      refine HC.out.mono ?_
      rintro e w1 ⟨hcase, b1⟩
      have B1 := Below.on hbel b1
      clear hr b1
      rcases hcase with rfl | ⟨q, hq0, hq1, rfl, hI⟩
      · go_wp2
        go_ret
        exact ⟨.inl rfl, B1⟩
      · have HA : Hid (∀ j (h : j < l.length), j < k + 1 → RSz d l[j]) := fun j h h' => by
          by_cases e : j = k
          · subst e; exact hI
          · exact hall.out j h (by omega)
        clear hI hall
        go_wp2
        go_roundw
        case rel => exact ⟨k + 1, q, by omega, rfl, hq0, by omega, by go_num, B1, HA⟩
        case measure => simp [intOf]; omega
    · have hlt' : ¬ (k : Int) < (l.length : Int) := by omega
      have HA : Hid (∀ j (h : j < l.length), RSz d l[j]) := fun j h => hall.out j h (by omega)
      clear hall
      go_wp2
      go_ret
      exact ⟨.inr ⟨m, hm0, hm1, rfl, hll, HA.out⟩, hbel⟩
end Go.Proofs.YtfkmmhlllnjhoaaGreatDoor
/-
  A function that copies a struct: the argument's box, the answer's, the variable's; and rows of cells by ranges.
-/
namespace Go.Proofs.YtfkmmhlllnjhoaaGreatDoor
open Go.RowKit
set_option linter.unusedVariables false
set_option linter.unusedSimpArgs false

theorem range_of_row {w : World} {g : Nat} {cs : List Value} {T : TypeId} {fr : Nat × Nat} (h : w.heap[g]? = some (.cells cs.toArray T fr)) : w.rangeAt g 0 cs := fun j v hv => by
  rw [Nat.zero_add, cell_of_row w g j _ _ _ h]
  simpa using hv
theorem there_of_row {w : World} {g : Nat} {cs : Array Value} {T : TypeId} (h : w.heap[g]? = some (.cells cs T (0, 0))) : w.there g 0 cs.size := fun j hj => by
  rw [Nat.zero_add, cell_of_row w g j _ _ _ h]
  exact ⟨by simp [hj], frozen_of_row _ _ _ _ _ h⟩
theorem results_cell {P : Program} {fn : Func} {tmps : Array Value} {w : World} {v : Value} {ad : Addr} (s : Nat) (t : TypeId) (hr : fn.results = #[.cell s t]) (hp : tmps.getD s undef = .pointer (some ad)) (hl : (loadVar t ad).run P w = .ok v w) : (results fn tmps).run P w = .ok v w := by
  unfold results
  rw [hr]
  simp only [Array.mapM_eq_mapM_toList, List.mapM_cons, List.mapM_nil, Sem.run_bind, Sem.run_pure, Result.andThen_ok, hp]
  simp [asAddr, hl]
theorem grown_setCells (g : Nat) : ∀ (vs : List Value) (o : Nat) (w : World), w.grownBy (w.setCells g o vs) (some g)
  | [], _, w => World.grownBy.refl w _
  | v :: r, o, w => grownBy_trans (grown1 w g o v) (grown_setCells g r (o + 1) (w.setCell ⟨g, o, none⟩ v))

/-- The three boxes. -/
def BxSt (w : World) (T1 T2 : TypeId) (arg zer cur : Array Value) (wx : World) : Prop :=
  Below w.heap.size w wx ∧ wx.heap[w.heap.size]? = some (.cells arg T1 (0, 0)) ∧ wx.heap[w.heap.size + 1]? = some (.cells zer T2 (0, 0)) ∧ wx.heap[w.heap.size + 1 + 1]? = some (.cells cur T2 (0, 0)) ∧ w.heap.size + 3 ≤ wx.heap.size

theorem bx_start (w : World) (T1 T2 : TypeId) (arg zer cur : Array Value) : BxSt w T1 T2 arg zer cur (((w.alloc (.cells arg T1)).alloc (.cells zer T2)).alloc (.cells cur T2)) := by
  refine ⟨(((Below.refl _ _).alloc (Nat.le_refl _) _).alloc (by simp) _).alloc (by simp; omega) _, ?_, ?_, ?_, by simp⟩
  · rw [Below.heap_alloc _ _ _ (by simp; omega), Below.heap_alloc _ _ _ (by simp)]
    exact (MapKept.heap_alloc w _).1
  · rw [Below.heap_alloc _ _ _ (by simp)]
    have := (MapKept.heap_alloc (w.alloc (.cells arg T1)) (.cells zer T2)).1
    simpa using this
  · have := (MapKept.heap_alloc ((w.alloc (.cells arg T1)).alloc (.cells zer T2)) (.cells cur T2)).1
    simpa using this
theorem bx_below {w wx w1 : World} {T1 T2 : TypeId} {arg zer cur : Array Value} (h : BxSt w T1 T2 arg zer cur wx) (b : Below wx.heap.size wx w1) : BxSt w T1 T2 arg zer cur w1 := by
  obtain ⟨h1, h2, h3, h4, h5⟩ := h
  have hz := b.size
  exact ⟨Below.on h1 b, (b.block _ (by omega)).trans h2, (b.block _ (by omega)).trans h3, (b.block _ (by omega)).trans h4, by omega⟩
theorem bx_turn {w w1 w2 : World} {T1 T2 : TypeId} {arg zer cur cur' : Array Value} (h : BxSt w T1 T2 arg zer cur w1) (hg : w1.grownBy w2 (some (w.heap.size + 1 + 1))) (hr : w2.heap[w.heap.size + 1 + 1]? = some (.cells cur' T2 (0, 0))) : BxSt w T1 T2 arg zer cur' w2 := by
  obtain ⟨h1, h2, h3, h4, h5⟩ := h
  refine ⟨h1.grown hg (by omega) (by intro k hk; simp at hk; omega), (hg.block _ (by omega) (by simp; omega)).trans h2, (hg.block _ (by omega) (by simp)).trans h3, hr, by have := hg.size; omega⟩
theorem bx_set {w w1 : World} {T1 T2 : TypeId} {arg zer cur cur' : Array Value} (h : BxSt w T1 T2 arg zer cur w1) (j : Nat) (v : Value) (hc : cur.setIfInBounds j v = cur') : BxSt w T1 T2 arg zer cur' (w1.setCell ⟨w.heap.size + 1 + 1, j, none⟩ v) := by
  subst hc
  exact bx_turn h (grown1 _ _ _ _) (heap_setCell_same _ _ _ _ _ _ h.2.2.2.1)
theorem bx_set5 {w w1 : World} {T1 T2 : TypeId} {arg zer cur cur' : Array Value} (h : BxSt w T1 T2 arg zer cur w1) (j : Nat) (c0 c1 c2 c3 c4 : Value) (hc : ((((cur.setIfInBounds j c0).setIfInBounds (j + 1) c1).setIfInBounds (j + 2) c2).setIfInBounds (j + 3) c3).setIfInBounds (j + 4) c4 = cur') : BxSt w T1 T2 arg zer cur' (set5 w1 (w.heap.size + 1 + 1) j c0 c1 c2 c3 c4) := by
  subst hc
  exact bx_turn h (set5_grown _ _ _ _ _ _ _ _) (set5_heap _ _ _ _ _ h.2.2.2.1)

/-- Behind the boxes. -/
def Beh (w wx : World) (b : Nat) : Prop := w.heap.size + 3 ≤ b ∧ b < wx.heap.size
theorem beh_below {w wx w1 : World} (b : Below wx.heap.size wx w1) : Agree (Beh w wx) wx w1 := fun k hk => b.block k hk.2
theorem beh_turn {w wx w1 : World} (hg : wx.grownBy w1 (some (w.heap.size + 1 + 1))) : Agree (Beh w wx) wx w1 := fun k hk => hg.block k hk.2 (by have := hk.1; simp; omega)
theorem beh_mono {w wx w1 : World} (h : wx.heap.size ≤ w1.heap.size) : ∀ b, Beh w wx b → Beh w w1 b := fun b hb => ⟨hb.1, Nat.lt_of_lt_of_le hb.2 h⟩
end Go.Proofs.YtfkmmhlllnjhoaaGreatDoor
/-
  toItem: a record copied.
-/
namespace Go.Proofs.YtfkmmhlllnjhoaaGreatDoor
open Go.RowKit
set_option linter.unusedVariables false
set_option linter.unusedSimpArgs false

theorem keys_small {ks : List (List Int)} (h : szK ks ≤ 1048576) : ks.length ≤ 1048576 ∧ ∀ t ∈ ks, t.length ≤ 1048576 := by
  refine ⟨by unfold szK at h; omega, fun t ht => ?_⟩
  obtain ⟨i, hi, rfl⟩ := List.getElem_of_mem ht
  have h1 := pre_succ List.length ks i hi
  have h2 := pre_le List.length ks (i + 1)
  unfold szK at h
  omega

/-- What toItem leaves. -/
def RcEnd (d : Nat) (it : Rcd d) (w : World) (e : Ending) (w' : World) : Prop := ∃ cs, e = .returned (.agg cs.toArray) ∧ RSg (fun b => w.heap.size ≤ b ∧ b < w'.heap.size) w' d cs it ∧ Below w.heap.size w w'

set_option maxHeartbeats 3200000 in
set_option maxRecDepth 100000 in
theorem toAct_any (d N : Nat) (cs : List Value) (it : Rcd d) (w : World) (h : RSg (fun b => b < N) w d cs it) (hN : N ≤ w.heap.size) (hz : RSz d it) :
    Calls Tryz.prog 20 #[.agg cs.toArray] w (RcEnd d it w) := by
  obtain ⟨na, np, bk, bn, a2, l2, p2, a3, l3, p3, a4, l4, p4, xa, xp, rfl, ht, hv, hk⟩ := h.form
  obtain ⟨k, nm, mn, by', ks⟩ := it
  obtain ⟨z0, z1, z2⟩ := hz
  simp only at ht hv hk z0 z1 z2 ⊢
  have hA : ∀ wx, Below w.heap.size w wx → Agree (fun b => b < N) w wx := fun wx hb => agree_below (hb.mono hN)
  have HT : Hid (∀ wx, Below w.heap.size w wx → w.heap.size + 3 ≤ wx.heap.size → Calls Tryz.prog 31 #[.slice na nm.length np] wx fun e w' => ∃ g c, e = .returned (.slice (some ⟨g, 0, none⟩) nm.length c) ∧ TSeg (Beh w w') w' (.slice (some ⟨g, 0, none⟩) nm.length c) nm ∧ Below wx.heap.size wx w') := fun wx hb hs => by
    obtain ⟨_, _, e1, s1, _⟩ := ht.agree (hA wx hb)
    simp at e1
    obtain ⟨rfl, _⟩ := e1
    refine (toByteS_any _ _ nm wx s1 (by omega)).mono ?_
    rintro e w' ⟨rfl, hB, b⟩
    refine ⟨_, _, rfl, (tOwn_new hB).seg.mono fun b' hb' => ?_, b⟩
    have h1 := (tOwn_new hB).lt b' hb'
    simp at hb'
    exact ⟨by omega, h1⟩
  have HV : Hid (∀ wx, Below w.heap.size w wx → w.heap.size + 3 ≤ wx.heap.size → Calls Tryz.prog 32 #[.agg #[.int .i64 bk, .int .i64 bn, .slice a2 l2 p2, .slice a3 l3 p3, .slice a4 l4 p4]] wx fun e w' => ∃ c0 c1 c2 c3 c4, e = .returned (.agg #[c0, c1, c2, c3, c4]) ∧ VSeg (Beh w w') w' d (c0, c1, c2, c3, c4) by' ∧ Below wx.heap.size wx w') := fun wx hb hs => by
    refine (toValue_any d N (.int .i64 bk, .int .i64 bn, .slice a2 l2 p2, .slice a3 l3 p3, .slice a4 l4 p4) by' wx (VSeg.agree (hA wx hb) d hv) (by have := hb.size; omega) z1).mono ?_
    rintro e w' ⟨c0, c1, c2, c3, c4, rfl, B, hO, hB, b⟩
    exact ⟨_, _, _, _, _, rfl, VSeg.mono (fun b' hb' => by have := hB b' hb'; exact ⟨by omega, this.2⟩) d (VOwn.seg d hO), b⟩
  have HK : Hid (∀ wx, Below w.heap.size w wx → w.heap.size + 3 ≤ wx.heap.size → Calls Tryz.prog 33 #[.slice xa ks.length xp] wx fun e w' => ∃ a c, e = .returned (.slice a ks.length c) ∧ KSeg (Beh w w') w' (.slice a ks.length c) ks ∧ Below wx.heap.size wx w') := fun wx hb hs => by
    obtain ⟨q1, q2⟩ := keys_small z2
    refine (toByteSS_any N _ ks wx (hk.agree (hA wx hb)) (by have := hb.size; omega) q1 q2).mono ?_
    rintro e w' ⟨u, rfl, B, hO, hB, b⟩
    have hs := hO.seg.mono (R' := Beh w w') fun b' hb' => by have := hB b' hb'; exact ⟨by omega, this.2⟩
    have hs' := hs
    obtain ⟨a, c, rfl, _⟩ := hs
    exact ⟨a, c, rfl, hs', b⟩

  clear ht hv hk h hA
  have hst0 := hide' (bx_start w 45 50 #[.int .i64 k, .slice na nm.length np, .int .i64 mn, .int .i64 bk, .int .i64 bn, .slice a2 l2 p2, .slice a3 l3 p3, .slice a4 l4 p4, .slice xa ks.length xp] #[.int .i64 0, .slice none 0 0, .int .i64 0, .int .i64 0, .int .i64 0, .slice none 0 0, .slice none 0 0, .slice none 0 0, .slice none 0 0] #[.int .i64 k, .slice none 0 0, .int .i64 0, .int .i64 0, .int .i64 0, .slice none 0 0, .slice none 0 0, .slice none 0 0, .slice none 0 0])
  have HNm : Hid (RcEnd d (k, nm, mn, by', ks) w = RcEnd d (k, nm, mn, by', ks) w) := rfl
  generalize hn0 : nm.length = s0 at *
  generalize hn1 : ks.length = kl at *
  have Hn0 := hide' hn0
  have Hn1 := hide' hn1
  clear hn0 hn1 z0 z1 z2
  go_enter Tryz.func20, Tryz.ntmps20
  go_wp2_with fail
  refine (HT.out _ hst0.out.1 hst0.out.2.2.2.2).mono ?_
  rintro e w1 ⟨g1, c1, rfl, hT1, b1⟩
  have hq := bx_below hst0.out b1
  have hs1 := bx_set hq 1 (.slice (some ⟨g1, 0, none⟩) s0 c1) rfl
  have hs1' := hide' (bx_set hs1 2 (.int .i64 mn) rfl)
  have hg1 := grownBy_trans (grown1 w1 (w.heap.size + 1 + 1) 1 (.slice (some ⟨g1, 0, none⟩) s0 c1)) (grown1 _ (w.heap.size + 1 + 1) 2 (.int .i64 mn))
  have HT1 := hide' ((hT1.agree (beh_turn hg1)).mono (beh_mono hg1.size))
  have u2 := cell_of_row _ _ 2 _ _ _ hq.2.1
  have u3 := cell_of_row _ _ 3 _ _ _ hq.2.1
  have u4 := cell_of_row _ _ 4 _ _ _ hq.2.1
  have u5 := cell_of_row _ _ 5 _ _ _ hq.2.1
  have u6 := cell_of_row _ _ 6 _ _ _ hq.2.1
  have u7 := cell_of_row _ _ 7 _ _ _ hq.2.1
  have t1 := cell_of_row _ _ 1 _ _ _ hq.2.2.2.1
  have t2 := cell_of_row _ _ 2 _ _ _ hq.2.2.2.1
  have f1 := frozen_of_row _ _ 1 _ _ hq.2.2.2.1
  have f2 := frozen_of_row _ _ 2 _ _ hq.2.2.2.1
  simp at u2 u3 u4 u5 u6 u7 t1 t2 hs1'
  clear hT1 b1 hq hs1 hg1 hst0 HT
  go_wp2_with fail
  refine (HV.out _ hs1'.out.1 hs1'.out.2.2.2.2).mono ?_
  rintro e w2 ⟨v0, v1, v2, v3, v4, rfl, hV2, b2⟩
  obtain ⟨vk, vn, e2, m2, q2, e3, m3, q3, e4, m4, q4, rfl, rfl, rfl, rfl, rfl⟩ := VSeg.form d hV2
  have hq := bx_below hs1'.out b2
  have hs2 := hide' (bx_set5 hq 3 (.int .i64 vk) (.int .i64 vn) (.slice e2 m2 q2) (.slice e3 m3 q3) (.slice e4 m4 q4) rfl)
  have hg2 := set5_grown w2 (w.heap.size + 1 + 1) 3 (.int .i64 vk) (.int .i64 vn) (.slice e2 m2 q2) (.slice e3 m3 q3) (.slice e4 m4 q4)
  have HT2 := hide' ((((HT1.out.agree (beh_below b2)).mono (beh_mono b2.size)).agree (beh_turn hg2)).mono (beh_mono hg2.size))
  have HV2 := hide' (VSeg.mono (beh_mono hg2.size) d (VSeg.agree (beh_turn hg2) d hV2))
  have x8 := cell_of_row _ _ 8 _ _ _ hq.2.1
  have r3 := cell_of_row _ _ 3 _ _ _ hq.2.2.2.1
  have r4 := cell_of_row _ _ 4 _ _ _ hq.2.2.2.1
  have r5 := cell_of_row _ _ 5 _ _ _ hq.2.2.2.1
  have r6 := cell_of_row _ _ 6 _ _ _ hq.2.2.2.1
  have r7 := cell_of_row _ _ 7 _ _ _ hq.2.2.2.1
  have k3 := frozen_of_row _ _ 3 _ _ hq.2.2.2.1
  have k4 := frozen_of_row _ _ 4 _ _ hq.2.2.2.1
  have k5 := frozen_of_row _ _ 5 _ _ hq.2.2.2.1
  have k6 := frozen_of_row _ _ 6 _ _ hq.2.2.2.1
  have k7 := frozen_of_row _ _ 7 _ _ hq.2.2.2.1
  simp at x8 r3 r4 r5 r6 r7 hs2
  clear hV2 b2 hq hg2 hs1' HV HT1 u2 u3 u4 u5 u6 u7 t1 t2 f1 f2
  go_wp2_with fail
  refine (HK.out _ hs2.out.1 hs2.out.2.2.2.2).mono ?_
  rintro e w3 ⟨ka, kc, rfl, hK3, b3⟩
  have hq := bx_below hs2.out b3
  have HQ3 := hide' hq
  have hs3 := hide' (bx_set hq 8 (.slice ka kl kc) rfl)
  have hg3 := grown1 w3 (w.heap.size + 1 + 1) 8 (.slice ka kl kc)
  have HT3 := hide' ((((HT2.out.agree (beh_below b3)).mono (beh_mono b3.size)).agree (beh_turn hg3)).mono (beh_mono hg3.size))
  have HV3 := hide' (VSeg.mono (beh_mono hg3.size) d (VSeg.agree (beh_turn hg3) d (VSeg.mono (beh_mono b3.size) d (VSeg.agree (beh_below b3) d HV2.out))))
  have HK3 := hide' ((hK3.agree (beh_turn hg3)).mono (beh_mono hg3.size))
  clear hK3 b3 hq hg3 HK HT2 HV2 x8 r3 r4 r5 r6 r7 k3 k4 k5 k6 k7
  have r8 := cell_of_row _ _ 8 _ _ _ HQ3.out.2.2.2.1
  have k8 := frozen_of_row _ _ 8 _ _ HQ3.out.2.2.2.1
  simp at r8 hs3
  go_upto_region 7 with fail
  generalize w3.setCell ⟨w.heap.size + 1 + 1, 8, none⟩ (.slice ka kl kc) = wA at *
  clear r8 k8 HQ3
  have hr := range_of_row (cs := [.int .i64 k, .slice (some ⟨g1, 0, none⟩) s0 c1, .int .i64 mn, .int .i64 vk, .int .i64 vn, .slice e2 m2 q2, .slice e3 m3 q3, .slice e4 m4 q4, .slice ka kl kc]) hs3.out.2.2.2.1
  have hth : wA.there (w.heap.size + 1) 0 9 := there_of_row hs3.out.2.2.1
  have hone : ∀ v ∈ [Value.int .i64 k, .slice (some ⟨g1, 0, none⟩) s0 c1, .int .i64 mn, .int .i64 vk, .int .i64 vn, .slice e2 m2 q2, .slice e3 m3 q3, .slice e4 m4 q4, .slice ka kl kc], v.oneCell' = true := by
    intro v hv
    simp only [List.mem_cons, List.not_mem_nil, or_false] at hv
    rcases hv with rfl | rfl | rfl | rfl | rfl | rfl | rfl | rfl | rfl <;> rfl
  have hld := run_loadVar_mid (P := Tryz.prog) _ _ _ 50 _ _ (World.rangeAt_setCells_same wA (w.heap.size + 1) 0 [.int .i64 k, .slice (some ⟨g1, 0, none⟩) s0 c1, .int .i64 mn, .int .i64 vk, .int .i64 vn, .slice e2 m2 q2, .slice e3 m3 q3, .slice e4 m4 q4, .slice ka kl kc] hth) Tryz.underlying50 rfl (by kernel_rfl)
  have hg := grown_setCells (w.heap.size + 1) [.int .i64 k, .slice (some ⟨g1, 0, none⟩) s0 c1, .int .i64 mn, .int .i64 vk, .int .i64 vn, .slice e2 m2 q2, .slice e3 m3 q3, .slice e4 m4 q4, .slice ka kl kc] 0 wA
  go_wp2_with (first | (refine wpList_load_mid rfl 50 (.tmp 3) (by rfl) (w.heap.size + 1 + 1) 0 (by rfl) _ _ hr Tryz.underlying50 rfl (by kernel_rfl) ?_) | (refine wpList_store_mid rfl 50 (.tmp 2) (.tmp 22) (by rfl) (w.heap.size + 1) 0 #[.int .i64 k, .slice (some ⟨g1, 0, none⟩) s0 c1, .int .i64 mn, .int .i64 vk, .int .i64 vn, .slice e2 m2 q2, .slice e3 m3 q3, .slice e4 m4 q4, .slice ka kl kc] (by rfl) (by rfl) hth (by kernel_rfl) (all_oneCell_toArray hone) ?_))
  refine bodyPost_ret (v := .agg #[.int .i64 k, .slice (some ⟨g1, 0, none⟩) s0 c1, .int .i64 mn, .int .i64 vk, .int .i64 vn, .slice e2 m2 q2, .slice e3 m3 q3, .slice e4 m4 q4, .slice ka kl kc]) (results_cell 2 50 Tryz.results20 (by rfl) hld) rfl ?_
  have hAg : Agree (Beh w wA) wA _ := fun b hb => hg.block b hb.2 (by have := hb.1; simp; omega)
  have hMo : ∀ b, Beh w wA b → (w.heap.size ≤ b ∧ b < (wA.setCells (w.heap.size + 1) 0 [.int .i64 k, .slice (some ⟨g1, 0, none⟩) s0 c1, .int .i64 mn, .int .i64 vk, .int .i64 vn, .slice e2 m2 q2, .slice e3 m3 q3, .slice e4 m4 q4, .slice ka kl kc]).heap.size) := fun b hb => ⟨by have := hb.1; omega, Nat.lt_of_lt_of_le hb.2 hg.size⟩
  exact ⟨_, rfl, ⟨_, _, _, _, _, _, _, rfl, (HT3.out.agree hAg).mono hMo, VSeg.mono hMo d (VSeg.agree hAg d HV3.out), (HK3.out.agree hAg).mono hMo⟩, hs3.out.1.grown hg (by have := hs3.out.2.2.2.2; omega) (by intro j hj; simp at hj; omega)⟩
end Go.Proofs.YtfkmmhlllnjhoaaGreatDoor
/-
  toActS: a list of records copied.
-/
namespace Go.Proofs.YtfkmmhlllnjhoaaGreatDoor
open Go.RowKit
set_option linter.unusedVariables false
set_option linter.unusedSimpArgs false

theorem infoRc : (Tryz.prog.info? 50).map (fun i => (i.zero, i.size, i.bytes)) = some (some (.agg #[.int .i64 0, .slice none 0 0, .int .i64 0, .int .i64 0, .int .i64 0, .slice none 0 0, .slice none 0 0, .slice none 0 0, .slice none 0 0]), 9, 152) := by kernel_rfl

/-- The first k records are laid. -/
def RPart (wr : World) (g n d : Nat) (l : List (Rcd d)) (k : Nat) : Prop :=
  wr.there g 0 (n * 9) ∧ g < wr.heap.size ∧ ∀ i (h : i < l.length), i < k → ∃ cs, wr.rangeAt g (i * 9) cs ∧ RSg (fun b => g < b ∧ b < wr.heap.size) wr d cs l[i]

theorem there_cut {w : World} {g n : Nat} (h : w.there g 0 n) (o m : Nat) (hm : o + m ≤ n) : w.there g o m := fun j hj => by
  have := h (o + j) (by omega)
  rw [Nat.zero_add] at this
  exact this
theorem there_below {w w' : World} {g o n : Nat} (h : w.there g o n) (hg : g < w.heap.size) (hb : Below w.heap.size w w') : w'.there g o n := fun j hj => by
  obtain ⟨h1, h2⟩ := h j hj
  exact ⟨by rw [World.cell?_of_block (w := w) (w' := w') (hb.block g hg)]; exact h1, by rw [World.frozen?_of_block (w := w) (w' := w') (hb.block g hg)]; exact h2⟩
theorem range_keep {w w' : World} {g o : Nat} {cs : List Value} (h : w.rangeAt g o cs) (hg : g < w.heap.size) (hb : Below w.heap.size w w') : w'.rangeAt g o cs := fun j v hv => (World.cell?_of_block (hb.block g hg)).trans (h j v hv)

theorem rPart_next {wr w2 : World} {g n d : Nat} {l : List (Rcd d)} {k : Nat} {cs : List Value} (h : RPart wr g n d l k) (hk : k < l.length) (hn : l.length ≤ n) (b2 : Below wr.heap.size wr w2) (hs : RSg (fun b => wr.heap.size ≤ b ∧ b < w2.heap.size) w2 d cs l[k]) :
    w2.there g (k * 9) 9 ∧ RPart (w2.setCells g (k * 9) cs) g n d l (k + 1) := by
  obtain ⟨h1, h2, h3⟩ := h
  have hlen := hs.len
  have hth := there_below h1 h2 b2
  have hg := grown_setCells g cs (k * 9) w2
  have hz := b2.size
  have hz2 := hg.size
  have htk := there_cut hth (k * 9) 9 (by omega)
  refine ⟨htk, World.there_setCells hth _ _ _, by omega, fun i hi hik => ?_⟩
  by_cases e : i = k
  · subst e
    refine ⟨cs, World.rangeAt_setCells_same _ _ _ _ (by rw [hlen]; exact htk), ?_⟩
    have ha : Agree (fun b => wr.heap.size ≤ b ∧ b < w2.heap.size) w2 (w2.setCells g (i * 9) cs) := fun b hb => hg.block b hb.2 (by have := hb.1; simp; omega)
    exact (hs.agree ha).mono fun b hb => ⟨by omega, by omega⟩
  · obtain ⟨cs', hr, hv⟩ := h3 i hi (by omega)
    have hl' := hv.len
    refine ⟨cs', World.rangeAt_setCells_apart (range_keep hr h2 b2) _ _ _ (by omega), ?_⟩
    have ha : Agree (fun b => g < b ∧ b < wr.heap.size) wr (w2.setCells g (k * 9) cs) := fun b hb => (hg.block b (by omega) (by have := hb.1; simp; omega)).trans (b2.block b hb.2)
    exact (hv.agree ha).mono fun b hb => ⟨hb.1, by omega⟩

/-- What toActS leaves. -/
def RcSEnd (d : Nat) (l : List (Rcd d)) (w : World) (e : Ending) (w' : World) : Prop := ∃ a c, e = .returned (.slice a l.length c) ∧ RLSg (fun b => w.heap.size ≤ b ∧ b < w'.heap.size) w' d (.slice a l.length c) l ∧ Below w.heap.size w w'

set_option maxHeartbeats 3200000 in
set_option maxRecDepth 100000 in
theorem toActS_any (d N : Nat) (x : Value) (l : List (Rcd d)) (w : World) (hx : RLSg (fun b => b < N) w d x l) (hN : N ≤ w.heap.size) (hn : l.length ≤ 1048576) (hz : ∀ i (h : i < l.length), RSz d l[i]) :
    Calls Tryz.prog 11 #[x] w (RcSEnd d l w) := by
  have HX := hide' hx
  have HZ := hide' hz
  obtain ⟨a, cap, rfl, _, _, _, _⟩ := hx
  obtain ⟨i0, hi, hz0, hz1, hz2⟩ := info_parts infoRc
  clear hz
  go_enter Tryz.func11, Tryz.ntmps11
  go_wp2_with (refine wpList_make_full _ rfl _ _ 27 rfl w.heap.size 50 i0 (.agg #[.int .i64 0, .slice none 0 0, .int .i64 0, .int .i64 0, .int .i64 0, .slice none 0 0, .slice none 0 0, .slice none 0 0, .slice none 0 0]) 9 Tryz.underlying27 hi hz0 hz1 .i64 .i64 _ _ l.length rfl rfl rfl rfl (by rw [hz2]; omega) (by unfold maxLen; omega) (Nat.le_refl _) ?_; intro w1 hown hgrow)
  have hK0 : Hid (RPart w1 w.heap.size l.length d l 0) := by
    rcases hown.2 with ⟨h1, _⟩ | ⟨g, cp, cur, h1, _, h3, _, _, h6, _⟩
    · simp at h1
    · simp only [Value.slice.injEq, Option.some.injEq, Addr.mk.injEq, and_true, true_and] at h1
      obtain ⟨e1, e2⟩ := h1
      subst e1
      refine ⟨?_, (Array.getElem?_eq_some_iff.1 h3).1, fun i hi h => by omega⟩
      have := there_of_row h3
      rw [h6, ← e2] at this
      exact this
  have hb1 : Below w.heap.size w w1 := (Below.refl _ _).grown hgrow (Nat.le_refl _) (by simp)
  clear hown hgrow
  go_loopw [4] (fun i wr => ∃ k : Nat, k ≤ l.length ∧ i = .int .i64 k ∧ Hid (RPart wr w.heap.size l.length d l k) ∧ Below w.heap.size w wr) (fun i _ => l.length - (intOf i).toNat)
  case atStart => exact ⟨0, Nat.zero_le _, rfl, hK0, hb1⟩
  case round =>
    obtain ⟨k, hk, rfl, hK, hbel⟩ := hrel
    clear hK0 hb1
    have hzz := hbel.size
    by_cases hlt : k < l.length
    · have hlt' : (k : Int) < (l.length : Int) := by omega
      have hXr := HX.out.agree (agree_below (hbel.mono hN))
      obtain ⟨b, off, cs, rfl, hbN, hr, hs⟩ := hXr.at hlt
      have HC := hide' (toAct_any d N cs l[k] wr hs (by omega) (HZ.out k hlt))
      have hlen := hs.len
      clear hs hXr
      go_wp2_with (refine wpList_load_mid rfl 45 (.tmp 18) (by rfl) b (off + k * 9) (by rfl) cs _ hr Tryz.underlying45 rfl (info_laws_Act hlen) ?_)
      refine HC.out.mono ?_
      rintro e w2 ⟨cs2, rfl, hs2, b2⟩
      obtain ⟨hth, hP⟩ := rPart_next hK.out hlt (Nat.le_refl _) b2 hs2
      have hl2 := hs2.len
      have HP := hide' hP
      have hone := all_oneCell_toArray hs2.one
      have hsz2 : cs2.toArray.size = 9 := by simpa using hl2
      have hth' : w2.there w.heap.size (k * 9) cs2.toArray.size := by rw [hsz2]; exact hth
      have hB := hide' ((Below.on hbel b2).grown (grown_setCells w.heap.size cs2 (k * 9) w2) (Below.on hbel b2).size (by intro j hj; simp at hj; omega))
      clear hP hs2 b2 hbel hr HC
      go_wp2_with (refine wpList_store_mid rfl 50 (.tmp 21) (.tmp 20) (by rfl) w.heap.size (k * 9) cs2.toArray (by rfl) (by rfl) hth' (info_Act hsz2) hone ?_)
      go_roundw
      case rel => exact ⟨k + 1, by omega, by go_num, HP, hB.out⟩
      case measure => simp [intOf]; omega
    · have hkn : k = l.length := by omega
      have hkn' : ¬ (k : Int) < (l.length : Int) := by omega
      have HF : Hid (RLSg (fun b => w.heap.size ≤ b ∧ b < wr.heap.size) wr d (.slice (some ⟨w.heap.size, 0, none⟩) l.length l.length) l) := by
        refine ⟨_, _, rfl, Nat.le_refl _, by unfold maxLen; omega, by simp, .inr ⟨w.heap.size, 0, rfl, ⟨Nat.le_refl _, hK.out.2.1⟩, fun i hi => ?_⟩⟩
        obtain ⟨cs, hr, hv⟩ := hK.out.2.2 i hi (by omega)
        exact ⟨cs, by rw [Nat.zero_add]; exact hr, hv.mono fun b hb => ⟨by omega, hb.2⟩⟩
      clear hkn hK
      go_wp2
      go_ret
      exact ⟨_, _, rfl, HF.out, hbel⟩
end Go.Proofs.YtfkmmhlllnjhoaaGreatDoor
/-
  eqItem, eqItemS: two readings of one list of records.
-/
namespace Go.Proofs.YtfkmmhlllnjhoaaGreatDoor
open Go.RowKit
set_option linter.unusedVariables false
set_option linter.unusedSimpArgs false

set_option maxHeartbeats 3200000 in
set_option maxRecDepth 100000 in
theorem eqAct_any (d N : Nat) (cs cs' : List Value) (it : Rcd d) (w : World) (h : RSg (fun b => b < N) w d cs it) (h' : RSg (fun b => b < N) w d cs' it) (hN : N ≤ w.heap.size) (hz : RSz d it) :
    Calls Tryz.prog 24 #[.agg cs.toArray, .agg cs'.toArray] w fun e w' => e = .returned (.bool true) ∧ Below w.heap.size w w' := by
  obtain ⟨na, np, bk, bn, a2, l2, p2, a3, l3, p3, a4, l4, p4, xa, xp, rfl, ht, hv, hk⟩ := h.form
  obtain ⟨na', np', bk', bn', a2', l2', p2', a3', l3', p3', a4', l4', p4', xa', xp', rfl, ht', hv', hk'⟩ := h'.form
  obtain ⟨k, nm, mn, by', ks⟩ := it
  obtain ⟨z0, z1, z2⟩ := hz
  simp only at ht hv hk ht' hv' hk' z0 z1 z2 ⊢
  have HB : Hid (∀ o o' : Obj, Below w.heap.size w ((w.alloc o).alloc o')) := fun o o' => ((Below.refl _ _).alloc (Nat.le_refl _) o).alloc (by simp) o'
  have Hbox : Hid (∀ o o' wx, Below ((w.alloc o).alloc o').heap.size ((w.alloc o).alloc o') wx → wx.heap[w.heap.size]? = some o ∧ wx.heap[w.heap.size + 1]? = some o') := fun o o' wx h => ⟨(h.block _ (by simp; omega)).trans (two_boxes w o o').1, (h.block _ (by simp)).trans (two_boxes w o o').2⟩
  have hA : ∀ wx, Below w.heap.size w wx → Agree (fun b => b < N) w wx := fun wx hb => agree_below (hb.mono hN)
  have HT : Hid (∀ wx, Below w.heap.size w wx → Calls Tryz.prog 36 #[.slice na nm.length np, .slice na' nm.length np'] wx fun e w' => e = .returned (.bool true) ∧ Below wx.heap.size wx w') := fun wx hb => by
    obtain ⟨_, _, e1, s1, _⟩ := ht.agree (hA wx hb)
    obtain ⟨_, _, e2, s2, _⟩ := ht'.agree (hA wx hb)
    simp at e1 e2
    obtain ⟨rfl, _⟩ := e1
    obtain ⟨rfl, _⟩ := e2
    exact eqByteS_same _ _ _ _ nm wx s1 s2 (by omega)
  have HV : Hid (∀ wx, Below w.heap.size w wx → Calls Tryz.prog 37 #[.agg #[.int .i64 bk, .int .i64 bn, .slice a2 l2 p2, .slice a3 l3 p3, .slice a4 l4 p4], .agg #[.int .i64 bk', .int .i64 bn', .slice a2' l2' p2', .slice a3' l3' p3', .slice a4' l4' p4']] wx fun e w' => e = .returned (.bool true) ∧ Below wx.heap.size wx w') := fun wx hb =>
    eqValue_any d N (.int .i64 bk, .int .i64 bn, .slice a2 l2 p2, .slice a3 l3 p3, .slice a4 l4 p4) (.int .i64 bk', .int .i64 bn', .slice a2' l2' p2', .slice a3' l3' p3', .slice a4' l4' p4') by' wx (VSeg.agree (hA wx hb) d hv) (VSeg.agree (hA wx hb) d hv') (by have := hb.size; omega) z1
  have HK : Hid (∀ wx, Below w.heap.size w wx → Calls Tryz.prog 38 #[.slice xa ks.length xp, .slice xa' ks.length xp'] wx fun e w' => e = .returned (.bool true) ∧ Below wx.heap.size wx w') := fun wx hb => eqByteSS_same N _ _ ks wx (hk.agree (hA wx hb)) (hk'.agree (hA wx hb)) (by have := hb.size; omega) z2

  clear ht hv hk ht' hv' hk' h h' hA
  generalize nm.length = s0 at *
  generalize ks.length = kl at *
  go_enter Tryz.func24, Tryz.ntmps24
  go_wp2_with fail
  refine (HT.out _ (HB.out _ _)).mono ?_
  rintro e w1 ⟨rfl, b1⟩
  obtain ⟨r1, r2⟩ := Hbox.out _ _ _ b1
  have u2 := cell_of_row _ _ 2 _ _ _ r1
  have t2 := cell_of_row _ _ 2 _ _ _ r2
  have u3 := cell_of_row _ _ 3 _ _ _ r1
  have t3 := cell_of_row _ _ 3 _ _ _ r2
  have u4 := cell_of_row _ _ 4 _ _ _ r1
  have t4 := cell_of_row _ _ 4 _ _ _ r2
  have u5 := cell_of_row _ _ 5 _ _ _ r1
  have t5 := cell_of_row _ _ 5 _ _ _ r2
  have u6 := cell_of_row _ _ 6 _ _ _ r1
  have t6 := cell_of_row _ _ 6 _ _ _ r2
  have u7 := cell_of_row _ _ 7 _ _ _ r1
  have t7 := cell_of_row _ _ 7 _ _ _ r2
  simp at u2 u3 u4 u5 u6 u7 t2 t3 t4 t5 t6 t7
  have B1 := hide' b1
  clear r1 r2 b1
  go_wp2_with fail
  refine (HV.out _ (Below.on (HB.out _ _) B1.out)).mono ?_
  rintro e w2 ⟨rfl, b2⟩
  have B2 := hide' (Below.on B1.out b2)
  obtain ⟨r1, r2⟩ := Hbox.out _ _ _ B2.out
  have u8 := cell_of_row _ _ 8 _ _ _ r1
  have t8 := cell_of_row _ _ 8 _ _ _ r2
  simp at u8 t8
  clear r1 r2 b2
  go_wp2_with fail
  refine (HK.out _ (Below.on (HB.out _ _) B2.out)).mono ?_
  rintro e w3 ⟨rfl, b3⟩
  have B3 := hide' (Below.on (HB.out _ _) (Below.on B2.out b3))
  clear b3
  go_wp2
  go_ret
  exact ⟨rfl, B3.out⟩

set_option maxHeartbeats 3200000 in
set_option maxRecDepth 100000 in
theorem eqActS_any (d N : Nat) (x y : Value) (l : List (Rcd d)) (w : World) (hx : RLSg (fun b => b < N) w d x l) (hy : RLSg (fun b => b < N) w d y l) (hN : N ≤ w.heap.size) (hll : l.length ≤ 1048576) (hz : ∀ i (h : i < l.length), RSz d l[i]) :
    Calls Tryz.prog 13 #[x, y] w fun e w' => e = .returned (.bool true) ∧ Below w.heap.size w w' := by
  have HX := hide' hx
  have HY := hide' hy
  have HZ := hide' hz
  obtain ⟨a, cap, rfl, _, _, _, _⟩ := hx
  obtain ⟨a', cap', rfl, _, _, _, _⟩ := hy
  clear hz
  go_enter Tryz.func13, Tryz.ntmps13
  go_wp2
  go_loopw [5] (fun i wr => ∃ k : Nat, k ≤ l.length ∧ i = .int .i64 k ∧ Below w.heap.size w wr) (fun i _ => l.length - (intOf i).toNat)
  case atStart => exact ⟨0, Nat.zero_le _, rfl, Below.refl _ _⟩
  case round =>
    obtain ⟨k, hk, rfl, hbel⟩ := hrel
    have hz := hbel.size
    by_cases hlt : k < l.length
    · have hlt' : (k : Int) < (l.length : Int) := by omega
      have hXr := HX.out.agree (agree_below (hbel.mono hN))
      have hYr := HY.out.agree (agree_below (hbel.mono hN))
      obtain ⟨b, off, cs, rfl, hbN, hr, hs⟩ := hXr.at hlt
      obtain ⟨b', off', cs', rfl, hbN', hr', hs'⟩ := hYr.at hlt
      have HC := hide' (eqAct_any d N cs cs' l[k] wr.drew (hs.agree (w' := wr.drew) (fun b _ => rfl)) (hs'.agree (w' := wr.drew) (fun b _ => rfl)) (by show N ≤ wr.heap.size; omega) (HZ.out k hlt))
      have hlen := hs.len
      have hlen' := hs'.len
      obtain ⟨na, np, bk, bn, a2, l2, p2, a3, l3, p3, a4, l4, p4, xa, xp, rfl, _⟩ := hs.form
      obtain ⟨na', np', bk', bn', a2', l2', p2', a3', l3', p3', a4', l4', p4', xa', xp', rfl, _⟩ := hs'.form
      have u0 := hr 0 _ rfl
      have t0 := hr' 0 _ rfl
      have u1 := hr 1 _ rfl
      have t1 := hr' 1 _ rfl
      have u2 := hr 2 _ rfl
      have t2 := hr' 2 _ rfl
      have u3 := hr 3 _ rfl
      have t3 := hr' 3 _ rfl
      have u4 := hr 4 _ rfl
      have t4 := hr' 4 _ rfl
      have u5 := hr 5 _ rfl
      have t5 := hr' 5 _ rfl
      have u6 := hr 6 _ rfl
      have t6 := hr' 6 _ rfl
      have u7 := hr 7 _ rfl
      have t7 := hr' 7 _ rfl
      have u8 := hr 8 _ rfl
      have t8 := hr' 8 _ rfl
      simp only [Nat.add_zero] at u0 t0
      have HB := hide' hbel
      clear hs hXr hs' hYr hr hr' hlen hlen' hbel
      generalize l[k] = it at *
      obtain ⟨ik, inm, imn, iby, iks⟩ := it
      simp only at u0 u1 u2 u3 u4 u5 u6 u7 u8 t0 t1 t2 t3 t4 t5 t6 t7 t8 HC
      go_wp2_with fail
      go_region_with (go_at_call 24; refine HC.out.mono ?_; rintro e w1 ⟨rfl, b1⟩)
      all_goals
        have B1 := Below.on HB.out.drew b1
        clear u0 u1 u2 u3 u4 u5 u6 u7 u8 t0 t1 t2 t3 t4 t5 t6 t7 t8
        go_wp2
        go_roundw
        case rel => exact ⟨k + 1, by omega, by go_num, B1⟩
        case measure => simp [intOf]; omega
    · have hlt' : ¬ (k : Int) < (l.length : Int) := by omega
      go_wp2
      go_ret
      exact ⟨rfl, hbel⟩
end Go.Proofs.YtfkmmhlllnjhoaaGreatDoor
/-
  bytes.Compare of two slices of bytes.
-/
namespace Go.Proofs.YtfkmmhlllnjhoaaGreatDoor
open Go.RowKit
set_option linter.unusedVariables false

set_option maxHeartbeats 800000 in
set_option maxRecDepth 100000 in
theorem bytes_Compare_any (a b : Option Addr) (c1 c2 : Nat) (xs ys : List Int) (w : World) (ha : Seg w a xs) (hb : Seg w b ys) :
    Calls Tryz.prog 95 #[.slice a xs.length c1, .slice b ys.length c2] w fun e w' => e = .returned (.int .i64 (Lib.compareBytes (u8s xs) (u8s ys))) ∧ w = w' := by
  go_enter Tryz.func95, Tryz.ntmps95
  go_wp2
  rw [run_callFunc_extern Tryz.func103 (by kernel_rfl) (by kernel_rfl) (by kernel_rfl) (e := Extern.BytealgCompare.compare) (by kernel_rfl), run_compare_seg c1 c2 ha hb]
  simp only [Result.andThen]
  rw [Oper.upon_value]
  go_wp2
  go_ret
  exact ⟨rfl, rfl⟩

end Go.Proofs.YtfkmmhlllnjhoaaGreatDoor
