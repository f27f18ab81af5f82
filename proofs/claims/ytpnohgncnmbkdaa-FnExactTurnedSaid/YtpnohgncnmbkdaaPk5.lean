/-
  Texts that a law leans on, one behind the other; no statement is proved here.
-/
import Derived.Test.YtpnohgncnmbkdaaPk1
import Derived.Deep.RegionHeld3
import Derived.Deep.Cut
import Derived.Test.YtpnohgncnmbkdaaPk0
import Derived.Laws.OwnMore
import Derived.Deep.AppendLies
/-
  FnExactLeads answers true, once both calls' ends are known; written by wip/gen/graph.py.
-/
namespace Go.Proofs.Ytpnohgncnmbkdaa
open Go.RowKit
set_option linter.unusedVariables false
set_option linter.unusedSimpArgs false

set_option maxHeartbeats 6400000 in
set_option maxRecDepth 100000 in
theorem walk_WgLd (n : Int) (p : Int) (q : Int) (x : Value) (E : List Edg) (R : Bool) (w : World) (hx : ESeg (fun b => b < w.heap.size) w x E)
    (HSp : ∀ u wx, ESeg (fun b => b < wx.heap.size) wx u E → Calls Try.prog 41 #[.agg #[.int .i64 n, u], .int .i64 p, .int .i64 q] wx (fun e w' => e = .returned (.bool R) ∧ Below wx.heap.size wx w'))
    (HIm : ∀ u wx, ESeg (fun b => b < wx.heap.size) wx u E → Below w.heap.size w wx → Calls Try.prog 26 #[.agg #[.int .i64 n, u], .int .i64 p, .int .i64 q] wx (fun e w' => e = .returned (.bool R) ∧ Below wx.heap.size wx w')) :
    Calls Try.prog 12 #[.agg #[.int .i64 n, x], .int .i64 p, .int .i64 q] w fun e w' => e = .returned (.bool true) ∧ Below w.heap.size w w' := by
  have Hb : Hid (∀ o : Obj, Below w.heap.size w (w.alloc o)) := fun o => (Below.refl _ _).alloc (Nat.le_refl _) o
  have Hbox : Hid (∀ o wx, Below (w.alloc o).heap.size (w.alloc o) wx → wx.heap[w.heap.size]? = some o) := fun o wx h => box_row h
  have HX : Hid (∀ wx, Below w.heap.size w wx → ESeg (fun b => b < w.heap.size) wx x E) := fun wx hb => hx.agree (agree_below hb)
  have HS : Hid (∀ wx, Below w.heap.size w wx → Calls Try.prog 27 #[.agg #[.int .i64 n, x], .int .i64 1048576] wx fun e w' => e = .returned (.int .i64 (lessN 1048576 E.length)) ∧ Below wx.heap.size wx w') := fun wx hb => szGraph_any _ n x E wx (HX.out wx hb) (fun b hb' => Nat.lt_of_lt_of_le hb' hb.size)
  have HT : Hid (E.length ≤ 1048576 → ∀ wx, Below w.heap.size w wx → Calls Try.prog 28 #[.agg #[.int .i64 n, x]] wx fun e w' => ∃ u, e = .returned (.agg #[.int .i64 n, u]) ∧ EOwn w' wx.heap.size u E ∧ Below wx.heap.size wx w') := fun hl wx hb => toGraph_any w.heap.size n x E wx (HX.out wx hb) hb.size hl
  have HEq : Hid (∀ (y z : Value) wx, ESeg (fun b => b < wx.heap.size) wx y E → ESeg (fun b => b < wx.heap.size) wx z E → Calls Try.prog 29 #[.agg #[.int .i64 n, y], .agg #[.int .i64 n, z]] wx fun e w' => e = .returned (.bool true) ∧ Below wx.heap.size wx w') := fun y z wx h1 h2 => eqGraph_same wx.heap.size n y z E wx h1 h2 (Nat.le_refl _)
  have HSp' := hide' HSp
  have HIm' := hide' HIm
  obtain ⟨a, cap, rfl, -⟩ := hx
  clear HSp HIm HX
  by_cases hz : (1048576 : Int) < (E.length : Int)
  · have hl : lessN 1048576 E.length = -1 := if_pos hz
    rw [hl] at HS
    clear hl HT HEq HSp' HIm'
    generalize E.length = ll at *
    go_enter Try.func12, Try.ntmps12
    go_wp2_with fail
    refine (HS.out _ (Hb.out _)).mono ?_
    rintro e w1 ⟨rfl, b1⟩
    have B1 := Below.on (Hb.out _) b1
    clear b1
    go_wp2
    go_ret
    exact ⟨rfl, B1⟩
  have hl : lessN 1048576 E.length = 1048576 - E.length := if_neg hz
  rw [hl] at HS
  have HT' := hide' (HT.out (by omega))
  have hll : E.length ≤ 1048576 := by omega
  have hz0 : 0 ≤ (1048576 : Int) - (E.length : Int) := by omega
  have hz1 : (1048576 : Int) - (E.length : Int) ≤ 1048576 := by omega
  clear hl hz HT
  generalize hEl : E.length = ll at *
  generalize (1048576 : Int) - (ll : Int) = lft at *
  go_enter Try.func12, Try.ntmps12
  go_wp2_with fail
  refine (HS.out _ (Hb.out _)).mono ?_
  rintro e w1 ⟨rfl, b1⟩
  obtain ⟨y0, y1, -⟩ := row2 (Hbox.out _ _ b1)
  have B1 := hide' b1
  have HT1 := hide' (HT'.out w1 (Below.on (Hb.out _) b1))
  clear b1 HS
  go_wp2_with fail
  refine HT1.out.mono ?_
  rintro e w2 ⟨u, rfl, hO2, b2⟩
  have hS2 := hide' (HSp'.out u w2 hO2.read)
  have B2 := hide' (Below.on B1.out b2)
  obtain ⟨ua, uc, hu⟩ := hO2.form
  rw [hEl] at hu
  subst hu
  clear hO2 b2 HT1 B1 y0 y1
  go_wp2_with fail
  refine hS2.out.mono ?_
  rintro e w3 ⟨rfl, b3⟩
  have B3 := hide' (Below.on B2.out b3)
  clear b3 hS2 B2
  obtain ⟨y0, y1, -⟩ := row2 (Hbox.out _ _ B3.out)
  have HT3 := hide' (HT'.out w3 (Below.on (Hb.out _) B3.out))
  go_wp2_with fail
  refine HT3.out.mono ?_
  rintro e w4 ⟨v, rfl, hO4, b4⟩
  obtain ⟨va, vc, hvf⟩ := hO4.form
  rw [hEl] at hvf
  subst hvf
  have bal : Below w4.heap.size w4 (w4.alloc (.cells #[.int .i64 n, .slice va ll vc] 25)) := (Below.refl _ _).alloc (Nat.le_refl _) _
  have B4 := hide' (Below.on (Below.on B3.out b4) bal)
  have hI4 := hide' (HIm'.out _ _ (hO4.on bal).read (Below.on (Hb.out _) B4.out))
  have HO4 := hide' (hO4.on bal)
  have hx4 := (MapKept.heap_alloc w4 (.cells #[.int .i64 n, .slice va ll vc] 25)).1
  have HBx : Hid (∀ k, (Value.slice va ll vc).ownBlock = some k → w3.heap.size ≤ k ∧ k < w4.heap.size) := hO4.lt
  have hz34 : w3.heap.size ≤ w4.heap.size := b4.size
  have Hx4 : Hid (∀ wx, Below (w4.alloc (.cells #[.int .i64 n, .slice va ll vc] 25)).heap.size (w4.alloc (.cells #[.int .i64 n, .slice va ll vc] 25)) wx → wx.heap[w4.heap.size]? = some (.cells #[.int .i64 n, .slice va ll vc] 25)) := fun wx hb => box_row hb
  clear hO4 b4 bal HT3 y0 y1 hx4
  go_wp2_with fail
  refine hI4.out.mono ?_
  rintro e w5 ⟨rfl, b5⟩
  have B5 := hide' (Below.on B4.out b5)
  have HO5 := hide' (HO4.out.on b5)
  obtain ⟨v0, v1, -⟩ := row2 (Hx4.out _ b5)
  have Hx5 := hide' (Hx4.out _ b5)
  clear b5 hI4 HO4 B4
  obtain ⟨y0, y1, -⟩ := row2 (Hbox.out _ _ B5.out)
  have HTd : Hid (Calls Try.prog 28 #[.agg #[.int .i64 n, .slice a ll cap]] w5.drew fun e w7 => ∃ za zc, e = .returned (.agg #[.int .i64 n, .slice za ll zc]) ∧ (w7.cell? ⟨w.heap.size, 0, none⟩ = some (.int .i64 n) ∧ w7.cell? ⟨w.heap.size, 1, none⟩ = some (.slice a ll cap) ∧ w7.cell? ⟨w4.heap.size, 0, none⟩ = some (.int .i64 n) ∧ w7.cell? ⟨w4.heap.size, 1, none⟩ = some (.slice va ll vc)) ∧ Hid (Calls Try.prog 29 #[.agg #[.int .i64 n, .slice va ll vc], .agg #[.int .i64 n, .slice za ll zc]] w7 fun e w8 => e = .returned (.bool true) ∧ (w8.cell? ⟨w.heap.size, 0, none⟩ = some (.int .i64 n) ∧ w8.cell? ⟨w.heap.size, 1, none⟩ = some (.slice a ll cap) ∧ w8.cell? ⟨w4.heap.size, 0, none⟩ = some (.int .i64 n) ∧ w8.cell? ⟨w4.heap.size, 1, none⟩ = some (.slice va ll vc)) ∧ Hid (Below w5.heap.size w5 w8))) := by
    refine (HT'.out w5.drew (Below.on (Hb.out _) B5.out).drew).mono ?_
    rintro e w7 ⟨z, rfl, hO7, b7⟩
    obtain ⟨za, zc, hzf⟩ := hO7.form
    rw [hEl] at hzf
    subst hzf
    have b67 : Below w5.heap.size w5 w7 := Below.on (Below.refl _ w5).drew b7
    have hkp : ∀ wy, Below w5.heap.size w5 wy → (wy.cell? ⟨w.heap.size, 0, none⟩ = some (.int .i64 n) ∧ wy.cell? ⟨w.heap.size, 1, none⟩ = some (.slice a ll cap) ∧ wy.cell? ⟨w4.heap.size, 0, none⟩ = some (.int .i64 n) ∧ wy.cell? ⟨w4.heap.size, 1, none⟩ = some (.slice va ll vc)) := fun wy hb => by
      obtain ⟨f0, f1, -⟩ := row2 (Hbox.out _ _ (Below.on B5.out hb))
      obtain ⟨f2, f3, -⟩ := row2 ((hb.block w4.heap.size ((Array.getElem?_eq_some_iff.1 Hx5.out).1)).trans Hx5.out)
      exact ⟨f0, f1, f2, f3⟩
    refine ⟨za, zc, rfl, hkp _ b67, ?_⟩
    exact (HEq.out _ _ w7 (HO5.out.on b67).read hO7.read).mono fun e w8 h => ⟨h.1, hkp _ (Below.on b67 h.2), Below.on b67 h.2⟩
  go_wp2_with fail
  go_region_held3 (fun wx => wx.cell? ⟨w.heap.size, 0, none⟩ = some (.int .i64 n) ∧ wx.cell? ⟨w.heap.size, 1, none⟩ = some (.slice a ll cap) ∧ wx.cell? ⟨w4.heap.size, 0, none⟩ = some (.int .i64 n) ∧ wx.cell? ⟨w4.heap.size, 1, none⟩ = some (.slice va ll vc)) (go_keep) (first
    | (go_at_call 28; refine HTd.out.mono ?_; rintro e w7 ⟨za, zc, rfl, ⟨i0, i1, i2, i3⟩, hE7⟩)
    | (go_at_call 29; refine hE7.out.mono ?_; rintro e w8 ⟨rfl, ⟨j0, j1, j2, j3⟩, hb8⟩)
    | fail)
  have HB := hide' (Below.on (Hb.out _) (Below.on B5.out hb8.out))
  go_wp2
  go_ret
  exact ⟨rfl, HB.out⟩
end Go.Proofs.Ytpnohgncnmbkdaa
/-
  Graphs: what can be come to, as l9reach reckons it; plain mathematics. The rounds come to an end: what is left is closed, and has nothing that can't be come to.
-/
namespace Go.Proofs.Ytpnohgncnmbkdaa
open Go.RowKit
set_option linter.unusedVariables false
set_option linter.unusedSimpArgs false

/-- Marks: is it so of v? -/
def bAt (is : List Bool) (v : Int) : Bool := is.getD v.toNat false
/-- v is marked. -/
def bSet (is : List Bool) (v : Int) : List Bool := is.set v.toNat true
/-- Those told are marked. -/
def markF (from' : List Int) (is : List Bool) : List Bool := from'.foldl bSet is
/-- One edge. -/
def edgeF (is : List Bool) (e : Edg) : List Bool := if bAt is e.1 = true then bSet is e.2 else is
/-- One round over all edges. -/
def roundF (E : List Edg) (is : List Bool) : List Bool := E.foldl edgeF is
/-- k rounds. -/
def roundsF (E : List Edg) : Nat → List Bool → List Bool
  | 0, is => is
  | k + 1, is => roundF E (roundsF E k is)
/-- Those that are marked, ascending. -/
def outF (is : List Bool) (n : Nat) : List Int := ((List.range n).filter fun v => is.getD v false).map fun v : Nat => (v : Int)
/-- What l9reach answers. -/
def reachF (n : Nat) (E : List Edg) (from' : List Int) : List Int := outF (roundsF E n (markF from' (List.replicate n false))) n

theorem bSet_len (is : List Bool) (v : Int) : (bSet is v).length = is.length := by simp [bSet]
theorem markF_len : ∀ (l : List Int) (is : List Bool), (markF l is).length = is.length
  | [], _ => rfl
  | x :: r, is => by
    show (markF r (bSet is x)).length = _
    rw [markF_len r, bSet_len]
theorem edgeF_len (is : List Bool) (e : Edg) : (edgeF is e).length = is.length := by
  unfold edgeF
  split
  · exact bSet_len _ _
  · rfl
theorem roundF_len : ∀ (E : List Edg) (is : List Bool), (roundF E is).length = is.length
  | [], _ => rfl
  | x :: r, is => by
    show (roundF r (edgeF is x)).length = _
    rw [roundF_len r, edgeF_len]
theorem roundsF_len (E : List Edg) : ∀ (k : Nat) (is : List Bool), (roundsF E k is).length = is.length
  | 0, _ => rfl
  | k + 1, is => by
    show (roundF E (roundsF E k is)).length = _
    rw [roundF_len, roundsF_len E k]
theorem roundF_succ (E : List Edg) (is : List Bool) (k : Nat) (h : k < E.length) : roundF (E.take (k + 1)) is = edgeF (roundF (E.take k) is) E[k] := by
  unfold roundF
  rw [List.take_succ_eq_append_getElem h, List.foldl_append]
  rfl
theorem markF_succ (l : List Int) (is : List Bool) (k : Nat) (h : k < l.length) : markF (l.take (k + 1)) is = bSet (markF (l.take k) is) l[k] := by
  unfold markF
  rw [List.take_succ_eq_append_getElem h, List.foldl_append]
  rfl
theorem outF_zero (is : List Bool) : outF is 0 = [] := rfl
theorem outF_succ (is : List Bool) (n : Nat) : outF is (n + 1) = outF is n ++ (if is.getD n false = true then [(n : Int)] else []) := by
  unfold outF
  rw [List.range_succ, List.filter_append, List.map_append, List.filter_cons, List.filter_nil]
  by_cases h : is.getD n false = true
  · rw [if_pos h, if_pos h]
    rfl
  · rw [if_neg h, if_neg h]
    rfl

theorem bAt_set {is : List Bool} {v u : Int} (hv : 0 ≤ v) (hu : 0 ≤ u) (hl : v.toNat < is.length) : bAt (bSet is v) u = (bAt is u || decide (u = v)) := by
  unfold bAt bSet
  by_cases e : u = v
  · subst e
    simp [hl]
  · have hne : v.toNat ≠ u.toNat := by omega
    simp [List.getD_eq_getElem?_getD, List.getElem?_set_ne hne, e]

/-- What can be come to from those told. -/
inductive Rch (E : List Edg) (from' : List Int) : Int → Prop
  | told {v : Int} : v ∈ from' → Rch E from' v
  | edge {e : Edg} : e ∈ E → Rch E from' e.1 → Rch E from' e.2

/-- All ends are in the bounds. -/
def InG (n : Nat) (E : List Edg) : Prop := ∀ e ∈ E, 0 ≤ e.1 ∧ e.1 < n ∧ 0 ≤ e.2 ∧ e.2 < n

theorem edge_keeps {n : Nat} {is : List Bool} {e : Edg} {u : Int} (hl : is.length = n) (he : 0 ≤ e.1 ∧ e.1 < n ∧ 0 ≤ e.2 ∧ e.2 < n) (hu : 0 ≤ u) (h : bAt is u = true) : bAt (edgeF is e) u = true := by
  unfold edgeF
  split
  · rw [bAt_set he.2.2.1 hu (by omega), h]
    rfl
  · exact h
theorem round_keeps {n : Nat} : ∀ (E : List Edg) (is : List Bool) {u : Int}, is.length = n → InG n E → 0 ≤ u → bAt is u = true → bAt (roundF E is) u = true
  | [], _, _, _, _, _, h => h
  | e :: r, is, u, hl, hE, hu, h => round_keeps r (edgeF is e) (by rw [edgeF_len, hl]) (fun x hx => hE x (List.mem_cons_of_mem _ hx)) hu (edge_keeps hl (hE e (by simp)) hu h)
/-- A round does each edge, at least as far as the marks were there at its beginning. -/
theorem round_does {n : Nat} : ∀ (E : List Edg) (is : List Bool) {e : Edg}, is.length = n → InG n E → e ∈ E → bAt is e.1 = true → bAt (roundF E is) e.2 = true
  | [], _, _, _, _, he, _ => by simp at he
  | x :: r, is, e, hl, hE, he, h => by
    have hx := hE x (by simp)
    have hl' : (edgeF is x).length = n := by rw [edgeF_len, hl]
    have hr : InG n r := fun y hy => hE y (List.mem_cons_of_mem _ hy)
    rcases List.mem_cons.1 he with rfl | he
    · refine round_keeps r _ hl' hr hx.2.2.1 ?_
      unfold edgeF
      rw [if_pos h, bAt_set hx.2.2.1 hx.2.2.1 (by omega)]
      simp
    · exact round_does r _ hl' hr he (edge_keeps hl hx (hE e (List.mem_cons_of_mem _ he)).1 h)
/-- What is marked can be come to. -/
def Sound (E : List Edg) (from' : List Int) (is : List Bool) : Prop := ∀ u : Int, 0 ≤ u → bAt is u = true → Rch E from' u
theorem edge_sound {n : Nat} {E : List Edg} {from' : List Int} {is : List Bool} {e : Edg} (hl : is.length = n) (he : 0 ≤ e.1 ∧ e.1 < n ∧ 0 ≤ e.2 ∧ e.2 < n) (hm : e ∈ E) (h : Sound E from' is) : Sound E from' (edgeF is e) := by
  intro u hu hb
  unfold edgeF at hb
  split at hb
  · next hc =>
    rw [bAt_set he.2.2.1 hu (by omega), Bool.or_eq_true, decide_eq_true_eq] at hb
    rcases hb with hb | rfl
    · exact h u hu hb
    · exact .edge hm (h e.1 he.1 hc)
  · exact h u hu hb
theorem round_sound {n : Nat} {E : List Edg} {from' : List Int} : ∀ (l : List Edg) (is : List Bool), is.length = n → InG n l → (∀ e ∈ l, e ∈ E) → Sound E from' is → Sound E from' (roundF l is)
  | [], _, _, _, _, h => h
  | e :: r, is, hl, hE, hm, h => round_sound r (edgeF is e) (by rw [edgeF_len, hl]) (fun x hx => hE x (List.mem_cons_of_mem _ hx)) (fun x hx => hm x (List.mem_cons_of_mem _ hx)) (edge_sound hl (hE e (by simp)) (hm e (by simp)) h)
theorem rounds_sound {n : Nat} {E : List Edg} {from' : List Int} (hE : InG n E) : ∀ (k : Nat) (is : List Bool), is.length = n → Sound E from' is → Sound E from' (roundsF E k is)
  | 0, _, _, h => h
  | k + 1, is, hl, h => round_sound E _ (by rw [roundsF_len, hl]) hE (fun e he => he) (rounds_sound hE k is hl h)
theorem mark_at {n : Nat} : ∀ (l : List Int) (is : List Bool) {u : Int}, is.length = n → (∀ v ∈ l, 0 ≤ v ∧ v < n) → 0 ≤ u → (bAt (markF l is) u = true ↔ bAt is u = true ∨ u ∈ l)
  | [], is, u, hl, hf, hu => by simp [markF]
  | x :: r, is, u, hl, hf, hu => by
    have hx := hf x (by simp)
    have h1 := mark_at r (bSet is x) (u := u) (by rw [bSet_len, hl]) (fun v hv => hf v (List.mem_cons_of_mem _ hv)) hu
    show bAt (markF r (bSet is x)) u = true ↔ _
    rw [h1, bAt_set hx.1 hu (by omega), Bool.or_eq_true, decide_eq_true_eq, List.mem_cons]
    constructor
    · rintro ((h | h) | h)
      · exact .inl h
      · exact .inr (.inl h)
      · exact .inr (.inr h)
    · rintro (h | h | h)
      · exact .inl (.inl h)
      · exact .inl (.inr h)
      · exact .inr h

/-- How many are marked. -/
def cntB (is : List Bool) : Nat := is.count true
theorem cnt_le (is : List Bool) : cntB is ≤ is.length := List.count_le_length
theorem cnt_set : ∀ (is : List Bool) (k : Nat), cntB is ≤ cntB (is.set k true) ∧ (k < is.length → is.getD k false = false → cntB (is.set k true) = cntB is + 1)
  | [], k => ⟨Nat.le_refl _, fun h => by simp at h⟩
  | b :: r, 0 => by
    constructor
    · cases b <;> simp [cntB]
    · intro _ h
      simp at h
      subst h
      simp [cntB]
  | b :: r, k + 1 => by
    obtain ⟨h1, h2⟩ := cnt_set r k
    have e1 : cntB (b :: r) = cntB r + (if b = true then 1 else 0) := by cases b <;> simp [cntB]
    have e2 : cntB (b :: r.set k true) = cntB (r.set k true) + (if b = true then 1 else 0) := by cases b <;> simp [cntB]
    constructor
    · show cntB (b :: r) ≤ cntB (b :: r.set k true)
      rw [e1, e2]
      omega
    · intro hk hb
      show cntB (b :: r.set k true) = cntB (b :: r) + 1
      rw [e1, e2, h2 (by simp at hk; omega) (by simpa using hb)]
      omega
theorem cnt_edge (is : List Bool) (e : Edg) : cntB is ≤ cntB (edgeF is e) ∧ (cntB (edgeF is e) = cntB is → e.2.toNat < is.length → edgeF is e = is) := by
  unfold edgeF
  split
  · next h =>
    have h1 := cnt_set is e.2.toNat
    refine ⟨h1.1, fun he hl => ?_⟩
    cases hb : is.getD e.2.toNat false with
    | false =>
      have := h1.2 hl hb
      unfold bSet at he
      omega
    | true =>
      unfold bSet
      apply List.ext_getElem?
      intro j
      by_cases ej : e.2.toNat = j
      · subst ej
        rw [List.getElem?_set_self hl]
        rw [List.getD_eq_getElem?_getD, List.getElem?_eq_getElem hl] at hb
        rw [List.getElem?_eq_getElem hl]
        simpa using hb.symm
      · rw [List.getElem?_set_ne ej]
  · exact ⟨Nat.le_refl _, fun _ _ => rfl⟩
theorem cnt_round {n : Nat} : ∀ (E : List Edg) (is : List Bool), is.length = n → InG n E → cntB is ≤ cntB (roundF E is) ∧ (cntB (roundF E is) = cntB is → roundF E is = is)
  | [], _, _, _ => ⟨Nat.le_refl _, fun _ => rfl⟩
  | e :: r, is, hl, hE => by
    have he := hE e (by simp)
    obtain ⟨h1, h2⟩ := cnt_edge is e
    obtain ⟨h3, h4⟩ := cnt_round r (edgeF is e) (by rw [edgeF_len, hl]) fun x hx => hE x (List.mem_cons_of_mem _ hx)
    constructor
    · show cntB is ≤ cntB (roundF r (edgeF is e))
      omega
    · intro heq
      have heq' : cntB (roundF r (edgeF is e)) = cntB is := heq
      show roundF r (edgeF is e) = is
      rw [h4 (by omega), h2 (by omega) (by omega)]
/-- After k rounds: nothing more comes, or there are at least k marks. -/
theorem rounds_grow {n : Nat} {E : List Edg} (hE : InG n E) (is : List Bool) (hl : is.length = n) : ∀ k, roundF E (roundsF E k is) = roundsF E k is ∨ k < cntB (roundsF E (k + 1) is)
  | 0 => by
    obtain ⟨h1, h2⟩ := cnt_round E is hl hE
    by_cases h : cntB (roundF E is) = cntB is
    · exact .inl (h2 h)
    · refine .inr ?_
      show 0 < cntB (roundF E is)
      omega
  | k + 1 => by
    have hl' : (roundsF E (k + 1) is).length = n := by rw [roundsF_len, hl]
    obtain ⟨h1, h2⟩ := cnt_round E (roundsF E (k + 1) is) hl' hE
    rcases rounds_grow hE is hl k with h | h
    · refine .inl ?_
      show roundF E (roundF E (roundsF E k is)) = roundF E (roundsF E k is)
      rw [h, h]
    · by_cases hc : cntB (roundF E (roundsF E (k + 1) is)) = cntB (roundsF E (k + 1) is)
      · exact .inl (h2 hc)
      · refine .inr ?_
        show k + 1 < cntB (roundF E (roundsF E (k + 1) is))
        omega
/-- n rounds are enough. -/
theorem rounds_still {n : Nat} {E : List Edg} (hE : InG n E) (is : List Bool) (hl : is.length = n) : roundF E (roundsF E n is) = roundsF E n is := by
  rcases rounds_grow hE is hl n with h | h
  · exact h
  · have h1 := cnt_le (roundsF E (n + 1) is)
    rw [roundsF_len, hl] at h1
    omega

/-- l9reach answers what can be come to. -/
theorem reach_iff {n : Nat} {E : List Edg} {from' : List Int} (hE : InG n E) (hf : ∀ v ∈ from', 0 ≤ v ∧ v < n) {u : Int} (hu : 0 ≤ u) : bAt (roundsF E n (markF from' (List.replicate n false))) u = true ↔ Rch E from' u := by
  have hl : (markF from' (List.replicate n false)).length = n := by rw [markF_len]; simp
  have h0 : ∀ u : Int, 0 ≤ u → (bAt (markF from' (List.replicate n false)) u = true ↔ u ∈ from') := fun u hu => by
    rw [mark_at from' _ (by simp) hf hu]
    simp [bAt, List.getD_eq_getElem?_getD, List.getElem?_replicate]
    intro h
    split at h <;> simp at h
  constructor
  · exact rounds_sound hE n _ hl (fun u hu hb => .told ((h0 u hu).1 hb)) u hu
  · intro hr
    have hst := rounds_still hE _ hl
    clear hu
    induction hr with
    | told hv =>
      have hv' := hf _ hv
      have hk : ∀ k, bAt (roundsF E k (markF from' (List.replicate n false))) _ = true := fun k => by
        induction k with
        | zero => exact (h0 _ hv'.1).2 hv
        | succ k ih => exact round_keeps E _ (by rw [roundsF_len, hl]) hE hv'.1 ih
      exact hk n
    | edge he _ ih =>
      rw [← hst]
      exact round_does E _ (by rw [roundsF_len, hl]) hE he ih
theorem mem_outF {is : List Bool} {n : Nat} {u : Int} : u ∈ outF is n ↔ 0 ≤ u ∧ u < n ∧ bAt is u = true := by
  unfold outF
  simp only [List.mem_map, List.mem_filter, List.mem_range]
  constructor
  · rintro ⟨v, ⟨h1, h2⟩, rfl⟩
    exact ⟨by omega, by omega, by simpa [bAt] using h2⟩
  · rintro ⟨h1, h2, h3⟩
    exact ⟨u.toNat, ⟨by omega, h3⟩, by omega⟩
end Go.Proofs.Ytpnohgncnmbkdaa
/-
  l9reach of the specification.
-/
namespace Go.Proofs.Ytpnohgncnmbkdaa
open Go.RowKit
set_option linter.unusedVariables false
set_option linter.unusedSimpArgs false

theorem infoB : (Try.prog.info? 4).map (fun i => (i.zero, i.size, i.bytes)) = some (some (.bool false), 1, 1) := by kernel_rfl

/-- A row of bools in block D. -/
def BRow (D : Nat) (dn : List Bool) (w : World) : Prop := w.heap[D]? = some (.cells (dn.map Value.bool).toArray 4 (0, 0))
theorem BRow.at {D : Nat} {dn : List Bool} {w : World} (h : BRow D dn w) {m : Nat} (hm : m < dn.length) : w.cell? ⟨D, m, none⟩ = some (.bool (dn.getD m false)) ∧ w.frozen? ⟨D, m, none⟩ = false := by
  refine ⟨?_, frozen_of_row w D m _ _ h⟩
  rw [cell_of_row w D m _ _ _ h]
  simp [hm, List.getD_eq_getElem?_getD]
theorem BRow.set {D : Nat} {dn : List Bool} {w : World} (h : BRow D dn w) (m : Nat) (b : Bool) : BRow D (dn.set m b) (w.setCell ⟨D, m, none⟩ (.bool b)) := by
  unfold BRow
  rw [heap_setCell_same w D m _ _ _ h]
  simp [List.map_set]
theorem BRow.keep {D : Nat} {dn : List Bool} {w w' : World} {r : Option Nat} (h : BRow D dn w) (hg : w.grownBy w' r) (hr : r ≠ some D) : BRow D dn w' := (hg.block D (Array.getElem?_eq_some_iff.1 h).1 (fun e => hr e.symm)).trans h

/-- A box, a row of bools behind it, and all ahead of both as it was. -/
def RSt (w : World) (o : Obj) (dn : List Bool) (wr : World) : Prop := BRow (w.heap.size + 1) dn wr ∧ wr.heap[w.heap.size]? = some o ∧ Below w.heap.size w wr ∧ w.heap.size + 2 ≤ wr.heap.size
theorem RSt.set {w wr : World} {o : Obj} {dn : List Bool} (h : RSt w o dn wr) (m : Nat) (b : Bool) : RSt w o (dn.set m b) (wr.setCell ⟨w.heap.size + 1, m, none⟩ (.bool b)) := by
  obtain ⟨h1, h2, h3, h4⟩ := h
  refine ⟨h1.set m b, (Below.heap_setCell wr _ _ _ (by show w.heap.size ≠ w.heap.size + 1; omega)).trans h2, h3.setCell (by show w.heap.size ≤ w.heap.size + 1; omega) _, by simp [World.setCell]; omega⟩
theorem RSt.grown {w wr w' : World} {o : Obj} {dn : List Bool} {r : Option Nat} (h : RSt w o dn wr) (hg : wr.grownBy w' r) (hr : ∀ k, r = some k → w.heap.size + 2 ≤ k) : RSt w o dn w' := by
  obtain ⟨h1, h2, h3, h4⟩ := h
  exact ⟨h1.keep hg (fun e => by have := hr _ e; omega), (hg.block _ (by omega) (fun e => by have := hr _ e.symm; omega)).trans h2, h3.grown hg (by omega) (fun k hk => by have := hr k hk; omega), by have := hg.size; omega⟩
theorem rSt_made {w w1 : World} {o : Obj} {n : Nat} (hown : w1.ownsRow (w.heap.size + 1) 4 1 (.slice (some ⟨(w.alloc o).heap.size, 0, none⟩) n n) n (madeCells (Value.cells (.bool false)) (n * 1)).toList) (hg : (w.alloc o).grownBy w1 none) : RSt w o (List.replicate n false) w1 := by
  have hsz : (w.alloc o).heap.size = w.heap.size + 1 := by simp
  have hb : Below w.heap.size w (w.alloc o) := (Below.refl _ _).alloc (Nat.le_refl _) o
  rcases hown.2 with ⟨h1, _⟩ | ⟨g, cp, cur, h1, _, h3, _, _, h6, h7⟩
  · simp at h1
  · simp only [Value.slice.injEq, Option.some.injEq, Addr.mk.injEq, and_true, true_and] at h1
    obtain ⟨e1, e2⟩ := h1
    rw [hsz] at e1
    subst e1
    subst e2
    have hlt : w.heap.size + 1 < w1.heap.size := (Array.getElem?_eq_some_iff.1 h3).1
    refine ⟨?_, (hg.block w.heap.size (by simp) (by simp)).trans (MapKept.heap_alloc w o).1, hb.grown hg (by simp) (by simp), by omega⟩
    unfold BRow
    rw [h3]
    have hc : cur.toList = List.replicate n (.bool false) := by
      rw [List.take_of_length_le (by simp [h6])] at h7
      rw [h7]
      have : (Value.bool false).cells = #[.bool false] := rfl
      rw [this, toList_madeCells_one, Nat.mul_one]
    congr 2
    rw [List.map_replicate, ← hc]
theorem bSet_nat (is : List Bool) (m : Nat) : bSet is (m : Int) = is.set m true := by simp [bSet]
theorem bAt_nat (is : List Bool) (m : Nat) : bAt is (m : Int) = is.getD m false := by simp [bAt]

set_option maxHeartbeats 6400000 in
set_option maxRecDepth 100000 in
theorem l9reach_any (N n : Nat) (x y : Value) (E : List Edg) (l : List Int) (w : World) (hx : ESeg (fun b => b < N) w x E) (hy : NSeg (fun b => b < N) w y l) (hN : N ≤ w.heap.size) (hn : n ≤ 20) (hE : InG n E) (hf : ∀ v ∈ l, 0 ≤ v ∧ v < n) :
    Calls Try.prog 69 #[.agg #[.int .i64 (n : Int), x], y] w fun e w' => ∃ u, e = .returned u ∧ NOwn w' w.heap.size u (reachF n E l) ∧ Below w.heap.size w w' := by
  have HX := hide' hx
  have HY := hide' hy
  have HE := hide' hE
  have HF := hide' hf
  obtain ⟨a, cap, rfl, hlc, hcm, -, -⟩ := hx
  obtain ⟨ya, yc, rfl, hlc', hcm', -, -⟩ := hy
  unfold maxLen at hcm hcm'
  obtain ⟨i0, hi, hz0, hz1, hz2⟩ := info_parts infoB
  obtain ⟨i3, hi3, hy0, hy1, hy2⟩ := info_parts infoI
  have hnn : (0 : Int) ≤ (n : Int) := by omega
  have hn20 : (n : Int) ≤ 20 := by omega
  clear hE hf
  go_enter Try.func69, Try.ntmps69
  go_wp2_with (refine wpList_make_full _ rfl _ _ 41 rfl (w.heap.size + 1) 4 i0 (.bool false) 1 Try.underlying41 hi hz0 hz1 .i64 .i64 _ _ n rfl rfl rfl rfl (by rw [hz2]; omega) (by unfold maxLen; omega) (by simp) ?_; intro w1 hown hgrow)
  have hS0 := hide' (rSt_made hown hgrow)
  clear hown hgrow
  have hsz0 : (w.alloc (.cells #[.int .i64 (n : Int), .slice a E.length cap] 25)).heap.size = w.heap.size + 1 := by simp
  (try rw [hsz0])
  go_wp2_with fail
  go_loopw [6] (fun i wr => ∃ k : Nat, i = .int .i64 k ∧ k ≤ l.length ∧ Hid (RSt w (.cells #[.int .i64 (n : Int), .slice a E.length cap] 25) (markF (l.take k) (List.replicate n false)) wr)) (fun i _ => l.length - (intOf i).toNat)
  case atStart => exact ⟨0, rfl, Nat.zero_le _, hS0⟩
  case round =>
    clear hS0
    obtain ⟨k, rfl, hk, hS⟩ := hrel
    by_cases hlt : k < l.length
    · have hlt' : (k : Int) < (l.length : Int) := by omega
      have hag := agree_below (hS.out.2.2.1.mono hN)
      obtain ⟨b, off, rfl, _, q0⟩ := (HY.out.agree hag).at hlt
      have hv := HF.out l[k] (List.getElem_mem hlt)
      obtain ⟨m, hm⟩ : ∃ m : Nat, l[k] = (m : Int) := ⟨l[k].toNat, by omega⟩
      have hml : m < (markF (l.take k) (List.replicate n false)).length := by rw [markF_len]; simp; omega
      obtain ⟨r0, r1⟩ := hS.out.1.at hml
      have HN := hide' (hS.out.set m true)
      rw [← bSet_nat, ← hm, ← markF_succ l _ k hlt] at HN
      rw [hm] at q0 hv
      have hm1 : (0 : Int) ≤ (m : Int) := by omega
      have hm2 : (m : Int) < (n : Int) := by omega
      clear hS hag hm
      generalize (markF (l.take k) (List.replicate n false)).getD m false = bb at *
      go_wp2
      go_roundw
      case rel => exact ⟨k + 1, by go_num, by omega, HN⟩
      case measure => simp [intOf]; omega
    · have hlt' : ¬ (k : Int) < (l.length : Int) := by omega
      obtain rfl : k = l.length := by omega
      have hS1 : Hid (RSt w (.cells #[.int .i64 (n : Int), .slice a E.length cap] 25) (roundsF E 0 (markF l (List.replicate n false))) wr) := by
        have := hS.out
        rw [List.take_length] at this
        exact this
      have hml : (markF l (List.replicate n false)).length = n := by rw [markF_len]; simp
      have HRe : Hid (reachF n E l = outF (roundsF E n (markF l (List.replicate n false))) n) := rfl
      clear hS
      generalize markF l (List.replicate n false) = d0 at *
      go_wp2_with fail
      go_loopw [7] (fun i wt => ∃ k : Nat, i = .int .i64 k ∧ k ≤ n ∧ Hid (RSt w (.cells #[.int .i64 (n : Int), .slice a E.length cap] 25) (roundsF E k d0) wt)) (fun i _ => n - (intOf i).toNat)
      case atStart => exact ⟨0, rfl, Nat.zero_le _, hS1⟩
      case round =>
        clear hS1
        obtain ⟨k, rfl, hk, hS⟩ := hrel
        obtain ⟨g0, g1, -⟩ := row2 hS.out.2.1
        by_cases hkn : k < n
        · have hkn' : (k : Int) < (n : Int) := by omega
          have hdl : (roundsF E k d0).length = n := by rw [roundsF_len, hml]
          have hS2 : Hid (RSt w (.cells #[.int .i64 (n : Int), .slice a E.length cap] 25) (roundF (E.take 0) (roundsF E k d0)) wr) := hS.out
          have HNx : Hid (roundF E (roundsF E k d0) = roundsF E (k + 1) d0) := rfl
          clear hS
          generalize roundsF E k d0 = dk at *
          go_wp2_with fail
          go_loopw [8] (fun i wz => ∃ j : Nat, i = .int .i64 j ∧ j ≤ E.length ∧ Hid (RSt w (.cells #[.int .i64 (n : Int), .slice a E.length cap] 25) (roundF (E.take j) dk) wz)) (fun i _ => E.length - (intOf i).toNat)
          case atStart => exact ⟨0, rfl, Nat.zero_le _, hS2⟩
          case round =>
            clear hS2 g0 g1
            obtain ⟨j, rfl, hj, hS⟩ := hrel
            obtain ⟨g0, g1, -⟩ := row2 hS.out.2.1
            by_cases hjl : j < E.length
            · have hjl' : (j : Int) < (E.length : Int) := by omega
              have hag := agree_below (hS.out.2.2.1.mono hN)
              obtain ⟨b, off, rfl, _, q0, q1⟩ := (HX.out.agree hag).at hjl
              have he := HE.out E[j] (List.getElem_mem hjl)
              obtain ⟨m, hm⟩ : ∃ m : Nat, E[j].1 = (m : Int) := ⟨E[j].1.toNat, by omega⟩
              obtain ⟨m', hm'⟩ : ∃ m : Nat, E[j].2 = (m : Int) := ⟨E[j].2.toNat, by omega⟩
              have hrl : (roundF (E.take j) dk).length = n := by rw [roundF_len, hdl]
              obtain ⟨r0, r1⟩ := hS.out.1.at (m := m) (by omega)
              obtain ⟨t0, t1⟩ := hS.out.1.at (m := m') (by omega)
              have hs := roundF_succ E dk j hjl
              rw [hm] at q0
              rw [hm'] at q1
              have hm1 : (0 : Int) ≤ (m : Int) := by omega
              have hm2 : (m : Int) < (n : Int) := by omega
              have hm3 : (0 : Int) ≤ (m' : Int) := by omega
              have hm4 : (m' : Int) < (n : Int) := by omega
              unfold edgeF at hs
              rw [hm, bAt_nat, hm', bSet_nat] at hs
              by_cases hb : (roundF (E.take j) dk).getD m false = true
              · rw [if_pos hb] at hs
                have HN := hide' (hS.out.set m' true)
                rw [← hs] at HN
                rw [hb] at r0
                clear hS hag hm hm' hs hb he
                generalize (roundF (E.take j) dk).getD m' false = bb at *
                go_wp2
                go_roundw
                case rel => exact ⟨j + 1, by go_num, by omega, HN⟩
                case measure => simp [intOf]; omega
              · rw [if_neg hb] at hs
                have hb' : (roundF (E.take j) dk).getD m false = false := by simpa using hb
                have HN := hS
                rw [← hs] at HN
                rw [hb'] at r0
                clear hS hag hm hm' hs hb hb' he
                go_wp2
                go_roundw
                case rel => exact ⟨j + 1, by go_num, by omega, HN⟩
                case measure => simp [intOf]; omega
            · have hjl' : ¬ (j : Int) < (E.length : Int) := by omega
              obtain rfl : j = E.length := by omega
              have HN := hS
              rw [List.take_length, HNx.out] at HN
              clear hS
              go_wp2
              go_roundw
              case rel => exact ⟨k + 1, by go_num, by omega, HN⟩
              case measure => simp [intOf]; omega
        · have hkn' : ¬ (k : Int) < (n : Int) := by omega
          obtain rfl : k = n := by omega
          have hdl : (roundsF E k d0).length = k := by rw [roundsF_len, hml]
          generalize roundsF E k d0 = dz at *
          have hS3 : Hid (RSt w (.cells #[.int .i64 (k : Int), .slice a E.length cap] 25) dz wr ∧ NOwn wr (w.heap.size + 2) (.slice none 0 0) (outF dz 0)) := ⟨hS.out, NOwn.nil _ _⟩
          clear hS hk
          go_wp2_with fail
          go_loopw [9, 10] (fun u i wz => ∃ j : Nat, i = .int .i64 j ∧ j ≤ k ∧ Hid (RSt w (.cells #[.int .i64 (k : Int), .slice a E.length cap] 25) dz wz ∧ NOwn wz (w.heap.size + 2) u (outF dz j))) (fun _ i _ => k - (intOf i).toNat)
          case atStart => exact ⟨0, rfl, Nat.zero_le _, hS3⟩
          case round =>
            clear hS3 g0 g1
            obtain ⟨j, rfl, hj, hS⟩ := hrel
            obtain ⟨g0, g1, -⟩ := row2 hS.out.1.2.1
            obtain ⟨ua, uc, rfl⟩ := hS.out.2.form
            have hol : (outF dz j).length ≤ j := by
              unfold outF
              rw [List.length_map]
              exact Nat.le_trans (List.length_filter_le _ _) (by simp)
            by_cases hjk : j < k
            · have hjk' : (j : Int) < (k : Int) := by omega
              obtain ⟨r0, r1⟩ := hS.out.1.1.at (m := j) (by omega)
              have hos := outF_succ dz j
              by_cases hb : dz.getD j false = true
              · rw [if_pos hb] at hos
                rw [hb] at r0
                have HOw : Hid (∀ o, (wr.alloc o).ownsRow (w.heap.size + 2) 3 1 (.slice ua (outF dz j).length uc) (outF dz j).length (iC (outF dz j))) := fun o => World.ownsRow.alloc hS.out.2 o
                have hzr : w.heap.size + 2 ≤ wr.heap.size := hS.out.1.2.2.2
                have HNx : Hid (∀ o g cp w6, w6.ownsRow (w.heap.size + 2) 3 1 (.slice (some ⟨g, 0, none⟩) ((outF dz j).length + 1) cp) ((outF dz j).length + 1) (iC (outF dz j) ++ [.int .i64 (j : Int)]) → (wr.alloc o).grownBy w6 (Value.slice ua (outF dz j).length uc).ownBlock → RSt w (.cells #[.int .i64 (k : Int), .slice a E.length cap] 25) dz w6 ∧ NOwn w6 (w.heap.size + 2) (.slice (some ⟨g, 0, none⟩) ((outF dz j).length + 1) cp) (outF dz (j + 1))) := fun o g cp w6 h1 h2 => by
                  refine ⟨(hS.out.1.grown (World.grownBy_alloc wr o none) (by simp)).grown h2 (fun q hq => (hS.out.2.lt q hq).1), ?_⟩
                  rw [hos]
                  unfold NOwn
                  rw [iC_add, List.length_append]
                  exact h1
                clear hS hos hb
                generalize hol' : (outF dz j).length = ol at *
                go_wp2_with (at_builtin; refine wpList_append_lies _ rfl (.tmp 66) (.tmp 68) 27 (by rfl) (w.heap.size + 2) 3 i3 (.int .i64 0) 1 8 Try.underlying27 hi3 hy0 hy1 hy2 rfl (by decide) (.slice ua ol uc) ol (iC (outF dz j)) (by rfl) (HOw.out _) ⟨wr.heap.size, 0, none⟩ 1 1 [.int .i64 (j : Int)] (by rfl) (by rfl) (World.news_of_block (cs := #[.int .i64 (j : Int)]) (t := 3) (fr := (0, 0)) (heap_alloc_new wr _)) (by simp [Value.oneCell']) (by omega) (by unfold maxLen; omega) (by omega) (by simp; omega) (wr.heap.size + 1) (by simp) ?_; intro g6 cp6 w6 hown6 hg6 hat6 hlt6; replace hown6 := hide' (HNx.out _ _ _ _ hown6 hg6); clear hg6 hat6 hlt6)
                go_wp2
                go_roundw
                case rel => exact ⟨j + 1, by go_num, by omega, hown6⟩
                case measure => simp [intOf]; omega
              · rw [if_neg hb] at hos
                have hb' : dz.getD j false = false := by simpa using hb
                rw [hb'] at r0
                have HN : Hid (RSt w (.cells #[.int .i64 (k : Int), .slice a E.length cap] 25) dz wr ∧ NOwn wr (w.heap.size + 2) (.slice ua (outF dz j).length uc) (outF dz (j + 1))) := by
                  rw [hos, List.append_nil]
                  exact hS.out
                clear hS hos hb hb'
                generalize (outF dz j).length = ol at *
                go_wp2
                go_roundw
                case rel => exact ⟨j + 1, by go_num, by omega, HN⟩
                case measure => simp [intOf]; omega
            · have hjk' : ¬ (j : Int) < (k : Int) := by omega
              obtain rfl : j = k := by omega
              have HF' := hide' (And.intro (hS.out.2.down (base' := w.heap.size) (by omega)) hS.out.1.2.2.1)
              clear hS
              generalize (outF dz j).length = ol at *
              go_wp2
              go_ret
              exact ⟨_, rfl, by rw [HRe.out]; exact HF'.out.1, HF'.out.2⟩
end Go.Proofs.Ytpnohgncnmbkdaa
/-
  Reach of the specification.
-/
namespace Go.Proofs.Ytpnohgncnmbkdaa
open Go.RowKit
set_option linter.unusedVariables false
set_option linter.unusedSimpArgs false

/-- May Reach answer? -/
def rchB (n : Int) (E : List Edg) (l : List Int) : Bool := decide (gB n E = true ∧ l.length ≤ 20 ∧ ∀ v ∈ l, 0 ≤ v ∧ v < n)
/-- What Reach answers. -/
def rchA (n : Int) (E : List Edg) (l : List Int) : List Int := if rchB n E l = true then reachF n.toNat E l else []

theorem rch_no {n : Int} {E : List Edg} {l : List Int} (h : ¬ (gB n E = true ∧ l.length ≤ 20 ∧ ∀ v ∈ l, 0 ≤ v ∧ v < n)) : rchA n E l = [] := by
  unfold rchA rchB
  rw [decide_eq_false h]
  rfl
theorem rch_yes {n : Nat} {E : List Edg} {l : List Int} (h : gB (n : Int) E = true ∧ l.length ≤ 20 ∧ ∀ v ∈ l, 0 ≤ v ∧ v < (n : Int)) : rchA (n : Int) E l = reachF n E l := by
  unfold rchA rchB
  rw [decide_eq_true h]
  simp
theorem g_in {n : Nat} {E : List Edg} (h : gB (n : Int) E = true) : InG n E := fun e he => g_ends h he

set_option maxHeartbeats 3200000 in
set_option maxRecDepth 100000 in
theorem spec_Reach_any (N : Nat) (n : Int) (x y : Value) (E : List Edg) (l : List Int) (w : World) (hx : ESeg (fun b => b < N) w x E) (hy : NSeg (fun b => b < N) w y l) (hN : N ≤ w.heap.size) :
    Calls Try.prog 36 #[.agg #[.int .i64 n, x], y] w fun e w' => ∃ u, e = .returned u ∧ NOwn w' w.heap.size u (rchA n E l) ∧ Below w.heap.size w w' := by
  have HX : Hid (∀ wx, Below w.heap.size w wx → ESeg (fun b => b < N) wx x E) := fun wx hb => hx.agree (agree_below (hb.mono hN))
  have HY : Hid (∀ wx, Below w.heap.size w wx → NSeg (fun b => b < N) wx y l) := fun wx hb => hy.agree (agree_below (hb.mono hN))
  have Hb : Hid (∀ o : Obj, Below w.heap.size w (w.alloc o)) := fun o => (Below.refl _ _).alloc (Nat.le_refl _) o
  have Hbox : Hid (∀ o wx, Below (w.alloc o).heap.size (w.alloc o) wx → wx.heap[w.heap.size]? = some o) := fun o wx h => box_row h
  have HG : Hid (∀ wx, Below w.heap.size w wx → Calls Try.prog 17 #[.agg #[.int .i64 n, x]] wx fun e w' => e = .returned (.bool (gB n E)) ∧ Below wx.heap.size wx w') := fun wx hb => spec_GraphOk_any N n x E wx (HX.out wx hb) (by have := hb.size; omega)
  have HRc : Hid (gB n E = true → (∀ v ∈ l, 0 ≤ v ∧ v < n) → ∀ wx, Below w.heap.size w wx → Calls Try.prog 69 #[.agg #[.int .i64 n, x], y] wx fun e w' => ∃ u, e = .returned u ∧ NOwn w' wx.heap.size u (reachF n.toNat E l) ∧ Below wx.heap.size wx w') := fun hg hf wx hb => by
    obtain ⟨h0, h1, _⟩ := gB_iff.1 hg
    obtain ⟨m, rfl⟩ : ∃ m : Nat, n = (m : Int) := ⟨n.toNat, by omega⟩
    have := l9reach_any N m x y E l wx (HX.out wx hb) (HY.out wx hb) (by have := hb.size; omega) (by omega) (g_in hg) hf
    simpa using this
  obtain ⟨a, cap, rfl, hlc, hcm, -, -⟩ := hx
  obtain ⟨ya, yc, rfl, hlc', hcm', -, -⟩ := hy
  unfold maxLen at hcm hcm'
  by_cases hg : gB n E = true
  rotate_left
  · have HF := hide' (rch_no (n := n) (E := E) (l := l) (fun h => hg h.1))
    have hg' : gB n E = false := by simpa using hg
    rw [hg'] at HG
    rw [HF.out]
    clear HX HY HRc hg hg'
    generalize E.length = ll at *
    generalize l.length = ml at *
    go_enter Try.func36, Try.ntmps36
    go_wp2_with fail
    refine (HG.out _ (Hb.out _)).mono ?_
    rintro e w1 ⟨rfl, b1⟩
    have B1 := hide' (Below.on (Hb.out _) b1)
    clear b1
    go_wp2
    go_ret
    exact ⟨_, rfl, NOwn.nil _ _, B1.out⟩
  have hg1 := hg
  rw [hg] at HG
  by_cases hl : 20 < l.length
  · have HF := hide' (rch_no (n := n) (E := E) (l := l) (by omega))
    have hl' : (20 : Int) < (l.length : Int) := by omega
    rw [HF.out]
    clear HX HY HRc hg
    generalize E.length = ll at *
    go_enter Try.func36, Try.ntmps36
    go_wp2_with fail
    refine (HG.out _ (Hb.out _)).mono ?_
    rintro e w1 ⟨rfl, b1⟩
    have B1 := hide' (Below.on (Hb.out _) b1)
    clear b1
    go_wp2
    go_ret
    exact ⟨_, rfl, NOwn.nil _ _, B1.out⟩
  have hl' : ¬ (20 : Int) < (l.length : Int) := by omega
  have HRc' := hide' (HRc.out hg)
  have HG1 := hide' hg
  clear HRc hg hg1
  go_enter Try.func36, Try.ntmps36
  go_wp2_with fail
  refine (HG.out _ (Hb.out _)).mono ?_
  rintro e w1 ⟨rfl, b1⟩
  have B1 := hide' b1
  clear b1
  go_wp2_with fail
  go_loopw [5] (fun i wr => ∃ k : Nat, i = .int .i64 k ∧ k ≤ l.length ∧ Hid (∀ j (h : j < l.length), j < k → 0 ≤ l[j] ∧ l[j] < n) ∧ Hid (Below (w.alloc (.cells #[.int .i64 n, .slice a E.length cap] 25)).heap.size (w.alloc (.cells #[.int .i64 n, .slice a E.length cap] 25)) wr)) (fun i _ => l.length - (intOf i).toNat)
  case atStart => exact ⟨0, rfl, Nat.zero_le _, fun j h h' => by omega, B1⟩
  case round =>
    clear B1
    obtain ⟨k, rfl, hk, hall, hbel⟩ := hrel
    obtain ⟨g0, g1, -⟩ := row2 (Hbox.out _ _ hbel.out)
    have B := hide' (Below.on (Hb.out (.cells #[.int .i64 n, .slice a E.length cap] 25)) hbel.out)
    by_cases hlt : k < l.length
    · have hlt' : (k : Int) < (l.length : Int) := by omega
      obtain ⟨b, off, rfl, _, q0⟩ := (HY.out wr B.out).at hlt
      have HNo : Hid (¬ (0 ≤ l[k] ∧ l[k] < n) → rchA n E l = []) := fun h => rch_no fun h' => h (h'.2.2 l[k] (List.getElem_mem hlt))
      have HYs : Hid (0 ≤ l[k] ∧ l[k] < n → ∀ j (h : j < l.length), j < k + 1 → 0 ≤ l[j] ∧ l[j] < n) := fun h0 j h h' => by
        by_cases e : j = k
        · subst e; exact h0
        · exact hall.out j h (by omega)
      clear hall
      generalize l[k] = v at *
      by_cases c0 : 0 ≤ v
      rotate_left
      · have c0' : v < 0 := by omega
        have HF := hide' (HNo.out (by omega))
        go_wp2_with fail
        go_quiet (fail)
        go_wp2
        go_ret
        exact ⟨_, rfl, by rw [HF.out]; exact NOwn.nil _ _, below_drewN B.out _⟩
      have c0' : ¬ v < 0 := by omega
      by_cases c1 : v < n
      rotate_left
      · have c1' : n ≤ v := by omega
        have HF := hide' (HNo.out (by omega))
        go_wp2_with fail
        go_quiet (fail)
        go_wp2
        go_ret
        exact ⟨_, rfl, by rw [HF.out]; exact NOwn.nil _ _, below_drewN B.out _⟩
      have c1' : ¬ n ≤ v := by omega
      have HF := hide' (HYs.out ⟨c0, c1⟩)
      clear HNo HYs
      go_wp2_with fail
      go_quiet (fail)
      go_wp2
      go_roundw
      case rel => exact ⟨k + 1, by go_num, by omega, HF, below_drewN hbel.out _⟩
      case measure => simp [intOf]; omega
    · have hlt' : ¬ (k : Int) < (l.length : Int) := by omega
      have hall' : ∀ v ∈ l, 0 ≤ v ∧ v < n := fun v hv => by
        obtain ⟨i, hi, rfl⟩ := List.getElem_of_mem hv
        exact hall.out i hi (by omega)
      have HRe : Hid (rchA n E l = reachF n.toNat E l) := by
        show _ = _
        unfold rchA rchB
        rw [decide_eq_true ⟨HG1.out, by omega, hall'⟩]
        rfl
      have HR2 := hide' (HRc'.out hall' wr B.out)
      clear hall hall'
      go_wp2_with fail
      refine HR2.out.mono ?_
      rintro e w2 ⟨u, rfl, hO, b2⟩
      have HO := hide' hO
      have B2 := hide' (Below.on B.out b2)
      have hz := B.out.size
      obtain ⟨ua, uc, rfl⟩ := hO.form
      clear hO b2 g0 g1 HR2
      go_wp2
      go_ret
      exact ⟨_, rfl, by rw [HRe.out]; exact HO.out.down hz, B2.out⟩
end Go.Proofs.Ytpnohgncnmbkdaa
