/-
  Texts that a law leans on, one behind the other; no statement is proved here.
-/
import Derived.Test.YtcdonbepfmhdpaaPk2
import Derived.Test.YtcdonbepfmhdpaaPk4
import Derived.Test.YtcdonbepfmhdpaaPk3
import Derived.Test.YtcdonbepfmhdpaaPk5
import Derived.Test.YtcdonbepfmhdpaaPk6
import Derived.Test.YtcdonbepfmhdpaaPk0
/-
  The draws of FnOrders and FnBares: a graph, bent or not.
-/
namespace Go.Proofs.Ytcdonbepfmhdpaa
open Go.RowKit
set_option linter.unusedVariables false
set_option linter.unusedSimpArgs false

/-- Some graph that was drawn, of the call's own. -/
def GraphDraw (w : World) (e : Ending) (w' : World) : Prop :=
  ∃ (n : Int) (u : Value) (E : List Edg), e = .returned (.agg #[.int .i64 n, u]) ∧ -1 ≤ n ∧ n ≤ 21 ∧ E.length ≤ 15 ∧ EOwn w' w.heap.size u E ∧ Below w.heap.size w w'

theorem gd_end {w w2 : World} {n : Int} {u : Value} {l : List Edg} (hr : w2.heap[w.heap.size]? = some (.cells #[.int .i64 0, .slice none 0 0] 25 (0, 0))) (hO : EOwn w2 (w.heap.size + 1) u l) (hb : Below w.heap.size w w2) (h0 : -1 ≤ n) (h1 : n ≤ 21) (h2 : l.length ≤ 15) :
    (((w2.cell? ⟨w.heap.size, 0, none⟩ = some (.int .i64 0) ∧ w2.cell? ⟨w.heap.size, 1, none⟩ = some (.slice none 0 0)) ∧ w2.frozen? ⟨w.heap.size, 0, none⟩ = false ∧ w2.frozen? ⟨w.heap.size, 1, none⟩ = false) ∧
      (set2 w2 w.heap.size 0 (.int .i64 n) u).cell? ⟨w.heap.size, 0, none⟩ = some (.int .i64 n) ∧ (set2 w2 w.heap.size 0 (.int .i64 n) u).cell? ⟨w.heap.size, 1, none⟩ = some u) ∧ GraphDraw w (.returned (.agg #[.int .i64 n, u])) (set2 w2 w.heap.size 0 (.int .i64 n) u) := by
  have hg := set2_grown w2 w.heap.size 0 (.int .i64 n) u
  obtain ⟨r0, r1, rf⟩ := row2 hr
  obtain ⟨z0, z1, _⟩ := row2 (set2_heap (j := 0) (.int .i64 n) u hr)
  refine ⟨⟨⟨⟨r0, r1⟩, rf 0, rf 1⟩, z0, z1⟩, n, u, l, rfl, h0, h1, h2, (hO.far hg (fun k hk e => ?_)).down (by omega), hb.grown hg hb.size (fun k hk => by simp at hk; omega)⟩
  have := hO.lt k hk; simp at e; omega

set_option maxHeartbeats 1600000 in
set_option maxRecDepth 100000 in
theorem DrawOrder_any (a : Option Addr) (cap : Nat) (xs : List Int) (w : World) (ha : Seg w a xs) (hl : xs.length ≤ maxLen) :
    Calls Try.prog 6 #[.slice a xs.length cap] w (GraphDraw w) := by
  have HL : Hid (∀ o : Obj, Calls Try.prog 19 #[.slice a xs.length cap] (w.alloc o) fun e w' => e = .returned (.pointer (some ⟨w.heap.size + 1, 0, none⟩)) ∧ Drw w' (w.heap.size + 1) a cap xs ∧ Below (w.heap.size + 1) (w.alloc o) w') := fun o => by
    have := l1New_drw a cap xs (w.alloc o) (ha.grow ((Below.refl _ _).alloc (Nat.le_refl _) o)) hl
    simpa using this
  clear ha
  show Calls _ _ _ _ fun e w' => GraphDraw w e w'
  generalize hlen : xs.length = len at *
  clear hlen
  go_enter Try.func6, Try.ntmps6
  go_wp2_with fail
  refine (HL.out _).mono ?_
  rintro e w1 ⟨rfl, hd1, hb1⟩
  have HB := hide' (l9bent_any (w.heap.size + 1) a cap xs w1 hd1)
  have HD1 := hide' hd1
  have HB1 := hide' hb1
  clear hd1 hb1 HL
  go_wp2_with fail
  refine HB.out.mono ?_
  rintro e w2 ⟨n, u, l, rfl, hn0, hn1, hl, hO, hd, hg⟩
  have hz1 := HD1.out.lt
  have hw : Below w.heap.size w (w.alloc (.cells #[.int .i64 0, .slice none 0 0] 25)) := (Below.refl _ _).alloc (Nat.le_refl _) _
  have HE := hide' (gd_end (w := w) (w2 := w2) (n := n) (u := u) (l := l) ((hg.block _ (by omega) (by simp)).trans ((HB1.out.block _ (by omega)).trans (MapKept.heap_alloc w _).1)) (hO.down (by omega)) ((hw.trans (HB1.out.mono (by omega))).grown hg (by omega) (fun k hk => by simp at hk; omega)) hn0 hn1 hl)
  obtain ⟨ua, uc, hu⟩ := hO.form
  subst hu
  obtain ⟨⟨⟨s0, s1⟩, sf0, sf1⟩, z0, z1⟩ := HE.out.1
  simp only [set2, Nat.zero_add] at z0 z1
  clear hO hd hg HB HB1 HD1 hw hz1
  go_wp2
  refine bodyPost_ret (v := .agg #[.int .i64 n, .slice ua l.length uc]) (by simp [results, Try.results6, go_sem, z0, z1]) rfl ?_
  exact HE.out.2

set_option maxHeartbeats 1600000 in
set_option maxRecDepth 100000 in
theorem DrawBare_any (a : Option Addr) (cap : Nat) (xs : List Int) (w : World) (ha : Seg w a xs) (hl : xs.length ≤ maxLen) :
    Calls Try.prog 15 #[.slice a xs.length cap] w (GraphDraw w) := by
  have HL : Hid (∀ o : Obj, Calls Try.prog 19 #[.slice a xs.length cap] (w.alloc o) fun e w' => e = .returned (.pointer (some ⟨w.heap.size + 1, 0, none⟩)) ∧ Drw w' (w.heap.size + 1) a cap xs ∧ Below (w.heap.size + 1) (w.alloc o) w') := fun o => by
    have := l1New_drw a cap xs (w.alloc o) (ha.grow ((Below.refl _ _).alloc (Nat.le_refl _) o)) hl
    simpa using this
  clear ha
  show Calls _ _ _ _ fun e w' => GraphDraw w e w'
  generalize hlen : xs.length = len at *
  clear hlen
  go_enter Try.func15, Try.ntmps15
  go_wp2_with fail
  refine (HL.out _).mono ?_
  rintro e w1 ⟨rfl, hd1, hb1⟩
  have HB := hide' (l9bent_any (w.heap.size + 1) a cap xs w1 hd1)
  have HD1 := hide' hd1
  have HB1 := hide' hb1
  clear hd1 hb1 HL
  go_wp2_with fail
  refine HB.out.mono ?_
  rintro e w2 ⟨n, u, l, rfl, hn0, hn1, hl, hO, hd, hg⟩
  have hz1 := HD1.out.lt
  have hw : Below w.heap.size w (w.alloc (.cells #[.int .i64 0, .slice none 0 0] 25)) := (Below.refl _ _).alloc (Nat.le_refl _) _
  have HE := hide' (gd_end (w := w) (w2 := w2) (n := n) (u := u) (l := l) ((hg.block _ (by omega) (by simp)).trans ((HB1.out.block _ (by omega)).trans (MapKept.heap_alloc w _).1)) (hO.down (by omega)) ((hw.trans (HB1.out.mono (by omega))).grown hg (by omega) (fun k hk => by simp at hk; omega)) hn0 hn1 hl)
  obtain ⟨ua, uc, hu⟩ := hO.form
  subst hu
  obtain ⟨⟨⟨s0, s1⟩, sf0, sf1⟩, z0, z1⟩ := HE.out.1
  simp only [set2, Nat.zero_add] at z0 z1
  clear hO hd hg HB HB1 HD1 hw hz1
  go_wp2
  refine bodyPost_ret (v := .agg #[.int .i64 n, .slice ua l.length uc]) (by simp [results, Try.results15, go_sem, z0, z1]) rfl ?_
  exact HE.out.2

end Go.Proofs.Ytcdonbepfmhdpaa
/-
  Part of the specification: the walk.
-/
namespace Go.Proofs.Ytcdonbepfmhdpaa
open Go.RowKit
set_option linter.unusedVariables false
set_option linter.unusedSimpArgs false

theorem two_after {w w1 : World} {o o' : Obj} (h : Below ((w.alloc o).alloc o').heap.size ((w.alloc o).alloc o') w1) : w1.heap[w.heap.size]? = some o ∧ w1.heap[w.heap.size + 1]? = some o' ∧ Below w.heap.size w w1 ∧ w.heap.size + 2 ≤ w1.heap.size := by
  obtain ⟨h1, h2⟩ := two_boxes w o o'
  have hz : ((w.alloc o).alloc o').heap.size = w.heap.size + 2 := by simp
  have hz1 := h.size
  exact ⟨(h.block _ (by omega)).trans h1, (h.block _ (by omega)).trans h2, Below.on (((Below.refl _ _).alloc (Nat.le_refl _) o).alloc (by simp) o') h, by omega⟩

end Go.Proofs.Ytcdonbepfmhdpaa
/-
  Bare of the specification.
-/
namespace Go.Proofs.Ytcdonbepfmhdpaa
open Go.RowKit
set_option linter.unusedVariables false
set_option linter.unusedSimpArgs false

/-- Is edge i one that can't be spared? -/
def bareI (n : Nat) (E : List Edg) (i : Nat) : Bool := !leadsF n E (E.getD i (0, 0)).1 (E.getD i (0, 0)).2 (i : Int)
/-- Those of the first j edges that can't be spared. -/
def bareF (n : Nat) (E : List Edg) (j : Nat) : List Edg := ((List.range j).filter (bareI n E)).map fun i => E.getD i (0, 0)
/-- What Bare answers. -/
def bareA (n : Int) (E : List Edg) : List Edg := if ordB n E = true then bareF n.toNat E E.length else []
def bareN (n : Int) (E : List Edg) : Int := if ordB n E = true then n else 0

theorem bareF_succ (n : Nat) (E : List Edg) (j : Nat) (h : j < E.length) : bareF n E (j + 1) = bareF n E j ++ (if leadsF n E E[j].1 E[j].2 (j : Int) = true then [] else [E[j]]) := by
  unfold bareF
  rw [List.range_succ, List.filter_append, List.map_append, List.filter_cons, List.filter_nil]
  have hg : E.getD j (0, 0) = E[j] := by simp [List.getD_eq_getElem?_getD, h]
  have hb : bareI n E j = !leadsF n E E[j].1 E[j].2 (j : Int) := by unfold bareI; rw [hg]
  by_cases e : leadsF n E E[j].1 E[j].2 (j : Int) = true
  · rw [if_pos e, if_neg (by rw [hb, e]; simp)]
    rfl
  · rw [if_neg e, if_pos (by rw [hb]; simp [e])]
    simp [hg, h]
theorem bareF_len (n : Nat) (E : List Edg) (j : Nat) : (bareF n E j).length ≤ j := by
  unfold bareF
  rw [List.length_map]
  exact Nat.le_trans (List.length_filter_le _ _) (by simp)
theorem FSt.on {w wr w' : World} {o o' : Obj} {R : Nat} {n : Int} {l : List Edg} {u : Value} (h : FSt w o o' R n l u wr) (hb : Below wr.heap.size wr w') : FSt w o o' R n l u w' := by
  obtain ⟨h1, h2, h3, h4, h5, h6⟩ := h
  have hl : ∀ b o, wr.heap[b]? = some o → w'.heap[b]? = some o := fun b o h => (hb.block b (Array.getElem?_eq_some_iff.1 h).1).trans h
  exact ⟨hl _ _ h1, hl _ _ h2, Below.on h3 hb, h4, hl _ _ h5, h6.on hb⟩

end Go.Proofs.Ytcdonbepfmhdpaa
/-
  Graphs: which edges can be spared, as the program asks it; plain mathematics.
-/
namespace Go.Proofs.Ytcdonbepfmhdpaa
open Go.RowKit
set_option linter.unusedVariables false
set_option linter.unusedSimpArgs false

/-- Another edge begins where e begins, and a way leads from its end to e's end: as the program asks it. -/
def spareB (n : Nat) (E : List Edg) (e : Edg) : Bool := E.any fun o => decide (o.1 = e.1) && (bvAt (srcF n E) e.2).getLsbD o.2.toNat
/-- The edges that stay. -/
def keepF (n : Nat) (E : List Edg) : List Edg := E.filter fun e => !spareB n E e

theorem asc_apart {n : Int} {E : List Edg} (hg : gB n E = true) : ∀ (j i : Nat) (hi : i < E.length), j < i → ∃ hj : j < E.length, lessE E[j] E[i] = true := by
  obtain ⟨_, _, _, h4⟩ := gB_iff.1 hg
  have hs : ∀ i (hi : i + 1 < E.length), lessE E[i] E[i + 1] = true := fun i hi => by
    have := h4 (i + 1) hi
    unfold stepG at this
    simp only [Bool.and_eq_true, Bool.or_eq_true, decide_eq_true_eq] at this
    rcases this.2.2.2.2 with h | h
    · omega
    · have e1 : E.getD (i + 1) (0, 0) = E[i + 1] := by simp [List.getD_eq_getElem?_getD, hi]
      have e2 : E.getD i (0, 0) = E[i] := by simp [List.getD_eq_getElem?_getD, show i < E.length by omega]
      rw [e1, Nat.add_sub_cancel, e2] at h
      exact h
  have tr : ∀ a b c : Edg, lessE a b = true → lessE b c = true → lessE a c = true := fun a b c => by
    unfold lessE
    simp only [Bool.or_eq_true, Bool.and_eq_true, decide_eq_true_eq]
    omega
  intro j i hi hji
  refine ⟨by omega, ?_⟩
  induction i with
  | zero => omega
  | succ i ih =>
    by_cases c : j = i
    · subst c
      exact hs j hi
    · exact tr _ _ _ (ih (by omega) (by omega)) (hs i hi)
theorem less_ne {a b : Edg} (h : lessE a b = true) : a ≠ b := by
  rintro rfl
  unfold lessE at h
  simp only [Bool.or_eq_true, Bool.and_eq_true, decide_eq_true_eq] at h
  omega
theorem edges_apart {n : Int} {E : List Edg} (hg : gB n E = true) {i j : Nat} (hi : i < E.length) (hj : j < E.length) (h : i ≠ j) : E[i] ≠ E[j] := by
  rcases Nat.lt_or_ge i j with c | c
  · obtain ⟨_, h1⟩ := asc_apart hg i j hj c
    exact less_ne h1
  · obtain ⟨_, h1⟩ := asc_apart hg j i hi (by omega)
    exact fun e => less_ne h1 e.symm
theorem way_cons {E : List Edg} {o : Edg} (ho : o ∈ E) {b : Int} (h : Way E o.2 b) : Way E o.1 b := by
  induction h with
  | one he ha =>
    refine .more he ?_
    rw [ha]
    exact .one ho rfl
  | more he _ ih => exact .more he ih
theorem way_mono {E F : List Edg} (h : ∀ e ∈ E, e ∈ F) {a b : Int} (hw : Way E a b) : Way F a b := by
  induction hw with
  | one he ha => exact .one (h _ he) ha
  | more he _ ih => exact .more (h _ he) ih
/-- A way begins with an edge. -/
theorem way_first {E : List Edg} {a b : Int} (h : Way E a b) : ∃ o ∈ E, o.1 = a ∧ (o.2 = b ∨ Way E o.2 b) := by
  induction h with
  | one he ha => exact ⟨_, he, ha, .inl rfl⟩
  | more he _ ih =>
    obtain ⟨o, ho, h1, h2⟩ := ih
    refine ⟨o, ho, h1, .inr ?_⟩
    rcases h2 with h2 | h2
    · exact .one he h2.symm
    · exact .more he h2
theorem mem_rest {E : List Edg} {aside : Nat} {e : Edg} : e ∈ restF E (aside : Int) E.length ↔ ∃ i, ∃ h : i < E.length, i ≠ aside ∧ E[i] = e := by
  unfold restF
  rw [List.mem_map]
  constructor
  · rintro ⟨i, hi, rfl⟩
    rw [List.mem_filter, List.mem_range] at hi
    obtain ⟨h1, h2⟩ := hi
    refine ⟨i, h1, fun c => by simp [c] at h2, ?_⟩
    simp [List.getD_eq_getElem?_getD, h1]
  · rintro ⟨i, h, hne, rfl⟩
    refine ⟨i, ?_, by simp [List.getD_eq_getElem?_getD, h]⟩
    rw [List.mem_filter, List.mem_range]
    refine ⟨h, ?_⟩
    simp
    omega
/-- Whoever goes from a to b goes without that edge, or comes by where it begins. -/
theorem way_without {E : List Edg} {i : Nat} (hi : i < E.length) {a b : Int} (h : Way E a b) : Way (restF E (i : Int) E.length) a b ∨ a = E[i].1 ∨ Way E a E[i].1 := by
  have hm : ∀ e ∈ E, e ∈ restF E (i : Int) E.length ∨ e = E[i] := fun e he => by
    obtain ⟨j, hj, rfl⟩ := List.getElem_of_mem he
    by_cases c : j = i
    · subst c; exact .inr rfl
    · exact .inl (mem_rest.2 ⟨j, hj, c, rfl⟩)
  induction h with
  | one he ha =>
    rcases hm _ he with h | h
    · exact .inl (.one h ha)
    · exact .inr (.inl (by rw [← h, ha]))
  | more he hw ih =>
    rcases ih with h | h
    · rcases hm _ he with h' | h'
      · exact .inl (.more h' h)
      · exact .inr (.inr (by rw [← h']; exact hw))
    · exact .inr h
/-- The program asks what the document asks. -/
theorem spare_iff {n : Nat} {E : List Edg} (hg : gB (n : Int) E = true) (hb : ordB (n : Int) E = true) {i : Nat} (hi : i < E.length) : spareB n E E[i] = leadsF n E E[i].1 E[i].2 (i : Int) := by
  have hE := g_in hg
  have hn : n ≤ 20 := by have := (gB_iff.1 hg).2.1; omega
  have hsp : spareB n E E[i] = true ↔ ∃ o ∈ E, o.1 = E[i].1 ∧ Way E o.2 E[i].2 := by
    unfold spareB
    rw [List.any_eq_true]
    constructor
    · rintro ⟨o, ho, h⟩
      rw [Bool.and_eq_true, decide_eq_true_eq, src_iff hn hE _ (hE _ (List.getElem_mem hi)).2.2.1, Int.toNat_of_nonneg (hE o ho).2.2.1] at h
      exact ⟨o, ho, h⟩
    · rintro ⟨o, ho, h⟩
      refine ⟨o, ho, ?_⟩
      rw [Bool.and_eq_true, decide_eq_true_eq, src_iff hn hE _ (hE _ (List.getElem_mem hi)).2.2.1, Int.toNat_of_nonneg (hE o ho).2.2.1]
      exact h
  rw [Bool.eq_iff_iff, hsp, leads_aside hE]
  constructor
  · rintro ⟨o, ho, h1, h2⟩
    have hr := no_ring hE hb E[i].1
    have hne : o ≠ E[i] := by
      rintro rfl
      exact no_ring hE hb _ h2
    have hor : o ∈ restF E (i : Int) E.length := by
      obtain ⟨j, hj, rfl⟩ := List.getElem_of_mem ho
      exact mem_rest.2 ⟨j, hj, fun c => hne (by subst c; rfl), rfl⟩
    rcases way_without hi h2 with h3 | h3 | h3
    · have := way_cons hor h3
      rw [h1] at this
      exact this
    · exact absurd (by
        have : Way E o.1 o.2 := .one ho rfl
        rw [h1, h3] at this
        exact this) hr
    · exact absurd (by
        have := way_cons ho h3
        rw [h1] at this
        exact this) hr
  · intro h
    obtain ⟨o, ho, h1, h2⟩ := way_first h
    have hsub : ∀ e ∈ restF E (i : Int) E.length, e ∈ E := fun e he => by
      obtain ⟨j, hj, _, rfl⟩ := mem_rest.1 he
      exact List.getElem_mem hj
    refine ⟨o, hsub o ho, h1, ?_⟩
    rcases h2 with h2 | h2
    · obtain ⟨j, hj, hne, rfl⟩ := mem_rest.1 ho
      exact absurd (Prod.ext h1 h2) (edges_apart hg hj hi hne)
    · exact way_mono hsub h2
theorem filter_range {E : List Edg} (p : Edg → Bool) (q : Nat → Bool) (h : ∀ i (hi : i < E.length), p E[i] = q i) : ∀ j, j ≤ E.length → (E.take j).filter p = ((List.range j).filter q).map fun i => E.getD i (0, 0)
  | 0, _ => rfl
  | j + 1, hj => by
    have hjl : j < E.length := by omega
    rw [List.take_succ_eq_append_getElem hjl, List.filter_append, filter_range p q h j (by omega), List.range_succ, List.filter_append, List.map_append]
    congr 1
    rw [List.filter_cons, List.filter_cons, h j hjl]
    split
    · simp [List.getD_eq_getElem?_getD, hjl]
    · rfl
/-- The edges that stay are those of Bare. -/
theorem keep_bare {n : Nat} {E : List Edg} (hg : gB (n : Int) E = true) (hb : ordB (n : Int) E = true) : keepF n E = bareF n E E.length := by
  have := filter_range (E := E) (fun e => !spareB n E e) (bareI n E) (fun i hi => by
    rw [spare_iff hg hb hi]
    unfold bareI
    simp [List.getD_eq_getElem?_getD, hi]) E.length (Nat.le_refl _)
  rw [List.take_length] at this
  exact this
end Go.Proofs.Ytcdonbepfmhdpaa
/-
  Turned of the specification.
-/
namespace Go.Proofs.Ytcdonbepfmhdpaa
open Go.RowKit
set_option linter.unusedVariables false
set_option linter.unusedSimpArgs false

/-- The edges that come to v, turned. -/
def turnI (l : List Edg) (v : Int) : List Edg := (l.filter fun e => decide (e.2 = v)).map fun e => (v, e.1)
/-- The edges that come to those below k, turned. -/
def turnF (E : List Edg) : Nat → List Edg
  | 0 => []
  | k + 1 => turnF E k ++ turnI E (k : Int)
/-- What Turned answers. -/
def turnA (n : Int) (E : List Edg) : List Edg := if gB n E = true then turnF E n.toNat else []
def turnN (n : Int) (E : List Edg) : Int := if gB n E = true then n else 0

theorem turnI_succ (E : List Edg) (v : Int) (j : Nat) (h : j < E.length) : turnI (E.take (j + 1)) v = turnI (E.take j) v ++ (if E[j].2 = v then [(v, E[j].1)] else []) := by
  unfold turnI
  rw [List.take_succ_eq_append_getElem h, List.filter_append, List.map_append, List.filter_cons, List.filter_nil]
  by_cases e : E[j].2 = v
  · rw [if_pos e, if_pos (by simpa using e)]
    rfl
  · rw [if_neg e, if_neg (by simpa using e)]
    rfl
theorem turnI_len (l : List Edg) (v : Int) : (turnI l v).length ≤ l.length := by
  unfold turnI
  rw [List.length_map]
  exact List.length_filter_le _ _
theorem turnF_len (E : List Edg) : ∀ k, (turnF E k).length ≤ k * E.length
  | 0 => Nat.zero_le _
  | k + 1 => by
    have h1 := turnF_len E k
    have h2 := turnI_len E (k : Int)
    show (turnF E k ++ turnI E (k : Int)).length ≤ _
    rw [List.length_append, Nat.add_mul]
    omega

end Go.Proofs.Ytcdonbepfmhdpaa
/-
  Graphs: edges turned and put in order are what Turned of the specification gathers; plain mathematics.
-/
namespace Go.Proofs.Ytcdonbepfmhdpaa
open Go.RowKit
set_option linter.unusedVariables false
set_option linter.unusedSimpArgs false

/-- An edge turned round. -/
def swapE (e : Edg) : Edg := (e.2, e.1)
/-- Not behind. -/
def leE (a b : Edg) : Bool := !(decide (edgC b a < 0))

theorem edgC_dec (a b : Edg) : decide (edgC a b < 0) = lessE a b := by
  rw [Bool.eq_iff_iff, decide_eq_true_eq]
  exact edgC_less a b
theorem leE_less (a b : Edg) : leE a b = !lessE b a := by unfold leE; rw [edgC_dec]
theorem leE_trans (a b c : Edg) : leE a b = true → leE b c = true → leE a c = true := by
  simp only [leE_less, lessE, Bool.not_eq_true', Bool.or_eq_false_iff, Bool.and_eq_false_iff, decide_eq_false_iff_not]
  omega
theorem leE_total (a b : Edg) : (leE a b || leE b a) = true := by
  rw [leE_less, leE_less]
  have h : lessE a b = false ∨ lessE b a = false := by
    simp only [lessE, Bool.or_eq_false_iff, Bool.and_eq_false_iff, decide_eq_false_iff_not]
    omega
  rcases h with h | h <;> simp [h]
theorem leE_anti (a b : Edg) (h1 : leE a b = true) (h2 : leE b a = true) : a = b := by
  simp only [leE_less, lessE, Bool.not_eq_true', Bool.or_eq_false_iff, Bool.and_eq_false_iff, decide_eq_false_iff_not] at h1 h2
  exact Prod.ext (by omega) (by omega)
theorem leE_of {a b : Edg} (h : lessE a b = true) : leE a b = true := by
  rw [leE_less]
  have : lessE b a = false := by
    simp only [lessE, Bool.or_eq_true, Bool.and_eq_true, decide_eq_true_eq] at h
    simp only [lessE, Bool.or_eq_false_iff, Bool.and_eq_false_iff, decide_eq_false_iff_not]
    omega
  simp [this]

theorem turnI_cons (e : Edg) (r : List Edg) (v : Int) : turnI (e :: r) v = (if e.2 = v then [(v, e.1)] else []) ++ turnI r v := by
  unfold turnI
  rw [List.filter_cons]
  by_cases c : e.2 = v
  · rw [if_pos c, if_pos (by simpa using c)]
    rfl
  · rw [if_neg c, if_neg (by simpa using c)]
    rfl
theorem turnF_nil : ∀ k, turnF [] k = []
  | 0 => rfl
  | k + 1 => by
    show turnF [] k ++ turnI [] (k : Int) = []
    rw [turnF_nil k]
    rfl
theorem turnF_cons (e : Edg) (r : List Edg) (h : 0 ≤ e.2) : ∀ k : Nat, (turnF (e :: r) k).Perm ((if e.2 < (k : Int) then [swapE e] else []) ++ turnF r k)
  | 0 => by
    rw [if_neg (by omega)]
    exact List.Perm.refl _
  | k + 1 => by
    show (turnF (e :: r) k ++ turnI (e :: r) (k : Int)).Perm ((if e.2 < ((k + 1 : Nat) : Int) then [swapE e] else []) ++ (turnF r k ++ turnI r (k : Int)))
    rw [turnI_cons]
    have ih := turnF_cons e r h k
    by_cases c1 : e.2 < (k : Int)
    · rw [if_pos c1] at ih
      rw [if_neg (show ¬ e.2 = (k : Int) by omega), if_pos (show e.2 < ((k + 1 : Nat) : Int) by omega), List.nil_append, ← List.append_assoc]
      exact ih.append_right _
    · rw [if_neg c1, List.nil_append] at ih
      by_cases c2 : e.2 = (k : Int)
      · rw [if_pos c2, if_pos (show e.2 < ((k + 1 : Nat) : Int) by omega)]
        have e1 : swapE e = ((k : Int), e.1) := by unfold swapE; rw [c2]
        rw [e1]
        refine (ih.append_right _).trans ?_
        exact List.perm_middle
      · rw [if_neg c2, if_neg (show ¬ e.2 < ((k + 1 : Nat) : Int) by omega), List.nil_append, List.nil_append]
        exact ih.append_right _
theorem turnF_perm {n : Nat} : ∀ (E : List Edg), InG n E → (turnF E n).Perm (E.map swapE)
  | [], _ => by rw [turnF_nil]; exact List.Perm.refl _
  | e :: r, hE => by
    have he := hE e (by simp)
    have h1 := turnF_cons e r he.2.2.1 n
    rw [if_pos he.2.2.2] at h1
    exact h1.trans ((turnF_perm r (fun x hx => hE x (List.mem_cons_of_mem _ hx))).cons _)
theorem turnF_first {E : List Edg} : ∀ (k : Nat) (x : Edg), x ∈ turnF E k → x.1 < (k : Int)
  | 0, x, h => by simp [turnF] at h
  | k + 1, x, h => by
    have h' : x ∈ turnF E k ++ turnI E (k : Int) := h
    rcases List.mem_append.1 h' with h1 | h1
    · have := turnF_first k x h1
      omega
    · unfold turnI at h1
      obtain ⟨e, _, rfl⟩ := List.mem_map.1 h1
      show (k : Int) < _
      omega
theorem turnF_asc {n : Int} {E : List Edg} (hg : gB n E = true) : ∀ k : Nat, (turnF E k).Pairwise fun a b => lessE a b = true
  | 0 => List.Pairwise.nil
  | k + 1 => by
    show (turnF E k ++ turnI E (k : Int)).Pairwise _
    rw [List.pairwise_append]
    refine ⟨turnF_asc hg k, ?_, fun a ha b hb => ?_⟩
    · unfold turnI
      rw [List.pairwise_map]
      have hp : E.Pairwise fun a b => lessE a b = true := by
        rw [List.pairwise_iff_getElem]
        intro i j hi hj hij
        obtain ⟨_, h⟩ := asc_apart hg i j hj hij
        exact h
      have hf := hp.filter (fun e => decide (e.2 = (k : Int)))
      refine List.Pairwise.imp_of_mem ?_ hf
      intro a b ha hb hab
      have ha2 := (List.mem_filter.1 ha).2
      have hb2 := (List.mem_filter.1 hb).2
      simp only [decide_eq_true_eq] at ha2 hb2
      unfold lessE at hab
      simp only [Bool.or_eq_true, Bool.and_eq_true, decide_eq_true_eq] at hab
      have h3 : a.1 < b.1 := by omega
      simp [lessE, h3]
    · have h1 := turnF_first k a ha
      unfold turnI at hb
      obtain ⟨e, _, rfl⟩ := List.mem_map.1 hb
      unfold lessE
      simp only [Bool.or_eq_true, decide_eq_true_eq]
      exact .inl h1
/-- Turned one by one and put in order. -/
theorem turn_sort {n : Nat} {E : List Edg} (hg : gB (n : Int) E = true) : (E.map swapE).mergeSort leE = turnF E n := by
  have h1 : ((E.map swapE).mergeSort leE).Pairwise fun a b => leE a b = true := List.pairwise_mergeSort leE_trans leE_total _
  have h2 : (turnF E n).Pairwise fun a b => leE a b = true := (turnF_asc hg n).imp fun h => leE_of h
  exact List.Perm.eq_of_pairwise (fun a b _ _ => leE_anti a b) h1 h2 ((List.mergeSort_perm _ _).trans (turnF_perm E (g_in hg)).symm)
end Go.Proofs.Ytcdonbepfmhdpaa
/-
  A heap of numbers in a list: plain mathematics. Where it stands: each is not below its parent; up and down mend the one place that may be wrong.
-/
namespace Go.Proofs.Ytcdonbepfmhdpaa
open Go.RowKit
set_option linter.unusedVariables false
set_option linter.unusedSimpArgs false

/-- What lies at k. -/
def hp (H : List Int) (k : Nat) : Int := H.getD k 0
/-- Two places changed for one another. -/
def swapL (H : List Int) (i j : Nat) : List Int := (H.set i (hp H j)).set j (hp H i)

theorem hp_get {H : List Int} {k : Nat} (h : k < H.length) : hp H k = H[k] := by simp [hp, List.getD_eq_getElem?_getD, h]
theorem swapL_len (H : List Int) (i j : Nat) : (swapL H i j).length = H.length := by simp [swapL]
theorem hp_set {H : List Int} {i k : Nat} {x : Int} (h : i < H.length) : hp (H.set i x) k = if k = i then x else hp H k := by
  unfold hp
  by_cases e : k = i
  · subst e
    rw [if_pos rfl]
    simp [List.getD_eq_getElem?_getD, h]
  · rw [if_neg e]
    simp [List.getD_eq_getElem?_getD, List.getElem?_set_ne (Ne.symm e)]
theorem hp_swap {H : List Int} {i j : Nat} (hi : i < H.length) (hj : j < H.length) (k : Nat) : hp (swapL H i j) k = if k = j then hp H i else if k = i then hp H j else hp H k := by
  unfold swapL
  rw [hp_set (by simpa using hj), hp_set hi]
theorem swapL_perm {H : List Int} {i j : Nat} (hi : i < H.length) (hj : j < H.length) : (swapL H i j).Perm H := by
  have h1 := Array.swap_perm (xs := H.toArray) (i := i) (j := j) (by simpa using hi) (by simpa using hj)
  have h2 := Array.perm_iff_toList_perm.1 h1
  rw [Array.toList_swap] at h2
  simp at h2
  unfold swapL
  rw [hp_get hi, hp_get hj]
  exact h2

/-- The first n are a heap. -/
def HeapN (H : List Int) (n : Nat) : Prop := ∀ k, 0 < k → k < n → hp H ((k - 1) / 2) ≤ hp H k
/-- All but the one at j stand; what is below j is not below j's parent. -/
def UpI (H : List Int) (n j : Nat) : Prop := (∀ k, 0 < k → k < n → k ≠ j → hp H ((k - 1) / 2) ≤ hp H k) ∧ ∀ k, 0 < k → k < n → (k - 1) / 2 = j → 0 < j → hp H ((j - 1) / 2) ≤ hp H k
/-- All but those below i stand; what is below i is not below i's parent. -/
def DnI (H : List Int) (n i : Nat) : Prop := (∀ k, 0 < k → k < n → (k - 1) / 2 ≠ i → hp H ((k - 1) / 2) ≤ hp H k) ∧ ∀ k, 0 < k → k < n → (k - 1) / 2 = i → 0 < i → hp H ((i - 1) / 2) ≤ hp H k

theorem up_end0 {H : List Int} {n : Nat} (h : UpI H n 0) : HeapN H n := fun k h0 h1 => h.1 k h0 h1 (by omega)
theorem up_end {H : List Int} {n j : Nat} (h : UpI H n j) (hj : ¬ hp H j < hp H ((j - 1) / 2)) : HeapN H n := fun k h0 h1 => by
  by_cases e : k = j
  · subst e; omega
  · exact h.1 k h0 h1 e
theorem up_step {H : List Int} {n j : Nat} (h : UpI H n j) (hn : n ≤ H.length) (hj0 : 0 < j) (hj : j < n) (hl : hp H j < hp H ((j - 1) / 2)) : UpI (swapL H ((j - 1) / 2) j) n ((j - 1) / 2) := by
  have hi : (j - 1) / 2 < H.length := by omega
  have hs := fun k => hp_swap hi (show j < H.length by omega) k
  obtain ⟨h1, h2⟩ := h
  refine ⟨fun k k0 kn ke => ?_, fun k k0 kn kp j0 => ?_⟩
  · rw [hs, hs]
    by_cases c1 : k = j
    · subst c1
      rw [if_pos rfl, if_neg (by omega), if_pos rfl]
      omega
    · rw [if_neg c1, if_neg ke]
      by_cases c2 : (k - 1) / 2 = j
      · rw [if_pos c2]
        exact h2 k k0 kn c2 hj0
      · rw [if_neg c2]
        by_cases c3 : (k - 1) / 2 = (j - 1) / 2
        · rw [if_pos c3]
          have := h1 k k0 kn c1
          rw [c3] at this
          omega
        · rw [if_neg c3]
          exact h1 k k0 kn c1
  · rw [hs, hs]
    have e1 : ¬ ((j - 1) / 2 - 1) / 2 = j := by omega
    have e2 : ¬ ((j - 1) / 2 - 1) / 2 = (j - 1) / 2 := by omega
    rw [if_neg e1, if_neg e2]
    have hpar := h1 ((j - 1) / 2) j0 (by omega) (by omega)
    by_cases c1 : k = j
    · rw [if_pos c1]
      exact hpar
    · rw [if_neg c1, if_neg (by omega)]
      have := h1 k k0 kn c1
      rw [kp] at this
      omega
theorem dn_end {H : List Int} {n i : Nat} (h : DnI H n i) (hn : ∀ k, 0 < k → k < n → (k - 1) / 2 = i → hp H i ≤ hp H k) : HeapN H n := fun k h0 h1 => by
  by_cases e : (k - 1) / 2 = i
  · rw [e]
    exact hn k h0 h1 e
  · exact h.1 k h0 h1 e
theorem dn_step {H : List Int} {n i j : Nat} (h : DnI H n i) (hn : n ≤ H.length) (hj : j < n) (hji : (j - 1) / 2 = i) (hj0 : 0 < j) (hmin : ∀ k, 0 < k → k < n → (k - 1) / 2 = i → hp H j ≤ hp H k) (hl : hp H j < hp H i) : DnI (swapL H i j) n j := by
  have hi : i < H.length := by omega
  have hs := fun k => hp_swap hi (show j < H.length by omega) k
  obtain ⟨h1, h2⟩ := h
  refine ⟨fun k k0 kn ke => ?_, fun k k0 kn kp _ => ?_⟩
  · rw [hs, hs]
    by_cases c1 : k = j
    · subst c1
      rw [if_pos rfl, if_neg (by omega), if_pos hji]
      omega
    · rw [if_neg c1, if_neg ke]
      by_cases c2 : (k - 1) / 2 = i
      · rw [if_pos c2, if_neg (by omega)]
        exact hmin k k0 kn c2
      · rw [if_neg c2]
        by_cases c3 : k = i
        · rw [if_pos c3]
          subst c3
          exact h2 j hj0 hj hji k0
        · rw [if_neg c3]
          exact h1 k k0 kn c2
  · rw [hs, hs, hji]
    rw [if_neg (show ¬ i = j by omega), if_pos rfl, if_neg (show ¬ k = j by omega), if_neg (show ¬ k = i by omega)]
    have := h1 k k0 kn (by omega)
    rw [kp] at this
    exact this
/-- The first one is the least. -/
theorem heap_min {H : List Int} {n : Nat} (h : HeapN H n) : ∀ k, k < n → hp H 0 ≤ hp H k := by
  intro k
  induction k using Nat.strongRecOn with
  | ind k ih =>
    intro hk
    by_cases c : k = 0
    · subst c; exact Int.le_refl _
    · have h1 := ih ((k - 1) / 2) (by omega) (by omega)
      have h2 := h k (by omega) hk
      omega
/-- Something put behind a heap. -/
theorem push_up {H : List Int} {x : Int} (h : HeapN H H.length) : UpI (H ++ [x]) (H.length + 1) H.length := by
  have e : ∀ k, k < H.length → hp (H ++ [x]) k = hp H k := fun k hk => by simp [hp, List.getD_eq_getElem?_getD, List.getElem?_append_left hk]
  refine ⟨fun k k0 kn ke => ?_, fun k k0 kn kp j0 => by omega⟩
  rw [e _ (by omega), e _ (by omega)]
  exact h k k0 (by omega)
/-- The first one and the last one changed for one another. -/
theorem pop_down {H : List Int} {n : Nat} (h : HeapN H (n + 1)) (hl : H.length = n + 1) : DnI (swapL H 0 n) n 0 ∧ hp (swapL H 0 n) n = hp H 0 := by
  have hs := fun k => hp_swap (H := H) (i := 0) (j := n) (by omega) (by omega) k
  refine ⟨⟨fun k k0 kn ke => ?_, fun k k0 kn kp j0 => by omega⟩, ?_⟩
  · rw [hs, hs, if_neg (show ¬ k = n by omega), if_neg (show ¬ k = 0 by omega), if_neg (show ¬ (k - 1) / 2 = n by omega), if_neg ke]
    exact h k k0 (by omega)
  · rw [hs, if_pos rfl]
/-- The last one is left away. -/
theorem drop_perm {H : List Int} {n : Nat} (hl : H.length = n + 1) : H.Perm (hp H n :: H.take n) := by
  have e : H = H.take n ++ [hp H n] := by
    rw [hp_get (by omega)]
    have := List.take_succ_eq_append_getElem (l := H) (i := n) (by omega)
    rw [← this, ← hl, List.take_length]
  have h1 : (H.take n ++ [hp H n]).Perm (hp H n :: H.take n) := List.perm_append_comm
  rw [← e] at h1
  exact h1
theorem heap_take {H : List Int} {n : Nat} (h : HeapN H n) (hl : n ≤ H.length) : HeapN (H.take n) (H.take n).length := fun k k0 kn => by
  have hn : (H.take n).length = n := by simp; omega
  rw [hn] at kn
  have e : ∀ k, k < n → hp (H.take n) k = hp H k := fun k hk => by simp [hp, List.getD_eq_getElem?_getD, List.getElem?_take, hk]
  rw [e _ (by omega), e _ kn]
  exact h k k0 kn
end Go.Proofs.Ytcdonbepfmhdpaa
