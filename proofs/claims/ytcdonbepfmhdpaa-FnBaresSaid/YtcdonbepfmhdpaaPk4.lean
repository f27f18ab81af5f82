/-
  Texts that a law leans on, one behind the other; no statement is proved here.
-/
import Derived.Test.YtcdonbepfmhdpaaPk3
import Derived.Deep.RegionLaw
import Derived.Deep.CutRange
/-
  Graphs: layers along an order are the longest ways; plain mathematics.
-/
namespace Go.Proofs.Ytcdonbepfmhdpaa
open Go.RowKit
set_option linter.unusedVariables false
set_option linter.unusedSimpArgs false

/-- Each is behind all from which an edge comes. -/
def Topo (E : List Edg) (l : List Int) : Prop := ∀ (i : Nat) (h : i < l.length), ∀ e ∈ E, e.2 = l[i] → e.1 ∈ l.take i

/-- What layers are: each edge leads at least one higher, and who is not at 0 is one above one from which an edge comes. -/
def Lay (E : List Edg) (f : Int → Int) : Prop := (∀ v, 0 ≤ f v) ∧ (∀ e ∈ E, f e.1 + 1 ≤ f e.2) ∧ ∀ v, f v = 0 ∨ ∃ e ∈ E, e.2 = v ∧ f v = f e.1 + 1

theorem lay_le {E : List Edg} {f g : Int → Int} (hf : Lay E f) (hg : Lay E g) {l : List Int} (ht : Topo E l) : ∀ (i : Nat) (h : i < l.length), f l[i] ≤ g l[i] := by
  intro i
  induction i using Nat.strongRecOn with
  | ind i ih =>
    intro h
    rcases hf.2.2 l[i] with h0 | ⟨e, he, h1, h2⟩
    · have := hg.1 l[i]
      omega
    · have hm := ht i h e he h1
      obtain ⟨j, hj, hje⟩ := List.getElem_of_mem hm
      have hji : j < i := by simp at hj; omega
      rw [List.getElem_take] at hje
      have h3 := ih j hji (by omega)
      have h4 := hg.2.1 e he
      rw [hje] at h3
      rw [h1] at h4
      omega
/-- Layers are one: two that both are layers agree on all of the order. -/
theorem lay_one {E : List Edg} {f g : Int → Int} (hf : Lay E f) (hg : Lay E g) {l : List Int} (ht : Topo E l) {v : Int} (hv : v ∈ l) : f v = g v := by
  obtain ⟨i, hi, rfl⟩ := List.getElem_of_mem hv
  have h1 := lay_le hf hg ht i hi
  have h2 := lay_le hg hf ht i hi
  omega

/-- What the rounds of l9order leave: each is behind all from which an edge comes. -/
theorem ordD_topo {E : List Edg} {n : Nat} (hE : InG n E) : ∀ (k : Nat) (dn : List Bool) (out : List Int), dn.length = n → (∀ v : Int, 0 ≤ v → (bAt dn v = true ↔ v ∈ out)) → Topo E out → Topo E (ordD E n k dn out)
  | 0, _, _, _, _, h => h
  | k + 1, dn, out, hl, hd, h => by
    rcases lF_cases (freeD E dn) n 0 with e | ⟨u, e, _, hu, hfu⟩
    · rw [ordD_stop (by rw [e]; omega)]
      exact h
    · rw [ordD_next e]
      refine ordD_topo hE k _ _ (by simp [hl]) (fun v hv => ?_) (fun i hi => ?_)
      · have h1 : dn.set u true = bSet dn (u : Int) := by simp [bSet]
        rw [h1, bAt_set (by omega) hv (by simp; omega), Bool.or_eq_true, decide_eq_true_eq, hd v hv, List.mem_append]
        simp
      · intro e' he' h2
        by_cases hio : i < out.length
        · rw [List.getElem_append_left hio] at h2
          have := h i hio e' he' h2
          rw [List.take_append_of_le_length (by omega)]
          exact this
        · have hie : i = out.length := by simp at hi; omega
          subst hie
          rw [List.getElem_append_right (Nat.le_refl _)] at h2
          simp at h2
          rw [List.take_append_of_le_length (Nat.le_refl _), List.take_length]
          unfold freeD at hfu
          rw [Bool.and_eq_true, List.all_eq_true] at hfu
          have h3 := hfu.2 e' he'
          unfold barB at h3
          rw [h2] at h3
          simp at h3
          exact (hd e'.1 (hE e' he').1).1 h3
theorem ordR_topo {E : List Edg} {n : Nat} (hE : InG n E) : Topo E (ordR n E) := by
  refine ordD_topo hE _ _ _ (by simp) (fun v hv => ?_) (fun i hi => by simp at hi)
  simp [bAt, List.getD_eq_getElem?_getD, List.getElem?_replicate]
  split <;> rfl

/-- The number of v. -/
def fV (far : List Int) (v : Int) : Int := far.getD v.toNat 0
theorem fV_set {far : List Int} {v u x : Int} (hv : 0 ≤ v) (hu : 0 ≤ u) (hl : v.toNat < far.length) : fV (far.set v.toNat x) u = if u = v then x else fV far u := by
  unfold fV
  by_cases e : u = v
  · subst e
    rw [if_pos rfl]
    simp [hl]
  · have hne : v.toNat ≠ u.toNat := by omega
    rw [if_neg e]
    simp [List.getD_eq_getElem?_getD, List.getElem?_set_ne hne]

/-- Behind the rounds of those in P, and the first edges of one of v. -/
def LInv (n : Nat) (E l : List Edg) (P : List Int) (v : Int) (far : List Int) : Prop :=
  far.length = n ∧ (∀ e ∈ E, e.1 ∈ P → fV far e.1 + 1 ≤ fV far e.2) ∧ (∀ e ∈ l, e.1 = v → fV far v + 1 ≤ fV far e.2) ∧ ∀ x : Int, 0 ≤ x → fV far x = 0 ∨ ∃ e ∈ E, e.2 = x ∧ (e.1 ∈ P ∨ e.1 = v) ∧ fV far x = fV far e.1 + 1

theorem lInv_edge {n : Nat} {E l : List Edg} {P : List Int} {v : Int} {far : List Int} {d : Edg} (hE : InG n E) (hP : ∀ x ∈ P, 0 ≤ x) (hv : 0 ≤ v) (hfree : ∀ e ∈ E, e.1 = v → e.2 ∉ P ∧ e.2 ≠ v) (hl : ∀ e ∈ l, e ∈ E) (hd : d ∈ E) (h : LInv n E l P v far) : LInv n E (l ++ [d]) P v (edgeL v far d) := by
  obtain ⟨h0, h1, h2, h3⟩ := h
  have hdE := hE d hd
  have hfv : ∀ y : Int, fV far y = far.getD y.toNat 0 := fun y => rfl
  by_cases c : d.1 = v ∧ far.getD d.2.toNat 0 < far.getD d.1.toNat 0 + 1
  · obtain ⟨c1, c2⟩ := c
    have heq : edgeL v far d = far.set d.2.toNat (fV far v + 1) := by
      unfold edgeL
      rw [if_pos ⟨c1, c2⟩, hfv, c1]
    have hfr := hfree d hd c1
    have hset : ∀ u : Int, 0 ≤ u → fV (edgeL v far d) u = if u = d.2 then fV far v + 1 else fV far u := fun u hu => by rw [heq]; exact fV_set hdE.2.2.1 hu (by omega)
    have hold : ∀ u : Int, 0 ≤ u → (u ∈ P ∨ u = v) → fV (edgeL v far d) u = fV far u := fun u hu hm => by
      rw [hset u hu, if_neg]
      rintro rfl
      rcases hm with hm | hm
      · exact hfr.1 hm
      · exact hfr.2 hm
    have hup : ∀ u : Int, 0 ≤ u → fV far u ≤ fV (edgeL v far d) u := fun u hu => by
      rw [hset u hu]
      split
      · next e =>
        rw [e, hfv d.2, hfv v, ← c1]
        omega
      · exact Int.le_refl _
    have hvv := hold v hv (.inr rfl)
    refine ⟨by rw [edgeL_len, h0], fun e he hm => ?_, fun e he hev => ?_, fun x hx => ?_⟩
    · have e1 := hE e he
      have := h1 e he hm
      have := hup e.2 e1.2.2.1
      rw [hold e.1 e1.1 (.inl hm)]
      omega
    · rw [hvv]
      rcases List.mem_append.1 he with he | he
      · have := h2 e he hev
        have := hup e.2 (hE e (hl e he)).2.2.1
        omega
      · simp at he
        subst he
        rw [hset e.2 hdE.2.2.1, if_pos rfl]
        omega
    · by_cases ex : x = d.2
      · refine .inr ⟨d, hd, ex.symm, .inr c1, ?_⟩
        rw [hset x hx, if_pos ex, c1, hvv]
      · rw [hset x hx, if_neg ex]
        rcases h3 x hx with h4 | ⟨e, he, h5, h6, h7⟩
        · exact .inl h4
        · exact .inr ⟨e, he, h5, h6, by rw [hold e.1 (hE e he).1 h6]; exact h7⟩
  · have heq : edgeL v far d = far := by
      unfold edgeL
      rw [if_neg c]
    rw [heq]
    refine ⟨h0, h1, fun e he hev => ?_, h3⟩
    rcases List.mem_append.1 he with he | he
    · exact h2 e he hev
    · simp at he
      subst he
      have : ¬ far.getD e.2.toNat 0 < far.getD e.1.toNat 0 + 1 := fun hc => c ⟨hev, hc⟩
      rw [hfv e.2, ← hev, hfv e.1]
      omega
theorem lInv_round {n : Nat} {E : List Edg} {P : List Int} {v : Int} (hE : InG n E) (hP : ∀ x ∈ P, 0 ≤ x) (hv : 0 ≤ v) (hfree : ∀ e ∈ E, e.1 = v → e.2 ∉ P ∧ e.2 ≠ v) : ∀ (r l : List Edg) (far : List Int), (∀ e ∈ l, e ∈ E) → (∀ e ∈ r, e ∈ E) → LInv n E l P v far → LInv n E (l ++ r) P v (roundL r far v)
  | [], l, far, _, _, h => by rw [List.append_nil]; exact h
  | d :: r, l, far, hl, hr, h => by
    have h1 := lInv_edge hE hP hv hfree hl (hr d (by simp)) h
    have h2 := lInv_round hE hP hv hfree r (l ++ [d]) (edgeL v far d) (fun e he => by
      rcases List.mem_append.1 he with he | he
      · exact hl e he
      · simp at he; subst he; exact hr e (by simp)) (fun e he => hr e (List.mem_cons_of_mem _ he)) h1
    rw [List.append_assoc] at h2
    exact h2

theorem lInv_next {n : Nat} {E : List Edg} {P : List Int} {v v' : Int} {far : List Int} (h : LInv n E E P v far) : LInv n E [] (P ++ [v]) v' far := by
  obtain ⟨h0, h1, h2, h3⟩ := h
  refine ⟨h0, fun e he hm => ?_, fun e he => by simp at he, fun x hx => ?_⟩
  · rcases List.mem_append.1 hm with hm | hm
    · exact h1 e he hm
    · simp at hm
      have := h2 e he hm
      rw [hm]
      exact this
  · rcases h3 x hx with h4 | ⟨e, he, h5, h6, h7⟩
    · exact .inl h4
    · exact .inr ⟨e, he, h5, .inl (by rw [List.mem_append]; rcases h6 with h6 | h6 <;> simp [h6]), h7⟩
/-- Along an order that has no two alike. -/
theorem lInv_rounds {n : Nat} {E : List Edg} (hE : InG n E) {L : List Int} (hT : Topo E L) (hnd : L.Nodup) (hL : ∀ v ∈ L, 0 ≤ v) (far : List Int) (h : far.length = n) (hz : ∀ x : Int, 0 ≤ x → fV far x = 0) : ∀ i, i ≤ L.length → ∀ v', LInv n E [] (L.take i) v' (roundsL E (L.take i) far)
  | 0, _, v' => ⟨h, fun e he hm => by simp at hm, fun e he => by simp at he, fun x hx => .inl (hz x hx)⟩
  | i + 1, hi, v' => by
    have hil : i < L.length := by omega
    have ih := lInv_rounds hE hT hnd hL far h hz i (by omega) L[i]
    have hfree : ∀ e ∈ E, e.1 = L[i] → e.2 ∉ L.take i ∧ e.2 ≠ L[i] := fun e he h1 => by
      have key : ∀ j, j ≤ i → ∀ (hj : j < L.length), e.2 ≠ L[j] := fun j hji hj h2 => by
        have hm := hT j hj e he h2
        obtain ⟨k, hk, hke⟩ := List.getElem_of_mem hm
        have hkj : k < j := by simp at hk; omega
        rw [List.getElem_take] at hke
        have := (List.nodup_iff_pairwise_ne.1 hnd)
        have := List.pairwise_iff_getElem.1 this k i (by omega) hil (by omega)
        exact this (by rw [hke, h1])
      refine ⟨fun hm => ?_, key i (Nat.le_refl _) hil⟩
      obtain ⟨k, hk, hke⟩ := List.getElem_of_mem hm
      have hki : k < i := by simp at hk; omega
      rw [List.getElem_take] at hke
      exact key k (by omega) (by omega) hke.symm
    have hr := lInv_round hE (fun x hx => hL x (List.mem_of_mem_take hx)) (hL _ (List.getElem_mem hil)) hfree E [] _ (fun e he => by simp at he) (fun e he => he) ih
    rw [List.nil_append, ← roundsL_succ E L far i hil] at hr
    rw [List.take_succ_eq_append_getElem hil] at hr ⊢
    exact lInv_next hr

/-- Layers along an order are layers. -/
theorem rounds_lay {n : Nat} {E : List Edg} (hE : InG n E) {L : List Int} (hT : Topo E L) (hnd : L.Nodup) (hL : ∀ v ∈ L, 0 ≤ v) (hall : ∀ e ∈ E, e.1 ∈ L) : Lay E fun v => if 0 ≤ v then fV (roundsL E L (List.replicate n 0)) v else 0 := by
  have hI := lInv_rounds hE hT hnd hL (List.replicate n 0) (by simp) (fun x hx => by
    unfold fV
    simp only [List.getD_eq_getElem?_getD, List.getElem?_replicate]
    split <;> rfl) L.length (Nat.le_refl _) 0
  rw [List.take_length] at hI
  obtain ⟨_, h1, _, h3⟩ := hI
  have hup := upTo_rounds E L (upTo_repl n)
  refine ⟨fun v => ?_, fun e he => ?_, fun v => ?_⟩
  · show 0 ≤ if 0 ≤ v then _ else _
    split
    · exact (hup v.toNat).1
    · omega
  · have := hE e he
    show (if 0 ≤ e.1 then _ else _) + 1 ≤ if 0 ≤ e.2 then _ else _
    rw [if_pos this.1, if_pos this.2.2.1]
    exact h1 e he (hall e he)
  · by_cases hv : 0 ≤ v
    · rcases h3 v hv with h4 | ⟨e, he, h5, _, h7⟩
      · refine .inl ?_
        show (if 0 ≤ v then _ else _) = _
        rw [if_pos hv]
        exact h4
      · refine .inr ⟨e, he, h5, ?_⟩
        show (if 0 ≤ v then _ else _) = (if 0 ≤ e.1 then _ else _) + 1
        rw [if_pos hv, if_pos (hE e he).1]
        exact h7
    · refine .inl ?_
      show (if 0 ≤ v then _ else _) = _
      rw [if_neg hv]

/-- What the rounds of l9order leave: no two alike, all in the bounds; and all there are, if they are as many. -/
theorem ordD_full {E : List Edg} {n : Nat} : ∀ (k : Nat) (dn : List Bool) (out : List Int), dn.length = n → out.length = cntB dn → (∀ v : Int, 0 ≤ v → (bAt dn v = true ↔ v ∈ out)) → out.Nodup → (∀ v ∈ out, 0 ≤ v ∧ v < (n : Int)) →
    (ordD E n k dn out).Nodup ∧ (∀ v ∈ ordD E n k dn out, 0 ≤ v ∧ v < (n : Int)) ∧ (n ≤ (ordD E n k dn out).length → ∀ v : Int, 0 ≤ v → v < (n : Int) → v ∈ ordD E n k dn out) := by
  have stop : ∀ (dn : List Bool) (out : List Int), dn.length = n → out.length = cntB dn → (∀ v : Int, 0 ≤ v → (bAt dn v = true ↔ v ∈ out)) → n ≤ out.length → ∀ v : Int, 0 ≤ v → v < (n : Int) → v ∈ out := fun dn out h1 h2 h3 hn v hv hvn => by
    rw [← h3 v hv]
    have hc : List.count true dn = dn.length := by
      have := cnt_le dn
      unfold cntB at this h2
      omega
    have hall := List.count_eq_length.1 hc
    unfold bAt
    have hl : v.toNat < dn.length := by omega
    rw [List.getD_eq_getElem?_getD, List.getElem?_eq_getElem hl]
    exact (hall _ (List.getElem_mem hl)).symm
  intro k
  induction k with
  | zero => exact fun dn out h1 h2 h3 h4 h5 => ⟨h4, h5, stop dn out h1 h2 h3⟩
  | succ k ih =>
    intro dn out h1 h2 h3 h4 h5
    rcases lF_cases (freeD E dn) n 0 with e | ⟨u, e, _, hu, hfu⟩
    · rw [ordD_stop (by rw [e]; omega)]
      exact ⟨h4, h5, stop dn out h1 h2 h3⟩
    · rw [ordD_next e]
      have hnf := free_not hfu
      have hno : ¬ (u : Int) ∈ out := fun hm => by
        have := (h3 (u : Int) (by omega)).2 hm
        unfold bAt at this
        rw [Int.toNat_natCast, hnf] at this
        cases this
      refine ih _ _ (by simp [h1]) ?_ (fun v hv => ?_) ?_ (fun v hv => ?_)
      · rw [List.length_append, (cnt_set dn u).2 (by omega) hnf, h2]
        rfl
      · have h6 : dn.set u true = bSet dn (u : Int) := by simp [bSet]
        rw [h6, bAt_set (by omega) hv (by simp; omega), Bool.or_eq_true, decide_eq_true_eq, h3 v hv, List.mem_append]
        simp
      · rw [List.nodup_append]
        refine ⟨h4, by simp, fun a ha b hb => ?_⟩
        simp at hb
        subst hb
        rintro rfl
        exact hno ha
      · rcases List.mem_append.1 hv with hv | hv
        · exact h5 v hv
        · simp at hv
          omega
theorem ordR_full {E : List Edg} {n : Nat} : (ordR n E).Nodup ∧ (∀ v ∈ ordR n E, 0 ≤ v ∧ v < (n : Int)) ∧ (n ≤ (ordR n E).length → ∀ v : Int, 0 ≤ v → v < (n : Int) → v ∈ ordR n E) := by
  refine ordD_full _ _ _ (by simp) (by rw [cnt_repl]; rfl) (fun v hv => ?_) List.nodup_nil (fun v hv => by simp at hv)
  simp [bAt, List.getD_eq_getElem?_getD, List.getElem?_replicate]
  split <;> rfl
/-- Where there is an order, Layer answers what any layers say. -/
theorem layA_lay {n : Nat} {E : List Edg} (hE : InG n E) (hb : ordB (n : Int) E = true) {g : Int → Int} (hg : Lay E g) {v : Int} (h0 : 0 ≤ v) (h1 : v < (n : Int)) : layA (n : Int) E v = g v := by
  have hle : n ≤ (ordR n E).length := by
    unfold ordB at hb
    rw [Bool.and_eq_true, decide_eq_true_eq] at hb
    simpa using hb.2
  obtain ⟨hnd, hbd, hall⟩ := ordR_full (n := n) (E := E)
  have hl := rounds_lay hE (ordR_topo hE) hnd (fun v hv => (hbd v hv).1) (fun e he => hall hle e.1 (hE e he).1 (hE e he).2.1)
  have h2 := lay_one hl hg (ordR_topo hE) (hall hle v h0 h1)
  unfold layA
  rw [if_pos ⟨hb, h0, h1⟩, Int.toNat_natCast, ← h2]
  show _ = if 0 ≤ v then _ else _
  rw [if_pos h0]
  rfl
end Go.Proofs.Ytcdonbepfmhdpaa
/-
  Ring of the specification.
-/
namespace Go.Proofs.Ytcdonbepfmhdpaa
open Go.RowKit
set_option linter.unusedVariables false
set_option linter.unusedSimpArgs false

/-- Where the edges from v end. -/
def nextL (E : List Edg) (v : Int) : List Int := (E.filter fun e => decide (e.1 = v)).map (·.2)
/-- Is v in a ring? -/
def ringB (n : Nat) (E : List Edg) (v : Nat) : Bool := decide ((v : Int) ∈ reachF n E (nextL E (v : Int)))
/-- Those below k in a ring. -/
def ringF (n : Nat) (E : List Edg) (k : Nat) : List Int := ((List.range k).filter (ringB n E)).map fun v : Nat => (v : Int)
/-- What Ring answers. -/
def ringA (n : Int) (E : List Edg) : List Int := if gB n E = true then ringF n.toNat E n.toNat else []

theorem nextL_succ (E : List Edg) (v : Int) (j : Nat) (h : j < E.length) : nextL (E.take (j + 1)) v = nextL (E.take j) v ++ (if E[j].1 = v then [E[j].2] else []) := by
  unfold nextL
  rw [List.take_succ_eq_append_getElem h, List.filter_append, List.map_append, List.filter_cons, List.filter_nil]
  by_cases e : E[j].1 = v
  · rw [if_pos e, if_pos (by simpa using e)]
    rfl
  · rw [if_neg e, if_neg (by simpa using e)]
    rfl
theorem nextL_len (E : List Edg) (v : Int) : (nextL E v).length ≤ E.length := by
  unfold nextL
  rw [List.length_map]
  exact List.length_filter_le _ _
theorem nextL_in {n : Nat} {E : List Edg} (hE : InG n E) (v : Int) : ∀ u ∈ nextL E v, 0 ≤ u ∧ u < (n : Int) := fun u hu => by
  unfold nextL at hu
  obtain ⟨e, he, rfl⟩ := List.mem_map.1 hu
  have := hE e (List.mem_filter.1 he).1
  exact ⟨this.2.2.1, this.2.2.2⟩
theorem ringF_succ (n : Nat) (E : List Edg) (k : Nat) : ringF n E (k + 1) = ringF n E k ++ (if ringB n E k = true then [(k : Int)] else []) := by
  unfold ringF
  rw [List.range_succ, List.filter_append, List.map_append, List.filter_cons, List.filter_nil]
  by_cases h : ringB n E k = true
  · rw [if_pos h, if_pos h]
    rfl
  · rw [if_neg h, if_neg h]
    rfl
theorem ringF_len (n : Nat) (E : List Edg) (k : Nat) : (ringF n E k).length ≤ k := by
  unfold ringF
  rw [List.length_map]
  exact Nat.le_trans (List.length_filter_le _ _) (by simp)

/-- What is behind the first j of a list that ascends: v, if it is among them. -/
def gotV (l : List Int) (v : Int) (j : Nat) : List Int := if v ∈ l.take j then [v] else []
theorem outF_len (is : List Bool) (n : Nat) : (outF is n).length ≤ n := by
  unfold outF
  rw [List.length_map]
  exact Nat.le_trans (List.length_filter_le _ _) (by simp)
theorem reachF_len (n : Nat) (E : List Edg) (l : List Int) : (reachF n E l).length ≤ n := outF_len _ _
theorem out_asc (is : List Bool) (n : Nat) : (outF is n).Pairwise (· < ·) := by
  unfold outF
  rw [List.pairwise_map]
  exact (List.pairwise_lt_range.filter _).imp fun h => by omega
theorem got_succ {l : List Int} (hn : l.Pairwise (· < ·)) (v : Int) (j : Nat) (h : j < l.length) : gotV l v (j + 1) = gotV l v j ++ (if l[j] = v then [v] else []) := by
  unfold gotV
  rw [List.take_succ_eq_append_getElem h]
  by_cases e : l[j] = v
  · have hno : ¬ v ∈ l.take j := fun hc => by
      obtain ⟨i, hi, hiv⟩ := List.getElem_of_mem hc
      have hij : i < j := by simp at hi; omega
      rw [List.getElem_take] at hiv
      have := List.pairwise_iff_getElem.1 hn i j (by omega) h hij
      omega
    rw [if_pos e, if_neg hno, if_pos (by rw [List.mem_append]; exact .inr (by simp [e]))]
    rfl
  · rw [if_neg e, List.append_nil]
    by_cases hc : v ∈ l.take j
    · rw [if_pos hc, if_pos (List.mem_append.2 (.inl hc))]
    · rw [if_neg hc, if_neg]
      rw [List.mem_append]
      rintro (h1 | h1)
      · exact hc h1
      · simp at h1
        exact e h1.symm

/-- A box, and all ahead of it as it was. -/
def GSt (w : World) (o : Obj) (wr : World) : Prop := wr.heap[w.heap.size]? = some o ∧ Below w.heap.size w wr ∧ w.heap.size + 1 ≤ wr.heap.size
theorem GSt.on {w wr w' : World} {o : Obj} (h : GSt w o wr) (hb : Below wr.heap.size wr w') : GSt w o w' := by
  obtain ⟨h1, h2, h3⟩ := h
  have := hb.size
  exact ⟨(hb.block _ (by omega)).trans h1, Below.on h2 hb, by omega⟩
theorem GSt.grown {w wr w' : World} {o : Obj} {r : Option Nat} (h : GSt w o wr) (hg : wr.grownBy w' r) (hr : ∀ k, r = some k → w.heap.size + 1 ≤ k) : GSt w o w' := by
  obtain ⟨h1, h2, h3⟩ := h
  exact ⟨(hg.block _ (by omega) (fun e => by have := hr _ e.symm; omega)).trans h1, h2.grown hg (by omega) (fun k hk => by have := hr k hk; omega), by have := hg.size; omega⟩

end Go.Proofs.Ytcdonbepfmhdpaa
/-
  Part of the specification.
-/
namespace Go.Proofs.Ytcdonbepfmhdpaa
open Go.RowKit
set_option linter.unusedVariables false
set_option linter.unusedSimpArgs false

/-- Is v among them? -/
def hasB (l : List Int) (v : Int) : Bool := decide (v ∈ l)

theorem filter_succ (p : Edg → Bool) (E : List Edg) (j : Nat) (h : j < E.length) : (E.take (j + 1)).filter p = (E.take j).filter p ++ (if p E[j] = true then [E[j]] else []) := by
  rw [List.take_succ_eq_append_getElem h, List.filter_append, List.filter_cons, List.filter_nil]
theorem filter_len (p : Edg → Bool) (E : List Edg) (j : Nat) : ((E.take j).filter p).length ≤ j := Nat.le_trans (List.length_filter_le _ _) (by simp; omega)

/-- Two boxes of the call's own, a third one behind a call (block R), which holds a row of edges of its own. -/
def FSt (w : World) (o o' : Obj) (R : Nat) (n : Int) (l : List Edg) (u : Value) (wr : World) : Prop :=
  wr.heap[w.heap.size]? = some o ∧ wr.heap[w.heap.size + 1]? = some o' ∧ Below w.heap.size w wr ∧ w.heap.size + 2 ≤ R ∧ wr.heap[R]? = some (.cells #[.int .i64 n, u] 25 (0, 0)) ∧ EOwn wr (R + 1) u l

theorem fSt_add {w wr w6 : World} {o o' o1 : Obj} {R g cp : Nat} {n : Int} {l : List Edg} {ua : Option Addr} {uc : Nat} {e : Edg} (h : FSt w o o' R n l (.slice ua l.length uc) wr) (hown : w6.ownsRow (R + 1) 36 2 (.slice (some ⟨g, 0, none⟩) (l.length + 1) cp) (l.length + 1) (eC l ++ [.int .i64 e.1, .int .i64 e.2])) (hg : (wr.alloc o1).grownBy w6 (Value.slice ua l.length uc).ownBlock) :
    (w6.cell? ⟨R, 1, none⟩ = some (.slice ua l.length uc) ∧ w6.frozen? ⟨R, 1, none⟩ = false) ∧ FSt w o o' R n (l ++ [e]) (.slice (some ⟨g, 0, none⟩) (l.length + 1) cp) (w6.setCell ⟨R, 1, none⟩ (.slice (some ⟨g, 0, none⟩) (l.length + 1) cp)) := by
  obtain ⟨h1, h2, h3, h4, h5, h6⟩ := h
  have hR : R < wr.heap.size := (Array.getElem?_eq_some_iff.1 h5).1
  have hlt := h6.lt
  have hk : ∀ b, b ≤ R → w6.heap[b]? = wr.heap[b]? := fun b hb => (hg.block b (by simp; omega) (fun e' => by have := (hlt b e'.symm).1; omega)).trans (Below.heap_alloc wr o1 b (by omega))
  have h56 := (hk R (Nat.le_refl _)).trans h5
  obtain ⟨t0, t1, tf⟩ := row2 h56
  refine ⟨⟨t1, tf 1⟩, (Below.heap_setCell w6 _ _ _ (by show w.heap.size ≠ R; omega)).trans ((hk _ (by omega)).trans h1), (Below.heap_setCell w6 _ _ _ (by show w.heap.size + 1 ≠ R; omega)).trans ((hk _ (by omega)).trans h2), ?_, h4, ?_, ?_⟩
  · exact (((h3.alloc (by omega) o1).grown hg (by simp; omega) (fun q hq => by have := (hlt q hq).1; omega))).setCell (by show w.heap.size ≤ R; omega) _
  · rw [heap_setCell_same w6 R 1 _ _ _ h56]
    rfl
  · have hO : EOwn w6 (R + 1) (.slice (some ⟨g, 0, none⟩) (l.length + 1) cp) (l ++ [e]) := by
      unfold EOwn
      rw [eC_add, List.length_append]
      exact hown
    exact hO.far (grown1 w6 R 1 _) (fun q hq => by have := (hO.lt q hq).1; simp; omega)

/-- May Part answer? -/
def partB (n : Int) (E : List Edg) (l : List Int) : Bool := gB n E && decide (l.length ≤ 20)
/-- Both ends are kept. -/
def keepE (l : List Int) (e : Edg) : Bool := hasB l e.1 && hasB l e.2
/-- What Part answers: how many, and the edges. -/
def partN (n : Int) (E : List Edg) (l : List Int) : Int := if partB n E l = true then n else 0
def partA (n : Int) (E : List Edg) (l : List Int) : List Edg := if partB n E l = true then E.filter (keepE l) else []

/-- What a function that answers a graph and a bool leaves. -/
def GrEnd (n : Int) (l : List Edg) (b : Bool) (w : World) (e : Ending) (w' : World) : Prop := ∃ u, e = .returned (.tuple #[.agg #[.int .i64 n, u], .bool b]) ∧ EOwn w' w.heap.size u l ∧ Below w.heap.size w w'
end Go.Proofs.Ytcdonbepfmhdpaa
/-
  l9leads of the specification: is there a way, one edge being left aside?
-/
namespace Go.Proofs.Ytcdonbepfmhdpaa
open Go.RowKit
set_option linter.unusedVariables false
set_option linter.unusedSimpArgs false

/-- The first j edges, but for number 'aside'. -/
def restF (E : List Edg) (aside : Int) (j : Nat) : List Edg := ((List.range j).filter fun i : Nat => !decide ((i : Int) = aside)).map fun i => E.getD i (0, 0)
/-- What l9leads answers. -/
def leadsF (n : Nat) (E : List Edg) (a b aside : Int) : Bool := decide (b ∈ reachF n (restF E aside E.length) (nextL (restF E aside E.length) a))

theorem restF_zero (E : List Edg) (aside : Int) : restF E aside 0 = [] := rfl
theorem restF_succ (E : List Edg) (aside : Int) (j : Nat) (h : j < E.length) : restF E aside (j + 1) = restF E aside j ++ (if (j : Int) = aside then [] else [E[j]]) := by
  unfold restF
  rw [List.range_succ, List.filter_append, List.map_append, List.filter_cons, List.filter_nil]
  have hg : E.getD j (0, 0) = E[j] := by simp [List.getD_eq_getElem?_getD, h]
  by_cases e : (j : Int) = aside
  · rw [if_pos e, if_neg (by simp [e])]
    rfl
  · rw [if_neg e, if_pos (by simp [e])]
    simp [hg, h]
theorem restF_len (E : List Edg) (aside : Int) (j : Nat) : (restF E aside j).length ≤ j := by
  unfold restF
  rw [List.length_map]
  exact Nat.le_trans (List.length_filter_le _ _) (by simp)
theorem restF_in {n : Nat} {E : List Edg} (hE : InG n E) (aside : Int) : InG n (restF E aside E.length) := fun e he => by
  unfold restF at he
  obtain ⟨i, hi, rfl⟩ := List.mem_map.1 he
  have hi' : i < E.length := by simpa using (List.mem_filter.1 hi).1
  have hg : E.getD i (0, 0) = E[i] := by simp [List.getD_eq_getElem?_getD, hi']
  rw [hg]
  exact hE _ (List.getElem_mem hi')
theorem nextL_add (l : List Edg) (e : Edg) (v : Int) : nextL (l ++ [e]) v = nextL l v ++ (if e.1 = v then [e.2] else []) := by
  unfold nextL
  rw [List.filter_append, List.map_append, List.filter_cons, List.filter_nil]
  by_cases c : e.1 = v
  · rw [if_pos c, if_pos (by simpa using c)]
    rfl
  · rw [if_neg c, if_neg (by simpa using c)]
    rfl

/-- Two rows of different kinds lie apart. -/
theorem rows_apart {w : World} {b1 b2 : Nat} {u v : Value} {l : List Edg} {q : List Int} (h : EOwn w b1 u l) (k : NOwn w b2 v q) : ∀ g, u.ownBlock = some g → v.ownBlock ≠ some g := by
  intro g hg hv
  rcases h.2 with ⟨rfl, _⟩ | ⟨g1, c1, cur1, rfl, _, h1, _⟩
  · simp [Value.ownBlock] at hg
  · rcases k.2 with ⟨rfl, _⟩ | ⟨g2, c2, cur2, rfl, _, h2, _⟩
    · simp [Value.ownBlock] at hv
    · simp [Value.ownBlock] at hg hv
      subst hg
      subst hv
      rw [h1] at h2
      simp at h2

/-- The graph's box, the box of what is left (with a row of its own), and a row of numbers. -/
def LSt (w : World) (o : Obj) (n : Int) (l : List Edg) (q : List Int) (u v : Value) (wr : World) : Prop :=
  wr.heap[w.heap.size]? = some o ∧ Below w.heap.size w wr ∧ wr.heap[w.heap.size + 1]? = some (.cells #[.int .i64 n, u] 25 (0, 0)) ∧ EOwn wr (w.heap.size + 2) u l ∧ NOwn wr (w.heap.size + 2) v q

theorem lSt_edge {w wr w6 : World} {o o1 : Obj} {g cp : Nat} {n : Int} {l : List Edg} {q : List Int} {ua : Option Addr} {uc : Nat} {v : Value} {e : Edg} (h : LSt w o n l q (.slice ua l.length uc) v wr) (hown : w6.ownsRow (w.heap.size + 2) 36 2 (.slice (some ⟨g, 0, none⟩) (l.length + 1) cp) (l.length + 1) (eC l ++ [.int .i64 e.1, .int .i64 e.2])) (hg : (wr.alloc o1).grownBy w6 (Value.slice ua l.length uc).ownBlock) :
    (w6.cell? ⟨w.heap.size + 1, 1, none⟩ = some (.slice ua l.length uc) ∧ w6.frozen? ⟨w.heap.size + 1, 1, none⟩ = false) ∧ LSt w o n (l ++ [e]) q (.slice (some ⟨g, 0, none⟩) (l.length + 1) cp) v (w6.setCell ⟨w.heap.size + 1, 1, none⟩ (.slice (some ⟨g, 0, none⟩) (l.length + 1) cp)) := by
  obtain ⟨h1, h3, h5, h6, h7⟩ := h
  have hR : w.heap.size + 1 < wr.heap.size := (Array.getElem?_eq_some_iff.1 h5).1
  have hlt := h6.lt
  have hap := rows_apart h6 h7
  have hk : ∀ b, b ≤ w.heap.size + 1 → w6.heap[b]? = wr.heap[b]? := fun b hb => (hg.block b (by simp; omega) (fun e' => by have := (hlt b e'.symm).1; omega)).trans (Below.heap_alloc wr o1 b (by omega))
  have h56 := (hk (w.heap.size + 1) (Nat.le_refl _)).trans h5
  obtain ⟨t0, t1, tf⟩ := row2 h56
  have hO : EOwn w6 (w.heap.size + 2) (.slice (some ⟨g, 0, none⟩) (l.length + 1) cp) (l ++ [e]) := by
    unfold EOwn
    rw [eC_add, List.length_append]
    exact hown
  have hQ : NOwn w6 (w.heap.size + 2) v q := (NOwn.on h7 ((Below.refl _ _).alloc (Nat.le_refl _) o1)).far hg (fun k hk' e' => hap k e' hk')
  refine ⟨⟨t1, tf 1⟩, (Below.heap_setCell w6 _ _ _ (by show w.heap.size ≠ w.heap.size + 1; omega)).trans ((hk _ (by omega)).trans h1), ?_, ?_, ?_, ?_⟩
  · exact (((h3.alloc (by omega) o1).grown hg (by simp; omega) (fun q hq => by have := (hlt q hq).1; omega))).setCell (by show w.heap.size ≤ w.heap.size + 1; omega) _
  · rw [heap_setCell_same w6 _ 1 _ _ _ h56]
    rfl
  · exact hO.far (grown1 w6 _ 1 _) (fun q hq => by have := (hO.lt q hq).1; simp; omega)
  · exact hQ.far (grown1 w6 _ 1 _) (fun q hq => by have := (hQ.lt q hq).1; simp; omega)
theorem lSt_num {w wr w6 : World} {o o1 : Obj} {g cp : Nat} {n : Int} {l : List Edg} {q : List Int} {va : Option Addr} {vc : Nat} {u : Value} {x : Int} (h : LSt w o n l q u (.slice va q.length vc) wr) (hown : w6.ownsRow (w.heap.size + 2) 3 1 (.slice (some ⟨g, 0, none⟩) (q.length + 1) cp) (q.length + 1) (iC q ++ [.int .i64 x])) (hg : (wr.alloc o1).grownBy w6 (Value.slice va q.length vc).ownBlock) :
    LSt w o n l (q ++ [x]) u (.slice (some ⟨g, 0, none⟩) (q.length + 1) cp) w6 := by
  obtain ⟨h1, h3, h5, h6, h7⟩ := h
  have hR : w.heap.size + 1 < wr.heap.size := (Array.getElem?_eq_some_iff.1 h5).1
  have hlt := h7.lt
  have hap := rows_apart h6 h7
  have hk : ∀ b, b ≤ w.heap.size + 1 → w6.heap[b]? = wr.heap[b]? := fun b hb => (hg.block b (by simp; omega) (fun e' => by have := (hlt b e'.symm).1; omega)).trans (Below.heap_alloc wr o1 b (by omega))
  have hO : NOwn w6 (w.heap.size + 2) (.slice (some ⟨g, 0, none⟩) (q.length + 1) cp) (q ++ [x]) := by
    unfold NOwn
    rw [iC_add, List.length_append]
    exact hown
  exact ⟨(hk _ (by omega)).trans h1, (h3.alloc (by omega) o1).grown hg (by simp; omega) (fun q hq => by have := (hlt q hq).1; omega), (hk _ (Nat.le_refl _)).trans h5, (EOwn.on h6 ((Below.refl _ _).alloc (Nat.le_refl _) o1)).far hg (fun k hk' e' => hap k hk' e'), hO⟩

end Go.Proofs.Ytcdonbepfmhdpaa
/-
  Leads of the specification.
-/
namespace Go.Proofs.Ytcdonbepfmhdpaa
open Go.RowKit
set_option linter.unusedVariables false
set_option linter.unusedSimpArgs false

/-- What Leads answers. -/
def leadsB (n : Int) (E : List Edg) (a b : Int) : Bool := gB n E && (decide (0 ≤ a) && (decide (a < n) && (decide (0 ≤ b) && (decide (b < n) && leadsF n.toNat E a b (-1)))))

end Go.Proofs.Ytcdonbepfmhdpaa
/-
  Graphs: what Ring and Leads answer, said by ways; plain mathematics.
-/
namespace Go.Proofs.Ytcdonbepfmhdpaa
open Go.RowKit
set_option linter.unusedVariables false
set_option linter.unusedSimpArgs false

/-- A way of one edge or more leads from a to b. -/
inductive Way (E : List Edg) (a : Int) : Int → Prop
  | one {e : Edg} : e ∈ E → e.1 = a → Way E a e.2
  | more {e : Edg} : e ∈ E → Way E a e.1 → Way E a e.2

theorem way_iff {E : List Edg} {a b : Int} : Way E a b ↔ Rch E (nextL E a) b := by
  constructor
  · intro h
    induction h with
    | one he ha =>
      refine .told ?_
      unfold nextL
      exact List.mem_map.2 ⟨_, List.mem_filter.2 ⟨he, by simpa using ha⟩, rfl⟩
    | more he _ ih => exact .edge he ih
  · intro h
    induction h with
    | told hv =>
      unfold nextL at hv
      obtain ⟨e, he, rfl⟩ := List.mem_map.1 hv
      obtain ⟨h1, h2⟩ := List.mem_filter.1 he
      exact .one h1 (by simpa using h2)
    | edge he _ ih => exact .more he ih

theorem restF_none (E : List Edg) : ∀ j, j ≤ E.length → restF E (-1) j = E.take j
  | 0, _ => by simp [restF_zero]
  | j + 1, h => by
    rw [restF_succ E (-1) j (by omega), restF_none E j (by omega), if_neg (by omega), List.take_succ_eq_append_getElem (by omega)]

theorem way_in {n : Nat} {E : List Edg} (hE : InG n E) {a b : Int} (h : Way E a b) : 0 ≤ b ∧ b < (n : Int) := by
  cases h with
  | one he _ => exact ⟨(hE _ he).2.2.1, (hE _ he).2.2.2⟩
  | more he _ => exact ⟨(hE _ he).2.2.1, (hE _ he).2.2.2⟩

theorem mem_reachF {n : Nat} {E : List Edg} {l : List Int} (hE : InG n E) (hf : ∀ v ∈ l, 0 ≤ v ∧ v < (n : Int)) {u : Int} : u ∈ reachF n E l ↔ 0 ≤ u ∧ u < (n : Int) ∧ Rch E l u := by
  unfold reachF
  rw [mem_outF]
  constructor
  · rintro ⟨h1, h2, h3⟩
    exact ⟨h1, h2, (reach_iff hE hf h1).1 h3⟩
  · rintro ⟨h1, h2, h3⟩
    exact ⟨h1, h2, (reach_iff hE hf h1).2 h3⟩

/-- Leads, no edge being left aside. -/
theorem leads_iff {n : Nat} {E : List Edg} (hE : InG n E) (a b : Int) : leadsF n E a b (-1) = true ↔ Way E a b := by
  unfold leadsF
  rw [restF_none E E.length (Nat.le_refl _), List.take_length, decide_eq_true_eq, mem_reachF hE (nextL_in hE a), ← way_iff]
  exact ⟨fun h => h.2.2, fun h => ⟨(way_in hE h).1, (way_in hE h).2, h⟩⟩
/-- Ring. -/
theorem ring_iff {n : Nat} {E : List Edg} (hE : InG n E) (v : Nat) : ringB n E v = true ↔ Way E (v : Int) (v : Int) := by
  unfold ringB
  rw [decide_eq_true_eq, mem_reachF hE (nextL_in hE _), ← way_iff]
  exact ⟨fun h => h.2.2, fun h => ⟨(way_in hE h).1, (way_in hE h).2, h⟩⟩
/-- Leads, edge number 'aside' being left out. -/
theorem leads_aside {n : Nat} {E : List Edg} (hE : InG n E) (a b aside : Int) : leadsF n E a b aside = true ↔ Way (restF E aside E.length) a b := by
  have hR := restF_in hE aside
  unfold leadsF
  rw [decide_eq_true_eq, mem_reachF hR (nextL_in hR a), ← way_iff]
  exact ⟨fun h => h.2.2, fun h => ⟨(way_in hR h).1, (way_in hR h).2, h⟩⟩
/-- The order that was given is the one that each next one is the least of those that are free. -/
theorem ordD_of {E : List Edg} {n : Nat} : ∀ (k : Nat) (dn : List Bool) (out rest : List Int), rest.length < k → (∀ (i : Nat) (h : i < rest.length), lF (freeD E ((rest.take i).foldl bSet dn)) n 0 = rest[i] ∧ 0 ≤ rest[i]) → lF (freeD E (rest.foldl bSet dn)) n 0 < 0 → ordD E n k dn out = out ++ rest
  | 0, _, _, _, h, _, _ => by omega
  | k + 1, dn, out, [], _, _, hl => by
    have hl' : lF (freeD E dn) n 0 < 0 := hl
    rw [ordD_stop hl', List.append_nil]
  | k + 1, dn, out, v :: r, hk, hs, hl => by
    obtain ⟨h0, h1⟩ := hs 0 (by simp)
    simp only [List.take_zero, List.foldl_nil, List.getElem_cons_zero] at h0 h1
    obtain ⟨u, rfl⟩ : ∃ u : Nat, v = (u : Int) := ⟨v.toNat, by omega⟩
    rw [ordD_next h0]
    have hb : bSet dn (u : Int) = dn.set u true := by simp [bSet]
    rw [← hb]
    have := ordD_of k (bSet dn (u : Int)) (out ++ [(u : Int)]) r (by simp at hk; omega) (fun i h => by
      have := hs (i + 1) (by simp; omega)
      simpa using this) (by simpa using hl)
    rw [this, List.append_assoc]
    rfl
end Go.Proofs.Ytcdonbepfmhdpaa
/-
  Graphs: sets of vertices as bits, as the program's sourcesOf reckons them; plain mathematics: what stands for b has a's bit just if a way of one edge or more leads from a to b.
-/
namespace Go.Proofs.Ytcdonbepfmhdpaa
open Go.RowKit
set_option linter.unusedVariables false
set_option linter.unusedSimpArgs false

/-- A set of vertices. -/
abbrev BV : Type := BitVec 32
/-- As a cell. -/
def bvV (x : BV) : Value := .int .u32 (x.toNat : Int)

theorem wrap_u32 (m : Nat) (h : m < 4294967296) : IntKind.u32.wrap (m : Int) = (m : Int) := by
  have h1 : (0 : Int) ≤ (m : Int) := by omega
  have h2 : (m : Int) < 4294967296 := by omega
  generalize (m : Int) = z at *
  simp [IntKind.wrap, IntKind.bits, IntKind.signed]
  omega
theorem or_bv (x y : BV) : bits .or .u32 (x.toNat : Int) (y.toNat : Int) = ((x ||| y).toNat : Int) := by
  have hx : BitVec.ofInt 32 (x.toNat : Int) = x := by simp
  have hy : BitVec.ofInt 32 (y.toNat : Int) = y := by simp
  show IntKind.u32.wrap ((BitVec.ofInt 32 (x.toNat : Int) ||| BitVec.ofInt 32 (y.toNat : Int)).toNat : Int) = _
  rw [hx, hy, wrap_u32 _ (x ||| y).isLt]
theorem shl_bv (v : Nat) (h : v < 32) : IntKind.u32.wrap (1 * 2 ^ v) = ((BitVec.twoPow 32 v).toNat : Int) := by
  have h1 : (BitVec.twoPow 32 v).toNat = 2 ^ v := by
    rw [BitVec.toNat_twoPow]
    exact Nat.mod_eq_of_lt (Nat.pow_lt_pow_right (by omega) h)
  have h2 : (2 : Nat) ^ v < 4294967296 := Nat.pow_lt_pow_right (a := 2) (n := 32) (by omega) h
  rw [h1, ← wrap_u32 (2 ^ v) h2]
  congr 1
  rw [Int.one_mul]
  norm_cast
theorem has_bv (x : BV) (v : Nat) : (bits .and .u32 ((x.toNat : Int) / 2 ^ v) 1 == 1) = x.getLsbD v := by
  have e1 : ((x.toNat : Int) / 2 ^ v) = ((x >>> v).toNat : Int) := by
    rw [BitVec.toNat_ushiftRight, Nat.shiftRight_eq_div_pow]
    norm_cast
  have hx : ∀ y : BV, BitVec.ofInt 32 (y.toNat : Int) = y := fun y => by simp
  have h1 : BitVec.ofInt 32 1 = 1#32 := rfl
  have e2 : bits .and .u32 ((x >>> v).toNat : Int) 1 = ((x >>> v &&& 1#32).toNat : Int) := by
    show IntKind.u32.wrap ((BitVec.ofInt 32 ((x >>> v).toNat : Int) &&& BitVec.ofInt 32 1).toNat : Int) = _
    rw [hx, h1, wrap_u32 _ (x >>> v &&& 1#32).isLt]
  rw [e1, e2]
  have h3 : (x >>> v &&& 1#32).toNat = (x.getLsbD v).toNat := by
    rw [BitVec.toNat_and, BitVec.toNat_ushiftRight]
    show (x.toNat >>> v) &&& 1 = _
    rw [Nat.and_one_is_mod, BitVec.getLsbD, Nat.testBit, Nat.one_and_eq_mod_two]
    rcases Nat.mod_two_eq_zero_or_one (x.toNat >>> v) with h | h <;> rw [h] <;> rfl
  rw [h3]
  cases x.getLsbD v <;> rfl

/-- What stands for v. -/
def bvAt (s : List BV) (v : Int) : BV := s.getD v.toNat 0
/-- One edge, at the beginning. -/
def srcE (s : List BV) (e : Edg) : List BV := s.set e.2.toNat (bvAt s e.2 ||| BitVec.twoPow 32 e.1.toNat)
/-- One edge, on the way. -/
def carE (s : List BV) (e : Edg) : List BV := s.set e.2.toNat (bvAt s e.2 ||| bvAt s e.1)
/-- One round. -/
def carR (E : List Edg) (s : List BV) : List BV := E.foldl carE s
/-- k rounds. -/
def carS (E : List Edg) : Nat → List BV → List BV
  | 0, s => s
  | k + 1, s => carR E (carS E k s)
/-- The beginning. -/
def srcI (n : Nat) (E : List Edg) : List BV := E.foldl srcE (List.replicate n 0)
/-- What sourcesOf answers. -/
def srcF (n : Nat) (E : List Edg) : List BV := carS E n (srcI n E)
/-- Of whom is a one? -/
def pj (a : Nat) (s : List BV) : List Bool := s.map fun x => x.getLsbD a

theorem srcE_len (s : List BV) (e : Edg) : (srcE s e).length = s.length := by simp [srcE]
theorem carE_len (s : List BV) (e : Edg) : (carE s e).length = s.length := by simp [carE]
theorem foldl_len {f : List BV → Edg → List BV} (hf : ∀ s e, (f s e).length = s.length) : ∀ (E : List Edg) (s : List BV), (E.foldl f s).length = s.length
  | [], _ => rfl
  | e :: r, s => by
    show (r.foldl f (f s e)).length = _
    rw [foldl_len hf r, hf]
theorem srcI_len (n : Nat) (E : List Edg) : (srcI n E).length = n := by
  unfold srcI
  rw [foldl_len srcE_len]
  simp
theorem carR_len (E : List Edg) (s : List BV) : (carR E s).length = s.length := foldl_len carE_len E s
theorem carS_len (E : List Edg) : ∀ (k : Nat) (s : List BV), (carS E k s).length = s.length
  | 0, _ => rfl
  | k + 1, s => by
    show (carR E (carS E k s)).length = _
    rw [carR_len, carS_len E k]
theorem srcF_len (n : Nat) (E : List Edg) : (srcF n E).length = n := by
  unfold srcF
  rw [carS_len, srcI_len]
theorem pj_len (a : Nat) (s : List BV) : (pj a s).length = s.length := by simp [pj]
theorem foldE_succ {α : Type} (f : α → Edg → α) (E : List Edg) (s : α) (k : Nat) (h : k < E.length) : (E.take (k + 1)).foldl f s = f ((E.take k).foldl f s) E[k] := by
  rw [List.take_succ_eq_append_getElem h, List.foldl_append]
  rfl

theorem pj_at (a : Nat) (s : List BV) (v : Int) : bAt (pj a s) v = (bvAt s v).getLsbD a := by
  unfold bAt pj bvAt
  rw [List.getD_eq_getElem?_getD, List.getElem?_map, List.getD_eq_getElem?_getD]
  cases s[v.toNat]? with
  | none => simp
  | some x => rfl
theorem pj_set (a : Nat) (s : List BV) (k : Nat) (x : BV) : pj a (s.set k x) = (pj a s).set k (x.getLsbD a) := by
  unfold pj
  rw [List.map_set]
theorem set_same {is : List Bool} {k : Nat} (h : k < is.length) : is.set k (is.getD k false) = is := by
  apply List.ext_getElem?
  intro j
  by_cases e : k = j
  · subst e
    rw [List.getElem?_set_self h, List.getD_eq_getElem?_getD, List.getElem?_eq_getElem h]
    rfl
  · rw [List.getElem?_set_ne e]
theorem pj_car (a : Nat) (s : List BV) (e : Edg) (h : e.2.toNat < s.length) : pj a (carE s e) = edgeF (pj a s) e := by
  unfold carE edgeF
  rw [pj_set, BitVec.getLsbD_or, ← pj_at, ← pj_at]
  cases h1 : bAt (pj a s) e.1 with
  | true => simp [bSet]
  | false =>
    rw [Bool.or_false, if_neg (by simp)]
    exact set_same (by rw [pj_len]; exact h)
theorem pj_src (a : Nat) (s : List BV) (e : Edg) (h : e.2.toNat < s.length) (h0 : 0 ≤ e.1) (h1 : e.1 < 32) : pj a (srcE s e) = if e.1 = (a : Int) then bSet (pj a s) e.2 else pj a s := by
  unfold srcE
  rw [pj_set, BitVec.getLsbD_or, ← pj_at, BitVec.getLsbD_twoPow]
  have h2 : decide (e.1.toNat < 32) = true := by rw [decide_eq_true_eq]; omega
  rw [h2, Bool.true_and]
  by_cases c : e.1 = (a : Int)
  · have c' : decide (e.1.toNat = a) = true := by rw [decide_eq_true_eq]; omega
    rw [if_pos c, c', Bool.or_true]
    rfl
  · have c' : decide (e.1.toNat = a) = false := by rw [decide_eq_false_iff_not]; omega
    rw [if_neg c, c', Bool.or_false]
    exact set_same (by rw [pj_len]; exact h)
theorem pj_begin (a : Nat) {n : Nat} (hn : n ≤ 20) : ∀ (E : List Edg) (s : List BV), InG n E → s.length = n → pj a (E.foldl srcE s) = markF (nextL E a) (pj a s)
  | [], _, _, _ => rfl
  | e :: r, s, hE, hs => by
    have he := hE e (by simp)
    show pj a (r.foldl srcE (srcE s e)) = _
    rw [pj_begin a hn r _ (fun x hx => hE x (List.mem_cons_of_mem _ hx)) (by rw [srcE_len, hs]), pj_src a s e (by omega) he.1 (by omega)]
    unfold nextL
    rw [List.filter_cons]
    by_cases c : e.1 = (a : Int)
    · rw [if_pos c, if_pos (by simpa using c)]
      rfl
    · rw [if_neg c, if_neg (by simpa using c)]
theorem pj_round (a : Nat) {n : Nat} : ∀ (E : List Edg) (s : List BV), InG n E → s.length = n → pj a (carR E s) = roundF E (pj a s)
  | [], _, _, _ => rfl
  | e :: r, s, hE, hs => by
    have he := hE e (by simp)
    show pj a (carR r (carE s e)) = roundF r (edgeF (pj a s) e)
    rw [pj_round a r _ (fun x hx => hE x (List.mem_cons_of_mem _ hx)) (by rw [carE_len, hs]), pj_car a s e (by omega)]
theorem pj_rounds (a : Nat) {n : Nat} {E : List Edg} (hE : InG n E) : ∀ (k : Nat) (s : List BV), s.length = n → pj a (carS E k s) = roundsF E k (pj a s)
  | 0, _, _ => rfl
  | k + 1, s, hs => by
    show pj a (carR E (carS E k s)) = roundF E (roundsF E k (pj a s))
    rw [pj_round a E _ hE (by rw [carS_len, hs]), pj_rounds a hE k s hs]
/-- b's set has a just if a way leads from a to b. -/
theorem src_iff {n : Nat} (hn : n ≤ 20) {E : List Edg} (hE : InG n E) (a : Nat) {b : Int} (hb : 0 ≤ b) : (bvAt (srcF n E) b).getLsbD a = true ↔ Way E (a : Int) b := by
  have h0 : pj a (List.replicate n (0 : BV)) = List.replicate n false := by simp [pj]
  rw [← pj_at]
  unfold srcF
  rw [pj_rounds a hE n _ (srcI_len n E)]
  unfold srcI
  rw [pj_begin a hn E _ hE (by simp), h0, reach_iff hE (nextL_in hE a) hb, ← way_iff]
end Go.Proofs.Ytcdonbepfmhdpaa
