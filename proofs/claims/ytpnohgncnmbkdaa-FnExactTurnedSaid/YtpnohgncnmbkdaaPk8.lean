/-
  Texts that a law leans on, one behind the other; no statement is proved here.
-/
import Derived.Test.YtpnohgncnmbkdaaPk7
/-
  Graphs: layers, as Layer of the specification reckons them; plain mathematics.
-/
namespace Go.Proofs.Ytpnohgncnmbkdaa
open Go.RowKit
set_option linter.unusedVariables false
set_option linter.unusedSimpArgs false

/-- One edge. -/
def edgeL (v : Int) (far : List Int) (e : Edg) : List Int := if e.1 = v ∧ far.getD e.2.toNat 0 < far.getD e.1.toNat 0 + 1 then far.set e.2.toNat (far.getD e.1.toNat 0 + 1) else far
/-- All edges, from v. -/
def roundL (E : List Edg) (far : List Int) (v : Int) : List Int := E.foldl (edgeL v) far
/-- All of an order. -/
def roundsL (E : List Edg) (l : List Int) (far : List Int) : List Int := l.foldl (roundL E) far
/-- What Layer answers. -/
def layA (n : Int) (E : List Edg) (v : Int) : Int := if ordB n E = true ∧ 0 ≤ v ∧ v < n then (roundsL E (ordR n.toNat E) (List.replicate n.toNat 0)).getD v.toNat 0 else -1

theorem edgeL_len (v : Int) (far : List Int) (e : Edg) : (edgeL v far e).length = far.length := by
  unfold edgeL
  split <;> simp
theorem roundL_len : ∀ (E : List Edg) (far : List Int) (v : Int), (roundL E far v).length = far.length
  | [], _, _ => rfl
  | e :: r, far, v => by
    show (roundL r (edgeL v far e) v).length = _
    rw [roundL_len r, edgeL_len]
theorem roundsL_len (E : List Edg) : ∀ (l far : List Int), (roundsL E l far).length = far.length
  | [], _ => rfl
  | v :: r, far => by
    show (roundsL E r (roundL E far v)).length = _
    rw [roundsL_len E r, roundL_len]
theorem roundL_succ (E : List Edg) (far : List Int) (v : Int) (k : Nat) (h : k < E.length) : roundL (E.take (k + 1)) far v = edgeL v (roundL (E.take k) far v) E[k] := by
  unfold roundL
  rw [List.take_succ_eq_append_getElem h, List.foldl_append]
  rfl
theorem roundsL_succ (E : List Edg) (l far : List Int) (k : Nat) (h : k < l.length) : roundsL E (l.take (k + 1)) far = roundL E (roundsL E (l.take k) far) l[k] := by
  unfold roundsL
  rw [List.take_succ_eq_append_getElem h, List.foldl_append]
  rfl
/-- All numbers are from 0 to t. -/
def UpTo (t : Int) (far : List Int) : Prop := ∀ k, 0 ≤ far.getD k 0 ∧ far.getD k 0 ≤ t
theorem UpTo.mono {t t' : Int} {far : List Int} (h : UpTo t far) (ht : t ≤ t') : UpTo t' far := fun k => by have := h k; omega
theorem upTo_repl (n : Nat) : UpTo 0 (List.replicate n 0) := fun k => by
  simp only [List.getD_eq_getElem?_getD, List.getElem?_replicate]
  split <;> simp
theorem upTo_set {t x : Int} {far : List Int} {j : Nat} (h : UpTo t far) (h0 : 0 ≤ x) (h1 : x ≤ t) : UpTo t (far.set j x) := fun k => by
  simp only [List.getD_eq_getElem?_getD, List.getElem?_set]
  split
  · split
    · exact ⟨h0, h1⟩
    · simp
      exact Int.le_trans h0 h1
  · have := h k
    simpa [List.getD_eq_getElem?_getD] using this
theorem upTo_edge {t v : Int} {far : List Int} {e : Edg} (h : UpTo t far) : UpTo (t + 1) (edgeL v far e) := by
  unfold edgeL
  have h1 := h e.1.toNat
  split
  · exact upTo_set (h.mono (by omega)) (by omega) (by omega)
  · exact h.mono (by omega)
theorem upTo_round {t v : Int} : ∀ (E : List Edg) {far : List Int}, UpTo t far → UpTo (t + E.length) (roundL E far v)
  | [], far, h => by simpa [roundL] using h
  | e :: r, far, h => by
    have := upTo_round (v := v) r (upTo_edge (v := v) (e := e) h)
    show UpTo _ (roundL r (edgeL v far e) v)
    refine this.mono ?_
    simp
    omega
theorem upTo_rounds {t : Int} (E : List Edg) : ∀ (l : List Int) {far : List Int}, UpTo t far → UpTo (t + l.length * E.length) (roundsL E l far)
  | [], far, h => by simpa [roundsL] using h
  | v :: r, far, h => by
    have := upTo_rounds E r (upTo_round (v := v) E h)
    show UpTo _ (roundsL E r (roundL E far v))
    refine this.mono ?_
    rw [List.length_cons]
    have e1 : ((r.length + 1 : Nat) : Int) * (E.length : Int) = (r.length : Int) * (E.length : Int) + (E.length : Int) := by
      rw [Int.natCast_add, Int.add_mul]
      simp
    omega
end Go.Proofs.Ytpnohgncnmbkdaa
/-
  Graphs: layers along an order are the longest ways; plain mathematics.
-/
namespace Go.Proofs.Ytpnohgncnmbkdaa
open Go.RowKit
set_option linter.unusedVariables false
set_option linter.unusedSimpArgs false

/-- Each is behind all from which an edge comes. -/
def Topo (E : List Edg) (l : List Int) : Prop := ∀ (i : Nat) (h : i < l.length), ∀ e ∈ E, e.2 = l[i] → e.1 ∈ l.take i

/-- What layers are: each edge leads at least one higher, and who is not at 0 is one above one from which an edge comes. -/
def Lay (E : List Edg) (f : Int → Int) : Prop := (∀ v, 0 ≤ f v) ∧ (∀ e ∈ E, f e.1 + 1 ≤ f e.2) ∧ ∀ v, f v = 0 ∨ ∃ e ∈ E, e.2 = v ∧ f v = f e.1 + 1

theorem lay_le {E : List Edg} {f g : Int → Int} (hf : Lay E f) (hg : Lay E g) {l : List Int} (ht : Topo E l) : ∀ (i : Nat) (h : i < l.length), f l[i] ≤ g l[i] := by
  intro i
  induction i using Nat.strongRecOn with
  | ind i ih =>
    intro h
    rcases hf.2.2 l[i] with h0 | ⟨e, he, h1, h2⟩
    · have := hg.1 l[i]
      omega
    · have hm := ht i h e he h1
      obtain ⟨j, hj, hje⟩ := List.getElem_of_mem hm
      have hji : j < i := by simp at hj; omega
      rw [List.getElem_take] at hje
      have h3 := ih j hji (by omega)
      have h4 := hg.2.1 e he
      rw [hje] at h3
      rw [h1] at h4
      omega
/-- Layers are one: two that both are layers agree on all of the order. -/
theorem lay_one {E : List Edg} {f g : Int → Int} (hf : Lay E f) (hg : Lay E g) {l : List Int} (ht : Topo E l) {v : Int} (hv : v ∈ l) : f v = g v := by
  obtain ⟨i, hi, rfl⟩ := List.getElem_of_mem hv
  have h1 := lay_le hf hg ht i hi
  have h2 := lay_le hg hf ht i hi
  omega

/-- What the rounds of l9order leave: each is behind all from which an edge comes. -/
theorem ordD_topo {E : List Edg} {n : Nat} (hE : InG n E) : ∀ (k : Nat) (dn : List Bool) (out : List Int), dn.length = n → (∀ v : Int, 0 ≤ v → (bAt dn v = true ↔ v ∈ out)) → Topo E out → Topo E (ordD E n k dn out)
  | 0, _, _, _, _, h => h
  | k + 1, dn, out, hl, hd, h => by
    rcases lF_cases (freeD E dn) n 0 with e | ⟨u, e, _, hu, hfu⟩
    · rw [ordD_stop (by rw [e]; omega)]
      exact h
    · rw [ordD_next e]
      refine ordD_topo hE k _ _ (by simp [hl]) (fun v hv => ?_) (fun i hi => ?_)
      · have h1 : dn.set u true = bSet dn (u : Int) := by simp [bSet]
        rw [h1, bAt_set (by omega) hv (by simp; omega), Bool.or_eq_true, decide_eq_true_eq, hd v hv, List.mem_append]
        simp
      · intro e' he' h2
        by_cases hio : i < out.length
        · rw [List.getElem_append_left hio] at h2
          have := h i hio e' he' h2
          rw [List.take_append_of_le_length (by omega)]
          exact this
        · have hie : i = out.length := by simp at hi; omega
          subst hie
          rw [List.getElem_append_right (Nat.le_refl _)] at h2
          simp at h2
          rw [List.take_append_of_le_length (Nat.le_refl _), List.take_length]
          unfold freeD at hfu
          rw [Bool.and_eq_true, List.all_eq_true] at hfu
          have h3 := hfu.2 e' he'
          unfold barB at h3
          rw [h2] at h3
          simp at h3
          exact (hd e'.1 (hE e' he').1).1 h3
theorem ordR_topo {E : List Edg} {n : Nat} (hE : InG n E) : Topo E (ordR n E) := by
  refine ordD_topo hE _ _ _ (by simp) (fun v hv => ?_) (fun i hi => by simp at hi)
  simp [bAt, List.getD_eq_getElem?_getD, List.getElem?_replicate]
  split <;> rfl

/-- The number of v. -/
def fV (far : List Int) (v : Int) : Int := far.getD v.toNat 0
theorem fV_set {far : List Int} {v u x : Int} (hv : 0 ≤ v) (hu : 0 ≤ u) (hl : v.toNat < far.length) : fV (far.set v.toNat x) u = if u = v then x else fV far u := by
  unfold fV
  by_cases e : u = v
  · subst e
    rw [if_pos rfl]
    simp [hl]
  · have hne : v.toNat ≠ u.toNat := by omega
    rw [if_neg e]
    simp [List.getD_eq_getElem?_getD, List.getElem?_set_ne hne]

/-- Behind the rounds of those in P, and the first edges of one of v. -/
def LInv (n : Nat) (E l : List Edg) (P : List Int) (v : Int) (far : List Int) : Prop :=
  far.length = n ∧ (∀ e ∈ E, e.1 ∈ P → fV far e.1 + 1 ≤ fV far e.2) ∧ (∀ e ∈ l, e.1 = v → fV far v + 1 ≤ fV far e.2) ∧ ∀ x : Int, 0 ≤ x → fV far x = 0 ∨ ∃ e ∈ E, e.2 = x ∧ (e.1 ∈ P ∨ e.1 = v) ∧ fV far x = fV far e.1 + 1

theorem lInv_edge {n : Nat} {E l : List Edg} {P : List Int} {v : Int} {far : List Int} {d : Edg} (hE : InG n E) (hP : ∀ x ∈ P, 0 ≤ x) (hv : 0 ≤ v) (hfree : ∀ e ∈ E, e.1 = v → e.2 ∉ P ∧ e.2 ≠ v) (hl : ∀ e ∈ l, e ∈ E) (hd : d ∈ E) (h : LInv n E l P v far) : LInv n E (l ++ [d]) P v (edgeL v far d) := by
  obtain ⟨h0, h1, h2, h3⟩ := h
  have hdE := hE d hd
  have hfv : ∀ y : Int, fV far y = far.getD y.toNat 0 := fun y => rfl
  by_cases c : d.1 = v ∧ far.getD d.2.toNat 0 < far.getD d.1.toNat 0 + 1
  · obtain ⟨c1, c2⟩ := c
    have heq : edgeL v far d = far.set d.2.toNat (fV far v + 1) := by
      unfold edgeL
      rw [if_pos ⟨c1, c2⟩, hfv, c1]
    have hfr := hfree d hd c1
    have hset : ∀ u : Int, 0 ≤ u → fV (edgeL v far d) u = if u = d.2 then fV far v + 1 else fV far u := fun u hu => by rw [heq]; exact fV_set hdE.2.2.1 hu (by omega)
    have hold : ∀ u : Int, 0 ≤ u → (u ∈ P ∨ u = v) → fV (edgeL v far d) u = fV far u := fun u hu hm => by
      rw [hset u hu, if_neg]
      rintro rfl
      rcases hm with hm | hm
      · exact hfr.1 hm
      · exact hfr.2 hm
    have hup : ∀ u : Int, 0 ≤ u → fV far u ≤ fV (edgeL v far d) u := fun u hu => by
      rw [hset u hu]
      split
      · next e =>
        rw [e, hfv d.2, hfv v, ← c1]
        omega
      · exact Int.le_refl _
    have hvv := hold v hv (.inr rfl)
    refine ⟨by rw [edgeL_len, h0], fun e he hm => ?_, fun e he hev => ?_, fun x hx => ?_⟩
    · have e1 := hE e he
      have := h1 e he hm
      have := hup e.2 e1.2.2.1
      rw [hold e.1 e1.1 (.inl hm)]
      omega
    · rw [hvv]
      rcases List.mem_append.1 he with he | he
      · have := h2 e he hev
        have := hup e.2 (hE e (hl e he)).2.2.1
        omega
      · simp at he
        subst he
        rw [hset e.2 hdE.2.2.1, if_pos rfl]
        omega
    · by_cases ex : x = d.2
      · refine .inr ⟨d, hd, ex.symm, .inr c1, ?_⟩
        rw [hset x hx, if_pos ex, c1, hvv]
      · rw [hset x hx, if_neg ex]
        rcases h3 x hx with h4 | ⟨e, he, h5, h6, h7⟩
        · exact .inl h4
        · exact .inr ⟨e, he, h5, h6, by rw [hold e.1 (hE e he).1 h6]; exact h7⟩
  · have heq : edgeL v far d = far := by
      unfold edgeL
      rw [if_neg c]
    rw [heq]
    refine ⟨h0, h1, fun e he hev => ?_, h3⟩
    rcases List.mem_append.1 he with he | he
    · exact h2 e he hev
    · simp at he
      subst he
      have : ¬ far.getD e.2.toNat 0 < far.getD e.1.toNat 0 + 1 := fun hc => c ⟨hev, hc⟩
      rw [hfv e.2, ← hev, hfv e.1]
      omega
theorem lInv_round {n : Nat} {E : List Edg} {P : List Int} {v : Int} (hE : InG n E) (hP : ∀ x ∈ P, 0 ≤ x) (hv : 0 ≤ v) (hfree : ∀ e ∈ E, e.1 = v → e.2 ∉ P ∧ e.2 ≠ v) : ∀ (r l : List Edg) (far : List Int), (∀ e ∈ l, e ∈ E) → (∀ e ∈ r, e ∈ E) → LInv n E l P v far → LInv n E (l ++ r) P v (roundL r far v)
  | [], l, far, _, _, h => by rw [List.append_nil]; exact h
  | d :: r, l, far, hl, hr, h => by
    have h1 := lInv_edge hE hP hv hfree hl (hr d (by simp)) h
    have h2 := lInv_round hE hP hv hfree r (l ++ [d]) (edgeL v far d) (fun e he => by
      rcases List.mem_append.1 he with he | he
      · exact hl e he
      · simp at he; subst he; exact hr e (by simp)) (fun e he => hr e (List.mem_cons_of_mem _ he)) h1
    rw [List.append_assoc] at h2
    exact h2

theorem lInv_next {n : Nat} {E : List Edg} {P : List Int} {v v' : Int} {far : List Int} (h : LInv n E E P v far) : LInv n E [] (P ++ [v]) v' far := by
  obtain ⟨h0, h1, h2, h3⟩ := h
  refine ⟨h0, fun e he hm => ?_, fun e he => by simp at he, fun x hx => ?_⟩
  · rcases List.mem_append.1 hm with hm | hm
    · exact h1 e he hm
    · simp at hm
      have := h2 e he hm
      rw [hm]
      exact this
  · rcases h3 x hx with h4 | ⟨e, he, h5, h6, h7⟩
    · exact .inl h4
    · exact .inr ⟨e, he, h5, .inl (by rw [List.mem_append]; rcases h6 with h6 | h6 <;> simp [h6]), h7⟩
/-- Along an order that has no two alike. -/
theorem lInv_rounds {n : Nat} {E : List Edg} (hE : InG n E) {L : List Int} (hT : Topo E L) (hnd : L.Nodup) (hL : ∀ v ∈ L, 0 ≤ v) (far : List Int) (h : far.length = n) (hz : ∀ x : Int, 0 ≤ x → fV far x = 0) : ∀ i, i ≤ L.length → ∀ v', LInv n E [] (L.take i) v' (roundsL E (L.take i) far)
  | 0, _, v' => ⟨h, fun e he hm => by simp at hm, fun e he => by simp at he, fun x hx => .inl (hz x hx)⟩
  | i + 1, hi, v' => by
    have hil : i < L.length := by omega
    have ih := lInv_rounds hE hT hnd hL far h hz i (by omega) L[i]
    have hfree : ∀ e ∈ E, e.1 = L[i] → e.2 ∉ L.take i ∧ e.2 ≠ L[i] := fun e he h1 => by
      have key : ∀ j, j ≤ i → ∀ (hj : j < L.length), e.2 ≠ L[j] := fun j hji hj h2 => by
        have hm := hT j hj e he h2
        obtain ⟨k, hk, hke⟩ := List.getElem_of_mem hm
        have hkj : k < j := by simp at hk; omega
        rw [List.getElem_take] at hke
        have := (List.nodup_iff_pairwise_ne.1 hnd)
        have := List.pairwise_iff_getElem.1 this k i (by omega) hil (by omega)
        exact this (by rw [hke, h1])
      refine ⟨fun hm => ?_, key i (Nat.le_refl _) hil⟩
      obtain ⟨k, hk, hke⟩ := List.getElem_of_mem hm
      have hki : k < i := by simp at hk; omega
      rw [List.getElem_take] at hke
      exact key k (by omega) (by omega) hke.symm
    have hr := lInv_round hE (fun x hx => hL x (List.mem_of_mem_take hx)) (hL _ (List.getElem_mem hil)) hfree E [] _ (fun e he => by simp at he) (fun e he => he) ih
    rw [List.nil_append, ← roundsL_succ E L far i hil] at hr
    rw [List.take_succ_eq_append_getElem hil] at hr ⊢
    exact lInv_next hr

/-- Layers along an order are layers. -/
theorem rounds_lay {n : Nat} {E : List Edg} (hE : InG n E) {L : List Int} (hT : Topo E L) (hnd : L.Nodup) (hL : ∀ v ∈ L, 0 ≤ v) (hall : ∀ e ∈ E, e.1 ∈ L) : Lay E fun v => if 0 ≤ v then fV (roundsL E L (List.replicate n 0)) v else 0 := by
  have hI := lInv_rounds hE hT hnd hL (List.replicate n 0) (by simp) (fun x hx => by
    unfold fV
    simp only [List.getD_eq_getElem?_getD, List.getElem?_replicate]
    split <;> rfl) L.length (Nat.le_refl _) 0
  rw [List.take_length] at hI
  obtain ⟨_, h1, _, h3⟩ := hI
  have hup := upTo_rounds E L (upTo_repl n)
  refine ⟨fun v => ?_, fun e he => ?_, fun v => ?_⟩
  · show 0 ≤ if 0 ≤ v then _ else _
    split
    · exact (hup v.toNat).1
    · omega
  · have := hE e he
    show (if 0 ≤ e.1 then _ else _) + 1 ≤ if 0 ≤ e.2 then _ else _
    rw [if_pos this.1, if_pos this.2.2.1]
    exact h1 e he (hall e he)
  · by_cases hv : 0 ≤ v
    · rcases h3 v hv with h4 | ⟨e, he, h5, _, h7⟩
      · refine .inl ?_
        show (if 0 ≤ v then _ else _) = _
        rw [if_pos hv]
        exact h4
      · refine .inr ⟨e, he, h5, ?_⟩
        show (if 0 ≤ v then _ else _) = (if 0 ≤ e.1 then _ else _) + 1
        rw [if_pos hv, if_pos (hE e he).1]
        exact h7
    · refine .inl ?_
      show (if 0 ≤ v then _ else _) = _
      rw [if_neg hv]

/-- What the rounds of l9order leave: no two alike, all in the bounds; and all there are, if they are as many. -/
theorem ordD_full {E : List Edg} {n : Nat} : ∀ (k : Nat) (dn : List Bool) (out : List Int), dn.length = n → out.length = cntB dn → (∀ v : Int, 0 ≤ v → (bAt dn v = true ↔ v ∈ out)) → out.Nodup → (∀ v ∈ out, 0 ≤ v ∧ v < (n : Int)) →
    (ordD E n k dn out).Nodup ∧ (∀ v ∈ ordD E n k dn out, 0 ≤ v ∧ v < (n : Int)) ∧ (n ≤ (ordD E n k dn out).length → ∀ v : Int, 0 ≤ v → v < (n : Int) → v ∈ ordD E n k dn out) := by
  have stop : ∀ (dn : List Bool) (out : List Int), dn.length = n → out.length = cntB dn → (∀ v : Int, 0 ≤ v → (bAt dn v = true ↔ v ∈ out)) → n ≤ out.length → ∀ v : Int, 0 ≤ v → v < (n : Int) → v ∈ out := fun dn out h1 h2 h3 hn v hv hvn => by
    rw [← h3 v hv]
    have hc : List.count true dn = dn.length := by
      have := cnt_le dn
      unfold cntB at this h2
      omega
    have hall := List.count_eq_length.1 hc
    unfold bAt
    have hl : v.toNat < dn.length := by omega
    rw [List.getD_eq_getElem?_getD, List.getElem?_eq_getElem hl]
    exact (hall _ (List.getElem_mem hl)).symm
  intro k
  induction k with
  | zero => exact fun dn out h1 h2 h3 h4 h5 => ⟨h4, h5, stop dn out h1 h2 h3⟩
  | succ k ih =>
    intro dn out h1 h2 h3 h4 h5
    rcases lF_cases (freeD E dn) n 0 with e | ⟨u, e, _, hu, hfu⟩
    · rw [ordD_stop (by rw [e]; omega)]
      exact ⟨h4, h5, stop dn out h1 h2 h3⟩
    · rw [ordD_next e]
      have hnf := free_not hfu
      have hno : ¬ (u : Int) ∈ out := fun hm => by
        have := (h3 (u : Int) (by omega)).2 hm
        unfold bAt at this
        rw [Int.toNat_natCast, hnf] at this
        cases this
      refine ih _ _ (by simp [h1]) ?_ (fun v hv => ?_) ?_ (fun v hv => ?_)
      · rw [List.length_append, (cnt_set dn u).2 (by omega) hnf, h2]
        rfl
      · have h6 : dn.set u true = bSet dn (u : Int) := by simp [bSet]
        rw [h6, bAt_set (by omega) hv (by simp; omega), Bool.or_eq_true, decide_eq_true_eq, h3 v hv, List.mem_append]
        simp
      · rw [List.nodup_append]
        refine ⟨h4, by simp, fun a ha b hb => ?_⟩
        simp at hb
        subst hb
        rintro rfl
        exact hno ha
      · rcases List.mem_append.1 hv with hv | hv
        · exact h5 v hv
        · simp at hv
          omega
theorem ordR_full {E : List Edg} {n : Nat} : (ordR n E).Nodup ∧ (∀ v ∈ ordR n E, 0 ≤ v ∧ v < (n : Int)) ∧ (n ≤ (ordR n E).length → ∀ v : Int, 0 ≤ v → v < (n : Int) → v ∈ ordR n E) := by
  refine ordD_full _ _ _ (by simp) (by rw [cnt_repl]; rfl) (fun v hv => ?_) List.nodup_nil (fun v hv => by simp at hv)
  simp [bAt, List.getD_eq_getElem?_getD, List.getElem?_replicate]
  split <;> rfl
/-- Where there is an order, Layer answers what any layers say. -/
theorem layA_lay {n : Nat} {E : List Edg} (hE : InG n E) (hb : ordB (n : Int) E = true) {g : Int → Int} (hg : Lay E g) {v : Int} (h0 : 0 ≤ v) (h1 : v < (n : Int)) : layA (n : Int) E v = g v := by
  have hle : n ≤ (ordR n E).length := by
    unfold ordB at hb
    rw [Bool.and_eq_true, decide_eq_true_eq] at hb
    simpa using hb.2
  obtain ⟨hnd, hbd, hall⟩ := ordR_full (n := n) (E := E)
  have hl := rounds_lay hE (ordR_topo hE) hnd (fun v hv => (hbd v hv).1) (fun e he => hall hle e.1 (hE e he).1 (hE e he).2.1)
  have h2 := lay_one hl hg (ordR_topo hE) (hall hle v h0 h1)
  unfold layA
  rw [if_pos ⟨hb, h0, h1⟩, Int.toNat_natCast, ← h2]
  show _ = if 0 ≤ v then _ else _
  rw [if_pos h0]
  rfl
end Go.Proofs.Ytpnohgncnmbkdaa
/-
  Graphs: what Ring and Leads answer, said by ways; plain mathematics.
-/
namespace Go.Proofs.Ytpnohgncnmbkdaa
open Go.RowKit
set_option linter.unusedVariables false
set_option linter.unusedSimpArgs false

/-- A way of one edge or more leads from a to b. -/
inductive Way (E : List Edg) (a : Int) : Int → Prop
  | one {e : Edg} : e ∈ E → e.1 = a → Way E a e.2
  | more {e : Edg} : e ∈ E → Way E a e.1 → Way E a e.2

theorem way_iff {E : List Edg} {a b : Int} : Way E a b ↔ Rch E (nextL E a) b := by
  constructor
  · intro h
    induction h with
    | one he ha =>
      refine .told ?_
      unfold nextL
      exact List.mem_map.2 ⟨_, List.mem_filter.2 ⟨he, by simpa using ha⟩, rfl⟩
    | more he _ ih => exact .edge he ih
  · intro h
    induction h with
    | told hv =>
      unfold nextL at hv
      obtain ⟨e, he, rfl⟩ := List.mem_map.1 hv
      obtain ⟨h1, h2⟩ := List.mem_filter.1 he
      exact .one h1 (by simpa using h2)
    | edge he _ ih => exact .more he ih

theorem restF_none (E : List Edg) : ∀ j, j ≤ E.length → restF E (-1) j = E.take j
  | 0, _ => by simp [restF_zero]
  | j + 1, h => by
    rw [restF_succ E (-1) j (by omega), restF_none E j (by omega), if_neg (by omega), List.take_succ_eq_append_getElem (by omega)]

theorem way_in {n : Nat} {E : List Edg} (hE : InG n E) {a b : Int} (h : Way E a b) : 0 ≤ b ∧ b < (n : Int) := by
  cases h with
  | one he _ => exact ⟨(hE _ he).2.2.1, (hE _ he).2.2.2⟩
  | more he _ => exact ⟨(hE _ he).2.2.1, (hE _ he).2.2.2⟩

theorem mem_reachF {n : Nat} {E : List Edg} {l : List Int} (hE : InG n E) (hf : ∀ v ∈ l, 0 ≤ v ∧ v < (n : Int)) {u : Int} : u ∈ reachF n E l ↔ 0 ≤ u ∧ u < (n : Int) ∧ Rch E l u := by
  unfold reachF
  rw [mem_outF]
  constructor
  · rintro ⟨h1, h2, h3⟩
    exact ⟨h1, h2, (reach_iff hE hf h1).1 h3⟩
  · rintro ⟨h1, h2, h3⟩
    exact ⟨h1, h2, (reach_iff hE hf h1).2 h3⟩

/-- Leads, no edge being left aside. -/
theorem leads_iff {n : Nat} {E : List Edg} (hE : InG n E) (a b : Int) : leadsF n E a b (-1) = true ↔ Way E a b := by
  unfold leadsF
  rw [restF_none E E.length (Nat.le_refl _), List.take_length, decide_eq_true_eq, mem_reachF hE (nextL_in hE a), ← way_iff]
  exact ⟨fun h => h.2.2, fun h => ⟨(way_in hE h).1, (way_in hE h).2, h⟩⟩
/-- Ring. -/
theorem ring_iff {n : Nat} {E : List Edg} (hE : InG n E) (v : Nat) : ringB n E v = true ↔ Way E (v : Int) (v : Int) := by
  unfold ringB
  rw [decide_eq_true_eq, mem_reachF hE (nextL_in hE _), ← way_iff]
  exact ⟨fun h => h.2.2, fun h => ⟨(way_in hE h).1, (way_in hE h).2, h⟩⟩
/-- Leads, edge number 'aside' being left out. -/
theorem leads_aside {n : Nat} {E : List Edg} (hE : InG n E) (a b aside : Int) : leadsF n E a b aside = true ↔ Way (restF E aside E.length) a b := by
  have hR := restF_in hE aside
  unfold leadsF
  rw [decide_eq_true_eq, mem_reachF hR (nextL_in hR a), ← way_iff]
  exact ⟨fun h => h.2.2, fun h => ⟨(way_in hR h).1, (way_in hR h).2, h⟩⟩
/-- The order that was given is the one that each next one is the least of those that are free. -/
theorem ordD_of {E : List Edg} {n : Nat} : ∀ (k : Nat) (dn : List Bool) (out rest : List Int), rest.length < k → (∀ (i : Nat) (h : i < rest.length), lF (freeD E ((rest.take i).foldl bSet dn)) n 0 = rest[i] ∧ 0 ≤ rest[i]) → lF (freeD E (rest.foldl bSet dn)) n 0 < 0 → ordD E n k dn out = out ++ rest
  | 0, _, _, _, h, _, _ => by omega
  | k + 1, dn, out, [], _, _, hl => by
    have hl' : lF (freeD E dn) n 0 < 0 := hl
    rw [ordD_stop hl', List.append_nil]
  | k + 1, dn, out, v :: r, hk, hs, hl => by
    obtain ⟨h0, h1⟩ := hs 0 (by simp)
    simp only [List.take_zero, List.foldl_nil, List.getElem_cons_zero] at h0 h1
    obtain ⟨u, rfl⟩ : ∃ u : Nat, v = (u : Int) := ⟨v.toNat, by omega⟩
    rw [ordD_next h0]
    have hb : bSet dn (u : Int) = dn.set u true := by simp [bSet]
    rw [← hb]
    have := ordD_of k (bSet dn (u : Int)) (out ++ [(u : Int)]) r (by simp at hk; omega) (fun i h => by
      have := hs (i + 1) (by simp; omega)
      simpa using this) (by simpa using hl)
    rw [this, List.append_assoc]
    rfl
end Go.Proofs.Ytpnohgncnmbkdaa
/-
  Graphs: sets of vertices as bits, as the program's sourcesOf reckons them; plain mathematics: what stands for b has a's bit just if a way of one edge or more leads from a to b.
-/
namespace Go.Proofs.Ytpnohgncnmbkdaa
open Go.RowKit
set_option linter.unusedVariables false
set_option linter.unusedSimpArgs false

/-- A set of vertices. -/
abbrev BV : Type := BitVec 32
/-- As a cell. -/
def bvV (x : BV) : Value := .int .u32 (x.toNat : Int)

theorem wrap_u32 (m : Nat) (h : m < 4294967296) : IntKind.u32.wrap (m : Int) = (m : Int) := by
  have h1 : (0 : Int) ≤ (m : Int) := by omega
  have h2 : (m : Int) < 4294967296 := by omega
  generalize (m : Int) = z at *
  simp [IntKind.wrap, IntKind.bits, IntKind.signed]
  omega
theorem or_bv (x y : BV) : bits .or .u32 (x.toNat : Int) (y.toNat : Int) = ((x ||| y).toNat : Int) := by
  have hx : BitVec.ofInt 32 (x.toNat : Int) = x := by simp
  have hy : BitVec.ofInt 32 (y.toNat : Int) = y := by simp
  show IntKind.u32.wrap ((BitVec.ofInt 32 (x.toNat : Int) ||| BitVec.ofInt 32 (y.toNat : Int)).toNat : Int) = _
  rw [hx, hy, wrap_u32 _ (x ||| y).isLt]
theorem shl_bv (v : Nat) (h : v < 32) : IntKind.u32.wrap (1 * 2 ^ v) = ((BitVec.twoPow 32 v).toNat : Int) := by
  have h1 : (BitVec.twoPow 32 v).toNat = 2 ^ v := by
    rw [BitVec.toNat_twoPow]
    exact Nat.mod_eq_of_lt (Nat.pow_lt_pow_right (by omega) h)
  have h2 : (2 : Nat) ^ v < 4294967296 := Nat.pow_lt_pow_right (a := 2) (n := 32) (by omega) h
  rw [h1, ← wrap_u32 (2 ^ v) h2]
  congr 1
  rw [Int.one_mul]
  norm_cast
theorem has_bv (x : BV) (v : Nat) : (bits .and .u32 ((x.toNat : Int) / 2 ^ v) 1 == 1) = x.getLsbD v := by
  have e1 : ((x.toNat : Int) / 2 ^ v) = ((x >>> v).toNat : Int) := by
    rw [BitVec.toNat_ushiftRight, Nat.shiftRight_eq_div_pow]
    norm_cast
  have hx : ∀ y : BV, BitVec.ofInt 32 (y.toNat : Int) = y := fun y => by simp
  have h1 : BitVec.ofInt 32 1 = 1#32 := rfl
  have e2 : bits .and .u32 ((x >>> v).toNat : Int) 1 = ((x >>> v &&& 1#32).toNat : Int) := by
    show IntKind.u32.wrap ((BitVec.ofInt 32 ((x >>> v).toNat : Int) &&& BitVec.ofInt 32 1).toNat : Int) = _
    rw [hx, h1, wrap_u32 _ (x >>> v &&& 1#32).isLt]
  rw [e1, e2]
  have h3 : (x >>> v &&& 1#32).toNat = (x.getLsbD v).toNat := by
    rw [BitVec.toNat_and, BitVec.toNat_ushiftRight]
    show (x.toNat >>> v) &&& 1 = _
    rw [Nat.and_one_is_mod, BitVec.getLsbD, Nat.testBit, Nat.one_and_eq_mod_two]
    rcases Nat.mod_two_eq_zero_or_one (x.toNat >>> v) with h | h <;> rw [h] <;> rfl
  rw [h3]
  cases x.getLsbD v <;> rfl

/-- What stands for v. -/
def bvAt (s : List BV) (v : Int) : BV := s.getD v.toNat 0
/-- One edge, at the beginning. -/
def srcE (s : List BV) (e : Edg) : List BV := s.set e.2.toNat (bvAt s e.2 ||| BitVec.twoPow 32 e.1.toNat)
/-- One edge, on the way. -/
def carE (s : List BV) (e : Edg) : List BV := s.set e.2.toNat (bvAt s e.2 ||| bvAt s e.1)
/-- One round. -/
def carR (E : List Edg) (s : List BV) : List BV := E.foldl carE s
/-- k rounds. -/
def carS (E : List Edg) : Nat → List BV → List BV
  | 0, s => s
  | k + 1, s => carR E (carS E k s)
/-- The beginning. -/
def srcI (n : Nat) (E : List Edg) : List BV := E.foldl srcE (List.replicate n 0)
/-- What sourcesOf answers. -/
def srcF (n : Nat) (E : List Edg) : List BV := carS E n (srcI n E)
/-- Of whom is a one? -/
def pj (a : Nat) (s : List BV) : List Bool := s.map fun x => x.getLsbD a

theorem srcE_len (s : List BV) (e : Edg) : (srcE s e).length = s.length := by simp [srcE]
theorem carE_len (s : List BV) (e : Edg) : (carE s e).length = s.length := by simp [carE]
theorem foldl_len {f : List BV → Edg → List BV} (hf : ∀ s e, (f s e).length = s.length) : ∀ (E : List Edg) (s : List BV), (E.foldl f s).length = s.length
  | [], _ => rfl
  | e :: r, s => by
    show (r.foldl f (f s e)).length = _
    rw [foldl_len hf r, hf]
theorem srcI_len (n : Nat) (E : List Edg) : (srcI n E).length = n := by
  unfold srcI
  rw [foldl_len srcE_len]
  simp
theorem carR_len (E : List Edg) (s : List BV) : (carR E s).length = s.length := foldl_len carE_len E s
theorem carS_len (E : List Edg) : ∀ (k : Nat) (s : List BV), (carS E k s).length = s.length
  | 0, _ => rfl
  | k + 1, s => by
    show (carR E (carS E k s)).length = _
    rw [carR_len, carS_len E k]
theorem srcF_len (n : Nat) (E : List Edg) : (srcF n E).length = n := by
  unfold srcF
  rw [carS_len, srcI_len]
theorem pj_len (a : Nat) (s : List BV) : (pj a s).length = s.length := by simp [pj]
theorem foldE_succ {α : Type} (f : α → Edg → α) (E : List Edg) (s : α) (k : Nat) (h : k < E.length) : (E.take (k + 1)).foldl f s = f ((E.take k).foldl f s) E[k] := by
  rw [List.take_succ_eq_append_getElem h, List.foldl_append]
  rfl

theorem pj_at (a : Nat) (s : List BV) (v : Int) : bAt (pj a s) v = (bvAt s v).getLsbD a := by
  unfold bAt pj bvAt
  rw [List.getD_eq_getElem?_getD, List.getElem?_map, List.getD_eq_getElem?_getD]
  cases s[v.toNat]? with
  | none => simp
  | some x => rfl
theorem pj_set (a : Nat) (s : List BV) (k : Nat) (x : BV) : pj a (s.set k x) = (pj a s).set k (x.getLsbD a) := by
  unfold pj
  rw [List.map_set]
theorem set_same {is : List Bool} {k : Nat} (h : k < is.length) : is.set k (is.getD k false) = is := by
  apply List.ext_getElem?
  intro j
  by_cases e : k = j
  · subst e
    rw [List.getElem?_set_self h, List.getD_eq_getElem?_getD, List.getElem?_eq_getElem h]
    rfl
  · rw [List.getElem?_set_ne e]
theorem pj_car (a : Nat) (s : List BV) (e : Edg) (h : e.2.toNat < s.length) : pj a (carE s e) = edgeF (pj a s) e := by
  unfold carE edgeF
  rw [pj_set, BitVec.getLsbD_or, ← pj_at, ← pj_at]
  cases h1 : bAt (pj a s) e.1 with
  | true => simp [bSet]
  | false =>
    rw [Bool.or_false, if_neg (by simp)]
    exact set_same (by rw [pj_len]; exact h)
theorem pj_src (a : Nat) (s : List BV) (e : Edg) (h : e.2.toNat < s.length) (h0 : 0 ≤ e.1) (h1 : e.1 < 32) : pj a (srcE s e) = if e.1 = (a : Int) then bSet (pj a s) e.2 else pj a s := by
  unfold srcE
  rw [pj_set, BitVec.getLsbD_or, ← pj_at, BitVec.getLsbD_twoPow]
  have h2 : decide (e.1.toNat < 32) = true := by rw [decide_eq_true_eq]; omega
  rw [h2, Bool.true_and]
  by_cases c : e.1 = (a : Int)
  · have c' : decide (e.1.toNat = a) = true := by rw [decide_eq_true_eq]; omega
    rw [if_pos c, c', Bool.or_true]
    rfl
  · have c' : decide (e.1.toNat = a) = false := by rw [decide_eq_false_iff_not]; omega
    rw [if_neg c, c', Bool.or_false]
    exact set_same (by rw [pj_len]; exact h)
theorem pj_begin (a : Nat) {n : Nat} (hn : n ≤ 20) : ∀ (E : List Edg) (s : List BV), InG n E → s.length = n → pj a (E.foldl srcE s) = markF (nextL E a) (pj a s)
  | [], _, _, _ => rfl
  | e :: r, s, hE, hs => by
    have he := hE e (by simp)
    show pj a (r.foldl srcE (srcE s e)) = _
    rw [pj_begin a hn r _ (fun x hx => hE x (List.mem_cons_of_mem _ hx)) (by rw [srcE_len, hs]), pj_src a s e (by omega) he.1 (by omega)]
    unfold nextL
    rw [List.filter_cons]
    by_cases c : e.1 = (a : Int)
    · rw [if_pos c, if_pos (by simpa using c)]
      rfl
    · rw [if_neg c, if_neg (by simpa using c)]
theorem pj_round (a : Nat) {n : Nat} : ∀ (E : List Edg) (s : List BV), InG n E → s.length = n → pj a (carR E s) = roundF E (pj a s)
  | [], _, _, _ => rfl
  | e :: r, s, hE, hs => by
    have he := hE e (by simp)
    show pj a (carR r (carE s e)) = roundF r (edgeF (pj a s) e)
    rw [pj_round a r _ (fun x hx => hE x (List.mem_cons_of_mem _ hx)) (by rw [carE_len, hs]), pj_car a s e (by omega)]
theorem pj_rounds (a : Nat) {n : Nat} {E : List Edg} (hE : InG n E) : ∀ (k : Nat) (s : List BV), s.length = n → pj a (carS E k s) = roundsF E k (pj a s)
  | 0, _, _ => rfl
  | k + 1, s, hs => by
    show pj a (carR E (carS E k s)) = roundF E (roundsF E k (pj a s))
    rw [pj_round a E _ hE (by rw [carS_len, hs]), pj_rounds a hE k s hs]
/-- b's set has a just if a way leads from a to b. -/
theorem src_iff {n : Nat} (hn : n ≤ 20) {E : List Edg} (hE : InG n E) (a : Nat) {b : Int} (hb : 0 ≤ b) : (bvAt (srcF n E) b).getLsbD a = true ↔ Way E (a : Int) b := by
  have h0 : pj a (List.replicate n (0 : BV)) = List.replicate n false := by simp [pj]
  rw [← pj_at]
  unfold srcF
  rw [pj_rounds a hE n _ (srcI_len n E)]
  unfold srcI
  rw [pj_begin a hn E _ hE (by simp), h0, reach_iff hE (nextL_in hE a) hb, ← way_iff]
end Go.Proofs.Ytpnohgncnmbkdaa
/-
  Graphs: layers, as the program reckons them (n rounds over all edges); plain mathematics: where there is an order they are what Layer answers.
-/
namespace Go.Proofs.Ytpnohgncnmbkdaa
open Go.RowKit
set_option linter.unusedVariables false
set_option linter.unusedSimpArgs false

/-- The greater one of x and y + 1. -/
def max1 (x y : Int) : Int := if x < y + 1 then y + 1 else x
/-- One edge. -/
def maxE (f : List Int) (e : Edg) : List Int := f.set e.2.toNat (max1 (fV f e.2) (fV f e.1))
/-- One round. -/
def maxR (E : List Edg) (f : List Int) : List Int := E.foldl maxE f
/-- k rounds. -/
def maxS (E : List Edg) : Nat → List Int → List Int
  | 0, f => f
  | k + 1, f => maxR E (maxS E k f)

theorem maxE_len (f : List Int) (e : Edg) : (maxE f e).length = f.length := by simp [maxE]
theorem maxR_len : ∀ (E : List Edg) (f : List Int), (maxR E f).length = f.length
  | [], _ => rfl
  | e :: r, f => by
    show (maxR r (maxE f e)).length = _
    rw [maxR_len r, maxE_len]
theorem maxS_len (E : List Edg) : ∀ (k : Nat) (f : List Int), (maxS E k f).length = f.length
  | 0, _ => rfl
  | k + 1, f => by
    show (maxR E (maxS E k f)).length = _
    rw [maxR_len, maxS_len E k]
theorem max1_le (x y : Int) : x ≤ max1 x y ∧ y + 1 ≤ max1 x y := by
  unfold max1
  split <;> omega
theorem max1_up {x y t : Int} (h : x ≤ t) (h' : y + 1 ≤ t) : max1 x y ≤ t := by
  unfold max1
  split <;> omega
theorem maxE_at {n : Nat} {f : List Int} {e : Edg} (hf : f.length = n) (he : 0 ≤ e.2 ∧ e.2 < (n : Int)) {u : Int} (hu : 0 ≤ u) : fV (maxE f e) u = if u = e.2 then max1 (fV f e.2) (fV f e.1) else fV f u := fV_set he.1 hu (by omega)
theorem maxE_up {n : Nat} {f : List Int} {e : Edg} (hf : f.length = n) (he : 0 ≤ e.2 ∧ e.2 < (n : Int)) {u : Int} (hu : 0 ≤ u) : fV f u ≤ fV (maxE f e) u := by
  rw [maxE_at hf he hu]
  split
  · next c => rw [c]; exact (max1_le _ _).1
  · exact Int.le_refl _
theorem maxR_up {n : Nat} : ∀ (E : List Edg) {f : List Int}, f.length = n → InG n E → ∀ {u : Int}, 0 ≤ u → fV f u ≤ fV (maxR E f) u
  | [], _, _, _, _, _ => Int.le_refl _
  | e :: r, f, hf, hE, u, hu => Int.le_trans (maxE_up hf ⟨(hE e (by simp)).2.2.1, (hE e (by simp)).2.2.2⟩ hu) (maxR_up r (by rw [maxE_len, hf]) (fun x hx => hE x (List.mem_cons_of_mem _ hx)) hu)
theorem maxR_does {n : Nat} : ∀ (E : List Edg) {f : List Int}, f.length = n → InG n E → ∀ {e : Edg}, e ∈ E → fV f e.1 + 1 ≤ fV (maxR E f) e.2
  | [], _, _, _, _, he => by simp at he
  | x :: r, f, hf, hE, e, he => by
    have hx := hE x (by simp)
    have hr : InG n r := fun y hy => hE y (List.mem_cons_of_mem _ hy)
    have hl : (maxE f x).length = n := by rw [maxE_len, hf]
    show fV f e.1 + 1 ≤ fV (maxR r (maxE f x)) e.2
    rcases List.mem_cons.1 he with rfl | he
    · refine Int.le_trans ?_ (maxR_up r hl hr hx.2.2.1)
      rw [maxE_at hf ⟨hx.2.2.1, hx.2.2.2⟩ hx.2.2.1, if_pos rfl]
      exact (max1_le _ _).2
    · have h1 := maxR_does r hl hr he
      have h2 := maxE_up (f := f) (e := x) hf ⟨hx.2.2.1, hx.2.2.2⟩ (u := e.1) (hr e he).1
      omega
theorem maxR_sound {n : Nat} {g : Int → Int} {E0 : List Edg} (hg : Lay E0 g) : ∀ (E : List Edg) {f : List Int}, f.length = n → InG n E → (∀ e ∈ E, e ∈ E0) → (∀ u : Int, 0 ≤ u → fV f u ≤ g u) → ∀ u : Int, 0 ≤ u → fV (maxR E f) u ≤ g u
  | [], _, _, _, _, h => h
  | e :: r, f, hf, hE, hm, h => by
    have he := hE e (by simp)
    refine maxR_sound hg r (f := maxE f e) (by rw [maxE_len, hf]) (fun x hx => hE x (List.mem_cons_of_mem _ hx)) (fun x hx => hm x (List.mem_cons_of_mem _ hx)) (fun u hu => ?_)
    rw [maxE_at hf ⟨he.2.2.1, he.2.2.2⟩ hu]
    split
    · next c =>
      rw [c]
      have h1 := hg.2.1 e (hm e (by simp))
      have h2 := h e.1 he.1
      exact max1_up (h e.2 he.2.2.1) (by omega)
    · exact h u hu
theorem maxS_sound {n : Nat} {g : Int → Int} {E : List Edg} (hg : Lay E g) (hE : InG n E) : ∀ (k : Nat) {f : List Int}, f.length = n → (∀ u : Int, 0 ≤ u → fV f u ≤ g u) → ∀ u : Int, 0 ≤ u → fV (maxS E k f) u ≤ g u
  | 0, _, _, h => h
  | k + 1, f, hf, h => maxR_sound hg E (by rw [maxS_len, hf]) hE (fun e he => he) (maxS_sound hg hE k hf h)
theorem maxS_does {n : Nat} {g : Int → Int} {E : List Edg} (hg : Lay E g) (hE : InG n E) {f : List Int} (hf : f.length = n) (h0 : ∀ u : Int, 0 ≤ u → 0 ≤ fV f u) : ∀ (k : Nat) (u : Int), 0 ≤ u → g u ≤ (k : Int) → g u ≤ fV (maxS E k f) u
  | 0, u, hu, h => Int.le_trans h (h0 u hu)
  | k + 1, u, hu, h => by
    have hl : (maxS E k f).length = n := by rw [maxS_len, hf]
    show g u ≤ fV (maxR E (maxS E k f)) u
    by_cases c : g u ≤ (k : Int)
    · exact Int.le_trans (maxS_does hg hE hf h0 k u hu c) (maxR_up E hl hE hu)
    · rcases hg.2.2 u with h1 | ⟨e, he, h1, h2⟩
      · omega
      · have h3 := maxS_does hg hE hf h0 k e.1 (hE e he).1 (by omega)
        have h4 := maxR_does E hl hE he
        rw [h1] at h4
        omega
/-- No layer is above how many there are. -/
theorem lay_bound {E : List Edg} {g : Int → Int} (hg : Lay E g) {l : List Int} (ht : Topo E l) : ∀ (i : Nat) (h : i < l.length), g l[i] ≤ (i : Int) := by
  intro i
  induction i using Nat.strongRecOn with
  | ind i ih =>
    intro h
    rcases hg.2.2 l[i] with h0 | ⟨e, he, h1, h2⟩
    · omega
    · obtain ⟨j, hj, hje⟩ := List.getElem_of_mem (ht i h e he h1)
      have hji : j < i := by simp at hj; omega
      rw [List.getElem_take] at hje
      have h3 := ih j hji (by omega)
      rw [hje] at h3
      omega
theorem ord_lay {n : Nat} {E : List Edg} (hE : InG n E) (hb : ordB (n : Int) E = true) : ∃ g, Lay E g ∧ ∀ v : Int, 0 ≤ v → v < (n : Int) → g v ≤ (n : Int) := by
  have hle : n ≤ (ordR n E).length := by
    unfold ordB at hb
    rw [Bool.and_eq_true, decide_eq_true_eq] at hb
    simpa using hb.2
  obtain ⟨hnd, hbd, hall⟩ := ordR_full (n := n) (E := E)
  have hl := rounds_lay hE (ordR_topo hE) hnd (fun v hv => (hbd v hv).1) (fun e he => hall hle e.1 (hE e he).1 (hE e he).2.1)
  refine ⟨_, hl, fun v h0 h1 => ?_⟩
  obtain ⟨i, hi, hie⟩ := List.getElem_of_mem (hall hle v h0 h1)
  have h2 := lay_bound hl (ordR_topo hE) i hi
  rw [hie] at h2
  have h3 := ordR_len n E
  exact Int.le_trans h2 (by omega)
/-- n rounds give the layers. -/
theorem maxS_lay {n : Nat} {E : List Edg} (hE : InG n E) (hb : ordB (n : Int) E = true) {v : Int} (h0 : 0 ≤ v) (h1 : v < (n : Int)) : fV (maxS E n (List.replicate n 0)) v = layA (n : Int) E v := by
  obtain ⟨g, hg, hbd⟩ := ord_lay hE hb
  have hz : ∀ u : Int, fV (List.replicate n 0) u = 0 := fun u => by
    unfold fV
    simp only [List.getD_eq_getElem?_getD, List.getElem?_replicate]
    split <;> rfl
  rw [layA_lay hE hb hg h0 h1]
  have h2 := maxS_sound hg hE n (f := List.replicate n 0) (by simp) (fun u hu => by rw [hz]; exact hg.1 u) v h0
  have h3 := maxS_does hg hE (f := List.replicate n 0) (by simp) (fun u hu => by rw [hz]; exact Int.le_refl _) n v h0 (hbd v h0 h1)
  omega
/-- All numbers stay small. -/
theorem upTo_max {t : Int} {f : List Int} {e : Edg} (h : UpTo t f) : UpTo (t + 1) (maxE f e) := by
  have h1 := h e.1.toNat
  have h2 := h e.2.toNat
  have h3 : max1 (fV f e.2) (fV f e.1) ≤ t + 1 := max1_up (by unfold fV; omega) (by unfold fV; omega)
  have h4 := (max1_le (fV f e.2) (fV f e.1)).1
  refine upTo_set (h.mono (by omega)) ?_ h3
  unfold fV at h4 ⊢
  omega
theorem upTo_maxR {t : Int} : ∀ (E : List Edg) {f : List Int}, UpTo t f → UpTo (t + E.length) (maxR E f)
  | [], f, h => by simpa [maxR] using h
  | e :: r, f, h => by
    have := upTo_maxR r (upTo_max (e := e) h)
    show UpTo _ (maxR r (maxE f e))
    refine this.mono ?_
    simp
    omega
theorem upTo_maxS {t : Int} (E : List Edg) : ∀ (k : Nat) {f : List Int}, UpTo t f → UpTo (t + k * E.length) (maxS E k f)
  | 0, f, h => by simpa [maxS] using h
  | k + 1, f, h => by
    have := upTo_maxR E (upTo_maxS E k h)
    show UpTo _ (maxR E (maxS E k f))
    refine this.mono ?_
    have e1 : ((k + 1 : Nat) : Int) * (E.length : Int) = (k : Int) * (E.length : Int) + (E.length : Int) := by
      rw [Int.natCast_add, Int.add_mul]
      simp
    omega
/-- Where there is an order no way leads back. -/
theorem no_ring {n : Nat} {E : List Edg} (hE : InG n E) (hb : ordB (n : Int) E = true) (v : Int) : ¬ Way E v v := by
  obtain ⟨g, hg, _⟩ := ord_lay hE hb
  have key : ∀ b, Way E v b → g v < g b := fun b h => by
    induction h with
    | one he ha =>
      have := hg.2.1 _ he
      rw [ha] at this
      omega
    | more he _ ih =>
      have := hg.2.1 _ he
      omega
  intro h
  have := key v h
  omega
end Go.Proofs.Ytpnohgncnmbkdaa
