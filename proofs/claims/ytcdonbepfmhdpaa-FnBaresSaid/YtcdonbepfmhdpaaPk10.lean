/-
  Texts that a law leans on, one behind the other; no statement is proved here.
-/
import Derived.Test.YtcdonbepfmhdpaaPk3
import Derived.Test.YtcdonbepfmhdpaaPk9
import Derived.Test.YtcdonbepfmhdpaaPk5
import Derived.Test.YtcdonbepfmhdpaaPk4
/-
  Graphs: the order, as the program's tellable reckons it: how many edges each waits for, and those that wait for none; plain mathematics.
-/
namespace Go.Proofs.Ytcdonbepfmhdpaa
open Go.RowKit
set_option linter.unusedVariables false
set_option linter.unusedSimpArgs false

/-- An edge that t waits for. -/
def wE (dn : List Bool) (t : Nat) (e : Edg) : Bool := decide (e.2 = (t : Int)) && !bAt dn e.1
/-- How many edges t waits for, the first j edges being asked with v told, the others without. -/
def wJ (E : List Edg) (dn : List Bool) (v : Int) (j t : Nat) : Nat := ((E.take j).filter (wE (bSet dn v) t)).length + ((E.drop j).filter (wE dn t)).length
/-- How many edges t waits for. -/
def wN (E : List Edg) (dn : List Bool) (t : Nat) : Nat := (E.filter (wE dn t)).length

theorem wJ_zero (E : List Edg) (dn : List Bool) (v : Int) (t : Nat) : wJ E dn v 0 t = wN E dn t := by simp [wJ, wN]
theorem wJ_full (E : List Edg) (dn : List Bool) (v : Int) (t : Nat) : wJ E dn v E.length t = wN E (bSet dn v) t := by simp [wJ, wN]
theorem wJ_step (E : List Edg) (dn : List Bool) (v : Int) (j t : Nat) (h : j < E.length) : wJ E dn v j t + (if wE (bSet dn v) t E[j] = true then 1 else 0) = wJ E dn v (j + 1) t + (if wE dn t E[j] = true then 1 else 0) := by
  unfold wJ
  rw [List.take_succ_eq_append_getElem h, List.filter_append, List.length_append, List.drop_eq_getElem_cons h, List.filter_cons, List.filter_cons, List.filter_nil]
  split <;> split <;> simp <;> omega
/-- An edge from another one changes nothing. -/
theorem wJ_other {E : List Edg} {dn : List Bool} {v j t : Nat} {n : Nat} (hn : dn.length = n) (hv : v < n) (h : j < E.length) (h0 : 0 ≤ E[j].1) (hne : E[j].1 ≠ (v : Int)) : wJ E dn (v : Int) (j + 1) t = wJ E dn (v : Int) j t := by
  have h1 := wJ_step E dn (v : Int) j t h
  have h2 : wE (bSet dn (v : Int)) t E[j] = wE dn t E[j] := by
    unfold wE
    rw [bAt_set (by omega) h0 (by omega)]
    simp [hne]
  rw [h2] at h1
  omega
/-- An edge from v: its end waits for one less. -/
theorem wJ_this {E : List Edg} {dn : List Bool} {v j t : Nat} {n : Nat} (hn : dn.length = n) (hv : v < n) (h : j < E.length) (hnd : bAt dn (v : Int) = false) (he : E[j].1 = (v : Int)) : wJ E dn (v : Int) j t = wJ E dn (v : Int) (j + 1) t + (if E[j].2 = (t : Int) then 1 else 0) := by
  have h1 := wJ_step E dn (v : Int) j t h
  have h2 : wE (bSet dn (v : Int)) t E[j] = false := by
    unfold wE
    rw [he, bAt_set (by omega) (by omega) (by omega)]
    simp
  have h3 : wE dn t E[j] = decide (E[j].2 = (t : Int)) := by
    unfold wE
    rw [he, hnd]
    simp
  rw [h2, h3] at h1
  simp at h1
  simpa using h1
theorem wN_zero {E : List Edg} {dn : List Bool} {t : Nat} : wN E dn t = 0 ↔ ∀ e ∈ E, e.2 = (t : Int) → bAt dn e.1 = true := by
  unfold wN
  rw [List.length_eq_zero_iff, List.filter_eq_nil_iff]
  constructor
  · intro h e he ht
    have := h e he
    unfold wE at this
    simpa [ht] using this
  · intro h e he
    unfold wE
    by_cases c : e.2 = (t : Int)
    · simp [h e he c]
    · simp [c]
theorem free_iff {E : List Edg} {dn : List Bool} {t : Nat} : freeD E dn t = true ↔ dn.getD t false = false ∧ wN E dn t = 0 := by
  unfold freeD
  rw [Bool.and_eq_true, List.all_eq_true, wN_zero]
  constructor
  · rintro ⟨h1, h2⟩
    refine ⟨by simpa using h1, fun e he ht => ?_⟩
    have := h2 e he
    unfold barB at this
    simpa [ht] using this
  · rintro ⟨h1, h2⟩
    refine ⟨by simpa using h1, fun e he => ?_⟩
    unfold barB
    by_cases c : e.2 = (t : Int)
    · simp [h2 e he c]
    · simp [c]
theorem lF_least (f : Nat → Bool) : ∀ (k a v : Nat), a ≤ v → v < a + k → f v = true → (∀ u, a ≤ u → u < v → f u = false) → lF f k a = (v : Int)
  | 0, a, v, h1, h2, _, _ => by omega
  | k + 1, a, v, h1, h2, h3, h4 => by
    unfold lF
    by_cases c : a = v
    · subst c
      rw [if_pos h3]
    · rw [if_neg (by rw [h4 a (Nat.le_refl _) (by omega)]; simp)]
      exact lF_least f k (a + 1) v (by omega) (by omega) h3 (fun u hu hv => h4 u (by omega) hv)
theorem lF_none {f : Nat → Bool} {n : Nat} (h : ∀ u, u < n → f u = false) : lF f n 0 < 0 := by
  rcases lF_cases f n 0 with e | ⟨u, e, _, hu, hf⟩
  · omega
  · rw [h u (by omega)] at hf
    cases hf

/-- What stands behind a number of told ones: the heap has those that may be told next. -/
structure Tel (n : Nat) (E : List Edg) (dn : List Bool) (out H : List Int) : Prop where
  len : dn.length = n
  cnt : out.length = cntB dn
  clo : ∀ e ∈ E, bAt dn e.2 = true → bAt dn e.1 = true
  ord : ordD E n (n + 1 - out.length) dn out = ordR n E
  nod : H.Nodup
  heap : HeapN H H.length
  mem : ∀ x : Int, x ∈ H ↔ 0 ≤ x ∧ x < (n : Int) ∧ freeD E dn x.toNat = true

theorem nodup_len : ∀ (n : Nat) (l : List Int), l.Nodup → (∀ x ∈ l, 0 ≤ x ∧ x < (n : Int)) → l.length ≤ n
  | 0, l, _, h => by
    cases l with
    | nil => simp
    | cons x r => have := h x (by simp); omega
  | n + 1, l, hn, h => by
    by_cases c : (n : Int) ∈ l
    · have h1 := List.length_erase_of_mem c
      have h2 := nodup_len n (l.erase (n : Int)) (hn.sublist (List.erase_sublist)) (fun x hx => by
        have h3 := (List.Nodup.mem_erase_iff hn).1 hx
        have h4 := h x h3.2
        omega)
      omega
    · have := nodup_len n l hn (fun x hx => by
        have h4 := h x hx
        have : x ≠ (n : Int) := fun e => c (e ▸ hx)
        omega)
      omega
theorem Tel.small {n : Nat} {E : List Edg} {dn : List Bool} {out H : List Int} (h : Tel n E dn out H) : H.length ≤ n ∧ out.length ≤ n := by
  refine ⟨nodup_len n H h.nod (fun x hx => ?_), ?_⟩
  · have := (h.mem x).1 hx
    omega
  · rw [h.cnt, ← h.len]
    exact cnt_le dn
/-- Nothing may be told next: this was all. -/
theorem Tel.done {n : Nat} {E : List Edg} {dn : List Bool} {out : List Int} (h : Tel n E dn out []) : out = ordR n E := by
  have hk := h.ord
  have hle := h.small.2
  have e1 : n + 1 - out.length = (n - out.length) + 1 := by omega
  rw [e1] at hk
  rw [← hk, ordD_stop]
  refine lF_none fun u hu => ?_
  cases hf : freeD E dn u with
  | false => rfl
  | true =>
    have := (h.mem (u : Int)).2 ⟨by omega, by omega, by simpa using hf⟩
    simp at this

/-- While the edges of v are gone through. -/
structure TelJ (n : Nat) (E : List Edg) (dn : List Bool) (v j : Nat) (H : List Int) : Prop where
  nod : H.Nodup
  heap : HeapN H H.length
  mem : ∀ x : Int, x ∈ H ↔ 0 ≤ x ∧ x < (n : Int) ∧ bAt (bSet dn (v : Int)) x = false ∧ wJ E dn (v : Int) j x.toNat = 0

/-- The first one is taken out. -/
theorem Tel.pop {n : Nat} {E : List Edg} (hE : InG n E) {dn : List Bool} {out H H' : List Int} (h : Tel n E dn out H) (hl : 0 < H.length) (hp' : H.Perm (hp H 0 :: H')) (hh : HeapN H' H'.length) : ∃ v : Nat, hp H 0 = (v : Int) ∧ v < n ∧ bAt dn (v : Int) = false ∧ wN E dn v = 0 ∧ TelJ n E dn v 0 H' ∧
    ordD E n (n + 1 - (out ++ [(v : Int)]).length) (bSet dn (v : Int)) (out ++ [(v : Int)]) = ordR n E ∧ out.length < n ∧ (out ++ [(v : Int)]).length = cntB (bSet dn (v : Int)) ∧ (∀ e ∈ E, bAt (bSet dn (v : Int)) e.2 = true → bAt (bSet dn (v : Int)) e.1 = true) := by
  have hm : hp H 0 ∈ H := hp'.mem_iff.2 (by simp)
  obtain ⟨h0, h1, h2⟩ := (h.mem _).1 hm
  obtain ⟨v, hv⟩ : ∃ v : Nat, hp H 0 = (v : Int) := ⟨(hp H 0).toNat, by omega⟩
  rw [hv] at hp' h0 h1 h2
  rw [Int.toNat_natCast] at h2
  have hvn : v < n := by omega
  obtain ⟨f1, f2⟩ := free_iff.1 h2
  have hnv : bAt dn (v : Int) = false := by rw [bAt]; simpa using f1
  have hlen := h.len
  have hnd := (hp'.nodup_iff).1 h.nod
  rw [List.nodup_cons] at hnd
  have hbs : ∀ x : Int, 0 ≤ x → bAt (bSet dn (v : Int)) x = (bAt dn x || decide (x = (v : Int))) := fun x hx => bAt_set (by omega) hx (by omega)
  have hleast : lF (freeD E dn) n 0 = (v : Int) := by
    refine lF_least _ n 0 v (Nat.zero_le _) (by omega) h2 (fun u _ huv => ?_)
    cases hf : freeD E dn u with
    | false => rfl
    | true =>
      have hu := (h.mem (u : Int)).2 ⟨by omega, by omega, by simpa using hf⟩
      obtain ⟨i, hi, hie⟩ := List.getElem_of_mem hu
      have := heap_min h.heap i hi
      rw [hp_get hi, hie, hv] at this
      omega
  have hset : bSet dn (v : Int) = dn.set v true := by simp [bSet]
  have hcnt : cntB (bSet dn (v : Int)) = cntB dn + 1 := by rw [hset]; exact (cnt_set dn v).2 (by omega) f1
  refine ⟨v, hv, hvn, hnv, f2, ⟨hnd.2, hh, fun x => ?_⟩, ?_, ?_, ?_, ?_⟩
  · have hx : x ∈ H ↔ x = (v : Int) ∨ x ∈ H' := by rw [hp'.mem_iff, List.mem_cons]
    rw [wJ_zero]
    constructor
    · intro hxm
      have hxH := hx.2 (.inr hxm)
      obtain ⟨a1, a2, a3⟩ := (h.mem x).1 hxH
      obtain ⟨b1, b2⟩ := free_iff.1 a3
      refine ⟨a1, a2, ?_, b2⟩
      rw [hbs x a1]
      have hne : x ≠ (v : Int) := fun e => hnd.1 (e ▸ hxm)
      rw [Bool.or_eq_false_iff]
      exact ⟨by rw [bAt]; exact b1, by simpa using hne⟩
    · rintro ⟨a1, a2, a3, a4⟩
      rw [hbs x a1, Bool.or_eq_false_iff] at a3
      have hxH := (h.mem x).2 ⟨a1, a2, free_iff.2 ⟨by simpa [bAt] using a3.1, a4⟩⟩
      rcases hx.1 hxH with e | e
      · simp [e] at a3
      · exact e
  · have hlt : out.length < n := by
      have := cnt_le (bSet dn (v : Int))
      rw [bSet_len, h.len, hcnt] at this
      rw [h.cnt]
      omega
    have hk := h.ord
    have e1 : n + 1 - out.length = (n - out.length) + 1 := by omega
    have e2 : n + 1 - (out ++ [(v : Int)]).length = n - out.length := by rw [List.length_append]; show n + 1 - (out.length + 1) = _; omega
    rw [e1] at hk
    have h3 := ordD_next (k := n - out.length) (out := out) hleast
    rw [hk, ← hset] at h3
    rw [e2]
    exact h3.symm
  · have := cnt_le (bSet dn (v : Int))
    rw [bSet_len, h.len, hcnt] at this
    rw [h.cnt]
    omega
  · rw [List.length_append, hcnt, h.cnt]
    rfl
  · intro e he he2
    have e1 := hE e he
    rw [hbs e.2 e1.2.2.1, Bool.or_eq_true] at he2
    rw [hbs e.1 e1.1, Bool.or_eq_true]
    rcases he2 with he2 | he2
    · exact .inl (h.clo e he he2)
    · rw [decide_eq_true_eq] at he2
      exact .inl (wN_zero.1 f2 e he he2)
theorem TelJ.skip {n : Nat} {E : List Edg} (hE : InG n E) {dn : List Bool} {v j : Nat} {H : List Int} (h : TelJ n E dn v j H) (hn : dn.length = n) (hv : v < n) (hj : j < E.length) (hne : E[j].1 ≠ (v : Int)) : TelJ n E dn v (j + 1) H :=
  ⟨h.nod, h.heap, fun x => by rw [wJ_other hn hv hj (hE _ (List.getElem_mem hj)).1 hne]; exact h.mem x⟩
theorem TelJ.dec {n : Nat} {E : List Edg} {dn : List Bool} {v j t : Nat} {H : List Int} (h : TelJ n E dn v j H) (hn : dn.length = n) (hv : v < n) (hj : j < E.length) (hnd : bAt dn (v : Int) = false) (he : E[j].1 = (v : Int)) (ht : E[j].2 = (t : Int)) (hz : wJ E dn (v : Int) (j + 1) t ≠ 0) : TelJ n E dn v (j + 1) H :=
  ⟨h.nod, h.heap, fun x => by
    rw [h.mem x, wJ_this hn hv hj hnd he, ht]
    constructor
    · rintro ⟨a1, a2, a3, a4⟩
      exact ⟨a1, a2, a3, by omega⟩
    · rintro ⟨a1, a2, a3, a4⟩
      refine ⟨a1, a2, a3, ?_⟩
      rw [if_neg (fun e => hz (by rw [show t = x.toNat by omega]; exact a4)), a4]⟩
theorem TelJ.push {n : Nat} {E : List Edg} {dn : List Bool} {v j t : Nat} {H H' : List Int} (h : TelJ n E dn v j H) (hn : dn.length = n) (hv : v < n) (hj : j < E.length) (hnd : bAt dn (v : Int) = false) (he : E[j].1 = (v : Int)) (ht : E[j].2 = (t : Int)) (htn : t < n) (hz : wJ E dn (v : Int) (j + 1) t = 0) (hfr : bAt (bSet dn (v : Int)) (t : Int) = false) (hp' : H'.Perm ((t : Int) :: H)) (hh : HeapN H' H'.length) : TelJ n E dn v (j + 1) H' := by
  have hno : ¬ (t : Int) ∈ H := fun hm => by
    have h1 := ((h.mem _).1 hm).2.2.2
    rw [Int.toNat_natCast, wJ_this hn hv hj hnd he, if_pos ht] at h1
    omega
  refine ⟨(hp'.nodup_iff).2 (List.nodup_cons.2 ⟨hno, h.nod⟩), hh, fun x => ?_⟩
  rw [hp'.mem_iff, List.mem_cons, h.mem x, wJ_this hn hv hj hnd he, ht]
  constructor
  · rintro (rfl | ⟨a1, a2, a3, a4⟩)
    · exact ⟨by omega, by omega, hfr, by simpa using hz⟩
    · exact ⟨a1, a2, a3, by omega⟩
  · rintro ⟨a1, a2, a3, a4⟩
    by_cases c : x = (t : Int)
    · exact .inl c
    · exact .inr ⟨a1, a2, a3, by rw [a4, if_neg (by omega)]⟩
/-- An end of an edge from v is not told yet, and is not v. -/
theorem end_free {n : Nat} {E : List Edg} (hE : InG n E) {dn : List Bool} {v j t : Nat} (hn : dn.length = n) (hv : v < n) (hj : j < E.length) (hnd : bAt dn (v : Int) = false) (hw : wN E dn v = 0) (hc : ∀ e ∈ E, bAt dn e.2 = true → bAt dn e.1 = true) (he : E[j].1 = (v : Int)) (ht : E[j].2 = (t : Int)) : bAt (bSet dn (v : Int)) (t : Int) = false := by
  have hm := List.getElem_mem hj
  rw [bAt_set (by omega) (by omega) (by omega), Bool.or_eq_false_iff]
  constructor
  · cases hb : bAt dn (t : Int) with
    | false => rfl
    | true =>
      have := hc _ hm (by rw [ht]; exact hb)
      rw [he, hnd] at this
      cases this
  · rw [decide_eq_false_iff_not]
    intro e
    have := wN_zero.1 hw _ hm (by rw [ht, e])
    rw [he, hnd] at this
    cases this
/-- All edges of v were gone through. -/
theorem TelJ.full {n : Nat} {E : List Edg} {dn : List Bool} {v : Nat} {out H : List Int} (h : TelJ n E dn v E.length H) (hn : dn.length = n) (hord : ordD E n (n + 1 - (out ++ [(v : Int)]).length) (bSet dn (v : Int)) (out ++ [(v : Int)]) = ordR n E) (hcnt : (out ++ [(v : Int)]).length = cntB (bSet dn (v : Int))) (hclo : ∀ e ∈ E, bAt (bSet dn (v : Int)) e.2 = true → bAt (bSet dn (v : Int)) e.1 = true) : Tel n E (bSet dn (v : Int)) (out ++ [(v : Int)]) H := by
  refine ⟨by rw [bSet_len, hn], hcnt, hclo, hord, h.nod, h.heap, fun x => ?_⟩
  rw [h.mem x, wJ_full, free_iff]
  constructor
  · rintro ⟨a1, a2, a3, a4⟩
    exact ⟨a1, a2, by simpa [bAt] using a3, a4⟩
  · rintro ⟨a1, a2, a3, a4⟩
    exact ⟨a1, a2, by simpa [bAt] using a3, a4⟩

/-- At the beginning none is told. -/
theorem none_told (n : Nat) (v : Int) : bAt (List.replicate n false) v = false := by
  simp [bAt, List.getD_eq_getElem?_getD, List.getElem?_replicate]
  split <;> rfl
/-- How many edges come to t. -/
def inN (E : List Edg) (t : Nat) : Nat := (E.filter fun e => decide (e.2 = (t : Int))).length
theorem inN_succ (E : List Edg) (t j : Nat) (h : j < E.length) : inN (E.take (j + 1)) t = inN (E.take j) t + (if E[j].2 = (t : Int) then 1 else 0) := by
  unfold inN
  rw [List.take_succ_eq_append_getElem h, List.filter_append, List.length_append, List.filter_cons, List.filter_nil]
  by_cases c : E[j].2 = (t : Int)
  · simp [c]
  · simp [c]
theorem inN_le (E : List Edg) (t : Nat) : inN E t ≤ E.length := List.length_filter_le _ _
theorem wN_none (E : List Edg) (n t : Nat) : wN E (List.replicate n false) t = inN E t := by
  unfold wN inN
  congr 1
  refine List.filter_congr fun e _ => ?_
  unfold wE
  rw [none_told]
  simp
theorem wJ_le (E : List Edg) (dn : List Bool) (v : Int) (j t : Nat) : wJ E dn v j t ≤ E.length := by
  unfold wJ
  have h1 := List.length_filter_le (wE (bSet dn v) t) (E.take j)
  have h2 := List.length_filter_le (wE dn t) (E.drop j)
  simp at h1 h2
  omega
/-- While those that wait for none are gathered. -/
structure TelI (E : List Edg) (k : Nat) (H : List Int) : Prop where
  nod : H.Nodup
  heap : HeapN H H.length
  mem : ∀ x : Int, x ∈ H ↔ 0 ≤ x ∧ x < (k : Int) ∧ inN E x.toNat = 0
theorem telI_nil (E : List Edg) : TelI E 0 [] := ⟨List.nodup_nil, fun k _ hk => by simp at hk, fun x => ⟨fun h => by simp at h, fun h => absurd h.2.1 (by have := h.1; simp; omega)⟩⟩
theorem TelI.skip {E : List Edg} {k : Nat} {H : List Int} (h : TelI E k H) (hz : inN E k ≠ 0) : TelI E (k + 1) H := ⟨h.nod, h.heap, fun x => by
  rw [h.mem x]
  constructor
  · rintro ⟨a1, a2, a3⟩
    exact ⟨a1, by omega, a3⟩
  · rintro ⟨a1, a2, a3⟩
    refine ⟨a1, ?_, a3⟩
    have : x ≠ (k : Int) := fun e => hz (by rw [e] at a3; simpa using a3)
    omega⟩
theorem TelI.push {E : List Edg} {k : Nat} {H H' : List Int} (h : TelI E k H) (hz : inN E k = 0) (hp' : H'.Perm ((k : Int) :: H)) (hh : HeapN H' H'.length) : TelI E (k + 1) H' := by
  have hno : ¬ (k : Int) ∈ H := fun hm => by
    have := (h.mem _).1 hm
    omega
  refine ⟨(hp'.nodup_iff).2 (List.nodup_cons.2 ⟨hno, h.nod⟩), hh, fun x => ?_⟩
  rw [hp'.mem_iff, List.mem_cons, h.mem x]
  constructor
  · rintro (rfl | ⟨a1, a2, a3⟩)
    · exact ⟨by omega, by omega, by simpa using hz⟩
    · exact ⟨a1, by omega, a3⟩
  · rintro ⟨a1, a2, a3⟩
    by_cases c : x = (k : Int)
    · exact .inl c
    · exact .inr ⟨a1, by omega, a3⟩
theorem TelI.len {E : List Edg} {k : Nat} {H : List Int} (h : TelI E k H) : H.length ≤ k := nodup_len k H h.nod (fun x hx => by
  have := (h.mem x).1 hx
  omega)
theorem TelJ.len {n : Nat} {E : List Edg} {dn : List Bool} {v j : Nat} {H : List Int} (h : TelJ n E dn v j H) : H.length ≤ n := nodup_len n H h.nod (fun x hx => by
  have := (h.mem x).1 hx
  omega)
theorem TelI.full {n : Nat} {E : List Edg} {H : List Int} (h : TelI E n H) : Tel n E (List.replicate n false) [] H := by
  refine ⟨by simp, by rw [cnt_repl]; rfl, fun e _ he => (by rw [none_told] at he; simp at he), rfl, h.nod, h.heap, fun x => ?_⟩
  rw [h.mem x, free_iff, wN_none]
  have := none_told n x
  unfold bAt at this
  constructor
  · rintro ⟨a1, a2, a3⟩
    exact ⟨a1, a2, this, a3⟩
  · rintro ⟨a1, a2, _, a4⟩
    exact ⟨a1, a2, a4⟩
end Go.Proofs.Ytcdonbepfmhdpaa
/-
  Mathematics for FnOrders and FnBares: there is an order just if there is no ring; turned round likewise; what was made bare leads where it led, and nothing of it can be spared.
-/
namespace Go.Proofs.Ytcdonbepfmhdpaa
set_option linter.unusedVariables false
set_option linter.unusedSimpArgs false

theorem gB_pair {n : Int} {E : List Edg} (hg : gB n E = true) : E.Pairwise fun a b => lessE a b = true := by
  rw [List.pairwise_iff_getElem]
  intro i j hi hj hij
  obtain ⟨_, h⟩ := asc_apart hg i j hj hij
  exact h
theorem gB_of {n : Nat} {E : List Edg} (hn : n ≤ 20) (hl : E.length ≤ 400) (hE : InG n E) (hp : E.Pairwise fun a b => lessE a b = true) : gB (n : Int) E = true := by
  refine g_yes (by omega) (by omega) hl (fun i hi => ?_)
  have e1 : E.getD i (0, 0) = E[i] := by simp [List.getD_eq_getElem?_getD, hi]
  have h1 := hE E[i] (List.getElem_mem hi)
  unfold stepG
  rw [e1]
  simp only [Bool.and_eq_true, decide_eq_true_eq, Bool.or_eq_true]
  refine ⟨h1.1, h1.2.1, h1.2.2.1, h1.2.2.2, ?_⟩
  by_cases h0 : i = 0
  · exact .inl h0
  · have e2 : E.getD (i - 1) (0, 0) = E[i - 1] := by simp [List.getD_eq_getElem?_getD, (by omega : i - 1 < E.length)]
    rw [e2]
    exact .inr (List.pairwise_iff_getElem.1 hp (i - 1) i (by omega) hi (by omega))
theorem gB_nat {n : Int} {E : List Edg} (hg : gB n E = true) : ∃ m : Nat, n = (m : Int) ∧ m ≤ 20 ∧ E.length ≤ 400 ∧ InG m E := by
  obtain ⟨h0, h1, h2, _⟩ := gB_iff.1 hg
  refine ⟨n.toNat, by omega, by omega, h2, fun e he => ?_⟩
  have := g_ends hg he
  omega

theorem lF_neg (f : Nat → Bool) : ∀ (k v : Nat), lF f k v < 0 → ∀ u, v ≤ u → u < v + k → f u = false
  | 0, v, _, u, h1, h2 => by omega
  | k + 1, v, h, u, h1, h2 => by
    have e : lF f (k + 1) v = if f v = true then (v : Int) else lF f k (v + 1) := rfl
    rw [e] at h
    by_cases hv : f v = true
    · rw [if_pos hv] at h
      omega
    · rw [if_neg hv] at h
      by_cases huv : u = v
      · subst huv
        simpa using hv
      · exact lF_neg f k (v + 1) h u (by omega) (by omega)

/-- Who is not told in the end has an edge from one that is not told either. -/
theorem ordD_stuck {E : List Edg} {n : Nat} (hE : InG n E) : ∀ (k : Nat) (dn : List Bool) (out : List Int), dn.length = n → (∀ v : Int, 0 ≤ v → (bAt dn v = true ↔ v ∈ out)) → n + 1 ≤ cntB dn + k →
    ∀ v : Nat, v < n → (v : Int) ∉ ordD E n k dn out → ∃ e ∈ E, e.2 = (v : Int) ∧ e.1 ∉ ordD E n k dn out := by
  intro k
  induction k with
  | zero =>
    intro dn out h1 h3 hk v hv hno
    have := cnt_le dn
    omega
  | succ k ih =>
    intro dn out h1 h3 hk v hv hno
    rcases lF_cases (freeD E dn) n 0 with e | ⟨u, e, _, hu, hfu⟩
    · have hneg : lF (freeD E dn) n 0 < 0 := by rw [e]; omega
      rw [ordD_stop hneg] at hno ⊢
      have hf := lF_neg _ _ _ hneg v (Nat.zero_le _) (by omega)
      have hb : bAt dn (v : Int) = false := by
        cases hc : bAt dn (v : Int) with
        | false => rfl
        | true => exact absurd ((h3 (v : Int) (by omega)).1 hc) hno
      have hb' : dn.getD v false = false := by simpa [bAt] using hb
      unfold freeD at hf
      rw [hb', Bool.not_false, Bool.true_and] at hf
      have hx : ¬ ∀ x ∈ E, barB dn v x = true := fun hall => by
        rw [List.all_eq_true.2 hall] at hf
        cases hf
      obtain ⟨x, hx1, hx2⟩ : ∃ x ∈ E, ¬ barB dn v x = true := by
        apply Classical.byContradiction
        intro hcon
        exact hx fun x hxE => Classical.byContradiction fun hq => hcon ⟨x, hxE, hq⟩
      unfold barB at hx2
      simp only [Bool.or_eq_true, Bool.not_eq_true', decide_eq_false_iff_not, not_or, Decidable.not_not] at hx2
      exact ⟨x, hx1, hx2.1, fun hm => hx2.2 ((h3 x.1 (hE x hx1).1).2 hm)⟩
    · rw [ordD_next e] at hno ⊢
      have hnf := free_not hfu
      refine ih _ _ (by simp [h1]) (fun t ht => ?_) ?_ v hv hno
      · have h6 : dn.set u true = bSet dn (u : Int) := by simp [bSet]
        rw [h6, bAt_set (by omega) ht (by simp; omega), Bool.or_eq_true, decide_eq_true_eq, h3 t ht, List.mem_append]
        simp
      · rw [(cnt_set dn u).2 (by omega) hnf]
        omega
theorem ordR_stuck {E : List Edg} {n : Nat} (hE : InG n E) (v : Nat) (hv : v < n) (hno : (v : Int) ∉ ordR n E) : ∃ e ∈ E, e.2 = (v : Int) ∧ e.1 ∉ ordR n E := by
  refine ordD_stuck hE _ _ _ (by simp) (fun t ht => ?_) (by rw [cnt_repl]; omega) v hv hno
  simp [bAt, List.getD_eq_getElem?_getD, List.getElem?_replicate]
  split <;> rfl

theorem way_trans {E : List Edg} {a b c : Int} (h1 : Way E a b) (h2 : Way E b c) : Way E a c := by
  induction h2 with
  | one he hb => subst hb; exact .more he h1
  | more he _ ih => exact .more he ih

/-- A row of vertices each of which has an edge from the next one, as long as is wanted. -/
theorem back_row {E : List Edg} {n : Nat} (hE : InG n E) (U : Int → Prop) (hU : ∀ v, U v → 0 ≤ v ∧ v < (n : Int) → ∃ e ∈ E, e.2 = v ∧ U e.1) (v0 : Int) (h0 : U v0) (hin : 0 ≤ v0 ∧ v0 < (n : Int)) :
    ∀ k : Nat, ∃ (l : List Int) (x : Int), l.length = k ∧ U x ∧ (0 ≤ x ∧ x < (n : Int)) ∧ (∀ y ∈ l, Way E x y) ∧ (∀ y ∈ l, 0 ≤ y ∧ y < (n : Int)) ∧ l.Pairwise (fun a b => Way E a b)
  | 0 => ⟨[], v0, rfl, h0, hin, by simp, by simp, List.Pairwise.nil⟩
  | k + 1 => by
    obtain ⟨l, x, h1, h2, h3, h4, h5, h6⟩ := back_row hE U hU v0 h0 hin k
    obtain ⟨e, he, hx, hu⟩ := hU x h2 h3
    have hw : Way E e.1 x := by rw [← hx]; exact .one he rfl
    refine ⟨x :: l, e.1, by simp [h1], hu, ⟨(hE e he).1, (hE e he).2.1⟩, fun y hy => ?_, fun y hy => ?_, List.pairwise_cons.2 ⟨h4, h6⟩⟩
    · rcases List.mem_cons.1 hy with rfl | hy
      · exact hw
      · exact way_trans hw (h4 y hy)
    · rcases List.mem_cons.1 hy with rfl | hy
      · exact h3
      · exact h5 y hy
/-- Where not all can be told there is a ring. -/
theorem ring_of {E : List Edg} {n : Nat} (hE : InG n E) (h : (ordR n E).length < n) : ∃ v : Int, (0 ≤ v ∧ v < (n : Int)) ∧ Way E v v := by
  apply Classical.byContradiction
  intro hcon
  have hirr : ∀ v : Int, ¬ Way E v v := fun v hw => hcon ⟨v, way_in hE hw, hw⟩
  obtain ⟨v0, hv0, hn0⟩ : ∃ v0 : Nat, v0 < n ∧ (v0 : Int) ∉ ordR n E := by
    apply Classical.byContradiction
    intro hc
    have hall : ∀ v : Nat, v < n → (v : Int) ∈ ordR n E := fun v hv => Classical.byContradiction fun hq => hc ⟨v, hv, hq⟩
    have hsub : ∀ x ∈ (List.range n).map (fun v : Nat => (v : Int)), x ∈ ordR n E := fun x hx => by
      obtain ⟨v, hv, rfl⟩ := List.mem_map.1 hx
      exact hall v (List.mem_range.1 hv)
    have hcount : ∀ (l m : List Int), l.Nodup → (∀ x ∈ l, x ∈ m) → l.length ≤ m.length := by
      intro l
      induction l with
      | nil => intro m _ _; exact Nat.zero_le _
      | cons a l ih =>
        intro m hnd hs
        have ha := hs a (List.mem_cons_self ..)
        have hnd' := List.nodup_cons.1 hnd
        have := ih (m.erase a) hnd'.2 (fun x hx => by
          have hne : x ≠ a := by rintro rfl; exact hnd'.1 hx
          exact (List.mem_erase_of_ne hne).2 (hs x (List.mem_cons_of_mem _ hx)))
        rw [List.length_erase_of_mem ha] at this
        have hpos := List.length_pos_of_mem ha
        simp only [List.length_cons]
        omega
    have hnd : ((List.range n).map (fun v : Nat => (v : Int))).Nodup := by
      unfold List.Nodup
      rw [List.pairwise_map]
      refine List.Pairwise.imp ?_ (List.nodup_range (n := n))
      intro a b hab hc2
      exact hab (by omega)
    have := hcount _ _ hnd hsub
    simp at this
    omega
  obtain ⟨l, x, h1, _, h3, h4, h5, h6⟩ := back_row hE (fun v => v ∉ ordR n E) (fun v hv hin => by
    obtain ⟨m, rfl⟩ : ∃ m : Nat, v = (m : Int) := ⟨v.toNat, by omega⟩
    exact ordR_stuck hE m (by omega) hv) (v0 : Int) hn0 (by omega) (n + 1)
  have hnd : l.Nodup := by
    unfold List.Nodup
    refine List.Pairwise.imp ?_ h6
    intro a b hab hc2
    subst hc2
    exact hirr _ hab
  have := nodup_len n l hnd h5
  omega

theorem ordB_len {n : Nat} {E : List Edg} (hg : gB (n : Int) E = true) : ordB (n : Int) E = true ↔ n ≤ (ordR n E).length := by
  unfold ordB
  rw [hg, Bool.true_and, decide_eq_true_eq]
  simp
/-- There is an order just if no way leads back. -/
theorem ordB_iff {n : Nat} {E : List Edg} (hg : gB (n : Int) E = true) (hE : InG n E) : ordB (n : Int) E = true ↔ ∀ v : Int, ¬ Way E v v := by
  constructor
  · exact fun h v => no_ring hE h v
  · intro h
    rw [ordB_len hg]
    apply Classical.byContradiction
    intro hlt
    obtain ⟨v, _, hw⟩ := ring_of hE (by omega)
    exact h v hw
theorem ring_nil {n : Nat} {E : List Edg} (hg : gB (n : Int) E = true) (hE : InG n E) : ringA (n : Int) E = [] ↔ ∀ v : Int, ¬ Way E v v := by
  unfold ringA
  rw [if_pos hg, Int.toNat_natCast]
  unfold ringF
  rw [List.map_eq_nil_iff, List.filter_eq_nil_iff]
  constructor
  · intro h v hw
    have hin := way_in hE hw
    obtain ⟨m, rfl⟩ : ∃ m : Nat, v = (m : Int) := ⟨v.toNat, by omega⟩
    exact h m (List.mem_range.2 (by omega)) ((ring_iff hE m).2 hw)
  · intro h v hv hr
    exact h _ ((ring_iff hE v).1 hr)
/-- Order is true just if Ring is nothing. -/
theorem order_ring {n : Nat} {E : List Edg} (hg : gB (n : Int) E = true) (hE : InG n E) : ordB (n : Int) E = ((ringA (n : Int) E).length == 0) := by
  rw [Bool.eq_iff_iff, ordB_iff hg hE, ← ring_nil hg hE]
  simp

theorem way_swap {E : List Edg} {a b : Int} (h : Way E a b) : Way (E.map swapE) b a := by
  have hs : ∀ e ∈ E, Way (E.map swapE) e.2 e.1 := fun e he => .one (e := swapE e) (List.mem_map.2 ⟨e, he, rfl⟩) rfl
  induction h with
  | one he ha => subst ha; exact hs _ he
  | more he _ ih => exact way_trans (hs _ he) ih
theorem swap_swap (E : List Edg) : (E.map swapE).map swapE = E := by
  rw [List.map_map]
  have : swapE ∘ swapE = id := by funext e; rfl
  rw [this, List.map_id]
theorem way_perm {E F : List Edg} (h : E.Perm F) {a b : Int} (hw : Way E a b) : Way F a b := way_mono (fun e he => h.mem_iff.1 he) hw
/-- What Turned answers. -/
theorem turn_facts {n : Nat} {E : List Edg} (hg : gB (n : Int) E = true) (hE : InG n E) (hn : n ≤ 20) (hl : E.length ≤ 400) :
    (turnF E n).length = E.length ∧ InG n (turnF E n) ∧ gB (n : Int) (turnF E n) = true ∧ ordB (n : Int) (turnF E n) = ordB (n : Int) E := by
  have hp := turnF_perm E hE
  have hlen : (turnF E n).length = E.length := by rw [hp.length_eq, List.length_map]
  have hin : InG n (turnF E n) := fun e he => by
    obtain ⟨d, hd, rfl⟩ := List.mem_map.1 (hp.mem_iff.1 he)
    have := hE d hd
    exact ⟨this.2.2.1, this.2.2.2, this.1, this.2.1⟩
  have hgt := gB_of hn (by omega) hin (turnF_asc hg n)
  refine ⟨hlen, hin, hgt, ?_⟩
  rw [Bool.eq_iff_iff, ordB_iff hgt hin, ordB_iff hg hE]
  constructor
  · exact fun h v hw => h v (way_perm hp.symm (way_swap hw))
  · intro h v hw
    have := way_swap (way_perm hp hw)
    rw [swap_swap] at this
    exact h v this

/-- The place of each in an order: each edge leads to a later one. -/
theorem ord_later {n : Nat} {E : List Edg} (hE : InG n E) (hb : ordB (n : Int) E = true) {e : Edg} (he : e ∈ E) :
    ∃ (i j : Nat) (hi : i < (ordR n E).length) (hj : j < (ordR n E).length), i < j ∧ (ordR n E)[i] = e.1 ∧ (ordR n E)[j] = e.2 := by
  have hle : n ≤ (ordR n E).length := by
    unfold ordB at hb
    rw [Bool.and_eq_true, decide_eq_true_eq] at hb
    simpa using hb.2
  have hm := ordR_full.2.2 hle e.2 (hE e he).2.2.1 (hE e he).2.2.2
  obtain ⟨j, hj, hje⟩ := List.getElem_of_mem hm
  have ht := ordR_topo hE j hj e he hje.symm
  obtain ⟨i, hi, hie⟩ := List.getElem_of_mem ht
  simp only [List.length_take] at hi
  rw [List.getElem_take] at hie
  exact ⟨i, j, by omega, hj, by omega, hie, hje⟩
/-- Each edge leads to a higher layer. -/
theorem lay_later {n : Nat} {E : List Edg} (hE : InG n E) (hb : ordB (n : Int) E = true) {e : Edg} (he : e ∈ E) : layA (n : Int) E e.1 < layA (n : Int) E e.2 := by
  obtain ⟨g, hg, _⟩ := ord_lay hE hb
  have h := hE e he
  rw [layA_lay hE hb hg h.1 h.2.1, layA_lay hE hb hg h.2.2.1 h.2.2.2]
  have := hg.2.1 e he
  omega

/-- A way is one edge, or each of its edges climbs less than it does. -/
theorem way_climb {F B : List Edg} {g : Int → Int} (hF : ∀ d ∈ F, g d.1 + 1 ≤ g d.2) {a b : Int} (h : Way F a b) :
    g a + 1 ≤ g b ∧ ((∃ d ∈ F, d.1 = a ∧ d.2 = b) ∨ ((∀ d ∈ F, g d.2 - g d.1 < g b - g a → Way B d.1 d.2) → Way B a b)) := by
  induction h with
  | @one e he ha =>
    subst ha
    exact ⟨hF _ he, .inl ⟨e, he, rfl, rfl⟩⟩
  | @more e he hw ih =>
    obtain ⟨h1, h2⟩ := ih
    have h3 := hF _ he
    refine ⟨by omega, .inr fun hd => ?_⟩
    have hlast : Way B e.1 e.2 := hd e he (by omega)
    refine way_trans ?_ hlast
    rcases h2 with ⟨d, hdF, hd1, hd2⟩ | h2
    · rw [← hd1, ← hd2]
      refine hd d hdF ?_
      rw [hd1, hd2]
      omega
    · exact h2 fun d hdF hlt => hd d hdF (by omega)

theorem mem_bare {n : Nat} {E : List Edg} {e : Edg} : e ∈ bareF n E E.length ↔ ∃ i, ∃ h : i < E.length, E[i] = e ∧ leadsF n E E[i].1 E[i].2 (i : Int) = false := by
  unfold bareF
  rw [List.mem_map]
  constructor
  · rintro ⟨i, hi, he⟩
    obtain ⟨h1, h2⟩ := List.mem_filter.1 hi
    have hl : i < E.length := List.mem_range.1 h1
    have e1 : E.getD i (0, 0) = E[i] := by simp [List.getD_eq_getElem?_getD, hl]
    rw [e1] at he
    unfold bareI at h2
    rw [e1] at h2
    exact ⟨i, hl, he, by simpa using h2⟩
  · rintro ⟨i, hl, he, h2⟩
    have e1 : E.getD i (0, 0) = E[i] := by simp [List.getD_eq_getElem?_getD, hl]
    refine ⟨i, List.mem_filter.2 ⟨List.mem_range.2 hl, ?_⟩, by rw [e1]; exact he⟩
    unfold bareI
    rw [e1, h2]
    rfl

/-- What was made bare leads where it led. -/
theorem bare_way {n : Nat} {E : List Edg} (hg : gB (n : Int) E = true) (hE : InG n E) (hb : ordB (n : Int) E = true) (a b : Int) : Way (bareF n E E.length) a b ↔ Way E a b := by
  have hsub : ∀ e ∈ bareF n E E.length, e ∈ E := fun e he => by
    obtain ⟨i, hi, rfl, _⟩ := mem_bare.1 he
    exact List.getElem_mem hi
  constructor
  · exact fun h => way_mono hsub h
  · obtain ⟨g, hL, _⟩ := ord_lay hE hb
    have key : ∀ (k : Nat) (e : Edg), e ∈ E → g e.2 - g e.1 ≤ (k : Int) → Way (bareF n E E.length) e.1 e.2 := by
      intro k
      induction k with
      | zero =>
        intro e he hk
        have := hL.2.1 e he
        omega
      | succ k ih =>
        intro e he hk
        obtain ⟨i, hi, rfl⟩ := List.getElem_of_mem he
        cases hsp : leadsF n E E[i].1 E[i].2 (i : Int) with
        | false => exact .one (mem_bare.2 ⟨i, hi, rfl, hsp⟩) rfl
        | true =>
          have hw := (leads_aside hE _ _ _).1 hsp
          have hFE : ∀ d ∈ restF E (i : Int) E.length, d ∈ E := fun d hd => by
            obtain ⟨j, hj, _, rfl⟩ := mem_rest.1 hd
            exact List.getElem_mem hj
          obtain ⟨_, h2⟩ := way_climb (B := bareF n E E.length) (g := g) (fun d hd => hL.2.1 d (hFE d hd)) hw
          rcases h2 with ⟨d, hd, hd1, hd2⟩ | h2
          · obtain ⟨j, hj, hne, rfl⟩ := mem_rest.1 hd
            exact absurd (Prod.ext hd1 hd2) (edges_apart hg hj hi hne)
          · exact h2 fun d hd hlt => ih d (hFE d hd) (by omega)
    intro h
    induction h with
    | @one e he ha => subst ha; exact key (g e.2 - g e.1).toNat e he (by omega)
    | @more e he _ ih => exact way_trans ih (key (g e.2 - g e.1).toNat e he (by omega))

theorem bare_pair {n : Nat} {E : List Edg} (hg : gB (n : Int) E = true) (hb : ordB (n : Int) E = true) : (bareF n E E.length).Pairwise fun a b => lessE a b = true := by
  rw [← keep_bare hg hb]
  unfold keepF
  exact (gB_pair hg).filter _
/-- What was made bare: it may be, it has an order, and it is bare. -/
theorem bare_facts {n : Nat} {E : List Edg} (hg : gB (n : Int) E = true) (hE : InG n E) (hn : n ≤ 20) (hl : E.length ≤ 400) (hb : ordB (n : Int) E = true) :
    gB (n : Int) (bareF n E E.length) = true ∧ ordB (n : Int) (bareF n E E.length) = true ∧ bareF n (bareF n E E.length) (bareF n E E.length).length = bareF n E E.length ∧ InG n (bareF n E E.length) := by
  have hlen := bareF_len n E E.length
  have hsub : ∀ e ∈ bareF n E E.length, e ∈ E := fun e he => by
    obtain ⟨i, hi, rfl, _⟩ := mem_bare.1 he
    exact List.getElem_mem hi
  have hin : InG n (bareF n E E.length) := fun e he => hE e (hsub e he)
  have hgb := gB_of hn (by omega) hin (bare_pair hg hb)
  have hob : ordB (n : Int) (bareF n E E.length) = true := (ordB_iff hgb hin).2 fun v hw => no_ring hE hb v (way_mono hsub hw)
  refine ⟨hgb, hob, ?_, hin⟩
  rw [← keep_bare hgb hob]
  generalize hB : bareF n E E.length = B at *
  unfold keepF
  rw [List.filter_eq_self]
  intro e he
  obtain ⟨j, hj, rfl⟩ := List.getElem_of_mem he
  rw [spare_iff hgb hob hj, Bool.not_eq_true']
  have hm : B[j] ∈ bareF n E E.length := by rw [hB]; exact he
  obtain ⟨i, hi, hei, hsp⟩ := mem_bare.1 hm
  cases hc : leadsF n B B[j].1 B[j].2 (j : Int) with
  | false => rfl
  | true =>
    have hw := (leads_aside hin _ _ _).1 hc
    have : Way (restF E (i : Int) E.length) B[j].1 B[j].2 := way_mono (fun d hd => by
      obtain ⟨q, hq, hne, rfl⟩ := mem_rest.1 hd
      obtain ⟨p, hp, hpe⟩ := List.getElem_of_mem (hsub _ (List.getElem_mem hq))
      refine mem_rest.2 ⟨p, hp, ?_, hpe⟩
      rintro rfl
      exact edges_apart hgb hq hj hne (by rw [← hpe, ← hei])) hw
    rw [← hei] at this
    rw [(leads_aside hE _ _ _).2 this] at hsp
    cases hsp
theorem leads_same {n : Nat} {E : List Edg} (hg : gB (n : Int) E = true) (hE : InG n E) (hn : n ≤ 20) (hl : E.length ≤ 400) (hb : ordB (n : Int) E = true) (a c : Int) : leadsB (n : Int) E a c = leadsB (n : Int) (bareF n E E.length) a c := by
  obtain ⟨h1, _, _, h4⟩ := bare_facts hg hE hn hl hb
  have : leadsF n E a c (-1) = leadsF n (bareF n E E.length) a c (-1) := by
    rw [Bool.eq_iff_iff, leads_iff hE, leads_iff h4, bare_way hg hE hb]
  unfold leadsB
  rw [hg, h1, Int.toNat_natCast, this]
end Go.Proofs.Ytcdonbepfmhdpaa
/-
  Layer of the specification.
-/
namespace Go.Proofs.Ytcdonbepfmhdpaa
open Go.RowKit
set_option linter.unusedVariables false
set_option linter.unusedSimpArgs false

/-- A row of numbers in block D. -/
def NRow (D : Nat) (far : List Int) (w : World) : Prop := w.heap[D]? = some (.cells (iC far).toArray 3 (0, 0))
theorem NRow.at {D : Nat} {far : List Int} {w : World} (h : NRow D far w) {m : Nat} (hm : m < far.length) : w.cell? ⟨D, m, none⟩ = some (.int .i64 (far.getD m 0)) ∧ w.frozen? ⟨D, m, none⟩ = false := by
  refine ⟨?_, frozen_of_row w D m _ _ h⟩
  rw [cell_of_row w D m _ _ _ h]
  simp [iC, hm, List.getD_eq_getElem?_getD]
theorem NRow.set {D : Nat} {far : List Int} {w : World} (h : NRow D far w) (m : Nat) (x : Int) : NRow D (far.set m x) (w.setCell ⟨D, m, none⟩ (.int .i64 x)) := by
  unfold NRow
  rw [heap_setCell_same w D m _ _ _ h]
  simp [iC, List.map_set]

/-- The graph's box, the order (ahead of D), a row of numbers in D. -/
def YSt (w : World) (o : Obj) (D : Nat) (far : List Int) (lv : Value) (L : List Int) (wr : World) : Prop := wr.heap[w.heap.size]? = some o ∧ Below w.heap.size w wr ∧ w.heap.size < D ∧ NRow D far wr ∧ NSeg (fun b => b < D) wr lv L
theorem YSt.on {w wr w' : World} {o : Obj} {D : Nat} {far : List Int} {lv : Value} {L : List Int} (h : YSt w o D far lv L wr) (hb : Below wr.heap.size wr w') : YSt w o D far lv L w' := by
  obtain ⟨h1, h2, h3, h4, h5⟩ := h
  have hD : D < wr.heap.size := (Array.getElem?_eq_some_iff.1 h4).1
  exact ⟨(hb.block _ (by omega)).trans h1, Below.on h2 hb, h3, (hb.block _ hD).trans h4, h5.agree fun b hb' => hb.block b (by omega)⟩
theorem YSt.set {w wr : World} {o : Obj} {D : Nat} {far : List Int} {lv : Value} {L : List Int} (h : YSt w o D far lv L wr) (m : Nat) (x : Int) : YSt w o D (far.set m x) lv L (wr.setCell ⟨D, m, none⟩ (.int .i64 x)) := by
  obtain ⟨h1, h2, h3, h4, h5⟩ := h
  exact ⟨(Below.heap_setCell wr _ _ _ (by show w.heap.size ≠ D; omega)).trans h1, h2.setCell (by show w.heap.size ≤ D; omega) _, h3, h4.set m x, h5.agree fun b hb => Below.heap_setCell wr _ _ _ (by show b ≠ D; omega)⟩

theorem nRow_made {w w1 : World} {base n : Nat} (hown : w1.ownsRow base 3 1 (.slice (some ⟨w.heap.size, 0, none⟩) n n) n (madeCells (Value.cells (.int .i64 0)) (n * 1)).toList) : NRow w.heap.size (List.replicate n 0) w1 := by
  rcases hown.2 with ⟨h1, _⟩ | ⟨g, cp, cur, h1, _, h3, _, _, h6, h7⟩
  · simp at h1
  · simp only [Value.slice.injEq, Option.some.injEq, Addr.mk.injEq, and_true, true_and] at h1
    obtain ⟨e1, e2⟩ := h1
    subst e1
    subst e2
    unfold NRow
    rw [h3]
    have hc : cur.toList = List.replicate n (.int .i64 0) := by
      rw [List.take_of_length_le (by simp [h6])] at h7
      rw [h7]
      have : (Value.int .i64 0).cells = #[.int .i64 0] := rfl
      rw [this, toList_madeCells_one, Nat.mul_one]
    congr 2
    unfold iC
    rw [List.map_replicate, ← hc]

end Go.Proofs.Ytcdonbepfmhdpaa
