/-
  Texts that a law leans on, one behind the other; no statement is proved here.
-/
import Derived.Test.YtngjhimieacjhaaGreatDoorPk14
import Derived.Sort.KeysCollected
import Derived.Sort.Walk0
import Derived.Test.YtngjhimieacjhaaGreatDoorPk2
import Derived.Test.YtngjhimieacjhaaGreatDoorPk7
import Derived.Deep.RegionHeld3
/-
  What Needs and Tainted answer (mathematics): the addresses of the entries that are wanted; sorted keys of a map whose keys ascend.
-/
namespace Go.Proofs.YtngjhimieacjhaaGreatDoor
open Go.RowKit
set_option linter.unusedVariables false
set_option linter.unusedSimpArgs false

def fltA {d : Nat} (l : List (Ntr d)) (p : Ntr d → Bool) : List (List Int) := adrL (l.filter p)
def tntP (d : Nat) (e : Ntr d) : Bool := e.2.2.2.1
def ndsP (d : Nat) (x : List Int) (e : Ntr d) : Bool := decide (x ∈ e.2.2.1)
/-- What both answer: the wanted entries' addresses of a state that may be. -/
def selA (d : Nat) (s : Stt d) (p : Ntr d → Bool) : List (List Int) := if staB d s = true then fltA s.2.2.2.2 p else []
/-- How many of the first k are wanted. -/
def cntF {d : Nat} (l : List (Ntr d)) (p : Ntr d → Bool) (k : Nat) : Nat := ((l.take k).filter p).length

section
variable {d : Nat} {l : List (Ntr d)} {p : Ntr d → Bool} {k : Nat}
theorem cut_at (hk : k < l.length) : l = l.take k ++ l[k] :: l.drop (k + 1) := by
  conv => lhs; rw [← List.take_append_drop k l, List.drop_eq_getElem_cons hk]
theorem cntF_zero : cntF l p 0 = 0 := rfl
theorem cntF_end : cntF l p l.length = (fltA l p).length := by unfold cntF fltA; rw [List.take_length, adrL_len]
theorem cntF_yes (hk : k < l.length) (hp : p l[k] = true) : cntF l p (k + 1) = cntF l p k + 1 := by
  unfold cntF
  rw [List.take_succ_eq_append_getElem hk, List.filter_append, List.length_append]
  simp [hp]
theorem cntF_no (hk : k < l.length) (hp : p l[k] = false) : cntF l p (k + 1) = cntF l p k := by
  unfold cntF
  rw [List.take_succ_eq_append_getElem hk, List.filter_append, List.length_append]
  simp [hp]
theorem fltA_at (hk : k < l.length) (hp : p l[k] = true) : (fltA l p).getD (cntF l p k) [] = (l[k]).1 := by
  have e : fltA l p = adrL ((l.take k).filter p) ++ (l[k]).1 :: adrL ((l.drop (k + 1)).filter p) := by
    unfold fltA adrL
    conv => lhs; rw [cut_at hk]
    rw [List.filter_append, List.map_append, List.filter_cons]
    simp [hp]
  rw [e, List.getD_eq_getElem?_getD, List.getElem?_append_right (by rw [adrL_len]; exact Nat.le_refl _), adrL_len]
  simp [cntF]
theorem cntF_le (k : Nat) : cntF l p k ≤ (fltA l p).length := by
  unfold cntF fltA
  rw [adrL_len]
  exact (List.Sublist.filter p (List.take_sublist k l)).length_le
theorem cntF_lt (hk : k < l.length) (hp : p l[k] = true) : cntF l p k < (fltA l p).length := by
  have h1 := cntF_yes hk hp
  have h2 := cntF_le (l := l) (p := p) (k + 1)
  omega
theorem fltA_len : (fltA l p).length ≤ l.length := by
  unfold fltA
  rw [adrL_len]
  exact List.length_filter_le _ _
theorem fltA_mem {x : List Int} (h : x ∈ fltA l p) : ∃ i, ∃ h : i < l.length, x = (l[i]).1 := by
  unfold fltA adrL at h
  rw [List.mem_map] at h
  obtain ⟨e, he, rfl⟩ := h
  obtain ⟨i, hi, rfl⟩ := List.getElem_of_mem (List.mem_filter.1 he).1
  exact ⟨i, hi, rfl⟩
end

theorem sorted_keys {ks : List (List Int)} {ps : List Value} (h : ∀ i, i < ks.length → upB ks i = true) {ss : List (List UInt8)} (hp : ss.Perm (Go.strKeys (mapD ks ps ks.length))) : ss.mergeSort (fun x y => decide (x ≤ y)) = ks.map u8s := by
  rw [mapD_listU ks ps ks.length h, strKeys_ent] at hp
  have e : (fieldL ks ps ks.length).map (·.1) = ks.map u8s := by
    apply List.ext_getElem
    · simp [length_fieldL]
    · intro i h1 h2
      have hi : i < ks.length := by simpa using h2
      simp [fieldL, hi]
  rw [e] at hp
  have h1 : ss.mergeSort (fun x y => decide (x ≤ y)) = (ks.map u8s).mergeSort (fun x y => decide (x ≤ y)) := Go.mergeSort_of_perm hp
  rw [h1]
  refine List.mergeSort_of_pairwise ?_
  rw [List.pairwise_iff_getElem]
  intro i j hi hj hij
  have hj' : j < ks.length := by simpa using hj
  have h2 := asc_ltU (k := ks.length) h j hj' i hij
  have h3 : u8s (ks.getD i []) < u8s (ks.getD j []) := by
    have := h2
    rw [bytesLess_eq] at this
    exact of_decide_eq_true this
  have hi' : i < ks.length := by omega
  have e1 : (ks.map u8s)[i] = u8s (ks.getD i []) := by simp [hi']
  have e2 : (ks.map u8s)[j] = u8s (ks.getD j []) := by simp [hj']
  rw [e1, e2]
  exact decide_eq_true (List.le_of_lt h3)

/-- The keys ascend in a state that may be. -/
theorem staB_up {d : Nat} {s : Stt d} (h : staB d s = true) : ∀ i, i < (adrL s.2.2.2.2).length → upB (adrL s.2.2.2.2) i = true := by
  unfold staB at h
  rw [Bool.and_eq_true, Bool.and_eq_true, Bool.and_eq_true] at h
  intro i hi
  have h1 := h.2.2.1
  unfold ascA at h1
  have h2 := List.all_eq_true.1 h1 i (List.mem_range.2 hi)
  unfold stepA at h2
  rw [Bool.and_eq_true] at h2
  exact h2.2
theorem staB_len {d : Nat} {s : Stt d} (h : staB d s = true) : s.2.2.2.2.length ≤ 16 := by
  unfold staB headS at h
  simp only [Bool.and_eq_true, decide_eq_true_eq] at h
  exact h.1.2.2
theorem staB_ent {d : Nat} {s : Stt d} (h : staB d s = true) {k : Nat} (hk : k < s.2.2.2.2.length) : entB d s.1 s.2.2.2.2[k] = true := by
  unfold staB at h
  rw [Bool.and_eq_true, Bool.and_eq_true, Bool.and_eq_true] at h
  exact List.all_eq_true.1 h.2.2.2 _ (List.getElem_mem _)
theorem entB_deps {d : Nat} {n : Int} {e : Ntr d} (h : entB d n e = true) : e.2.2.1.length ≤ 8 ∧ ∀ i, i < e.2.2.1.length → upB e.2.2.1 i = true := by
  unfold entB at h
  rw [Bool.and_eq_true, Bool.and_eq_true] at h
  have h1 := h.2.1
  unfold addrsB at h1
  rw [Bool.and_eq_true, decide_eq_true_eq] at h1
  refine ⟨h1.1, fun i hi => ?_⟩
  have h2 := h1.2
  unfold ascA at h2
  have h3 := List.all_eq_true.1 h2 i (List.mem_range.2 hi)
  unfold stepA at h3
  rw [Bool.and_eq_true] at h3
  exact h3.2
/-- Ascending texts are all different. -/
theorem up_inj {ks : List (List Int)} (h : ∀ i, i < ks.length → upB ks i = true) {i j : Nat} (hi : i < ks.length) (hj : j < ks.length) (e : ks.getD i [] = ks.getD j []) : i = j := key_inj h hi hj (congrArg u8s e)
end Go.Proofs.YtngjhimieacjhaaGreatDoor
/-
  An address is short.
-/
namespace Go.Proofs.YtngjhimieacjhaaGreatDoor
open Go.RowKit
set_option linter.unusedVariables false
set_option linter.unusedSimpArgs false

theorem addr_short {xs : List Int} (h : addrB xs = true) : xs.length ≤ 60 := by
  unfold addrB at h
  rw [Bool.and_eq_true, Bool.or_eq_true, decide_eq_true_eq] at h
  obtain ⟨hn, hr⟩ := h
  have h1 : (xs.take (cutI xs)).length ≤ 8 := by
    simp only [nameB, Bool.and_eq_true, decide_eq_true_eq] at hn
    exact hn.1.2
  have h2 := cutI_le xs
  rw [List.length_take, Nat.min_eq_left h2] at h1
  rcases hr with hr | hr
  · omega
  · have h3 : (xs.drop (cutI xs + 1)).length ≤ 30 := by
      rcases (innR_iff _).1 hr with ⟨u, hu, e⟩ | ⟨k, hk, e⟩
      · rw [e]
        have := decI_len u (by omega)
        simp
        omega
      · rw [e]
        simp only [nameB, Bool.and_eq_true, decide_eq_true_eq] at hk
        have := hk.1.2
        simp
        omega
    rw [List.length_drop] at h3
    omega
end Go.Proofs.YtngjhimieacjhaaGreatDoor
/-
  Lists of addresses as answers; their size.
-/
namespace Go.Proofs.YtngjhimieacjhaaGreatDoor
open Go.RowKit
set_option linter.unusedVariables false
set_option linter.unusedSimpArgs false

/-- An answer: a list of texts of the call's own. -/
def KEnd (ks : List (List Int)) (w : World) (e : Ending) (w' : World) : Prop := ∃ u, e = .returned u ∧ ∃ B, KOwn w' u ks B ∧ (∀ b ∈ B, w.heap.size ≤ b ∧ b < w'.heap.size) ∧ Below w.heap.size w w'

theorem KOwn.form {w : World} {v : Value} {ks : List (List Int)} {B : List Nat} (h : KOwn w v ks B) : ∃ a n c, v = .slice a n c := by rcases h with ⟨rfl, _⟩ | ⟨g, cap, cur, Bs, rfl, _⟩ <;> exact ⟨_, _, _, rfl⟩
theorem kEnd_nil (w w' : World) (h : Below w.heap.size w w') : KEnd [] w (.returned (.slice none 0 0)) w' := ⟨_, rfl, [], .inl ⟨rfl, rfl, rfl⟩, by simp, h⟩

theorem sum_le {ks : List (List Int)} {m : Nat} (h : ∀ t ∈ ks, t.length ≤ m) : (ks.map List.length).sum ≤ ks.length * m := by
  induction ks with
  | nil => simp
  | cons x r ih =>
    have h1 := h x List.mem_cons_self
    have h2 := ih fun t ht => h t (List.mem_cons_of_mem _ ht)
    simp only [List.map_cons, List.sum_cons, List.length_cons]
    rw [Nat.add_mul]
    omega

/-- An entry's address in a state that may be is short. -/
theorem staB_short {d : Nat} {s : Stt d} (h : staB d s = true) {i : Nat} (hi : i < s.2.2.2.2.length) : (s.2.2.2.2[i]).1.length ≤ 60 := by
  unfold staB at h
  rw [Bool.and_eq_true, Bool.and_eq_true, Bool.and_eq_true] at h
  have h1 := h.2.2.1
  unfold ascA at h1
  have h2 := List.all_eq_true.1 h1 i (List.mem_range.2 (by rw [adrL_len]; exact hi))
  unfold stepA at h2
  rw [Bool.and_eq_true] at h2
  have h3 := addr_short h2.1
  rw [adrL_at _ hi] at h3
  exact h3
theorem selA_sz (d : Nat) (s : Stt d) (p : Ntr d → Bool) : szK (selA d s p) ≤ 1048576 := by
  unfold selA
  split
  · next h =>
    have h1 := staB_len h
    have h2 : (fltA s.2.2.2.2 p).length ≤ 16 := Nat.le_trans fltA_len h1
    have h3 : ((fltA s.2.2.2.2 p).map List.length).sum ≤ (fltA s.2.2.2.2 p).length * 60 := sum_le fun t ht => by
      obtain ⟨i, hi, rfl⟩ := fltA_mem ht
      exact staB_short h hi
    have h4 : (fltA s.2.2.2.2 p).length * 60 ≤ 16 * 60 := Nat.mul_le_mul_right _ h2
    unfold szK
    omega
  · simp [szK]
end Go.Proofs.YtngjhimieacjhaaGreatDoor
/-
  Regions that draw, walked by hand in the order of the text: the library's 'wpAnyH_take' with the slot said; no statement is proved here. For guarded operations that are not wanted.
-/
namespace Go.Proofs.YtngjhimieacjhaaGreatDoor
set_option linter.unusedVariables false

section
variable {P : Program} {ops : Array Oper} {Q : Exit → Act → World → Prop} {md : Region.Mode} {S : World → Prop}
theorem take_yes {i : Nat} (d : Nat) {oi : Oper} {v : Value} {fuel : Nat} {listed : Array Bool} {a : Act} {w : World} (hi : ops[i]? = some oi) (hd : oi.dst = some d)
    (hs : Region.noSelect ops = true) (hf : Region.free md ops listed i = true) (hr : (Region.ready md ops listed).contains i = true)
    (hQ : ∀ c a w, Q (.panic c) (a.put (some d) v) w → Q (.panic c) a w) (hw : Region.wanted oi (yielded ops a.tmps) = true) (hS : S w)
    (hy : ∀ w, S w → (execOp a.eval oi).run P w = .ok (.value v) w)
    (h : wpAnyH P md ops Q S fuel (listed.setIfInBounds i true) (a.put (some d) v) w) : wpAnyH P md ops Q S (fuel + 1) listed a w :=
  wpAnyH_take hi hs hf hr (by rw [hd]; exact hQ) (Or.inl ⟨hw, hy⟩) hS (by rw [hd]; exact h)
theorem take_not {i : Nat} (d : Nat) {oi : Oper} {fuel : Nat} {listed : Array Bool} {a : Act} {w : World} (hi : ops[i]? = some oi) (hd : oi.dst = some d)
    (hs : Region.noSelect ops = true) (hf : Region.free md ops listed i = true) (hr : (Region.ready md ops listed).contains i = true)
    (hQ : ∀ c a w, Q (.panic c) (a.put (some d) undef) w → Q (.panic c) a w) (hw : Region.wanted oi (yielded ops a.tmps) = false) (hS : S w)
    (h : wpAnyH P md ops Q S fuel (listed.setIfInBounds i true) (a.put (some d) undef) w) : wpAnyH P md ops Q S (fuel + 1) listed a w :=
  wpAnyH_take hi hs hf hr (by rw [hd]; exact hQ) (Or.inr ⟨hw, rfl⟩) hS (by rw [hd]; exact h)
end
end Go.Proofs.YtngjhimieacjhaaGreatDoor
/-
  The laws of Rgm with their closed premises laid by themselves: shorter to write.
-/
namespace Go.Proofs.YtngjhimieacjhaaGreatDoor
set_option linter.unusedVariables false

section
variable {P : Program} {ops : Array Oper} {Q : Exit → Act → World → Prop} {md : Region.Mode} {S : World → Prop}
theorem tkY (i d : Nat) {oi : Oper} {v : Value} {fuel : Nat} {listed : Array Bool} {a : Act} {w : World} (hS : S w)
    (h : wpAnyH P md ops Q S fuel (listed.setIfInBounds i true) (a.put (some d) v) w)
    (hi : ops[i]? = some oi := by rfl) (hd : oi.dst = some d := by rfl) (hQ : ∀ c a w, Q (.panic c) (a.put (some d) v) w → Q (.panic c) a w := by exact fun _ _ _ h => h)
    (hy : ∀ w, S w → (execOp a.eval oi).run P w = .ok (.value v) w := by intro w hSw; (try dsimp only at hSw); go_simp; (try with_reducible rfl))
    (hs : Region.noSelect ops = true := by kernel_rfl) (hf : Region.free md ops listed i = true := by kernel_rfl) (hr : (Region.ready md ops listed).contains i = true := by kernel_rfl) (hw : Region.wanted oi (yielded ops a.tmps) = true := by kernel_rfl) : wpAnyH P md ops Q S (fuel + 1) listed a w :=
  take_yes d hi hd hs hf hr hQ hw hS hy h
theorem tkN (i d : Nat) {oi : Oper} {fuel : Nat} {listed : Array Bool} {a : Act} {w : World} (hS : S w)
    (h : wpAnyH P md ops Q S fuel (listed.setIfInBounds i true) (a.put (some d) undef) w)
    (hi : ops[i]? = some oi := by rfl) (hd : oi.dst = some d := by rfl) (hQ : ∀ c a w, Q (.panic c) (a.put (some d) undef) w → Q (.panic c) a w := by exact fun _ _ _ h => h)
    (hs : Region.noSelect ops = true := by kernel_rfl) (hf : Region.free md ops listed i = true := by kernel_rfl) (hr : (Region.ready md ops listed).contains i = true := by kernel_rfl) (hw : Region.wanted oi (yielded ops a.tmps) = false := by kernel_rfl) : wpAnyH P md ops Q S (fuel + 1) listed a w :=
  take_not d hi hd hs hf hr hQ hw hS h
end
end Go.Proofs.YtngjhimieacjhaaGreatDoor
