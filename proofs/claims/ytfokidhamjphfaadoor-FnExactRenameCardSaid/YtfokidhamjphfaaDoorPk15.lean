/-
  Texts that a law leans on, one behind the other; no statement is proved here.
-/
import Derived.Test.YtfokidhamjphfaaDoorPk14
import Derived.Deep.AppendLies
/-
  A row that is being appended to, each of its items in blocks of its own.
-/
namespace Go.Proofs.YtfokidhamjphfaaDoor
open Go.RowKit
set_option linter.unusedVariables false
set_option linter.unusedSimpArgs false

theorem flatten_at (s : Nat) : ∀ (cs : List (List Value)), (∀ c ∈ cs, c.length = s) → ∀ i, i < cs.length → ∀ j, j < s → cs.flatten[i * s + j]? = (cs.getD i [])[j]? := by
  intro cs
  induction cs with
  | nil => intro _ i hi; simp at hi
  | cons c cs ih =>
    intro hl i hi j hj
    have hc := hl c (by simp)
    rw [List.flatten_cons]
    cases i with
    | zero => rw [List.getElem?_append_left (by omega)]; simp
    | succ i =>
      have hge : s ≤ (i + 1) * s + j := by rw [Nat.add_mul, Nat.one_mul]; omega
      rw [List.getElem?_append_right (by omega), hc]
      have he : (i + 1) * s + j - s = i * s + j := by rw [Nat.add_mul, Nat.one_mul]; omega
      rw [he, ih (fun c' h => hl c' (by simp [h])) i (by simpa using hi) j hj]
      simp

/-- A row of n items that lies from block 'base' on; item i has the cells cs[i], and what it reaches lies in the blocks Bi[i]. -/
def RW (T : TypeId) (s : Nat) (It : World → Nat → List Value → List Nat → Prop) (w : World) (base : Nat) (x : Value) (n : Nat) (cs : List (List Value)) (Bi : List (List Nat)) : Prop :=
  cs.length = n ∧ Bi.length = n ∧ w.ownsRow base T s x n cs.flatten ∧ (∀ i, i < n → It w i (cs.getD i []) (Bi.getD i [])) ∧ (x.ownBlock.toList ++ Bi.flatten).Nodup ∧ ∀ b ∈ x.ownBlock.toList ++ Bi.flatten, base ≤ b ∧ b < w.heap.size

theorem RW.nil (T : TypeId) (s : Nat) (It : World → Nat → List Value → List Nat → Prop) (w : World) (base : Nat) : RW T s It w base (.slice none 0 0) 0 [] [] :=
  ⟨rfl, rfl, ⟨by simp, .inl ⟨rfl, rfl⟩⟩, fun i hi => by omega, by simp [Value.ownBlock], by simp [Value.ownBlock]⟩

theorem mem_flat {Bi : List (List Nat)} {i b : Nat} (h : b ∈ Bi.getD i []) : b ∈ Bi.flatten := by
  rw [List.getD_eq_getElem?_getD] at h
  cases hi : Bi[i]? with
  | none => rw [hi] at h; simp at h
  | some l => rw [hi] at h; exact List.mem_flatten.2 ⟨l, List.mem_of_getElem? hi, h⟩

/-- It stands where its blocks do. -/
theorem RW.agree {T : TypeId} {s : Nat} {It : World → Nat → List Value → List Nat → Prop} (hIt : ∀ w w' i c B, It w i c B → Agree (fun b => b ∈ B) w w' → It w' i c B) {w w' : World} {base : Nat} {x : Value} {n : Nat} {cs : List (List Value)} {Bi : List (List Nat)}
    (h : RW T s It w base x n cs Bi) (ha : Agree (fun b => b ∈ x.ownBlock.toList ++ Bi.flatten) w w') (hz : w.heap.size ≤ w'.heap.size) : RW T s It w' base x n cs Bi := by
  obtain ⟨h1, h2, h3, h4, h5, h6⟩ := h
  refine ⟨h1, h2, ⟨h3.1, ?_⟩, fun i hi => hIt _ _ _ _ _ (h4 i hi) fun b hb => ha b (by simp only [List.mem_append]; exact .inr (mem_flat hb)), h5, fun b hb => ⟨(h6 b hb).1, Nat.lt_of_lt_of_le (h6 b hb).2 hz⟩⟩
  rcases h3.2 with h0 | ⟨g, cap, cur, rfl, hb, hh, r⟩
  · exact .inl h0
  · exact .inr ⟨g, cap, cur, rfl, hb, (ha g (by simp [Value.ownBlock])).trans hh, r⟩

/-- One item more. -/
theorem RW.add {T : TypeId} {s : Nat} {It : World → Nat → List Value → List Nat → Prop} (hIt : ∀ w w' i c B, It w i c B → Agree (fun b => b ∈ B) w w' → It w' i c B) {w w2 w3 : World} {base : Nat} {x : Value} {n : Nat} {cs : List (List Value)} {Bi : List (List Nat)} {c : List Value} {Bv : List Nat} {g cap : Nat}
    (h : RW T s It w base x n cs Bi) (ha : ∀ b, b < w.heap.size → w2.heap[b]? = w.heap[b]?) (hz : w.heap.size ≤ w2.heap.size) (hc : It w2 n c Bv) (hBv : ∀ b ∈ Bv, w.heap.size ≤ b ∧ b < w2.heap.size) (hBn : Bv.Nodup) (hbase : base ≤ w.heap.size)
    (hown : w3.ownsRow base T s (.slice (some ⟨g, 0, none⟩) (n + 1) cap) (n + 1) (cs.flatten ++ c)) (hg : w2.grownBy w3 x.ownBlock) (hat : x.ownBlock = some g ∨ g = w2.heap.size) :
    RW T s It w3 base (.slice (some ⟨g, 0, none⟩) (n + 1) cap) (n + 1) (cs ++ [c]) (Bi ++ [Bv]) := by
  obtain ⟨h1, h2, h3, h4, h5, h6⟩ := h
  have hlt := hown.lt g rfl
  have hsz := hg.size
  have hfl : ∀ b ∈ Bi.flatten, base ≤ b ∧ b < w.heap.size := fun b hb => h6 b (by simp only [List.mem_append]; exact .inr hb)
  have hdis : ∀ b ∈ Bi.flatten, x.ownBlock ≠ some b := by
    intro b hb hx
    rw [hx] at h5
    simp only [Option.toList_some, List.nodup_append] at h5
    exact h5.2.2 b (by simp) b hb rfl
  have hxb : ∀ b, x.ownBlock = some b → b < w.heap.size := fun b hb => (h3.lt b hb).2
  refine ⟨by simp [h1], by simp [h2], by simpa using hown, fun i hi => ?_, ?_, ?_⟩
  · by_cases hin : i < n
    · have e1 : (cs ++ [c]).getD i [] = cs.getD i [] := by simp [List.getD_eq_getElem?_getD, List.getElem?_append_left (show i < cs.length by omega)]
      have e2 : (Bi ++ [Bv]).getD i [] = Bi.getD i [] := by simp [List.getD_eq_getElem?_getD, List.getElem?_append_left (show i < Bi.length by omega)]
      rw [e1, e2]
      refine hIt _ _ _ _ _ (h4 i hin) fun b hb => ?_
      have hm := mem_flat hb
      have hb' := hfl b hm
      exact (hg.block b (by omega) (fun e => hdis b hm e.symm)).trans (ha b hb'.2)
    · have hin' : i = n := by omega
      subst hin'
      have e1 : (cs ++ [c]).getD i [] = c := by rw [← h1]; simp [List.getD_eq_getElem?_getD]
      have e2 : (Bi ++ [Bv]).getD i [] = Bv := by rw [← h2]; simp [List.getD_eq_getElem?_getD]
      rw [e1, e2]
      refine hIt _ _ _ _ _ hc fun b hb => ?_
      have hb' := hBv b hb
      exact hg.block b hb'.2 (fun e => by have := hxb b e.symm; omega)
  · have hmid : (Bi.flatten ++ Bv).Nodup := by
      rw [List.nodup_append]
      refine ⟨(List.nodup_append.1 h5).2.1, hBn, fun a ha' b hb' => ?_⟩
      have := hfl a ha'
      have := hBv b hb'
      omega
    have hgn : g ∉ Bi.flatten ++ Bv := by
      intro hm
      rcases hat with hx | hx
      · rcases List.mem_append.1 hm with h' | h'
        · exact hdis g h' hx
        · have := hBv g h'
          have := hxb g hx
          omega
      · rcases List.mem_append.1 hm with h' | h'
        · have := hfl g h'; omega
        · have := hBv g h'; omega
    simp only [Value.ownBlock, Option.toList_some, List.flatten_append, List.flatten_singleton, List.singleton_append]
    exact List.nodup_cons.2 ⟨hgn, hmid⟩
  · intro b hb
    simp only [Value.ownBlock, Option.toList_some, List.flatten_append, List.flatten_singleton, List.singleton_append, List.mem_cons, List.mem_append] at hb
    rcases hb with rfl | hb | hb
    · exact hlt
    · have := hfl b hb; omega
    · have := hBv b hb; omega

/-- A value's five cells. -/
def enc5 (e : Value × Value × Value × Value × Value) : List Value := [e.1, e.2.1, e.2.2.1, e.2.2.2.1, e.2.2.2.2]

/-- Item i is the value l[i]. -/
def ItV (d : Nat) (l : List (Vl d)) (w : World) (i : Nat) (c : List Value) (B : List Nat) : Prop := ∃ e, c = enc5 e ∧ ∃ h : i < l.length, VOwn w d e l[i] B

/-- Item i is the text ks[i]. -/
def ItK (ks : List (List Int)) (w : World) (i : Nat) (c : List Value) (B : List Nat) : Prop := ∃ u, c = [u] ∧ TOwn w u (ks.getD i []) B

theorem ItV.agree (d : Nat) (l : List (Vl d)) : ∀ w w' i c B, ItV d l w i c B → Agree (fun b => b ∈ B) w w' → ItV d l w' i c B := by
  rintro w w' i c B ⟨e, rfl, h, hv⟩ ha
  exact ⟨e, rfl, h, VOwn.agree d hv ha⟩

theorem ItK.agree (ks : List (List Int)) : ∀ w w' i c B, ItK ks w i c B → Agree (fun b => b ∈ B) w w' → ItK ks w' i c B := by
  rintro w w' i c B ⟨u, rfl, hv⟩ ha
  exact ⟨u, rfl, hv.agree ha⟩

theorem getD_of_mem {α : Type} {cs : List α} {c z : α} (h : c ∈ cs) : ∃ i, i < cs.length ∧ cs.getD i z = c := by
  obtain ⟨i, hi, e⟩ := List.getElem_of_mem h
  exact ⟨i, hi, by simp [List.getD_eq_getElem?_getD, hi, e]⟩

/-- All of it: a list of values of the call's own. -/
theorem RW.lown {w : World} {base d : Nat} {x : Value} {l : List (Vl d)} {cs : List (List Value)} {Bi : List (List Nat)} (h : RW 26 5 (ItV d l) w base x l.length cs Bi) : LOwn w d x l (x.ownBlock.toList ++ Bi.flatten) := by
  obtain ⟨h1, h2, h3, h4, h5, h6⟩ := h
  have hl5 : ∀ c ∈ cs, c.length = 5 := by
    intro c hc
    obtain ⟨i, hi, e⟩ := getD_of_mem (z := []) hc
    obtain ⟨e', he, _⟩ := h4 i (by omega)
    rw [← e, he]
    rfl
  rcases h3.2 with ⟨rfl, h0⟩ | ⟨g, cap, cur, rfl, hb, hh, hn, hm, hs, ht⟩
  · have hl0 : l = [] := List.eq_nil_of_length_eq_zero h0
    have hb0 : Bi = [] := List.eq_nil_of_length_eq_zero (by omega)
    subst hl0 hb0
    exact .inl ⟨rfl, rfl, rfl⟩
  · refine .inr ⟨g, cap, cur, Bi, rfl, hh, hn, hm, hs, h2, fun i hi => ?_, rfl, h5⟩
    obtain ⟨e, he, _, hv⟩ := h4 i hi
    have hcell : ∀ j, j < 5 → cur[i * 5 + j]? = (enc5 e)[j]? := by
      intro j hj
      have hf := flatten_at 5 cs hl5 i (by omega) j hj
      rw [he, ← ht, List.getElem?_take_of_lt (by omega), Array.getElem?_toList] at hf
      exact hf
    exact ⟨e, ⟨hcell 0 (by omega), hcell 1 (by omega), hcell 2 (by omega), hcell 3 (by omega), hcell 4 (by omega)⟩, hv⟩

/-- All of it: a list of texts of the call's own. -/
theorem RW.kown {w : World} {base : Nat} {x : Value} {ks : List (List Int)} {cs : List (List Value)} {Bi : List (List Nat)} (h : RW 22 1 (ItK ks) w base x ks.length cs Bi) : KOwn w x ks (x.ownBlock.toList ++ Bi.flatten) := by
  obtain ⟨h1, h2, h3, h4, h5, h6⟩ := h
  have hl1 : ∀ c ∈ cs, c.length = 1 := by
    intro c hc
    obtain ⟨i, hi, e⟩ := getD_of_mem (z := []) hc
    obtain ⟨e', he, _⟩ := h4 i (by omega)
    rw [← e, he]
    rfl
  rcases h3.2 with ⟨rfl, h0⟩ | ⟨g, cap, cur, rfl, hb, hh, hn, hm, hs, ht⟩
  · have hl0 : ks = [] := List.eq_nil_of_length_eq_zero h0
    have hb0 : Bi = [] := List.eq_nil_of_length_eq_zero (by omega)
    subst hl0 hb0
    exact .inl ⟨rfl, rfl, rfl⟩
  · refine .inr ⟨g, cap, cur, Bi, rfl, hh, hn, hm, by omega, h2, fun i hi => ?_, rfl, h5⟩
    obtain ⟨u, he, hv⟩ := h4 i hi
    have hcell : cur[i]? = some u := by
      have hf := flatten_at 1 cs hl1 i (by omega) 0 (by omega)
      rw [he, ← ht, List.getElem?_take_of_lt (by omega), Array.getElem?_toList] at hf
      simpa using hf
    exact ⟨u, hcell, hv⟩
end Go.Proofs.YtfokidhamjphfaaDoor
