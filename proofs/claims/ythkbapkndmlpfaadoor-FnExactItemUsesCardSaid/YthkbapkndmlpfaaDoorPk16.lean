/-
  Texts that a law leans on, one behind the other; no statement is proved here.
-/
import Derived.Test.YthkbapkndmlpfaaDoorPk2
import Derived.Deep.AppendLies
import Derived.Test.YthkbapkndmlpfaaDoorPk15
import Derived.Test.YthkbapkndmlpfaaDoorPk10
/-
  A row that is being appended to, each of its items in blocks of its own.
-/
namespace Go.Proofs.YthkbapkndmlpfaaDoor
open Go.RowKit
set_option linter.unusedVariables false
set_option linter.unusedSimpArgs false

theorem flatten_at (s : Nat) : ∀ (cs : List (List Value)), (∀ c ∈ cs, c.length = s) → ∀ i, i < cs.length → ∀ j, j < s → cs.flatten[i * s + j]? = (cs.getD i [])[j]? := by
  intro cs
  induction cs with
  | nil => intro _ i hi; simp at hi
  | cons c cs ih =>
    intro hl i hi j hj
    have hc := hl c (by simp)
    rw [List.flatten_cons]
    cases i with
    | zero => rw [List.getElem?_append_left (by omega)]; simp
    | succ i =>
      have hge : s ≤ (i + 1) * s + j := by rw [Nat.add_mul, Nat.one_mul]; omega
      rw [List.getElem?_append_right (by omega), hc]
      have he : (i + 1) * s + j - s = i * s + j := by rw [Nat.add_mul, Nat.one_mul]; omega
      rw [he, ih (fun c' h => hl c' (by simp [h])) i (by simpa using hi) j hj]
      simp

/-- A row of n items that lies from block 'base' on; item i has the cells cs[i], and what it reaches lies in the blocks Bi[i]. -/
def RW (T : TypeId) (s : Nat) (It : World → Nat → List Value → List Nat → Prop) (w : World) (base : Nat) (x : Value) (n : Nat) (cs : List (List Value)) (Bi : List (List Nat)) : Prop :=
  cs.length = n ∧ Bi.length = n ∧ w.ownsRow base T s x n cs.flatten ∧ (∀ i, i < n → It w i (cs.getD i []) (Bi.getD i [])) ∧ (x.ownBlock.toList ++ Bi.flatten).Nodup ∧ ∀ b ∈ x.ownBlock.toList ++ Bi.flatten, base ≤ b ∧ b < w.heap.size

theorem RW.nil (T : TypeId) (s : Nat) (It : World → Nat → List Value → List Nat → Prop) (w : World) (base : Nat) : RW T s It w base (.slice none 0 0) 0 [] [] :=
  ⟨rfl, rfl, ⟨by simp, .inl ⟨rfl, rfl⟩⟩, fun i hi => by omega, by simp [Value.ownBlock], by simp [Value.ownBlock]⟩

theorem mem_flat {Bi : List (List Nat)} {i b : Nat} (h : b ∈ Bi.getD i []) : b ∈ Bi.flatten := by
  rw [List.getD_eq_getElem?_getD] at h
  cases hi : Bi[i]? with
  | none => rw [hi] at h; simp at h
  | some l => rw [hi] at h; exact List.mem_flatten.2 ⟨l, List.mem_of_getElem? hi, h⟩

/-- It stands where its blocks do. -/
theorem RW.agree {T : TypeId} {s : Nat} {It : World → Nat → List Value → List Nat → Prop} (hIt : ∀ w w' i c B, It w i c B → Agree (fun b => b ∈ B) w w' → It w' i c B) {w w' : World} {base : Nat} {x : Value} {n : Nat} {cs : List (List Value)} {Bi : List (List Nat)}
    (h : RW T s It w base x n cs Bi) (ha : Agree (fun b => b ∈ x.ownBlock.toList ++ Bi.flatten) w w') (hz : w.heap.size ≤ w'.heap.size) : RW T s It w' base x n cs Bi := by
  obtain ⟨h1, h2, h3, h4, h5, h6⟩ := h
  refine ⟨h1, h2, ⟨h3.1, ?_⟩, fun i hi => hIt _ _ _ _ _ (h4 i hi) fun b hb => ha b (by simp only [List.mem_append]; exact .inr (mem_flat hb)), h5, fun b hb => ⟨(h6 b hb).1, Nat.lt_of_lt_of_le (h6 b hb).2 hz⟩⟩
  rcases h3.2 with h0 | ⟨g, cap, cur, rfl, hb, hh, r⟩
  · exact .inl h0
  · exact .inr ⟨g, cap, cur, rfl, hb, (ha g (by simp [Value.ownBlock])).trans hh, r⟩

/-- One item more. -/
theorem RW.add {T : TypeId} {s : Nat} {It : World → Nat → List Value → List Nat → Prop} (hIt : ∀ w w' i c B, It w i c B → Agree (fun b => b ∈ B) w w' → It w' i c B) {w w2 w3 : World} {base : Nat} {x : Value} {n : Nat} {cs : List (List Value)} {Bi : List (List Nat)} {c : List Value} {Bv : List Nat} {g cap : Nat}
    (h : RW T s It w base x n cs Bi) (ha : ∀ b, b < w.heap.size → w2.heap[b]? = w.heap[b]?) (hz : w.heap.size ≤ w2.heap.size) (hc : It w2 n c Bv) (hBv : ∀ b ∈ Bv, w.heap.size ≤ b ∧ b < w2.heap.size) (hBn : Bv.Nodup) (hbase : base ≤ w.heap.size)
    (hown : w3.ownsRow base T s (.slice (some ⟨g, 0, none⟩) (n + 1) cap) (n + 1) (cs.flatten ++ c)) (hg : w2.grownBy w3 x.ownBlock) (hat : x.ownBlock = some g ∨ g = w2.heap.size) :
    RW T s It w3 base (.slice (some ⟨g, 0, none⟩) (n + 1) cap) (n + 1) (cs ++ [c]) (Bi ++ [Bv]) := by
  obtain ⟨h1, h2, h3, h4, h5, h6⟩ := h
  have hlt := hown.lt g rfl
  have hsz := hg.size
  have hfl : ∀ b ∈ Bi.flatten, base ≤ b ∧ b < w.heap.size := fun b hb => h6 b (by simp only [List.mem_append]; exact .inr hb)
  have hdis : ∀ b ∈ Bi.flatten, x.ownBlock ≠ some b := by
    intro b hb hx
    rw [hx] at h5
    simp only [Option.toList_some, List.nodup_append] at h5
    exact h5.2.2 b (by simp) b hb rfl
  have hxb : ∀ b, x.ownBlock = some b → b < w.heap.size := fun b hb => (h3.lt b hb).2
  refine ⟨by simp [h1], by simp [h2], by simpa using hown, fun i hi => ?_, ?_, ?_⟩
  · by_cases hin : i < n
    · have e1 : (cs ++ [c]).getD i [] = cs.getD i [] := by simp [List.getD_eq_getElem?_getD, List.getElem?_append_left (show i < cs.length by omega)]
      have e2 : (Bi ++ [Bv]).getD i [] = Bi.getD i [] := by simp [List.getD_eq_getElem?_getD, List.getElem?_append_left (show i < Bi.length by omega)]
      rw [e1, e2]
      refine hIt _ _ _ _ _ (h4 i hin) fun b hb => ?_
      have hm := mem_flat hb
      have hb' := hfl b hm
      exact (hg.block b (by omega) (fun e => hdis b hm e.symm)).trans (ha b hb'.2)
    · have hin' : i = n := by omega
      subst hin'
      have e1 : (cs ++ [c]).getD i [] = c := by rw [← h1]; simp [List.getD_eq_getElem?_getD]
      have e2 : (Bi ++ [Bv]).getD i [] = Bv := by rw [← h2]; simp [List.getD_eq_getElem?_getD]
      rw [e1, e2]
      refine hIt _ _ _ _ _ hc fun b hb => ?_
      have hb' := hBv b hb
      exact hg.block b hb'.2 (fun e => by have := hxb b e.symm; omega)
  · have hmid : (Bi.flatten ++ Bv).Nodup := by
      rw [List.nodup_append]
      refine ⟨(List.nodup_append.1 h5).2.1, hBn, fun a ha' b hb' => ?_⟩
      have := hfl a ha'
      have := hBv b hb'
      omega
    have hgn : g ∉ Bi.flatten ++ Bv := by
      intro hm
      rcases hat with hx | hx
      · rcases List.mem_append.1 hm with h' | h'
        · exact hdis g h' hx
        · have := hBv g h'
          have := hxb g hx
          omega
      · rcases List.mem_append.1 hm with h' | h'
        · have := hfl g h'; omega
        · have := hBv g h'; omega
    simp only [Value.ownBlock, Option.toList_some, List.flatten_append, List.flatten_singleton, List.singleton_append]
    exact List.nodup_cons.2 ⟨hgn, hmid⟩
  · intro b hb
    simp only [Value.ownBlock, Option.toList_some, List.flatten_append, List.flatten_singleton, List.singleton_append, List.mem_cons, List.mem_append] at hb
    rcases hb with rfl | hb | hb
    · exact hlt
    · have := hfl b hb; omega
    · have := hBv b hb; omega

/-- A value's five cells. -/
def enc5 (e : Value × Value × Value × Value × Value) : List Value := [e.1, e.2.1, e.2.2.1, e.2.2.2.1, e.2.2.2.2]

/-- Item i is the value l[i]. -/
def ItV (d : Nat) (l : List (Vl d)) (w : World) (i : Nat) (c : List Value) (B : List Nat) : Prop := ∃ e, c = enc5 e ∧ ∃ h : i < l.length, VOwn w d e l[i] B

/-- Item i is the text ks[i]. -/
def ItK (ks : List (List Int)) (w : World) (i : Nat) (c : List Value) (B : List Nat) : Prop := ∃ u, c = [u] ∧ TOwn w u (ks.getD i []) B

theorem ItV.agree (d : Nat) (l : List (Vl d)) : ∀ w w' i c B, ItV d l w i c B → Agree (fun b => b ∈ B) w w' → ItV d l w' i c B := by
  rintro w w' i c B ⟨e, rfl, h, hv⟩ ha
  exact ⟨e, rfl, h, VOwn.agree d hv ha⟩

theorem ItK.agree (ks : List (List Int)) : ∀ w w' i c B, ItK ks w i c B → Agree (fun b => b ∈ B) w w' → ItK ks w' i c B := by
  rintro w w' i c B ⟨u, rfl, hv⟩ ha
  exact ⟨u, rfl, hv.agree ha⟩

theorem getD_of_mem {α : Type} {cs : List α} {c z : α} (h : c ∈ cs) : ∃ i, i < cs.length ∧ cs.getD i z = c := by
  obtain ⟨i, hi, e⟩ := List.getElem_of_mem h
  exact ⟨i, hi, by simp [List.getD_eq_getElem?_getD, hi, e]⟩

/-- All of it: a list of values of the call's own. -/
theorem RW.lown {w : World} {base d : Nat} {x : Value} {l : List (Vl d)} {cs : List (List Value)} {Bi : List (List Nat)} (h : RW 40 5 (ItV d l) w base x l.length cs Bi) : LOwn w d x l (x.ownBlock.toList ++ Bi.flatten) := by
  obtain ⟨h1, h2, h3, h4, h5, h6⟩ := h
  have hl5 : ∀ c ∈ cs, c.length = 5 := by
    intro c hc
    obtain ⟨i, hi, e⟩ := getD_of_mem (z := []) hc
    obtain ⟨e', he, _⟩ := h4 i (by omega)
    rw [← e, he]
    rfl
  rcases h3.2 with ⟨rfl, h0⟩ | ⟨g, cap, cur, rfl, hb, hh, hn, hm, hs, ht⟩
  · have hl0 : l = [] := List.eq_nil_of_length_eq_zero h0
    have hb0 : Bi = [] := List.eq_nil_of_length_eq_zero (by omega)
    subst hl0 hb0
    exact .inl ⟨rfl, rfl, rfl⟩
  · refine .inr ⟨g, cap, cur, Bi, rfl, hh, hn, hm, hs, h2, fun i hi => ?_, rfl, h5⟩
    obtain ⟨e, he, _, hv⟩ := h4 i hi
    have hcell : ∀ j, j < 5 → cur[i * 5 + j]? = (enc5 e)[j]? := by
      intro j hj
      have hf := flatten_at 5 cs hl5 i (by omega) j hj
      rw [he, ← ht, List.getElem?_take_of_lt (by omega), Array.getElem?_toList] at hf
      exact hf
    exact ⟨e, ⟨hcell 0 (by omega), hcell 1 (by omega), hcell 2 (by omega), hcell 3 (by omega), hcell 4 (by omega)⟩, hv⟩

/-- All of it: a list of texts of the call's own. -/
theorem RW.kown {w : World} {base : Nat} {x : Value} {ks : List (List Int)} {cs : List (List Value)} {Bi : List (List Nat)} (h : RW 29 1 (ItK ks) w base x ks.length cs Bi) : KOwn w x ks (x.ownBlock.toList ++ Bi.flatten) := by
  obtain ⟨h1, h2, h3, h4, h5, h6⟩ := h
  have hl1 : ∀ c ∈ cs, c.length = 1 := by
    intro c hc
    obtain ⟨i, hi, e⟩ := getD_of_mem (z := []) hc
    obtain ⟨e', he, _⟩ := h4 i (by omega)
    rw [← e, he]
    rfl
  rcases h3.2 with ⟨rfl, h0⟩ | ⟨g, cap, cur, rfl, hb, hh, hn, hm, hs, ht⟩
  · have hl0 : ks = [] := List.eq_nil_of_length_eq_zero h0
    have hb0 : Bi = [] := List.eq_nil_of_length_eq_zero (by omega)
    subst hl0 hb0
    exact .inl ⟨rfl, rfl, rfl⟩
  · refine .inr ⟨g, cap, cur, Bi, rfl, hh, hn, hm, by omega, h2, fun i hi => ?_, rfl, h5⟩
    obtain ⟨u, he, hv⟩ := h4 i hi
    have hcell : cur[i]? = some u := by
      have hf := flatten_at 1 cs hl1 i (by omega) 0 (by omega)
      rw [he, ← ht, List.getElem?_take_of_lt (by omega), Array.getElem?_toList] at hf
      simpa using hf
    exact ⟨u, hcell, hv⟩
end Go.Proofs.YthkbapkndmlpfaaDoor
/-
  A row of bytes of the call's own, as a text with its blocks.
-/
namespace Go.Proofs.YthkbapkndmlpfaaDoor
open Go.RowKit
set_option linter.unusedVariables false
set_option linter.unusedSimpArgs false

theorem tOwn_of {w : World} {base : Nat} {v : Value} {xs : List Int} (h : Bts w base v xs) : ∃ B, TOwn w v xs B ∧ (∀ b ∈ B, base ≤ b ∧ b < w.heap.size) ∧ B.Nodup := by
  have hlt := h.2.lt
  rcases h.2.2 with ⟨rfl, h0⟩ | ⟨g, cap, cur, rfl, _⟩
  · exact ⟨[], ⟨h.free, .inl ⟨rfl, rfl⟩⟩, by simp, by simp⟩
  · exact ⟨[g], ⟨h.free, .inr ⟨g, cap, rfl, rfl⟩⟩, by intro b hb; simp at hb; subst hb; exact hlt b rfl, by simp⟩

end Go.Proofs.YthkbapkndmlpfaaDoor
/-
  One text more behind a row of texts, each of the call's own.
-/
namespace Go.Proofs.YthkbapkndmlpfaaDoor
open Go.RowKit
set_option linter.unusedVariables false
set_option linter.unusedSimpArgs false

theorem rwk_step {w1 wr w5 w6 : World} {ks : List (List Int)} {x v5 : Value} {k g cp : Nat} {cs : List (List Value)} {Bi : List (List Nat)} {o : Obj} (h : RW 29 1 (ItK ks) wr w1.heap.size x k cs Bi) (hb : Below w1.heap.size w1 wr) (b5 : Below wr.heap.size wr w5) (hv : Bts w5 wr.heap.size v5 (ks.getD k []))
    (hown : w6.ownsRow w1.heap.size 29 1 (.slice (some ⟨g, 0, none⟩) (k + 1) cp) (k + 1) (cs.flatten ++ [v5])) (hg : (w5.alloc o).grownBy w6 x.ownBlock) (hat : x.ownBlock = some g ∨ g = w5.heap.size + 1) :
    ∃ cs' Bi', RW 29 1 (ItK ks) w6 w1.heap.size (.slice (some ⟨g, 0, none⟩) (k + 1) cp) (k + 1) cs' Bi' ∧ Below w1.heap.size w1 w6 := by
  obtain ⟨Bv, hT, hBv, hBn⟩ := tOwn_of hv
  have hz := hb.size
  have hz5 := b5.size
  have hxlt := h.2.2.1.lt
  refine ⟨_, _, RW.add (w2 := w5.alloc o) (ItK.agree ks) h (fun b hb => (Below.heap_alloc _ _ _ (by omega)).trans (b5.block b hb)) (by simp; omega) ⟨v5, rfl, hT.agree fun b hb => Below.heap_alloc _ _ _ (hBv b hb).2⟩ (fun b hb => by have := hBv b hb; simp; omega) hBn hz hown hg (by simpa using hat), ?_⟩
  exact ((Below.on hb b5).alloc (by omega) o).grown hg (by simp; omega) (fun j hj => (hxlt j hj).1)
end Go.Proofs.YthkbapkndmlpfaaDoor
/-
  l4ownAddrs of the specification; the names of an expression's parts are names.
-/
namespace Go.Proofs.YthkbapkndmlpfaaDoor
open Go.RowKit
set_option linter.unusedVariables false
set_option linter.unusedSimpArgs false

theorem kNilE (w : World) : KOwn w (.slice none 0 0) [] [] := .inl ⟨rfl, rfl, rfl⟩

set_option maxHeartbeats 2000000 in
set_option maxRecDepth 100000 in
theorem l4ownAddrs_any (N base : Nat) (x : Value) (ks : List (List Int)) (w : World) (hx : NR N w base x ks) (hN : N ≤ w.heap.size) (hl : ks.length ≤ 1000) (hl1 : ∀ i, i < ks.length → (ks.getD i []).length ≤ 1000) :
    Calls Tryd.prog 27 #[x] w fun e w' => ∃ u, e = .returned u ∧ ∃ B, KOwn w' u ks B ∧ (∀ b ∈ B, w.heap.size ≤ b ∧ b < w'.heap.size) ∧ Below w.heap.size w w' := by
  obtain ⟨iT, hiT, hy0, hy1, hy2⟩ := info_parts infoT
  have HX := hide' hx
  have HL := hide' hl1
  obtain ⟨xa, xc, rfl⟩ := hx.shape
  clear hx hl1
  go_enter Tryd.func27, Tryd.ntmps27
  go_wp2
  go_loopw [3, 4] (fun x i wr => ∃ k : Nat, k ≤ ks.length ∧ i = .int .i64 k ∧ ∃ cs Bi, RW 29 1 (ItK ks) wr w.heap.size x k cs Bi ∧ Below w.heap.size w wr) (fun _ i _ => ks.length - (intOf i).toNat)
  case atStart => exact ⟨0, Nat.zero_le _, rfl, _, _, RW.nil _ _ _ _ _, Below.refl _ _⟩
  case round =>
    obtain ⟨k, hk, rfl, cs, Bi, hR, hbel⟩ := hrel
    have hsz := hbel.size
    have hvK : ∃ p c, u3 = .slice p k c := by
      rcases hR.2.2.1.2 with ⟨rfl, h0⟩ | ⟨g, cap, cur, rfl, _⟩
      · exact ⟨none, 0, by rw [h0]⟩
      · exact ⟨_, _, rfl⟩
    obtain ⟨pK, cK, rfl⟩ := hvK
    by_cases hkn : k < ks.length
    · have hkn' : (k : Int) < (ks.length : Int) := by omega
      have hk0 : (0 : Int) ≤ (k : Int) := Int.natCast_nonneg _
      obtain ⟨g, ua, uc, rfl, hgl, hcu, hT⟩ := HX.out.at hkn
      have hlk := HL.out k hkn
      obtain ⟨_, _, eT, hsu, _, _, hnu, hRu⟩ := hT
      simp only [Value.slice.injEq] at eT
      obtain ⟨rfl, _, rfl⟩ := eT
      have hBa : Below w.heap.size w (wr.alloc (.cells #[] 5)) := hbel.alloc (by omega) _
      have hcu' : (wr.alloc (.cells #[] 5)).cell? ⟨g, k, none⟩ = some (.slice ua (ks.getD k []).length uc) := (World.cell?_of_block (hBa.block g hgl)).trans hcu
      have hsu' : Seg (wr.alloc (.cells #[] 5)) ua (ks.getD k []) := hsu.below hBa fun x hx hne => by have := hRu x hx hne; omega
      have hE : Bts (wr.alloc (.cells #[] 5)) wr.heap.size (.slice (some ⟨wr.heap.size, 0, none⟩) 0 0) [] := ⟨by simp, by simp [cellsOf], .inr ⟨wr.heap.size, 0, #[], rfl, Nat.le_refl _, heap_alloc_new wr _, Nat.le_refl _, Nat.zero_le _, rfl, rfl⟩⟩
      have HR := hide' (And.intro hR hbel)
      have hBe : Hid (Below wr.heap.size wr (wr.alloc (.cells #[] 5))) := (Below.refl _ _).alloc (Nat.le_refl _) _
      have Hv : Hid (∀ w5, Below wr.heap.size wr w5 → w5.ownsRow w.heap.size 29 1 (.slice pK k cK) k cs.flatten) := fun w5 hb5 => hR.2.2.1.kept (row := none) ⟨hb5.os, hb5.tape, hb5.output, hb5.size, fun k hk _ => hb5.block k hk⟩ (by cases hv : (Value.slice pK k cK).ownBlock <;> simp)
      generalize hks : ks.getD k [] = xs at *
      have Hks := hide' hks
      generalize hnk : xs.length = nk at *
      clear hR hbel hBa hcu hsu hks hRu
      go_wp2_with (at_builtin; first
        | (refine wpList_append_seg rfl (.tmp 12) (.tmp 16) (by rfl) wr.heap.size (.slice (some ⟨wr.heap.size, 0, none⟩) 0 0) [] xs (by rfl) hE ua nk uc hnk.symm (by rfl) hsu' hnu (by simp; omega) (by simp) ?_; intro v5 w5 hv5 hg5; rw [List.nil_append] at hv5; have hb5 := hide' (hBe.out.grown hg5 (by simp) (by intro j hj; simp [Value.ownBlock] at hj; omega)); obtain ⟨a5, c5, h5, _⟩ := hv5.shape; rw [hnk] at h5; subst h5; replace hv5 := hide' hv5; clear hg5 hE hsu')
        | (refine wpList_append_lies _ rfl (.tmp 11) (.tmp 18) 30 (by rfl) w.heap.size 29 iT (.slice none 0 0) 1 24 Tryd.underlying30 hiT hy0 hy1 hy2 rfl (by decide) (.slice pK k cK) k cs.flatten (by rfl) ((Hv.out w5 hb5.out).alloc _) ⟨w5.heap.size, 0, none⟩ 1 1 [.slice a5 nk c5] (by rfl) (by rfl) (World.news_of_block (cs := #[.slice a5 nk c5]) (t := 29) (fr := (0, 0)) (heap_alloc_new w5 _)) (by simp [Value.oneCell']) (by omega) (by unfold maxLen; omega) (by omega) (by have := hb5.out.size; simp; omega) (w5.heap.size + 1) (by simp) ?_; intro g6 cp6 w6 hown6 hg6 hat6 hlt6; obtain ⟨cs', Bi', hR6, hB6⟩ := rwk_step HR.out.1 HR.out.2 hb5.out (by rw [Hks.out]; exact hv5.out) hown6 hg6 hat6; replace hR6 := hide' hR6; replace hB6 := hide' hB6; clear hown6 hg6 hat6 hlt6))
      go_wp2
      go_roundw
      case rel => exact ⟨k + 1, by omega, by go_num, _, _, hR6.out, hB6.out⟩
      case measure => simp [intOf]; omega
    · have hkn' : k = ks.length := by omega
      subst hkn'
      have hkl' : ¬ (ks.length : Int) < (ks.length : Int) := by omega
      have HR := hide' (And.intro hR hbel)
      clear hR hbel
      go_wp2_with fail
      go_ret
      have hbd := HR.out.1.2.2.2.2.2
      exact ⟨_, rfl, _, HR.out.1.kown, fun b hb => by have := hbd b hb; omega, HR.out.2⟩

theorem mem_insA (w : List Int) : ∀ (put : Bool) (l : List (List Int)) (x : List Int), x ∈ insA w put l → x = w ∨ x ∈ l
  | put, [], x, h => by
    unfold insA at h
    split at h <;> simp at h
    exact .inl h
  | put, y :: r, x, h => by
    unfold insA at h
    rcases List.mem_append.1 h with h | h
    · split at h <;> simp at h
      exact .inl h
    rcases List.mem_append.1 h with h | h
    · split at h <;> simp at h
      exact .inr (by simp [h])
    · rcases mem_insA w _ r x h with h | h
      · exact .inl h
      · exact .inr (by simp [h])

theorem mem_fold : ∀ (r l : List (List Int)) (x : List Int), x ∈ r.foldl insN l → x ∈ r ∨ x ∈ l
  | [], l, x, h => .inr h
  | w :: r, l, x, h => by
    rcases mem_fold r (insN l w) x h with h | h
    · exact .inl (by simp [h])
    · rcases mem_insA w false l x h with h | h
      · exact .inl (by simp [h])
      · exact .inr h

/-- Names of resources and of locals are names. -/
theorem raw_names (k : Int) (hk : k = 6 ∨ k = 7) : ∀ (d : Nat) (v : Vl d) (deep : Nat), goodE d v deep = true → ∀ x ∈ rawN k d v, nameB x = true := by
  intro d
  induction d with
  | zero => intro v; exact v.elim
  | succ d ih =>
    intro v deep hg x hx
    obtain ⟨vk, vn, vs, vK, vL⟩ := v
    obtain ⟨_, hsh, hkids⟩ := (goodE_succ _ _ _ _ _ _ _).1 hg
    have hx' : x ∈ (if vk = k then [vs] else []) ++ (vL.map (rawN k d)).flatten := hx
    rcases List.mem_append.1 hx' with h | h
    · split at h
      · next e =>
        have hx2 : x = vs := by simpa using h
        subst hx2
        unfold shpB at hsh
        simp only [Bool.and_eq_true] at hsh
        have hs := hsh.2
        rcases hk with rfl | rfl
        · subst e
          exact hs
        · subst e
          have hs' : (nameB x && !keptB x) = true := hs
          simp only [Bool.and_eq_true] at hs'
          exact hs'.1
      · simp at h
    · obtain ⟨l, hl, hxl⟩ := List.mem_flatten.1 h
      obtain ⟨y, hy, rfl⟩ := List.mem_map.1 hl
      obtain ⟨j, hj, rfl⟩ := List.getElem_of_mem hy
      exact ih _ _ (hkids j hj) x hxl
end Go.Proofs.YthkbapkndmlpfaaDoor
/-
  ItemUses of the specification: the resources that an item's attributes name.
-/
namespace Go.Proofs.YthkbapkndmlpfaaDoor
open Go.RowKit
set_option linter.unusedVariables false
set_option linter.unusedSimpArgs false

/-- An item that may be alone. -/
def usB (d : Nat) (it : Itm d) : Bool := decide (itemB d it = true ∧ itemP d it ≤ 150)
/-- All resources that its attributes name, as they stand. -/
def usN (d : Nat) (it : Itm d) : List (List Int) := preN 7 d it.2.2.2.2.2 it.2.2.2.2.2.length
/-- What ItemUses answers. -/
def usI (d : Nat) (it : Itm d) : List (List Int) := if usB d it = true then (usN d it).foldl insN [] else []

theorem pre_one {α : Type} (f : α → Nat) (a : α) : pre f [a] 1 = f a := by simp [pre]

theorem cfg_one (d : Nat) (it : Itm d) : cfgB d [it] = usB d it := by
  unfold cfgB usB
  rw [decide_eq_decide]
  constructor
  · rintro ⟨_, h1, h2⟩
    have h3 := h1 0 (by simp)
    have h4 : pre (itemP d) [it] 1 ≤ 150 := h2
    rw [pre_one] at h4
    simp only [okAt, List.getElem_cons_zero, Bool.and_eq_true] at h3
    exact ⟨h3.1, h4⟩
  · rintro ⟨h1, h2⟩
    refine ⟨by simp, fun i hi => ?_, ?_⟩
    · have h0 : i = 0 := by simp at hi; omega
      subst h0
      simp [okAt, h1]
    · show pre (itemP d) [it] 1 ≤ 150
      rw [pre_one]
      exact h2

theorem us_yes {d : Nat} {it : Itm d} (h : usB d it = true) : itemB d it = true ∧ itemP d it ≤ 150 ∧ it.2.2.2.2.2.length ≤ 6 ∧ pre (partsE d) it.2.2.2.2.2 it.2.2.2.2.2.length ≤ 150 ∧ ∀ x ∈ usN d it, nameB x = true := by
  unfold usB at h
  rw [decide_eq_true_eq] at h
  obtain ⟨h1, h2⟩ := h
  have h3 : it.2.2.2.2.2.length ≤ 6 := by
    simp only [itemB, headB, Bool.and_eq_true, decide_eq_true_eq] at h1
    exact h1.1.2.1
  have h4 : it.2.2.2.2.2.all (fun e => goodE d e 1) = true := by
    simp only [itemB, Bool.and_eq_true] at h1
    exact h1.2.2.2
  refine ⟨h1, h2, h3, by unfold itemP at h2; omega, fun x hx => ?_⟩
  unfold usN at hx
  rw [preN_all] at hx
  obtain ⟨l, hl, hxl⟩ := List.mem_flatten.1 hx
  obtain ⟨y, hy, rfl⟩ := List.mem_map.1 hl
  exact raw_names 7 (.inr rfl) d y 1 (List.all_eq_true.1 h4 y hy) x hxl

theorem us_itemR {d : Nat} (it : Itm d) : (usB d it = true ∧ itemR d it 150 = 150 - itemP d it ∧ itemP d it ≤ 150) ∨ (usB d it = false ∧ itemR d it 150 = -1) := by
  rcases itemR_cases it 150 with ⟨h1, h2, h3⟩ | ⟨h1, h2⟩
  · exact .inl ⟨by unfold usB; rw [decide_eq_true_eq]; exact ⟨h1, by omega⟩, h3, by omega⟩
  · refine .inr ⟨?_, h2⟩
    unfold usB
    rw [decide_eq_false_iff_not]
    rintro ⟨h3, h4⟩
    exact h1 ⟨h3, by omega⟩

theorem usN_len (d : Nat) (es : List (Vl d)) (j : Nat) (h : pre (partsE d) es es.length ≤ 150) : ((preN 7 d es j).foldl insN []).length ≤ 150 ∧ (preN 7 d es j).length ≤ 150 := by
  have h1 := fold_len (preN 7 d es j) []
  have h2 := preN_len 7 d es j
  have h3 := pre_le (partsE d) es j
  have h4 := pre_all (partsE d) es
  simp at h1
  omega

set_option maxHeartbeats 2000000 in
set_option maxRecDepth 100000 in
theorem l8uses_any (d N : Nat) (cs : List Value) (it : Itm d) (w : World) (h : ISeg (fun b => b < N) w d cs it) (hN : N ≤ w.heap.size) (hel : it.2.2.2.2.2.length ≤ 6) (hpe : pre (partsE d) it.2.2.2.2.2 it.2.2.2.2.2.length ≤ 150) :
    Calls Tryd.prog 28 #[.agg cs.toArray] w fun e w' => ∃ y, e = .returned y ∧ NR N w' w.heap.size y ((usN d it).foldl insN []) ∧ Below w.heap.size w w' := by
  obtain ⟨na, np, bk, bn, a2, l2, p2, a3, l3, p3, a4, l4, p4, xa, xp, ea, ep, rfl, ht, hv, hk, hl⟩ := h.form
  obtain ⟨k, nm, mn, by', ks, es⟩ := it
  simp only [usN] at ht hv hk hl hel hpe ⊢
  have Hb : Hid (∀ o : Obj, Below w.heap.size w (w.alloc o)) := fun o => (Below.refl _ _).alloc (Nat.le_refl _) o
  have HX : Hid (LSeg (fun b => b < N) w d (.slice ea es.length ep) es) := hl
  have Hbox : Hid (∀ o wx, Below (w.alloc o).heap.size (w.alloc o) wx → wx.heap[w.heap.size]? = some o) := fun o wx h => box_row h
  have HPe := hide' hpe
  clear ht hv hk hl h hpe
  generalize nm.length = s0 at *
  generalize ks.length = s1 at *
  have H0 : Hid (NR N (w.alloc (.cells #[.int .i64 k, .slice na s0 np, .int .i64 mn, .int .i64 bk, .int .i64 bn, .slice a2 l2 p2, .slice a3 l3 p3, .slice a4 l4 p4, .slice xa s1 xp, .slice ea es.length ep] 42)) w.heap.size (.slice none 0 0) ((preN 7 d es 0).foldl insN [])) := by
    rw [preN_zero]
    exact NR.nil _ _ _
  go_enter Tryd.func28, Tryd.ntmps28
  go_wp2_with fail
  go_loopw [3, 4] (fun y i wr => ∃ j : Nat, i = .int .i64 j ∧ j ≤ es.length ∧ Hid (NR N wr w.heap.size y ((preN 7 d es j).foldl insN [])) ∧ Hid (Below (w.alloc (.cells #[.int .i64 k, .slice na s0 np, .int .i64 mn, .int .i64 bk, .int .i64 bn, .slice a2 l2 p2, .slice a3 l3 p3, .slice a4 l4 p4, .slice xa s1 xp, .slice ea es.length ep] 42)).heap.size (w.alloc (.cells #[.int .i64 k, .slice na s0 np, .int .i64 mn, .int .i64 bk, .int .i64 bn, .slice a2 l2 p2, .slice a3 l3 p3, .slice a4 l4 p4, .slice xa s1 xp, .slice ea es.length ep] 42)) wr)) (fun _ i _ => es.length - (intOf i).toNat)
  case atStart => exact ⟨0, rfl, Nat.zero_le _, H0, Below.refl _ _⟩
  case round =>
    clear H0
    obtain ⟨j, rfl, hj, hR, hbel⟩ := hrel
    have hrow := Hbox.out _ _ hbel.out
    have y9 := cell_of_row _ _ 9 _ _ _ hrow
    simp at y9
    have B := Below.on (Hb.out (.cells #[.int .i64 k, .slice na s0 np, .int .i64 mn, .int .i64 bk, .int .i64 bn, .slice a2 l2 p2, .slice a3 l3 p3, .slice a4 l4 p4, .slice xa s1 xp, .slice ea es.length ep] 42)) hbel.out
    clear hrow
    obtain ⟨ya, yc, rfl⟩ := hR.out.shape
    obtain ⟨hn1, hn2⟩ := usN_len d es j HPe.out
    by_cases hlt : j < es.length
    · have hlt' : (j : Int) < (es.length : Int) := by omega
      obtain ⟨b, off, c, rfl, h5', hv⟩ := HX.out.at B hN hlt
      obtain ⟨c0, c1, c2, c3, c4⟩ := c
      obtain ⟨q0, q1, q2, q3, q4⟩ := h5'
      simp only at q0 q1 q2 q3 q4
      have hz := B.size
      have HC := hide' (l6names_any 7 d N w.heap.size _ _ (c0, c1, c2, c3, c4) es[j] wr (hv wr B) hN hz hR.out (by
        have h3 := pre_succ (partsE d) es j hlt
        have h4 := pre_le (partsE d) es (j + 1)
        have h5 := pre_all (partsE d) es
        have h6 := HPe.out
        omega))
      have HNx : Hid ((rawN 7 d es[j]).foldl insN ((preN 7 d es j).foldl insN []) = (preN 7 d es (j + 1)).foldl insN []) := by
        show _ = _
        rw [preN_succ 7 d es j hlt, List.foldl_append]
      rw [HNx.out] at HC
      clear hv hR HNx
      generalize ((preN 7 d es j).foldl insN []).length = n1 at *
      go_wp2_with fail
      refine HC.out.mono ?_
      rintro e w2 ⟨y2, rfl, hR2, b2⟩
      have HR2 := hide' hR2
      have HB2 := hide' (Below.on hbel.out b2)
      obtain ⟨ya2, yc2, rfl⟩ := hR2.shape
      clear q0 q1 q2 q3 q4 HC hR2 b2 y9
      go_wp2
      go_roundw
      case rel => exact ⟨j + 1, by go_num, by omega, HR2, HB2⟩
      case measure => simp [intOf]; omega
    · have hkn : j = es.length := by omega
      have hlt' : ¬ (j : Int) < (es.length : Int) := by omega
      have HF : Hid (NR N wr w.heap.size (.slice ya ((preN 7 d es j).foldl insN []).length yc) ((preN 7 d es es.length).foldl insN [])) := by rw [← hkn]; exact hR.out
      clear hkn hR
      generalize ((preN 7 d es j).foldl insN []).length = n1 at *
      go_wp2
      go_ret
      exact ⟨_, rfl, HF.out, B⟩

/-- What ItemUses leaves. -/
def UsEnd (d : Nat) (it : Itm d) (w : World) (e : Ending) (w' : World) : Prop := ∃ u, e = .returned u ∧ ∃ B, KOwn w' u (usI d it) B ∧ (∀ b ∈ B, w.heap.size ≤ b ∧ b < w'.heap.size) ∧ Below w.heap.size w w'

set_option maxHeartbeats 2000000 in
set_option maxRecDepth 100000 in
theorem spec_ItemUses_any (d N : Nat) (cs : List Value) (it : Itm d) (w : World) (h : ISeg (fun b => b < N) w d cs it) (hN : N ≤ w.heap.size) :
    Calls Tryd.prog 11 #[.agg cs.toArray] w (UsEnd d it w) := by
  have Hb : Hid (∀ o : Obj, Below w.heap.size w (w.alloc o)) := fun o => (Below.refl _ _).alloc (Nat.le_refl _) o
  have Hbox : Hid (∀ o wx, Below (w.alloc o).heap.size (w.alloc o) wx → wx.heap[w.heap.size]? = some o) := fun o wx h => box_row h
  have HI : Hid (∀ wx, Below w.heap.size w wx → ISeg (fun b => b < N) wx d cs it) := fun wx hb => h.agree (agree_below (hb.mono hN))
  have HC : Hid (∀ wx, Below w.heap.size w wx → Calls Tryd.prog 19 #[.agg cs.toArray, .int .i64 150] wx fun e w' => e = .returned (.int .i64 (itemR d it 150)) ∧ Below wx.heap.size wx w') := fun wx hb => l6item_any d N cs it 150 wx (HI.out wx hb) (by have := hb.size; omega) (by omega) (by omega)
  have HL : Hid (usB d it = true → ∀ wx, Below w.heap.size w wx → Calls Tryd.prog 28 #[.agg cs.toArray] wx fun e w' => ∃ y, e = .returned y ∧ NR N w' wx.heap.size y (usI d it) ∧ Below wx.heap.size wx w') := fun hu wx hb => by
    obtain ⟨_, _, h3, h4, _⟩ := us_yes hu
    have h5 : usI d it = (usN d it).foldl insN [] := if_pos hu
    rw [h5]
    exact l8uses_any d N cs it wx (HI.out wx hb) (by have := hb.size; omega) h3 h4
  have HO : Hid (usB d it = true → ∀ y base wx, N ≤ wx.heap.size → NR N wx base y (usI d it) → Calls Tryd.prog 27 #[y] wx fun e w' => ∃ u, e = .returned u ∧ ∃ B, KOwn w' u (usI d it) B ∧ (∀ b ∈ B, wx.heap.size ≤ b ∧ b < w'.heap.size) ∧ Below wx.heap.size wx w') := fun hu y base wx hz hR => by
    obtain ⟨_, _, h3, h4, h6⟩ := us_yes hu
    have h5 : usI d it = (usN d it).foldl insN [] := if_pos hu
    have h7 := (usN_len d _ it.2.2.2.2.2.length h4).1
    refine l4ownAddrs_any N base y _ wx hR hz (by rw [h5]; unfold usN; omega) fun i hi => ?_
    have hm : (usI d it).getD i [] ∈ usI d it := by
      rw [List.getD_eq_getElem?_getD, List.getElem?_eq_getElem hi]
      exact List.getElem_mem hi
    rw [h5] at hm
    rcases mem_fold _ _ _ hm with h8 | h8
    · have h9 := h6 _ h8
      rw [← h5] at h9
      simp only [nameB, Bool.and_eq_true, decide_eq_true_eq] at h9
      omega
    · simp at h8
  obtain ⟨na, np, bk, bn, a2, l2, p2, a3, l3, p3, a4, l4, p4, xa, xp, ea, ep, rfl, -⟩ := h.form
  clear h HI
  have hcase := us_itemR it
  show Calls _ _ _ _ fun e w' => ∃ u, e = .returned u ∧ ∃ B, KOwn w' u (usI d it) B ∧ (∀ b ∈ B, w.heap.size ≤ b ∧ b < w'.heap.size) ∧ Below w.heap.size w w'
  rcases hcase with ⟨hu, hR, hp⟩ | ⟨hu, hR⟩
  · have HL' := hide' (HL.out hu)
    have HO' := hide' (HO.out hu)
    rw [hR] at HC
    clear HL HO hu hR
    generalize itemP d it = pp at *
    generalize usI d it = us at *
    obtain ⟨ik, nm, mn, by', ks, es⟩ := it
    simp only at HC HL' ⊢
    generalize nm.length = s0 at *
    generalize ks.length = s1 at *
    generalize es.length = s2 at *
    have hp0 : (0 : Int) ≤ 150 - (pp : Int) := by omega
    have hp1 : (150 : Int) - (pp : Int) ≤ 150 := by omega
    generalize (150 : Int) - (pp : Int) = rr at *
    go_enter Tryd.func11, Tryd.ntmps11
    go_wp2_with fail
    refine (HC.out _ (Hb.out _)).mono ?_
    rintro e w1 ⟨rfl, b1⟩
    have hrow := Hbox.out _ _ b1
    have y0 := cell_of_row _ _ 0 _ _ _ hrow
    have y1 := cell_of_row _ _ 1 _ _ _ hrow
    have y2 := cell_of_row _ _ 2 _ _ _ hrow
    have y3 := cell_of_row _ _ 3 _ _ _ hrow
    have y4 := cell_of_row _ _ 4 _ _ _ hrow
    have y5 := cell_of_row _ _ 5 _ _ _ hrow
    have y6 := cell_of_row _ _ 6 _ _ _ hrow
    have y7 := cell_of_row _ _ 7 _ _ _ hrow
    have y8 := cell_of_row _ _ 8 _ _ _ hrow
    have y9 := cell_of_row _ _ 9 _ _ _ hrow
    simp at y0 y1 y2 y3 y4 y5 y6 y7 y8 y9
    have B1 := hide' (Below.on (Hb.out _) b1)
    have HL1 := hide' (HL'.out w1 B1.out)
    clear hrow b1 HC HL'
    go_wp2_with fail
    refine HL1.out.mono ?_
    rintro e w2 ⟨y, rfl, hR2, b2⟩
    have B2 := hide' (Below.on B1.out b2)
    have HO2 := hide' (HO'.out y _ w2 (by have := B2.out.size; omega) hR2)
    obtain ⟨ya, yc, rfl⟩ := hR2.shape
    clear y0 y1 y2 y3 y4 y5 y6 y7 y8 y9 hR2 b2 HL1 B1 HO'
    go_wp2_with fail
    refine HO2.out.mono ?_
    rintro e w3 ⟨u, rfl, B, hK, hB, b3⟩
    have hus : ∃ a n c, u = .slice a n c := by rcases hK with ⟨rfl, _⟩ | ⟨g, cap, cur, Bs, rfl, _⟩ <;> exact ⟨_, _, _, rfl⟩
    have HK := hide' hK
    have HBB := hide' hB
    have B3 := hide' (Below.on B2.out b3)
    obtain ⟨_, _, _, rfl⟩ := hus
    clear hK hB b3 HO2
    go_wp2
    go_ret
    exact ⟨_, rfl, B, HK.out, fun b hb => by have h1 := HBB.out b hb; have h2 := B2.out.size; omega, B3.out⟩
  · have h5 : Hid (usI d it = []) := if_neg (by rw [hu]; simp)
    rw [hR] at HC
    rw [h5.out]
    clear HL HO hu hR h5
    obtain ⟨ik, nm, mn, by', ks, es⟩ := it
    simp only at HC ⊢
    generalize nm.length = s0 at *
    generalize ks.length = s1 at *
    generalize es.length = s2 at *
    go_enter Tryd.func11, Tryd.ntmps11
    go_wp2_with fail
    refine (HC.out _ (Hb.out _)).mono ?_
    rintro e w1 ⟨rfl, b1⟩
    have B1 := hide' (Below.on (Hb.out _) b1)
    clear b1 HC
    go_wp2
    go_ret
    exact ⟨_, rfl, [], kNilE _, by simp, B1.out⟩
end Go.Proofs.YthkbapkndmlpfaaDoor
