/-
  Texts that a law leans on, one behind the other; no statement is proved here.
-/
import Derived.Test.YtngjhimieacjhaaGreatDoorPk16
import Derived.Test.YtngjhimieacjhaaGreatDoorPk17
import Derived.Test.YtngjhimieacjhaaGreatDoorPk18
import Derived.Test.YtngjhimieacjhaaGreatDoorPk4
import Derived.Deep.AppendLies
import Derived.Test.YtngjhimieacjhaaGreatDoorPk5
import Derived.Test.YtngjhimieacjhaaGreatDoorPk15
import Derived.Test.YtngjhimieacjhaaGreatDoorPk0
import Derived.Test.YtngjhimieacjhaaGreatDoorPk11
import Derived.Test.YtngjhimieacjhaaGreatDoorPk1
import Derived.Test.YtngjhimieacjhaaGreatDoorPk14
import Derived.Test.YtngjhimieacjhaaGreatDoorPk13
import Derived.Maps.AppendAt
/-
  StateOk of the specification.
-/
namespace Go.Proofs.YtngjhimieacjhaaGreatDoor
open Go.RowKit

theorem spec_StateOk_any (d N : Nat) (cs : List Value) (s : Stt d) (w : World) (hx : SaSg (fun b => b < N) w d cs s) (hN : N ≤ w.heap.size) :
    Calls Tryz.prog 24 #[.agg cs.toArray] w fun e w' => e = .returned (.bool (staB d s)) ∧ Below w.heap.size w w' := by
  by_cases hp : s.2.2.1.length = 0
  · exact spec_StateOk_e d N cs s w hx hN hp
  · by_cases h1 : s.2.2.2.1 = 1
    · exact spec_StateOk_a d N cs s w hx hN hp h1
    · exact spec_StateOk_b d N cs s w hx hN hp h1
end Go.Proofs.YtngjhimieacjhaaGreatDoor
/-
  A row that is being appended to, each of its items in blocks of its own.
-/
namespace Go.Proofs.YtngjhimieacjhaaGreatDoor
open Go.RowKit
set_option linter.unusedVariables false
set_option linter.unusedSimpArgs false

theorem flatten_at (s : Nat) : ∀ (cs : List (List Value)), (∀ c ∈ cs, c.length = s) → ∀ i, i < cs.length → ∀ j, j < s → cs.flatten[i * s + j]? = (cs.getD i [])[j]? := by
  intro cs
  induction cs with
  | nil => intro _ i hi; simp at hi
  | cons c cs ih =>
    intro hl i hi j hj
    have hc := hl c (by simp)
    rw [List.flatten_cons]
    cases i with
    | zero => rw [List.getElem?_append_left (by omega)]; simp
    | succ i =>
      have hge : s ≤ (i + 1) * s + j := by rw [Nat.add_mul, Nat.one_mul]; omega
      rw [List.getElem?_append_right (by omega), hc]
      have he : (i + 1) * s + j - s = i * s + j := by rw [Nat.add_mul, Nat.one_mul]; omega
      rw [he, ih (fun c' h => hl c' (by simp [h])) i (by simpa using hi) j hj]
      simp

/-- A row of n items that lies from block 'base' on; item i has the cells cs[i], and what it reaches lies in the blocks Bi[i]. -/
def RW (T : TypeId) (s : Nat) (It : World → Nat → List Value → List Nat → Prop) (w : World) (base : Nat) (x : Value) (n : Nat) (cs : List (List Value)) (Bi : List (List Nat)) : Prop :=
  cs.length = n ∧ Bi.length = n ∧ w.ownsRow base T s x n cs.flatten ∧ (∀ i, i < n → It w i (cs.getD i []) (Bi.getD i [])) ∧ (x.ownBlock.toList ++ Bi.flatten).Nodup ∧ ∀ b ∈ x.ownBlock.toList ++ Bi.flatten, base ≤ b ∧ b < w.heap.size

theorem RW.nil (T : TypeId) (s : Nat) (It : World → Nat → List Value → List Nat → Prop) (w : World) (base : Nat) : RW T s It w base (.slice none 0 0) 0 [] [] :=
  ⟨rfl, rfl, ⟨by simp, .inl ⟨rfl, rfl⟩⟩, fun i hi => by omega, by simp [Value.ownBlock], by simp [Value.ownBlock]⟩

theorem mem_flat {Bi : List (List Nat)} {i b : Nat} (h : b ∈ Bi.getD i []) : b ∈ Bi.flatten := by
  rw [List.getD_eq_getElem?_getD] at h
  cases hi : Bi[i]? with
  | none => rw [hi] at h; simp at h
  | some l => rw [hi] at h; exact List.mem_flatten.2 ⟨l, List.mem_of_getElem? hi, h⟩

/-- It stands where its blocks do. -/
theorem RW.agree {T : TypeId} {s : Nat} {It : World → Nat → List Value → List Nat → Prop} (hIt : ∀ w w' i c B, It w i c B → Agree (fun b => b ∈ B) w w' → It w' i c B) {w w' : World} {base : Nat} {x : Value} {n : Nat} {cs : List (List Value)} {Bi : List (List Nat)}
    (h : RW T s It w base x n cs Bi) (ha : Agree (fun b => b ∈ x.ownBlock.toList ++ Bi.flatten) w w') (hz : w.heap.size ≤ w'.heap.size) : RW T s It w' base x n cs Bi := by
  obtain ⟨h1, h2, h3, h4, h5, h6⟩ := h
  refine ⟨h1, h2, ⟨h3.1, ?_⟩, fun i hi => hIt _ _ _ _ _ (h4 i hi) fun b hb => ha b (by simp only [List.mem_append]; exact .inr (mem_flat hb)), h5, fun b hb => ⟨(h6 b hb).1, Nat.lt_of_lt_of_le (h6 b hb).2 hz⟩⟩
  rcases h3.2 with h0 | ⟨g, cap, cur, rfl, hb, hh, r⟩
  · exact .inl h0
  · exact .inr ⟨g, cap, cur, rfl, hb, (ha g (by simp [Value.ownBlock])).trans hh, r⟩

/-- One item more. -/
theorem RW.add {T : TypeId} {s : Nat} {It : World → Nat → List Value → List Nat → Prop} (hIt : ∀ w w' i c B, It w i c B → Agree (fun b => b ∈ B) w w' → It w' i c B) {w w2 w3 : World} {base : Nat} {x : Value} {n : Nat} {cs : List (List Value)} {Bi : List (List Nat)} {c : List Value} {Bv : List Nat} {g cap : Nat}
    (h : RW T s It w base x n cs Bi) (ha : ∀ b, b < w.heap.size → w2.heap[b]? = w.heap[b]?) (hz : w.heap.size ≤ w2.heap.size) (hc : It w2 n c Bv) (hBv : ∀ b ∈ Bv, w.heap.size ≤ b ∧ b < w2.heap.size) (hBn : Bv.Nodup) (hbase : base ≤ w.heap.size)
    (hown : w3.ownsRow base T s (.slice (some ⟨g, 0, none⟩) (n + 1) cap) (n + 1) (cs.flatten ++ c)) (hg : w2.grownBy w3 x.ownBlock) (hat : x.ownBlock = some g ∨ g = w2.heap.size) :
    RW T s It w3 base (.slice (some ⟨g, 0, none⟩) (n + 1) cap) (n + 1) (cs ++ [c]) (Bi ++ [Bv]) := by
  obtain ⟨h1, h2, h3, h4, h5, h6⟩ := h
  have hlt := hown.lt g rfl
  have hsz := hg.size
  have hfl : ∀ b ∈ Bi.flatten, base ≤ b ∧ b < w.heap.size := fun b hb => h6 b (by simp only [List.mem_append]; exact .inr hb)
  have hdis : ∀ b ∈ Bi.flatten, x.ownBlock ≠ some b := by
    intro b hb hx
    rw [hx] at h5
    simp only [Option.toList_some, List.nodup_append] at h5
    exact h5.2.2 b (by simp) b hb rfl
  have hxb : ∀ b, x.ownBlock = some b → b < w.heap.size := fun b hb => (h3.lt b hb).2
  refine ⟨by simp [h1], by simp [h2], by simpa using hown, fun i hi => ?_, ?_, ?_⟩
  · by_cases hin : i < n
    · have e1 : (cs ++ [c]).getD i [] = cs.getD i [] := by simp [List.getD_eq_getElem?_getD, List.getElem?_append_left (show i < cs.length by omega)]
      have e2 : (Bi ++ [Bv]).getD i [] = Bi.getD i [] := by simp [List.getD_eq_getElem?_getD, List.getElem?_append_left (show i < Bi.length by omega)]
      rw [e1, e2]
      refine hIt _ _ _ _ _ (h4 i hin) fun b hb => ?_
      have hm := mem_flat hb
      have hb' := hfl b hm
      exact (hg.block b (by omega) (fun e => hdis b hm e.symm)).trans (ha b hb'.2)
    · have hin' : i = n := by omega
      subst hin'
      have e1 : (cs ++ [c]).getD i [] = c := by rw [← h1]; simp [List.getD_eq_getElem?_getD]
      have e2 : (Bi ++ [Bv]).getD i [] = Bv := by rw [← h2]; simp [List.getD_eq_getElem?_getD]
      rw [e1, e2]
      refine hIt _ _ _ _ _ hc fun b hb => ?_
      have hb' := hBv b hb
      exact hg.block b hb'.2 (fun e => by have := hxb b e.symm; omega)
  · have hmid : (Bi.flatten ++ Bv).Nodup := by
      rw [List.nodup_append]
      refine ⟨(List.nodup_append.1 h5).2.1, hBn, fun a ha' b hb' => ?_⟩
      have := hfl a ha'
      have := hBv b hb'
      omega
    have hgn : g ∉ Bi.flatten ++ Bv := by
      intro hm
      rcases hat with hx | hx
      · rcases List.mem_append.1 hm with h' | h'
        · exact hdis g h' hx
        · have := hBv g h'
          have := hxb g hx
          omega
      · rcases List.mem_append.1 hm with h' | h'
        · have := hfl g h'; omega
        · have := hBv g h'; omega
    simp only [Value.ownBlock, Option.toList_some, List.flatten_append, List.flatten_singleton, List.singleton_append]
    exact List.nodup_cons.2 ⟨hgn, hmid⟩
  · intro b hb
    simp only [Value.ownBlock, Option.toList_some, List.flatten_append, List.flatten_singleton, List.singleton_append, List.mem_cons, List.mem_append] at hb
    rcases hb with rfl | hb | hb
    · exact hlt
    · have := hfl b hb; omega
    · have := hBv b hb; omega

/-- A value's five cells. -/
def enc5 (e : Value × Value × Value × Value × Value) : List Value := [e.1, e.2.1, e.2.2.1, e.2.2.2.1, e.2.2.2.2]

/-- Item i is the value l[i]. -/
def ItV (d : Nat) (l : List (Vl d)) (w : World) (i : Nat) (c : List Value) (B : List Nat) : Prop := ∃ e, c = enc5 e ∧ ∃ h : i < l.length, VOwn w d e l[i] B

/-- Item i is the text ks[i]. -/
def ItK (ks : List (List Int)) (w : World) (i : Nat) (c : List Value) (B : List Nat) : Prop := ∃ u, c = [u] ∧ TOwn w u (ks.getD i []) B

theorem ItV.agree (d : Nat) (l : List (Vl d)) : ∀ w w' i c B, ItV d l w i c B → Agree (fun b => b ∈ B) w w' → ItV d l w' i c B := by
  rintro w w' i c B ⟨e, rfl, h, hv⟩ ha
  exact ⟨e, rfl, h, VOwn.agree d hv ha⟩

theorem ItK.agree (ks : List (List Int)) : ∀ w w' i c B, ItK ks w i c B → Agree (fun b => b ∈ B) w w' → ItK ks w' i c B := by
  rintro w w' i c B ⟨u, rfl, hv⟩ ha
  exact ⟨u, rfl, hv.agree ha⟩

theorem getD_of_mem {α : Type} {cs : List α} {c z : α} (h : c ∈ cs) : ∃ i, i < cs.length ∧ cs.getD i z = c := by
  obtain ⟨i, hi, e⟩ := List.getElem_of_mem h
  exact ⟨i, hi, by simp [List.getD_eq_getElem?_getD, hi, e]⟩

/-- All of it: a list of values of the call's own. -/
theorem RW.lown {w : World} {base d : Nat} {x : Value} {l : List (Vl d)} {cs : List (List Value)} {Bi : List (List Nat)} (h : RW 49 5 (ItV d l) w base x l.length cs Bi) : LOwn w d x l (x.ownBlock.toList ++ Bi.flatten) := by
  obtain ⟨h1, h2, h3, h4, h5, h6⟩ := h
  have hl5 : ∀ c ∈ cs, c.length = 5 := by
    intro c hc
    obtain ⟨i, hi, e⟩ := getD_of_mem (z := []) hc
    obtain ⟨e', he, _⟩ := h4 i (by omega)
    rw [← e, he]
    rfl
  rcases h3.2 with ⟨rfl, h0⟩ | ⟨g, cap, cur, rfl, hb, hh, hn, hm, hs, ht⟩
  · have hl0 : l = [] := List.eq_nil_of_length_eq_zero h0
    have hb0 : Bi = [] := List.eq_nil_of_length_eq_zero (by omega)
    subst hl0 hb0
    exact .inl ⟨rfl, rfl, rfl⟩
  · refine .inr ⟨g, cap, cur, Bi, rfl, hh, hn, hm, hs, h2, fun i hi => ?_, rfl, h5⟩
    obtain ⟨e, he, _, hv⟩ := h4 i hi
    have hcell : ∀ j, j < 5 → cur[i * 5 + j]? = (enc5 e)[j]? := by
      intro j hj
      have hf := flatten_at 5 cs hl5 i (by omega) j hj
      rw [he, ← ht, List.getElem?_take_of_lt (by omega), Array.getElem?_toList] at hf
      exact hf
    exact ⟨e, ⟨hcell 0 (by omega), hcell 1 (by omega), hcell 2 (by omega), hcell 3 (by omega), hcell 4 (by omega)⟩, hv⟩

/-- All of it: a list of texts of the call's own. -/
theorem RW.kown {w : World} {base : Nat} {x : Value} {ks : List (List Int)} {cs : List (List Value)} {Bi : List (List Nat)} (h : RW 22 1 (ItK ks) w base x ks.length cs Bi) : KOwn w x ks (x.ownBlock.toList ++ Bi.flatten) := by
  obtain ⟨h1, h2, h3, h4, h5, h6⟩ := h
  have hl1 : ∀ c ∈ cs, c.length = 1 := by
    intro c hc
    obtain ⟨i, hi, e⟩ := getD_of_mem (z := []) hc
    obtain ⟨e', he, _⟩ := h4 i (by omega)
    rw [← e, he]
    rfl
  rcases h3.2 with ⟨rfl, h0⟩ | ⟨g, cap, cur, rfl, hb, hh, hn, hm, hs, ht⟩
  · have hl0 : ks = [] := List.eq_nil_of_length_eq_zero h0
    have hb0 : Bi = [] := List.eq_nil_of_length_eq_zero (by omega)
    subst hl0 hb0
    exact .inl ⟨rfl, rfl, rfl⟩
  · refine .inr ⟨g, cap, cur, Bi, rfl, hh, hn, hm, by omega, h2, fun i hi => ?_, rfl, h5⟩
    obtain ⟨u, he, hv⟩ := h4 i hi
    have hcell : cur[i]? = some u := by
      have hf := flatten_at 1 cs hl1 i (by omega) 0 (by omega)
      rw [he, ← ht, List.getElem?_take_of_lt (by omega), Array.getElem?_toList] at hf
      simpa using hf
    exact ⟨u, hcell, hv⟩
end Go.Proofs.YtngjhimieacjhaaGreatDoor
/-
  A row of bytes of the call's own, as a text with its blocks.
-/
namespace Go.Proofs.YtngjhimieacjhaaGreatDoor
open Go.RowKit
set_option linter.unusedVariables false
set_option linter.unusedSimpArgs false

theorem tOwn_of {w : World} {base : Nat} {v : Value} {xs : List Int} (h : Bts w base v xs) : ∃ B, TOwn w v xs B ∧ (∀ b ∈ B, base ≤ b ∧ b < w.heap.size) ∧ B.Nodup := by
  have hlt := h.2.lt
  rcases h.2.2 with ⟨rfl, h0⟩ | ⟨g, cap, cur, rfl, _⟩
  · exact ⟨[], ⟨h.free, .inl ⟨rfl, rfl⟩⟩, by simp, by simp⟩
  · exact ⟨[g], ⟨h.free, .inr ⟨g, cap, rfl, rfl⟩⟩, by intro b hb; simp at hb; subst hb; exact hlt b rfl, by simp⟩

end Go.Proofs.YtngjhimieacjhaaGreatDoor
/-
  One text more behind a row of texts, each of the call's own.
-/
namespace Go.Proofs.YtngjhimieacjhaaGreatDoor
open Go.RowKit
set_option linter.unusedVariables false
set_option linter.unusedSimpArgs false

theorem rwk_step {w1 wr w5 w6 : World} {ks : List (List Int)} {x v5 : Value} {k g cp : Nat} {cs : List (List Value)} {Bi : List (List Nat)} {o : Obj} (h : RW 22 1 (ItK ks) wr w1.heap.size x k cs Bi) (hb : Below w1.heap.size w1 wr) (b5 : Below wr.heap.size wr w5) (hv : Bts w5 wr.heap.size v5 (ks.getD k []))
    (hown : w6.ownsRow w1.heap.size 22 1 (.slice (some ⟨g, 0, none⟩) (k + 1) cp) (k + 1) (cs.flatten ++ [v5])) (hg : (w5.alloc o).grownBy w6 x.ownBlock) (hat : x.ownBlock = some g ∨ g = w5.heap.size + 1) :
    ∃ cs' Bi', RW 22 1 (ItK ks) w6 w1.heap.size (.slice (some ⟨g, 0, none⟩) (k + 1) cp) (k + 1) cs' Bi' ∧ Below w1.heap.size w1 w6 := by
  obtain ⟨Bv, hT, hBv, hBn⟩ := tOwn_of hv
  have hz := hb.size
  have hz5 := b5.size
  have hxlt := h.2.2.1.lt
  refine ⟨_, _, RW.add (w2 := w5.alloc o) (ItK.agree ks) h (fun b hb => (Below.heap_alloc _ _ _ (by omega)).trans (b5.block b hb)) (by simp; omega) ⟨v5, rfl, hT.agree fun b hb => Below.heap_alloc _ _ _ (hBv b hb).2⟩ (fun b hb => by have := hBv b hb; simp; omega) hBn hz hown hg (by simpa using hat), ?_⟩
  exact ((Below.on hb b5).alloc (by omega) o).grown hg (by simp; omega) (fun j hj => (hxlt j hj).1)
end Go.Proofs.YtngjhimieacjhaaGreatDoor
/-
  l4ownAddrs of the specification, over whatever row of texts.
-/
namespace Go.Proofs.YtngjhimieacjhaaGreatDoor
open Go.RowKit
set_option linter.unusedVariables false
set_option linter.unusedSimpArgs false

theorem KSeg.wide {R : Nat → Prop} {w : World} {a : Option Addr} {n cap : Nat} {ks : List (List Int)} (h : KSeg R w (.slice a n cap) ks) {k : Nat} (hk : k < ks.length) :
    ∃ b off, a = some ⟨b, off, none⟩ ∧ R b ∧ ∀ i (hi : i < ks.length), ∃ u, w.cell? ⟨b, off + i, none⟩ = some u ∧ TSeg R w u (ks.getD i []) := by
  obtain ⟨a', cap', g1, _, _, _, g5⟩ := h
  simp only [Value.slice.injEq] at g1
  obtain ⟨rfl, _, _⟩ := g1
  rcases g5 with e | ⟨b, off, hb, hR, hc⟩
  · rw [e] at hk; simp at hk
  · exact ⟨b, off, hb, hR, fun i hi => hc i hi⟩

set_option maxHeartbeats 2000000 in
set_option maxRecDepth 100000 in
theorem l4ownAddrsK_any (N : Nat) (x : Value) (ks : List (List Int)) (w : World) (hx : KSeg (fun b => b < N) w x ks) (hN : N ≤ w.heap.size) (hl : ks.length ≤ 1048576) (hl1 : ∀ i, i < ks.length → (ks.getD i []).length ≤ 1048576) :
    Calls Tryz.prog 37 #[x] w fun e w' => ∃ u, e = .returned u ∧ ∃ B, KOwn w' u ks B ∧ (∀ b ∈ B, w.heap.size ≤ b ∧ b < w'.heap.size) ∧ Below w.heap.size w w' := by
  obtain ⟨iT, hiT, hy0, hy1, hy2⟩ := info_parts infoT
  have HX := hide' hx
  have HL := hide' hl1
  obtain ⟨xa, xc, rfl, _⟩ := hx
  clear hl1
  go_enter Tryz.func37, Tryz.ntmps37
  go_wp2
  go_loopw [3, 4] (fun x i wr => ∃ k : Nat, k ≤ ks.length ∧ i = .int .i64 k ∧ ∃ cs Bi, RW 22 1 (ItK ks) wr w.heap.size x k cs Bi ∧ Below w.heap.size w wr) (fun _ i _ => ks.length - (intOf i).toNat)
  case atStart => exact ⟨0, Nat.zero_le _, rfl, _, _, RW.nil _ _ _ _ _, Below.refl _ _⟩
  case round =>
    obtain ⟨k, hk, rfl, cs, Bi, hR, hbel⟩ := hrel
    have hsz := hbel.size
    have hvK : ∃ p c, u3 = .slice p k c := by
      rcases hR.2.2.1.2 with ⟨rfl, h0⟩ | ⟨g, cap, cur, rfl, _⟩
      · exact ⟨none, 0, by rw [h0]⟩
      · exact ⟨_, _, rfl⟩
    obtain ⟨pK, cK, rfl⟩ := hvK
    by_cases hkn : k < ks.length
    · have hkn' : (k : Int) < (ks.length : Int) := by omega
      have hk0 : (0 : Int) ≤ (k : Int) := Int.natCast_nonneg _
      obtain ⟨g, off, rfl, hgN, hat⟩ := HX.out.wide hkn
      have hgl : g < w.heap.size := by omega
      obtain ⟨uq, hcu, hT⟩ := hat k hkn
      have hlk := HL.out k hkn
      obtain ⟨ua, uc, rfl, hsu, _, _, hnu, hRu⟩ := hT
      have hBa : Below w.heap.size w (wr.alloc (.cells #[] 5)) := hbel.alloc (by omega) _
      have hcu' : (wr.alloc (.cells #[] 5)).cell? ⟨g, off + k, none⟩ = some (.slice ua (ks.getD k []).length uc) := (World.cell?_of_block (hBa.block g hgl)).trans hcu
      have hsu' : Seg (wr.alloc (.cells #[] 5)) ua (ks.getD k []) := hsu.below hBa fun x hx hne => by have := hRu x hx hne; omega
      have hE : Bts (wr.alloc (.cells #[] 5)) wr.heap.size (.slice (some ⟨wr.heap.size, 0, none⟩) 0 0) [] := ⟨by simp, by simp [cellsOf], .inr ⟨wr.heap.size, 0, #[], rfl, Nat.le_refl _, heap_alloc_new wr _, Nat.le_refl _, Nat.zero_le _, rfl, rfl⟩⟩
      have HR := hide' (And.intro hR hbel)
      have hBe : Hid (Below wr.heap.size wr (wr.alloc (.cells #[] 5))) := (Below.refl _ _).alloc (Nat.le_refl _) _
      have Hv : Hid (∀ w5, Below wr.heap.size wr w5 → w5.ownsRow w.heap.size 22 1 (.slice pK k cK) k cs.flatten) := fun w5 hb5 => hR.2.2.1.kept (row := none) ⟨hb5.os, hb5.tape, hb5.output, hb5.size, fun k hk _ => hb5.block k hk⟩ (by cases hv : (Value.slice pK k cK).ownBlock <;> simp)
      generalize hks : ks.getD k [] = xs at *
      have Hks := hide' hks
      generalize hnk : xs.length = nk at *
      clear hR hbel hBa hcu hsu hks hRu
      go_wp2_with (at_builtin; first
        | (refine wpList_append_seg rfl (.tmp 12) (.tmp 16) (by rfl) wr.heap.size (.slice (some ⟨wr.heap.size, 0, none⟩) 0 0) [] xs (by rfl) hE ua nk uc hnk.symm (by rfl) hsu' hnu (by simp; omega) (by simp) ?_; intro v5 w5 hv5 hg5; rw [List.nil_append] at hv5; have hb5 := hide' (hBe.out.grown hg5 (by simp) (by intro j hj; simp [Value.ownBlock] at hj; omega)); obtain ⟨a5, c5, h5, _⟩ := hv5.shape; rw [hnk] at h5; subst h5; replace hv5 := hide' hv5; clear hg5 hE hsu')
        | (refine wpList_append_lies _ rfl (.tmp 11) (.tmp 18) 27 (by rfl) w.heap.size 22 iT (.slice none 0 0) 1 24 Tryz.underlying27 hiT hy0 hy1 hy2 rfl (by decide) (.slice pK k cK) k cs.flatten (by rfl) ((Hv.out w5 hb5.out).alloc _) ⟨w5.heap.size, 0, none⟩ 1 1 [.slice a5 nk c5] (by rfl) (by rfl) (World.news_of_block (cs := #[.slice a5 nk c5]) (t := 22) (fr := (0, 0)) (heap_alloc_new w5 _)) (by simp [Value.oneCell']) (by omega) (by unfold maxLen; omega) (by omega) (by have := hb5.out.size; simp; omega) (w5.heap.size + 1) (by simp) ?_; intro g6 cp6 w6 hown6 hg6 hat6 hlt6; obtain ⟨cs', Bi', hR6, hB6⟩ := rwk_step HR.out.1 HR.out.2 hb5.out (by rw [Hks.out]; exact hv5.out) hown6 hg6 hat6; replace hR6 := hide' hR6; replace hB6 := hide' hB6; clear hown6 hg6 hat6 hlt6))
      go_wp2
      go_roundw
      case rel => exact ⟨k + 1, by omega, by go_num, _, _, hR6.out, hB6.out⟩
      case measure => simp [intOf]; omega
    · have hkn' : k = ks.length := by omega
      subst hkn'
      have hkl' : ¬ (ks.length : Int) < (ks.length : Int) := by omega
      have HR := hide' (And.intro hR hbel)
      clear hR hbel
      go_wp2_with fail
      go_ret
      have hbd := HR.out.1.2.2.2.2.2
      exact ⟨_, rfl, _, HR.out.1.kown, fun b hb => by have := hbd b hb; omega, HR.out.2⟩

end Go.Proofs.YtngjhimieacjhaaGreatDoor
/-
  Where an entry's cells stand.
-/
namespace Go.Proofs.YtngjhimieacjhaaGreatDoor
open Go.RowKit
set_option linter.unusedVariables false
set_option linter.unusedSimpArgs false

theorem nt_at {N : Nat} {w : World} {d : Nat} {ea : Option Addr} {n ec : Nat} {l : List (Ntr d)} (h : NtLS (fun b => b < N) w d (.slice ea n ec) l) (hN : N ≤ w.heap.size) {k : Nat} (hk : k < l.length) :
    ∃ kb ko na np xa xp, ea = some ⟨kb, ko, none⟩ ∧ ∀ wx, Below w.heap.size w wx → wx.cell? ⟨kb, ko + k * 9, none⟩ = some (.slice na (l[k]).1.length np) ∧ wx.cell? ⟨kb, ko + k * 9 + 6, none⟩ = some (.slice xa (l[k]).2.2.1.length xp) ∧ wx.cell? ⟨kb, ko + k * 9 + 7, none⟩ = some (.bool (l[k]).2.2.2.1) ∧ TSeg (fun b => b < N) wx (.slice na (l[k]).1.length np) (l[k]).1 ∧ KSeg (fun b => b < N) wx (.slice xa (l[k]).2.2.1.length xp) (l[k]).2.2.1 := by
  obtain ⟨kb, ko, cs, rfl, hkb, hr, hs⟩ := h.at hk
  obtain ⟨na, np, bk, bn, a2, l2, p2, a3, l3, p3, a4, l4, p4, xa, xp, rfl, ht, -, hK⟩ := hs.form
  refine ⟨kb, ko, na, np, xa, xp, rfl, fun wx hb => ?_⟩
  have hkb' : kb < w.heap.size := Nat.lt_of_lt_of_le hkb hN
  have hA : Agree (fun b => b < N) w wx := agree_below (hb.mono hN)
  have h0 := hr 0 _ rfl
  have h6 := hr 6 _ rfl
  have h7 := hr 7 _ rfl
  exact ⟨(World.cell?_of_block (hb.block kb hkb')).trans h0, (World.cell?_of_block (hb.block kb hkb')).trans h6, (World.cell?_of_block (hb.block kb hkb')).trans h7, ht.agree hA, hK.agree hA⟩

theorem tseg_in {N : Nat} {w : World} {a : Option Addr} {n c : Nat} {xs : List Int} (h : TSeg (fun b => b < N) w (.slice a n c) xs) (hN : N ≤ w.heap.size) : Seg w a xs ∧ (a = none → c = 0) ∧ n = xs.length ∧ ∀ x, a = some x → xs ≠ [] → x.block < w.heap.size := by
  obtain ⟨a', c', e, h1, h2, h3, h4, h5⟩ := h
  simp only [Value.slice.injEq] at e
  obtain ⟨rfl, rfl, rfl⟩ := e
  exact ⟨h1, h4, rfl, fun x e1 e2 => by have := h5 x e1 e2; omega⟩
theorem kseg_at {N : Nat} {w : World} {a : Option Addr} {n c : Nat} {ks : List (List Int)} (h : KSeg (fun b => b < N) w (.slice a n c) ks) {j : Nat} (hj : j < ks.length) : ∃ g off, a = some ⟨g, off, none⟩ ∧ ∃ ua uc, w.cell? ⟨g, off + j, none⟩ = some (.slice ua (ks.getD j []).length uc) ∧ TSeg (fun b => b < N) w (.slice ua (ks.getD j []).length uc) (ks.getD j []) := by
  obtain ⟨b, off, rfl, _, hc⟩ := h.wide hj
  obtain ⟨u, h1, h2⟩ := hc j hj
  have h2' := h2
  obtain ⟨ua, uc, rfl, _⟩ := h2
  exact ⟨b, off, rfl, ua, uc, h1, h2'⟩
end Go.Proofs.YtngjhimieacjhaaGreatDoor
/-
  actOk and hasAddr of the program.
-/
namespace Go.Proofs.YtngjhimieacjhaaGreatDoor
open Go.RowKit
set_option linter.unusedVariables false
set_option linter.unusedSimpArgs false

set_option maxHeartbeats 1600000 in
theorem actOk_any (k : Int) (w : World) : Calls Tryz.prog 67 #[.int .i64 k] w fun e w' => e = .returned (.bool (decide (1 ≤ k) && decide (k ≤ 4))) ∧ w = w' := by
  by_cases h1 : 1 ≤ k
  · by_cases h4 : k ≤ 4
    · go_enter Tryz.func67, Tryz.ntmps67
      go_wp2
      go_ret
      exact ⟨by simp [h1, h4], rfl⟩
    · go_enter Tryz.func67, Tryz.ntmps67
      go_wp2
      go_ret
      exact ⟨by simp [h1, h4], rfl⟩
  · go_enter Tryz.func67, Tryz.ntmps67
    go_wp2
    go_ret
    exact ⟨by rw [decide_eq_false (p := 1 ≤ k) (by omega)]; rfl, rfl⟩
end Go.Proofs.YtngjhimieacjhaaGreatDoor
/-
  The kind of a part: a method of an interface value, by the value's own type.
-/
namespace Go.Proofs.YtngjhimieacjhaaGreatDoor
open Go.RowKit Go.Shelf
set_option linter.unusedVariables false
set_option linter.unusedSimpArgs false

theorem meth_nullPart (x : Value) (w : World) : (method 373 165 x "loop.example/g00407/impl.kind").run Tryz.prog w = .ok (231, x) w := by kernel_rfl
theorem calls_nullPart (args : Array Value) (w : World) : (callFunc 231 args).run Tryz.prog w = .ok (.enter 231 args) w := enters_of Tryz.func231 (by kernel_rfl) rfl args w
theorem meth_unknownPart (x : Value) (w : World) : (method 373 166 x "loop.example/g00407/impl.kind").run Tryz.prog w = .ok (232, x) w := by kernel_rfl
theorem calls_unknownPart (args : Array Value) (w : World) : (callFunc 232 args).run Tryz.prog w = .ok (.enter 232 args) w := enters_of Tryz.func232 (by kernel_rfl) rfl args w
theorem meth_boolPart (x : Value) (w : World) : (method 373 113 x "loop.example/g00407/impl.kind").run Tryz.prog w = .ok (226, x) w := by kernel_rfl
theorem calls_boolPart (args : Array Value) (w : World) : (callFunc 226 args).run Tryz.prog w = .ok (.enter 226 args) w := enters_of Tryz.func226 (by kernel_rfl) rfl args w
theorem meth_intPart (x : Value) (w : World) : (method 373 114 x "loop.example/g00407/impl.kind").run Tryz.prog w = .ok (227, x) w := by kernel_rfl
theorem calls_intPart (args : Array Value) (w : World) : (callFunc 227 args).run Tryz.prog w = .ok (.enter 227 args) w := enters_of Tryz.func227 (by kernel_rfl) rfl args w
theorem meth_textPart (x : Value) (w : World) : (method 373 116 x "loop.example/g00407/impl.kind").run Tryz.prog w = .ok (228, x) w := by kernel_rfl
theorem calls_textPart (args : Array Value) (w : World) : (callFunc 228 args).run Tryz.prog w = .ok (.enter 228 args) w := enters_of Tryz.func228 (by kernel_rfl) rfl args w
theorem meth_listPart (x : Value) (w : World) : (method 373 120 x "loop.example/g00407/impl.kind").run Tryz.prog w = .ok (229, x) w := by kernel_rfl
theorem calls_listPart (args : Array Value) (w : World) : (callFunc 229 args).run Tryz.prog w = .ok (.enter 229 args) w := enters_of Tryz.func229 (by kernel_rfl) rfl args w
theorem meth_mapPart (x : Value) (w : World) : (method 373 59 x "loop.example/g00407/impl.kind").run Tryz.prog w = .ok (224, x) w := by kernel_rfl
theorem calls_mapPart (args : Array Value) (w : World) : (callFunc 224 args).run Tryz.prog w = .ok (.enter 224 args) w := enters_of Tryz.func224 (by kernel_rfl) rfl args w

set_option maxHeartbeats 800000 in
theorem kind_nullPart (w : World) : Calls Tryz.prog 231 #[.agg #[]] w fun e w' => e = .returned (.int .i64 0) ∧ Below w.heap.size w w' := by
  have Hb : Hid (∀ o : Obj, Below w.heap.size w (w.alloc o)) := fun o => (Below.refl _ _).alloc (Nat.le_refl _) o
  go_enter Tryz.func231, Tryz.ntmps231
  go_wp2
  go_ret
  exact ⟨rfl, Hb.out _⟩
set_option maxHeartbeats 800000 in
theorem kind_unknownPart (w : World) : Calls Tryz.prog 232 #[.agg #[]] w fun e w' => e = .returned (.int .i64 6) ∧ Below w.heap.size w w' := by
  have Hb : Hid (∀ o : Obj, Below w.heap.size w (w.alloc o)) := fun o => (Below.refl _ _).alloc (Nat.le_refl _) o
  go_enter Tryz.func232, Tryz.ntmps232
  go_wp2
  go_ret
  exact ⟨rfl, Hb.out _⟩
set_option maxHeartbeats 800000 in
theorem kind_boolPart (n : Int) (w : World) : Calls Tryz.prog 226 #[.agg #[.int .i64 n]] w fun e w' => e = .returned (.int .i64 1) ∧ Below w.heap.size w w' := by
  have Hb : Hid (∀ o : Obj, Below w.heap.size w (w.alloc o)) := fun o => (Below.refl _ _).alloc (Nat.le_refl _) o
  go_enter Tryz.func226, Tryz.ntmps226
  go_wp2
  go_ret
  exact ⟨rfl, Hb.out _⟩
set_option maxHeartbeats 800000 in
theorem kind_intPart (n : Int) (w : World) : Calls Tryz.prog 227 #[.agg #[.int .i64 n]] w fun e w' => e = .returned (.int .i64 2) ∧ Below w.heap.size w w' := by
  have Hb : Hid (∀ o : Obj, Below w.heap.size w (w.alloc o)) := fun o => (Below.refl _ _).alloc (Nat.le_refl _) o
  go_enter Tryz.func227, Tryz.ntmps227
  go_wp2
  go_ret
  exact ⟨rfl, Hb.out _⟩
set_option maxHeartbeats 800000 in
theorem kind_textPart (s : ByteArray) (w : World) : Calls Tryz.prog 228 #[.agg #[.string s]] w fun e w' => e = .returned (.int .i64 3) ∧ Below w.heap.size w w' := by
  have Hb : Hid (∀ o : Obj, Below w.heap.size w (w.alloc o)) := fun o => (Below.refl _ _).alloc (Nat.le_refl _) o
  go_enter Tryz.func228, Tryz.ntmps228
  go_wp2
  go_ret
  exact ⟨rfl, Hb.out _⟩
set_option maxHeartbeats 800000 in
theorem kind_listPart (a : Option Addr) (n c : Nat) (w : World) : Calls Tryz.prog 229 #[.agg #[.slice a n c]] w fun e w' => e = .returned (.int .i64 4) ∧ Below w.heap.size w w' := by
  have Hb : Hid (∀ o : Obj, Below w.heap.size w (w.alloc o)) := fun o => (Below.refl _ _).alloc (Nat.le_refl _) o
  go_enter Tryz.func229, Tryz.ntmps229
  go_wp2
  go_ret
  exact ⟨rfl, Hb.out _⟩
set_option maxHeartbeats 800000 in
theorem kind_mapPart (b : Nat) (w : World) : Calls Tryz.prog 224 #[.agg #[.map (some b)]] w fun e w' => e = .returned (.int .i64 5) ∧ Below w.heap.size w w' := by
  have Hb : Hid (∀ o : Obj, Below w.heap.size w (w.alloc o)) := fun o => (Below.refl _ _).alloc (Nat.le_refl _) o
  go_enter Tryz.func224, Tryz.ntmps224
  go_wp2
  go_ret
  exact ⟨rfl, Hb.out _⟩

/-- What a call of kind leans on. -/
def KindOf (pt : TypeId) (px : Value) (vk : Int) : Prop := ∃ f : Nat, (∀ w, (method 373 pt px "loop.example/g00407/impl.kind").run Tryz.prog w = .ok (f, px) w) ∧ (∀ args w, (callFunc f args).run Tryz.prog w = .ok (.enter f args) w) ∧ ∀ w, Calls Tryz.prog f #[px] w fun e w' => e = .returned (.int .i64 vk) ∧ Below w.heap.size w w'

theorem kind_of {R : Nat → Prop} {w : World} {d : Nat} {pt : TypeId} {px : Value} {v : Vl (d + 1)} (h : PSeg R w (d + 1) (.iface pt px) v) : KindOf pt px v.1 := by
  rcases h with ⟨hk, e⟩ | ⟨hk, e⟩ | ⟨hk, e⟩ | ⟨hk, e⟩ | ⟨hk, e⟩ | ⟨hk, a, cap, e, _⟩ | ⟨hk, b, ps, e, _⟩ <;>
    simp only [Value.iface.injEq] at e <;> obtain ⟨rfl, rfl⟩ := e <;> rw [hk]
  · exact ⟨_, meth_nullPart _, calls_nullPart, kind_nullPart⟩
  · exact ⟨_, meth_unknownPart _, calls_unknownPart, kind_unknownPart⟩
  · exact ⟨_, meth_boolPart _, calls_boolPart, kind_boolPart _⟩
  · exact ⟨_, meth_intPart _, calls_intPart, kind_intPart _⟩
  · exact ⟨_, meth_textPart _, calls_textPart, kind_textPart _⟩
  · exact ⟨_, meth_listPart _, calls_listPart, kind_listPart _ _ _⟩
  · exact ⟨_, meth_mapPart _, calls_mapPart, kind_mapPart _⟩
end Go.Proofs.YtngjhimieacjhaaGreatDoor
/-
  headOk, sideOf of the program.
-/
namespace Go.Proofs.YtngjhimieacjhaaGreatDoor
open Go.RowKit Go.Shelf
set_option linter.unusedVariables false
set_option linter.unusedSimpArgs false

end Go.Proofs.YtngjhimieacjhaaGreatDoor
/-
  Rows of texts as strings, of the call's own; 'append(names, s)'.
-/
namespace Go.Proofs.YtngjhimieacjhaaGreatDoor
open Go.RowKit
set_option linter.unusedVariables false
set_option linter.unusedSimpArgs false

/-- Texts as cells of strings. -/
def strC (os : List (List Int)) : List Value := os.map fun xs => .string (strOf xs)
theorem strC_len (os : List (List Int)) : (strC os).length = os.length := by simp [strC]

theorem info9 : (Tryz.prog.info? 9).map (fun i => (i.zero, i.size, i.bytes)) = some (some (.string ⟨#[]⟩), 1, 16) := by kernel_rfl

/-- A row of the call's own that holds texts. -/
def SR (w : World) (base : Nat) (v : Value) (os : List (List Int)) : Prop := w.ownsRow base 9 1 v os.length (strC os)

theorem SR.shape {w : World} {base : Nat} {v : Value} {os : List (List Int)} (h : SR w base v os) : ∃ a cap, v = .slice a os.length cap := by
  obtain ⟨h2, h3⟩ := h
  rcases h3 with ⟨rfl, h0⟩ | ⟨g, cap, cur, rfl, _⟩
  · exact ⟨none, 0, by rw [h0]⟩
  · exact ⟨_, _, rfl⟩

theorem grown_on {w w1 w2 : World} {r r' : Option Nat} (h : w.grownBy w1 r) (k : w1.grownBy w2 r') (hr : ∀ j, r' = some j → r = some j ∨ w.heap.size ≤ j) : w.grownBy w2 r :=
  ⟨k.os.trans h.os, k.tape.trans h.tape, k.output.trans h.output, Nat.le_trans h.size k.size, fun i hi hne => (k.block i (Nat.lt_of_lt_of_le hi h.size) (fun e => by
    rcases hr i e.symm with h1 | h1
    · exact hne h1.symm
    · omega)).trans (h.block i hi hne)⟩

theorem loc_alloc {w : World} {o : Obj} {r r' : Option Nat} (h : ∀ g, r' = some g → r = some g ∨ (w.alloc o).heap.size ≤ g) : ∀ g, r' = some g → r = some g ∨ w.heap.size ≤ g := fun g hg => by
  rcases h g hg with k | k
  · exact .inl k
  · exact .inr (by simp at k; omega)

/-- 'append(names, s)'. -/
theorem wpList_SR_add {w : World} {ops : Array Oper} {rest : List Oper} {o : Oper} {a : Act} {Q : Exit → Act → World → Prop} (hgd : o.guard = none) (s x : Operand)
    (ho : o.op = .call { callee := .builtin .append, args := #[s, x], argTypes := #[60, 60] }) (base : Nat) (v : Value) (os : List (List Int)) (xs : List Int) (hs : a.eval s = v) (hR : SR w base v os)
    (q : Nat) (hq : w.heap.size = q) (hx : a.eval x = .slice (some ⟨q, 0, none⟩) 1 1) (n : Nat) (hn : os.length = n) (hlen : n ≤ 100000) (hbase : base ≤ w.heap.size)
    (h : ∀ a' c' w', SR w' base (.slice a' (n + 1) c') (os ++ [xs]) → w.grownBy w' v.ownBlock → (∀ g, (Value.slice a' (n + 1) c').ownBlock = some g → v.ownBlock = some g ∨ w.heap.size ≤ g) → wpList Tryz.prog ops Q rest (a.put o.dst (.slice a' (n + 1) c')) w') : wpList Tryz.prog ops Q (o :: rest) a (w.alloc (.cells #[.string (strOf xs)] 9)) := by
  subst hq
  obtain ⟨i9, hi9, hy0, hy1, hy2⟩ := info_parts info9
  have hown := World.ownsRow.alloc hR (.cells #[.string (strOf xs)] 9)
  refine wpList_append_own_at (w := w.alloc (.cells #[.string (strOf xs)] 9)) hgd s x 60 ho base 9 i9 (.string ⟨#[]⟩) 1 16 Tryz.underlying60 hi9 hy0 hy1 hy2 rfl (by decide) v os.length (strC os) hs hown ⟨w.heap.size, 0, none⟩ 1 1 [.string (strOf xs)] hx rfl (cell_one_new _ _ _) (by intro z hz; simp at hz; rw [hz]; rfl) (by unfold maxLen; omega) (by omega) (by simp; omega) ?_
  intro v' w' ho' hg' _ hloc
  have k1 : SR w' base v' (os ++ [xs]) := by
    show w'.ownsRow base 9 1 v' (os ++ [xs]).length (strC (os ++ [xs]))
    have e1 : strC (os ++ [xs]) = strC os ++ [.string (strOf xs)] := by simp [strC]
    rw [e1, List.length_append, List.length_singleton]
    exact ho'
  obtain ⟨a', c', e⟩ := k1.shape
  rw [List.length_append, List.length_singleton, hn] at e
  subst e
  refine h a' c' w' k1 (grownBy_trans (World.grownBy_alloc w _ _) hg') fun g hg => ?_
  rcases hloc with e2 | e2
  · exact .inl (e2.symm.trans hg)
  · rw [e2] at hg
    simp at hg
    exact .inr (by omega)
end Go.Proofs.YtngjhimieacjhaaGreatDoor
