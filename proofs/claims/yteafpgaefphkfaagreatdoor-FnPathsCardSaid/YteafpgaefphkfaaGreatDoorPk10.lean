/-
  Texts that a law leans on, one behind the other; no statement is proved here.
-/
import Derived.Test.YteafpgaefphkfaaGreatDoorPk9
import Derived.Deep.AppendLies
import Derived.Deep.RegionWith
import Derived.Test.YteafpgaefphkfaaGreatDoorPk8
import Derived.Test.YteafpgaefphkfaaGreatDoorPk4
import Derived.Test.YteafpgaefphkfaaGreatDoorPk3
import Derived.Test.YteafpgaefphkfaaGreatDoorPk1
import Derived.Deep.RegionHeld3
/-
  A row that is being appended to, each of its items in blocks of its own.
-/
namespace Go.Proofs.YteafpgaefphkfaaGreatDoor
open Go.RowKit
set_option linter.unusedVariables false
set_option linter.unusedSimpArgs false

theorem flatten_at (s : Nat) : ∀ (cs : List (List Value)), (∀ c ∈ cs, c.length = s) → ∀ i, i < cs.length → ∀ j, j < s → cs.flatten[i * s + j]? = (cs.getD i [])[j]? := by
  intro cs
  induction cs with
  | nil => intro _ i hi; simp at hi
  | cons c cs ih =>
    intro hl i hi j hj
    have hc := hl c (by simp)
    rw [List.flatten_cons]
    cases i with
    | zero => rw [List.getElem?_append_left (by omega)]; simp
    | succ i =>
      have hge : s ≤ (i + 1) * s + j := by rw [Nat.add_mul, Nat.one_mul]; omega
      rw [List.getElem?_append_right (by omega), hc]
      have he : (i + 1) * s + j - s = i * s + j := by rw [Nat.add_mul, Nat.one_mul]; omega
      rw [he, ih (fun c' h => hl c' (by simp [h])) i (by simpa using hi) j hj]
      simp

/-- A row of n items that lies from block 'base' on; item i has the cells cs[i], and what it reaches lies in the blocks Bi[i]. -/
def RW (T : TypeId) (s : Nat) (It : World → Nat → List Value → List Nat → Prop) (w : World) (base : Nat) (x : Value) (n : Nat) (cs : List (List Value)) (Bi : List (List Nat)) : Prop :=
  cs.length = n ∧ Bi.length = n ∧ w.ownsRow base T s x n cs.flatten ∧ (∀ i, i < n → It w i (cs.getD i []) (Bi.getD i [])) ∧ (x.ownBlock.toList ++ Bi.flatten).Nodup ∧ ∀ b ∈ x.ownBlock.toList ++ Bi.flatten, base ≤ b ∧ b < w.heap.size

theorem RW.nil (T : TypeId) (s : Nat) (It : World → Nat → List Value → List Nat → Prop) (w : World) (base : Nat) : RW T s It w base (.slice none 0 0) 0 [] [] :=
  ⟨rfl, rfl, ⟨by simp, .inl ⟨rfl, rfl⟩⟩, fun i hi => by omega, by simp [Value.ownBlock], by simp [Value.ownBlock]⟩

theorem mem_flat {Bi : List (List Nat)} {i b : Nat} (h : b ∈ Bi.getD i []) : b ∈ Bi.flatten := by
  rw [List.getD_eq_getElem?_getD] at h
  cases hi : Bi[i]? with
  | none => rw [hi] at h; simp at h
  | some l => rw [hi] at h; exact List.mem_flatten.2 ⟨l, List.mem_of_getElem? hi, h⟩

/-- It stands where its blocks do. -/
theorem RW.agree {T : TypeId} {s : Nat} {It : World → Nat → List Value → List Nat → Prop} (hIt : ∀ w w' i c B, It w i c B → Agree (fun b => b ∈ B) w w' → It w' i c B) {w w' : World} {base : Nat} {x : Value} {n : Nat} {cs : List (List Value)} {Bi : List (List Nat)}
    (h : RW T s It w base x n cs Bi) (ha : Agree (fun b => b ∈ x.ownBlock.toList ++ Bi.flatten) w w') (hz : w.heap.size ≤ w'.heap.size) : RW T s It w' base x n cs Bi := by
  obtain ⟨h1, h2, h3, h4, h5, h6⟩ := h
  refine ⟨h1, h2, ⟨h3.1, ?_⟩, fun i hi => hIt _ _ _ _ _ (h4 i hi) fun b hb => ha b (by simp only [List.mem_append]; exact .inr (mem_flat hb)), h5, fun b hb => ⟨(h6 b hb).1, Nat.lt_of_lt_of_le (h6 b hb).2 hz⟩⟩
  rcases h3.2 with h0 | ⟨g, cap, cur, rfl, hb, hh, r⟩
  · exact .inl h0
  · exact .inr ⟨g, cap, cur, rfl, hb, (ha g (by simp [Value.ownBlock])).trans hh, r⟩

/-- One item more. -/
theorem RW.add {T : TypeId} {s : Nat} {It : World → Nat → List Value → List Nat → Prop} (hIt : ∀ w w' i c B, It w i c B → Agree (fun b => b ∈ B) w w' → It w' i c B) {w w2 w3 : World} {base : Nat} {x : Value} {n : Nat} {cs : List (List Value)} {Bi : List (List Nat)} {c : List Value} {Bv : List Nat} {g cap : Nat}
    (h : RW T s It w base x n cs Bi) (ha : ∀ b, b < w.heap.size → w2.heap[b]? = w.heap[b]?) (hz : w.heap.size ≤ w2.heap.size) (hc : It w2 n c Bv) (hBv : ∀ b ∈ Bv, w.heap.size ≤ b ∧ b < w2.heap.size) (hBn : Bv.Nodup) (hbase : base ≤ w.heap.size)
    (hown : w3.ownsRow base T s (.slice (some ⟨g, 0, none⟩) (n + 1) cap) (n + 1) (cs.flatten ++ c)) (hg : w2.grownBy w3 x.ownBlock) (hat : x.ownBlock = some g ∨ g = w2.heap.size) :
    RW T s It w3 base (.slice (some ⟨g, 0, none⟩) (n + 1) cap) (n + 1) (cs ++ [c]) (Bi ++ [Bv]) := by
  obtain ⟨h1, h2, h3, h4, h5, h6⟩ := h
  have hlt := hown.lt g rfl
  have hsz := hg.size
  have hfl : ∀ b ∈ Bi.flatten, base ≤ b ∧ b < w.heap.size := fun b hb => h6 b (by simp only [List.mem_append]; exact .inr hb)
  have hdis : ∀ b ∈ Bi.flatten, x.ownBlock ≠ some b := by
    intro b hb hx
    rw [hx] at h5
    simp only [Option.toList_some, List.nodup_append] at h5
    exact h5.2.2 b (by simp) b hb rfl
  have hxb : ∀ b, x.ownBlock = some b → b < w.heap.size := fun b hb => (h3.lt b hb).2
  refine ⟨by simp [h1], by simp [h2], by simpa using hown, fun i hi => ?_, ?_, ?_⟩
  · by_cases hin : i < n
    · have e1 : (cs ++ [c]).getD i [] = cs.getD i [] := by simp [List.getD_eq_getElem?_getD, List.getElem?_append_left (show i < cs.length by omega)]
      have e2 : (Bi ++ [Bv]).getD i [] = Bi.getD i [] := by simp [List.getD_eq_getElem?_getD, List.getElem?_append_left (show i < Bi.length by omega)]
      rw [e1, e2]
      refine hIt _ _ _ _ _ (h4 i hin) fun b hb => ?_
      have hm := mem_flat hb
      have hb' := hfl b hm
      exact (hg.block b (by omega) (fun e => hdis b hm e.symm)).trans (ha b hb'.2)
    · have hin' : i = n := by omega
      subst hin'
      have e1 : (cs ++ [c]).getD i [] = c := by rw [← h1]; simp [List.getD_eq_getElem?_getD]
      have e2 : (Bi ++ [Bv]).getD i [] = Bv := by rw [← h2]; simp [List.getD_eq_getElem?_getD]
      rw [e1, e2]
      refine hIt _ _ _ _ _ hc fun b hb => ?_
      have hb' := hBv b hb
      exact hg.block b hb'.2 (fun e => by have := hxb b e.symm; omega)
  · have hmid : (Bi.flatten ++ Bv).Nodup := by
      rw [List.nodup_append]
      refine ⟨(List.nodup_append.1 h5).2.1, hBn, fun a ha' b hb' => ?_⟩
      have := hfl a ha'
      have := hBv b hb'
      omega
    have hgn : g ∉ Bi.flatten ++ Bv := by
      intro hm
      rcases hat with hx | hx
      · rcases List.mem_append.1 hm with h' | h'
        · exact hdis g h' hx
        · have := hBv g h'
          have := hxb g hx
          omega
      · rcases List.mem_append.1 hm with h' | h'
        · have := hfl g h'; omega
        · have := hBv g h'; omega
    simp only [Value.ownBlock, Option.toList_some, List.flatten_append, List.flatten_singleton, List.singleton_append]
    exact List.nodup_cons.2 ⟨hgn, hmid⟩
  · intro b hb
    simp only [Value.ownBlock, Option.toList_some, List.flatten_append, List.flatten_singleton, List.singleton_append, List.mem_cons, List.mem_append] at hb
    rcases hb with rfl | hb | hb
    · exact hlt
    · have := hfl b hb; omega
    · have := hBv b hb; omega

/-- A value's five cells. -/
def enc5 (e : Value × Value × Value × Value × Value) : List Value := [e.1, e.2.1, e.2.2.1, e.2.2.2.1, e.2.2.2.2]

/-- Item i is the value l[i]. -/
def ItV (d : Nat) (l : List (Vl d)) (w : World) (i : Nat) (c : List Value) (B : List Nat) : Prop := ∃ e, c = enc5 e ∧ ∃ h : i < l.length, VOwn w d e l[i] B

/-- Item i is the text ks[i]. -/
def ItK (ks : List (List Int)) (w : World) (i : Nat) (c : List Value) (B : List Nat) : Prop := ∃ u, c = [u] ∧ TOwn w u (ks.getD i []) B

theorem ItV.agree (d : Nat) (l : List (Vl d)) : ∀ w w' i c B, ItV d l w i c B → Agree (fun b => b ∈ B) w w' → ItV d l w' i c B := by
  rintro w w' i c B ⟨e, rfl, h, hv⟩ ha
  exact ⟨e, rfl, h, VOwn.agree d hv ha⟩

theorem ItK.agree (ks : List (List Int)) : ∀ w w' i c B, ItK ks w i c B → Agree (fun b => b ∈ B) w w' → ItK ks w' i c B := by
  rintro w w' i c B ⟨u, rfl, hv⟩ ha
  exact ⟨u, rfl, hv.agree ha⟩

theorem getD_of_mem {α : Type} {cs : List α} {c z : α} (h : c ∈ cs) : ∃ i, i < cs.length ∧ cs.getD i z = c := by
  obtain ⟨i, hi, e⟩ := List.getElem_of_mem h
  exact ⟨i, hi, by simp [List.getD_eq_getElem?_getD, hi, e]⟩

/-- All of it: a list of values of the call's own. -/
theorem RW.lown {w : World} {base d : Nat} {x : Value} {l : List (Vl d)} {cs : List (List Value)} {Bi : List (List Nat)} (h : RW 29 5 (ItV d l) w base x l.length cs Bi) : LOwn w d x l (x.ownBlock.toList ++ Bi.flatten) := by
  obtain ⟨h1, h2, h3, h4, h5, h6⟩ := h
  have hl5 : ∀ c ∈ cs, c.length = 5 := by
    intro c hc
    obtain ⟨i, hi, e⟩ := getD_of_mem (z := []) hc
    obtain ⟨e', he, _⟩ := h4 i (by omega)
    rw [← e, he]
    rfl
  rcases h3.2 with ⟨rfl, h0⟩ | ⟨g, cap, cur, rfl, hb, hh, hn, hm, hs, ht⟩
  · have hl0 : l = [] := List.eq_nil_of_length_eq_zero h0
    have hb0 : Bi = [] := List.eq_nil_of_length_eq_zero (by omega)
    subst hl0 hb0
    exact .inl ⟨rfl, rfl, rfl⟩
  · refine .inr ⟨g, cap, cur, Bi, rfl, hh, hn, hm, hs, h2, fun i hi => ?_, rfl, h5⟩
    obtain ⟨e, he, _, hv⟩ := h4 i hi
    have hcell : ∀ j, j < 5 → cur[i * 5 + j]? = (enc5 e)[j]? := by
      intro j hj
      have hf := flatten_at 5 cs hl5 i (by omega) j hj
      rw [he, ← ht, List.getElem?_take_of_lt (by omega), Array.getElem?_toList] at hf
      exact hf
    exact ⟨e, ⟨hcell 0 (by omega), hcell 1 (by omega), hcell 2 (by omega), hcell 3 (by omega), hcell 4 (by omega)⟩, hv⟩

/-- All of it: a list of texts of the call's own. -/
theorem RW.kown {w : World} {base : Nat} {x : Value} {ks : List (List Int)} {cs : List (List Value)} {Bi : List (List Nat)} (h : RW 22 1 (ItK ks) w base x ks.length cs Bi) : KOwn w x ks (x.ownBlock.toList ++ Bi.flatten) := by
  obtain ⟨h1, h2, h3, h4, h5, h6⟩ := h
  have hl1 : ∀ c ∈ cs, c.length = 1 := by
    intro c hc
    obtain ⟨i, hi, e⟩ := getD_of_mem (z := []) hc
    obtain ⟨e', he, _⟩ := h4 i (by omega)
    rw [← e, he]
    rfl
  rcases h3.2 with ⟨rfl, h0⟩ | ⟨g, cap, cur, rfl, hb, hh, hn, hm, hs, ht⟩
  · have hl0 : ks = [] := List.eq_nil_of_length_eq_zero h0
    have hb0 : Bi = [] := List.eq_nil_of_length_eq_zero (by omega)
    subst hl0 hb0
    exact .inl ⟨rfl, rfl, rfl⟩
  · refine .inr ⟨g, cap, cur, Bi, rfl, hh, hn, hm, by omega, h2, fun i hi => ?_, rfl, h5⟩
    obtain ⟨u, he, hv⟩ := h4 i hi
    have hcell : cur[i]? = some u := by
      have hf := flatten_at 1 cs hl1 i (by omega) 0 (by omega)
      rw [he, ← ht, List.getElem?_take_of_lt (by omega), Array.getElem?_toList] at hf
      simpa using hf
    exact ⟨u, hcell, hv⟩
end Go.Proofs.YteafpgaefphkfaaGreatDoor
/-
  eqByteSS, eqValueS, eqValue of the laws: of two readings of the same they answer true, and turn nothing old.
-/
namespace Go.Proofs.YteafpgaefphkfaaGreatDoor
open Go.RowKit
set_option linter.unusedVariables false

end Go.Proofs.YteafpgaefphkfaaGreatDoor
/-
  The laws' own helper markValueS: running numbers written into a list of values of the call's own, at every depth; markValue.
-/
namespace Go.Proofs.YteafpgaefphkfaaGreatDoor
open Go.RowKit
set_option linter.unusedVariables false
set_option linter.unusedSimpArgs false

theorem LOwn.lt {w : World} {d : Nat} {x : Value} {l : List (Vl d)} {B : List Nat} (h : LOwn w d x l B) : ∀ b ∈ B, b < w.heap.size := by
  intro b hb
  rcases h with ⟨_, _, rfl⟩ | ⟨g, cap, cur, Bi, _, h2, _, _, _, h6, h7, rfl, _⟩
  · simp at hb
  · rcases List.mem_cons.1 hb with rfl | hb
    · exact (Array.getElem?_eq_some_iff.1 h2).1
    · obtain ⟨q, hq, hbq⟩ := List.mem_flatten.1 hb
      obtain ⟨i, hi, rfl⟩ := List.getElem_of_mem hq
      obtain ⟨e, _, hv⟩ := h7 i (by omega)
      exact VOwn.lt d hv b (by simpa [List.getD_eq_getElem?_getD, hi] using hbq)

/-- One value of a list while it is marked. -/
def MkSt (wr : World) (g : Nat) (cur : Array Value) (d : Nat) (c2 c3 c4 : Value) (S : List Int) (K : List (List Int)) (L : List (Vl d)) (Bs Bk Bl : List Nat) (wx : World) : Prop :=
  TOwn wx c2 S Bs ∧ KOwn wx c3 K Bk ∧ LOwn wx d c4 L Bl ∧ wx.heap[g]? = some (.cells cur 29 (0, 0)) ∧ Turned (g :: (Bs ++ (Bk ++ Bl))) wr wx

section
variable {wr : World} {g : Nat} {cur : Array Value} {d : Nat} {c2 c3 c4 : Value} {S S2 : List Int} {K K2 : List (List Int)} {L L2 : List (Vl d)} {Bs Bk Bl : List Nat} {wx wy : World}

theorem nd_parts (h : (g :: (Bs ++ (Bk ++ Bl))).Nodup) : g ∉ Bs ∧ g ∉ Bk ∧ g ∉ Bl ∧ (∀ b ∈ Bk, b ∉ Bs) ∧ (∀ b ∈ Bl, b ∉ Bs) ∧ (∀ b ∈ Bl, b ∉ Bk) := by
  rw [List.nodup_cons, List.nodup_append, List.nodup_append] at h
  obtain ⟨h1, _, ⟨_, _, h4⟩, h5⟩ := h
  simp only [List.mem_append, not_or] at h1
  refine ⟨h1.1, h1.2.1, h1.2.2, fun b hb hs => h5 b hs b (List.mem_append_left _ hb) rfl, fun b hb hs => h5 b hs b (List.mem_append_right _ hb) rfl, fun b hb hk => h4 b hk b hb rfl⟩

theorem MkSt.text (h : MkSt wr g cur d c2 c3 c4 S K L Bs Bk Bl wx) (hnd : (g :: (Bs ++ (Bk ++ Bl))).Nodup) (ht : TOwn wy c2 S2 Bs) (hT : Turned Bs wx wy) : MkSt wr g cur d c2 c3 c4 S2 K L Bs Bk Bl wy := by
  obtain ⟨n1, n2, n3, n4, n5, n6⟩ := nd_parts hnd
  obtain ⟨h1, h2, h3, h4, h5⟩ := h
  exact ⟨ht, h2.agree fun b hb => hT.block b (h2.lt b hb) (n4 b hb), LOwn.agree h3 fun b hb => hT.block b (h3.lt b hb) (n5 b hb), (hT.block g (Array.getElem?_eq_some_iff.1 h4).1 n1).trans h4, h5.trans (hT.mono fun b hb => List.mem_cons_of_mem _ (List.mem_append_left _ hb))⟩

theorem MkSt.list (h : MkSt wr g cur d c2 c3 c4 S K L Bs Bk Bl wx) (hnd : (g :: (Bs ++ (Bk ++ Bl))).Nodup) (ht : LOwn wy d c4 L2 Bl) (hT : Turned Bl wx wy) : MkSt wr g cur d c2 c3 c4 S K L2 Bs Bk Bl wy := by
  obtain ⟨n1, n2, n3, n4, n5, n6⟩ := nd_parts hnd
  obtain ⟨h1, h2, h3, h4, h5⟩ := h
  exact ⟨h1.agree fun b hb => hT.block b (h1.lt b hb) (fun hm => n5 b hm hb), h2.agree fun b hb => hT.block b (h2.lt b hb) (fun hm => n6 b hm hb), ht, (hT.block g (Array.getElem?_eq_some_iff.1 h4).1 n3).trans h4, h5.trans (hT.mono fun b hb => List.mem_cons_of_mem _ (List.mem_append_right _ (List.mem_append_right _ hb)))⟩

end

end Go.Proofs.YteafpgaefphkfaaGreatDoor
/-
  PathText of the program and of the specification: what a path is as a text.
-/
namespace Go.Proofs.YteafpgaefphkfaaGreatDoor
open Go.RowKit
set_option linter.unusedVariables false
set_option linter.unusedSimpArgs false
set_option maxRecDepth 100000

/-- A step as a text. -/
def stpT (s : Stp) : List Int := if s.1 = 0 then [46] ++ s.2.1 else [91] ++ decI s.2.2.toNat ++ [93]
/-- A path as a text. -/
def pathT (l : List Stp) : List Int := if pathB l = true then (l.map stpT).flatten else []

theorem name_len {xs : List Int} (h : nameB xs = true) : xs.length ≤ 8 := by
  simp only [nameB, Bool.and_eq_true, decide_eq_true_eq] at h
  exact h.1.2

theorem stpT_len {s : Stp} (h : stpB s = true) : (stpT s).length ≤ 9 := by
  obtain ⟨k, ss, i⟩ := s
  unfold stpT
  by_cases h0 : k = 0
  · subst h0
    rw [stpB_key] at h
    simp only [Bool.and_eq_true] at h
    have := name_len h.1
    simp
    omega
  · by_cases h1 : k = 1
    · subst h1
      rw [stpB_item] at h
      simp only [Bool.and_eq_true, decide_eq_true_eq] at h
      have := decI_two (u := i.toNat) (by omega)
      simp
      omega
    · rw [stpB_none k ss i h0 h1] at h
      simp at h

/-- A box of another type is not the row. -/
theorem bts_ne {w : World} {B : Nat} {v : Value} {xs : List Int} {g : Nat} {cs : Array Value} {T : TypeId} {fr : Nat × Nat} (h : Bts w B v xs) (hb : w.heap[g]? = some (.cells cs T fr)) (hT : T ≠ 5) : some g ≠ v.ownBlock := by
  intro e
  rcases h.2.2 with ⟨rfl, _⟩ | ⟨g', cap, cur, rfl, _, hh, _⟩
  · simp [Value.ownBlock] at e
  · simp [Value.ownBlock] at e
    subst e
    rw [hh] at hb
    simp at hb
    exact hT hb.2.1.symm

set_option maxHeartbeats 1600000 in
theorem appendStep_key (N B : Nat) (v : Value) (xs ss : List Int) (i : Int) (a : Option Addr) (p : Nat) (w : World) (hk : TSeg (fun b => b < N) w (.slice a ss.length p) ss) (hB : Bts w B v xs) (hN : N ≤ B) (hBw : B ≤ w.heap.size) (hl : xs.length ≤ 1000) (hs : ss.length ≤ 8) :
    Calls Tryz.prog 25 #[v, .agg #[.int .i64 0, .slice a ss.length p, .int .i64 i]] w fun e w' => ∃ v', e = .returned v' ∧ Bts w' B v' (xs ++ ([46] ++ ss)) ∧ Below B w w' := by
  obtain ⟨a', p', e, sa, lp, mp, ka, ra⟩ := hk
  simp only [Value.slice.injEq] at e
  obtain ⟨rfl, _, rfl⟩ := e
  obtain ⟨va, vc, rfl, _⟩ := hB.shape
  have hbl : ∀ o o2 : Obj, Below w.heap.size w ((w.alloc o).alloc o2).drew := fun o o2 => (((Below.refl _ _).alloc (Nat.le_refl _) o).alloc (by simp) o2).drew
  have HBl := hide' hbl
  have HA1 : Hid (∀ o o2 : Obj, Bts ((w.alloc o).alloc o2).drew B (.slice va xs.length vc) xs) := fun o o2 => (hB.alloc o).alloc o2
  have HS1 : Hid (∀ (o : Obj) (c : Int), Byt c → Seg ((w.alloc o).alloc (.cells #[.int .u8 c] 5)).drew (some ⟨w.heap.size + 1, 0, none⟩) [c]) := fun o c hc => by
    have := seg_one (w.alloc o) c hc
    simp only [World.size_alloc] at this
    exact this
  have Hbx : Hid (∀ o o2 : Obj, ((w.alloc o).alloc o2).drew.heap[w.heap.size]? = some o) := fun o o2 => (two_boxes w o o2).1
  have Hsa : Hid (∀ wx, Below B w wx → Seg wx a ss) := fun wx hb => sa.below hb fun x hx hne => by have := ra x hx hne; omega
  have hown := hB.own
  have HOwn := hide' hown
  generalize hn : ss.length = n at *
  have Hn : Hid (n = ss.length) := hn.symm
  generalize hx : xs.length = m at *
  have Hx : Hid (m = xs.length) := hx.symm
  have hlt0 : ∀ k, (Value.slice va m vc).ownBlock = some k → k < w.heap.size := fun k hk => (hB.2.lt k hk).2
  have HLt := hide' hlt0
  clear hn hx hbl sa hown hB hlt0 ra
  go_enter Tryz.func25, Tryz.ntmps25
  go_wp2
  go_region_held3 (fun wx => wx.cell? ⟨w.heap.size, 1, none⟩ = some (.slice a n p)) (go_keep) (first
    | (refine step_append_seg (by rfl) (.tmp 8) (.tmp 9) (by rfl) B (.slice va m vc) xs [46] (by rfl) (by exact HA1.out _ _) (some ⟨w.heap.size + 1, 0, none⟩) 1 1 rfl (by rfl) (by exact HS1.out _ 46 (by simp [Byt])) (by simp) (by have := Hx.out; simp; omega) (by simp; omega) ?_; intro v1 w1 hv1 hg1; have hb1 := hide' (((HBl.out _ _).mono hBw).grown hg1 (by simp; omega) HOwn.out); have hx1 := (hg1.block w.heap.size (by simp; omega) (fun e => by have := HLt.out _ e.symm; omega)).trans (Hbx.out _ _); obtain ⟨_, r1, _, _⟩ := row3 hx1; have hs1 := hide' (Hsa.out _ hb1.out); have hz1 := hb1.out.size; replace hv1 := hide' hv1; replace hx1 := hide' hx1; clear hg1)
    | (refine step_append_seg (by rfl) (.tmp 10) (.tmp 12) (by rfl) B v1 (xs ++ [46]) ss (by rfl) (by exact hv1.out) a n p Hn.out (by rfl) (by exact hs1.out) ka (by have := Hx.out; have := Hn.out; simp; omega) (by omega) ?_; intro v2 w2 hv2 hg2; have hb2 := hide' (hb1.out.grown hg2 (by omega) hv1.out.own); obtain ⟨_, r2, _, _⟩ := row3 ((hg2.block w.heap.size (Array.getElem?_eq_some_iff.1 hx1.out).1 (bts_ne hv1.out hx1.out (by decide))).trans hx1.out); replace hv2 := hide' hv2; clear hg2))
  go_wp2
  go_ret
  exact ⟨_, rfl, by have := hv2.out; rw [List.append_assoc] at this; exact this, hb2.out⟩

set_option maxHeartbeats 1600000 in
theorem appendStep_item (B u : Nat) (v c1 : Value) (xs : List Int) (w : World) (hc1 : ∃ a n p, c1 = .slice a n p) (hB : Bts w B v xs) (hBw : B ≤ w.heap.size) (hl : xs.length ≤ 1000) (hu : u < 40) :
    Calls Tryz.prog 25 #[v, .agg #[.int .i64 1, c1, .int .i64 u]] w fun e w' => ∃ v', e = .returned v' ∧ Bts w' B v' (xs ++ ([91] ++ decI u ++ [93])) ∧ Below B w w' := by
  obtain ⟨ca, cn, cp, rfl⟩ := hc1
  obtain ⟨va, vc, rfl, _⟩ := hB.shape
  have hbl : ∀ o o2 : Obj, Below w.heap.size w ((w.alloc o).alloc o2).drew := fun o o2 => (((Below.refl _ _).alloc (Nat.le_refl _) o).alloc (by simp) o2).drew
  have HBl := hide' hbl
  have HA1 : Hid (∀ o o2 : Obj, Bts ((w.alloc o).alloc o2).drew B (.slice va xs.length vc) xs) := fun o o2 => (hB.alloc o).alloc o2
  have HS1 : Hid (∀ (o : Obj) (c : Int), Byt c → Seg ((w.alloc o).alloc (.cells #[.int .u8 c] 5)).drew (some ⟨w.heap.size + 1, 0, none⟩) [c]) := fun o c hc => by
    have := seg_one (w.alloc o) c hc
    simp only [World.size_alloc] at this
    exact this
  have Hbx : Hid (∀ o o2 : Obj, ((w.alloc o).alloc o2).drew.heap[w.heap.size]? = some o) := fun o o2 => (two_boxes w o o2).1
  have hown := hB.own
  have HOwn := hide' hown
  have HI : Hid (∀ (v : Value) (w1 : World), Bts w1 B v (xs ++ [91]) → B ≤ w1.heap.size → Calls Tryz.prog 40 #[v, .int .i64 u, .int .i64 10] w1 fun e w' => ∃ v', e = .returned v' ∧ Bts w' B v' (xs ++ [91] ++ decI u) ∧ Below B w1 w' ∧ Lib.OthersKept 5 none w1 w') := fun v w1 hv hz => AppendInt_kept B u v (xs ++ [91]) w1 (by omega) hv hz (by simp; omega)
  have hd2 := decI_two (u := u) (by omega)
  generalize hx : xs.length = m at *
  have Hx : Hid (m = xs.length) := hx.symm
  have hlt0 : ∀ k, (Value.slice va m vc).ownBlock = some k → k < w.heap.size := fun k hk => (hB.2.lt k hk).2
  have HLt := hide' hlt0
  clear hx hbl hown hB hlt0
  go_enter Tryz.func25, Tryz.ntmps25
  go_wp2
  go_region_held3 (fun wx => wx.cell? ⟨w.heap.size, 2, none⟩ = some (.int .i64 u)) (go_keep) (first
    | (refine step_append_seg (by rfl) (.tmp 14) (.tmp 15) (by rfl) B (.slice va m vc) xs [91] (by rfl) (by exact HA1.out _ _) (some ⟨w.heap.size + 1, 0, none⟩) 1 1 rfl (by rfl) (by exact HS1.out _ 91 (by simp [Byt])) (by simp) (by have := Hx.out; simp; omega) (by simp; omega) ?_; intro v1 w1 hv1 hg1; have hb1 := hide' (((HBl.out _ _).mono hBw).grown hg1 (by simp; omega) HOwn.out); have hx1 := (hg1.block w.heap.size (by simp; omega) (fun e => by have := HLt.out _ e.symm; omega)).trans (Hbx.out _ _); obtain ⟨_, _, r1, _⟩ := row3 hx1; have hz1 := hb1.out.size; replace hv1 := hide' hv1; replace hx1 := hide' hx1; clear hg1)
    | (go_at_call 40; refine (HI.out _ _ hv1.out (by omega)).mono ?_; rintro e w2 ⟨v2, rfl, hv2, b2, k2⟩; have hb2 := hide' (hb1.out.trans b2); obtain ⟨_, _, r2, _⟩ := row3 (k2 w.heap.size _ hx1.out (by simp) (by simp)); have hz2 := hb2.out.size; replace hv2 := hide' hv2; clear b2 k2))
  have hA2 := hv2.out.alloc (.cells #[.int .u8 93] 5)
  have hS2 := seg_one w2 93 (by simp [Byt])
  have hB2a := hb2.out.alloc (by omega) (.cells #[.int .u8 93] 5)
  go_wp2_with (at_builtin; refine wpList_append_seg rfl (.tmp 20) (.tmp 21) (by rfl) B v2 (xs ++ [91] ++ decI u) [93] (by rfl) hA2 _ 1 1 rfl (by rfl) hS2 (by simp) (by have := Hx.out; simp; omega) (by simp; omega) ?_; intro v3 w3 hv3 hg3; have hB3 := hide' (hB2a.grown hg3 (by simp; omega) hA2.own); replace hv3 := hide' hv3; clear hg3 hA2 hS2 hB2a)
  go_ret
  exact ⟨_, rfl, by have := hv3.out; simpa [List.append_assoc] using this, hB3.out⟩

theorem appendStep_any (N B : Nat) (v : Value) (xs : List Int) (c0 c1 c2 : Value) (s : Stp) (w : World) (hs : StSeg (fun b => b < N) w (c0, c1, c2) s) (hok : stpB s = true) (hB : Bts w B v xs) (hN : N ≤ B) (hBw : B ≤ w.heap.size) (hl : xs.length ≤ 1000) :
    Calls Tryz.prog 25 #[v, .agg #[c0, c1, c2]] w fun e w' => ∃ v', e = .returned v' ∧ Bts w' B v' (xs ++ stpT s) ∧ Below B w w' := by
  obtain ⟨k, ss, i⟩ := s
  obtain ⟨e0, ht, e2⟩ := hs
  simp only at e0 ht e2
  subst e0
  subst e2
  by_cases h0 : k = 0
  · subst h0
    rw [stpB_key] at hok
    simp only [Bool.and_eq_true] at hok
    have ht' := ht
    obtain ⟨a, p, rfl, _⟩ := ht
    exact appendStep_key N B v xs ss i a p w ht' hB hN hBw hl (name_len hok.1)
  · by_cases h1 : k = 1
    · subst h1
      rw [stpB_item] at hok
      simp only [Bool.and_eq_true, decide_eq_true_eq] at hok
      obtain ⟨u, rfl⟩ : ∃ u : Nat, i = u := ⟨i.toNat, by omega⟩
      obtain ⟨a, p, rfl, _⟩ := ht
      exact appendStep_item B u v _ xs w ⟨_, _, _, rfl⟩ hB hBw hl (by omega)
    · rw [stpB_none k ss i h0 h1] at hok
      simp at hok

/-- The text of the first k steps. -/
def preT (l : List Stp) (k : Nat) : List Int := ((l.take k).map stpT).flatten
theorem preT_zero (l : List Stp) : preT l 0 = [] := by simp [preT]
theorem preT_succ (l : List Stp) (k : Nat) (h : k < l.length) : preT l (k + 1) = preT l k ++ stpT l[k] := by
  unfold preT
  rw [List.take_succ_eq_append_getElem h, List.map_append, List.flatten_append]
  simp
theorem preT_all (l : List Stp) : preT l l.length = (l.map stpT).flatten := by simp [preT]
theorem preT_len {l : List Stp} (h : l.all stpB = true) : ∀ k, k ≤ l.length → (preT l k).length ≤ 9 * k
  | 0, _ => by simp [preT]
  | k + 1, hk => by
    have := preT_len h k (by omega)
    rw [preT_succ l k (by omega), List.length_append]
    have := stpT_len (List.all_eq_true.1 h l[k] (List.getElem_mem (by omega)))
    omega

theorem path_parts {l : List Stp} (h : pathB l = true) : l.length ≤ 6 ∧ l.all stpB = true := by
  simpa [pathB] using h
/-- What PathText leaves. -/
def PtEnd (l : List Stp) (w : World) (e : Ending) (w' : World) : Prop := ∃ v, e = .returned v ∧ Bts w' w.heap.size v (pathT l) ∧ Below w.heap.size w w'

set_option maxHeartbeats 1600000 in
theorem impl_PathText_any (N : Nat) (x : Value) (l : List Stp) (w : World) (hx : PthSeg (fun b => b < N) w x l) (hN : N ≤ w.heap.size) :
    Calls Tryz.prog 9 #[x] w (PtEnd l w) := by
  have HP := hide' (impl_PathOk_any N x l w hx hN)
  have HX := hide' hx
  obtain ⟨a, p, rfl, hlp, hpm, _, _⟩ := hx
  unfold maxLen at hpm
  by_cases hok : pathB l = true
  · obtain ⟨h6, hall⟩ := path_parts hok
    have hT : Hid (pathT l = preT l l.length) := by show pathT l = _; rw [preT_all]; exact if_pos hok
    have HLn : Hid (∀ k, k ≤ l.length → (preT l k).length ≤ 54) := fun k hk => by have := preT_len hall k hk; omega
    have HSt : Hid (∀ k (h : k < l.length), preT l (k + 1) = preT l k ++ stpT l[k]) := preT_succ l
    have Hall : Hid (∀ k (h : k < l.length), stpB l[k] = true) := fun k h => List.all_eq_true.1 hall l[k] (List.getElem_mem h)
    rw [hok] at HP
    clear hok hall
    go_enter Tryz.func9, Tryz.ntmps9
    go_wp2_with fail
    refine HP.out.mono ?_
    rintro e w1 ⟨rfl, b1⟩
    have H0 : Hid (Bts w1 w.heap.size (.slice none 0 0) (preT l 0) ∧ Below w.heap.size w w1) := ⟨by rw [preT_zero]; exact bts_nil _ _, b1⟩
    clear b1 HP
    go_wp2
    go_loopw [3, 11] (fun y i wr => ∃ k : Nat, k ≤ l.length ∧ i = .int .i64 k ∧ Bts wr w.heap.size y (preT l k) ∧ Below w.heap.size w wr) (fun _ i _ => l.length - (intOf i).toNat)
    case atStart => exact ⟨0, Nat.zero_le _, rfl, H0.out.1, H0.out.2⟩
    case round =>
      clear H0
      obtain ⟨k, hk, rfl, hR, hbel⟩ := hrel
      have hz := hbel.size
      by_cases hlt : k < l.length
      · have hlt' : (k : Int) < (l.length : Int) := by omega
        have hXr : PthSeg (fun b => b < N) wr (.slice a l.length p) l := HX.out.agree (agree_below (hbel.mono hN))
        obtain ⟨b, off, c0, c1, c2, rfl, hbN, ⟨q0, q1, q2⟩, hs⟩ := hXr.at hlt
        simp only at q0 q1 q2
        have hlk := HLn.out k (by omega)
        have hal : Below wr.heap.size wr (wr.alloc (.cells #[c0, c1, c2] 50)) := (Below.refl _ _).alloc (Nat.le_refl _) _
        have HC := hide' (appendStep_any N w.heap.size u3 (preT l k) c0 c1 c2 l[k] (wr.alloc (.cells #[c0, c1, c2] 50)) (hs.agree (agree_below (hal.mono (by omega)))) (Hall.out k hlt) (hR.alloc _) hN (by simp; omega) (by omega))
        rw [← HSt.out k hlt] at HC
        have hBal := hide' (hbel.alloc hz (.cells #[c0, c1, c2] 50))
        have hform : ∃ (k0 i0 : Int) (a0 : Option Addr) (n0 p0 : Nat), c0 = .int .i64 k0 ∧ c1 = .slice a0 n0 p0 ∧ c2 = .int .i64 i0 := by
          obtain ⟨e0, ⟨a0, p0, e1, _⟩, e2⟩ := hs
          exact ⟨_, _, _, _, _, e0, e1, e2⟩
        obtain ⟨k0, i0, a0, n0, p0, rfl, rfl, rfl⟩ := hform
        obtain ⟨ya, yc, hys, _⟩ := hR.shape
        generalize (preT l k).length = pl at *
        subst hys
        clear hs hXr hR hal hbel
        go_wp2_with fail
        refine HC.out.mono ?_
        rintro e w2 ⟨v2, rfl, hv2, b2⟩
        have B2 := hide' (hBal.out.trans b2)
        obtain ⟨va, vc, hvs, _⟩ := hv2.shape
        replace hv2 := hide' hv2
        generalize (preT l (k + 1)).length = pl2 at *
        subst hvs
        clear b2 q0 q1 q2 HC
        go_wp2
        go_roundw
        case rel => exact ⟨k + 1, by omega, by go_num, hv2.out, B2.out⟩
        case measure => simp [intOf]; omega
      · have hkn : k = l.length := by omega
        have hlt' : ¬ (k : Int) < (l.length : Int) := by omega
        have HF : Hid (Bts wr w.heap.size u3 (pathT l)) := by rw [hT.out, ← hkn]; exact hR
        obtain ⟨ya, yc, hys, _⟩ := hR.shape
        generalize (preT l k).length = pl at *
        subst hys
        clear hkn hR
        go_wp2
        go_ret
        exact ⟨_, rfl, HF.out, hbel⟩
  · have hno : pathB l = false := by simpa using hok
    have hT : Hid (pathT l = []) := if_neg hok
    rw [hno] at HP
    clear hno hok
    go_enter Tryz.func9, Tryz.ntmps9
    go_wp2_with fail
    refine HP.out.mono ?_
    rintro e w1 ⟨rfl, b1⟩
    go_wp2
    go_ret
    exact ⟨_, rfl, by rw [hT.out]; exact bts_nil _ _, b1⟩
end Go.Proofs.YteafpgaefphkfaaGreatDoor
