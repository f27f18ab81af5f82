/-
  Texts that a law leans on, one behind the other; no statement is proved here.
-/
import Derived.Test.YthnkedbmfhokiaaGreatDoorPk5
import Derived.Deep.AppendLies
import Derived.Test.YthnkedbmfhokiaaGreatDoorPk1
import Derived.Test.YthnkedbmfhokiaaGreatDoorPk3
import Derived.Laws.IdiomStrings
/-
  PutText of the program and of the specification: a text with its length ahead, behind a copy of what was there.
-/
namespace Go.Proofs.YthnkedbmfhokiaaGreatDoor
open Go.RowKit
set_option linter.unusedVariables false

/-- What PutText answers. -/
def putText (xs ts : List Int) : List Int := if 20 < ts.length then xs else putNum xs ts.length ++ ts
theorem putText_no (xs ts : List Int) (h : 20 < ts.length) : putText xs ts = xs := by simp [putText, h]
theorem putText_yes (xs ts : List Int) (h : ¬ 20 < ts.length) : putText xs ts = putNum xs ts.length ++ ts := by simp [putText, h]
theorem putText_len (xs ts : List Int) : (putText xs ts).length ≤ xs.length + 25 := by
  unfold putText
  split
  · omega
  · have := putNum_len xs ts.length
    simp; omega

set_option maxHeartbeats 800000 in
theorem spec_PutText_any (a b : Option Addr) (c1 c2 : Nat) (xs ts : List Int) (w : World) (ha : Seg w a xs) (hb : Seg w b ts) (ka : a = none → c1 = 0) (kb : b = none → c2 = 0) (hl : xs.length ≤ 2097152) (hl2 : ts.length ≤ 2097152) :
    Calls Tryz.prog 50 #[.slice a xs.length c1, .slice b ts.length c2] w fun e w' => ∃ v, e = .returned v ∧ Bts w' w.heap.size v (putText xs ts) ∧ Below w.heap.size w w' := by
  by_cases h : 20 < ts.length
  · have Hp : Hid (putText xs ts = xs) := putText_no xs ts h
    have h' : (20 : Int) < (ts.length : Int) := by omega
    have hE := bts_empty w
    have hB1 : Below w.heap.size w (w.alloc (.cells #[] 5)) := (Below.refl _ _).alloc (Nat.le_refl _) _
    have hS1 := ha.grow hB1
    generalize hn : xs.length = n at *
    have Hn : Hid (n = xs.length) := hn.symm
    clear hn
    go_enter Tryz.func50, Tryz.ntmps50
    go_wp2_with (at_builtin; refine wpList_append_seg rfl (.tmp 8) (.tmp 9) rfl w.heap.size _ [] xs rfl hE a n c1 Hn.out rfl hS1 ka (by simp; have := Hn.out; omega) (by simp) ?_; intro v2 w2 hv2 hg2)
    go_ret
    exact ⟨_, rfl, by rw [Hp.out]; exact hv2, hB1.grown hg2 (by simp) hE.own⟩
  · have Hp : Hid (putText xs ts = putNum xs ts.length ++ ts) := putText_yes xs ts h
    have h' : ¬ (20 : Int) < (ts.length : Int) := by omega
    have hpl := putNum_len xs ts.length
    generalize hn : ts.length = n at *
    have Hn : Hid (n = ts.length) := hn.symm
    clear hn
    go_enter Tryz.func50, Tryz.ntmps50
    go_wp2_with fail
    refine (spec_PutNum_any _ _ xs n _ ha ka (by omega)).mono ?_
    rintro e w1 ⟨v1, rfl, hv1, b1⟩
    have hS := hb.grow b1
    have z1 := b1.size
    go_wp2_with (at_builtin; refine wpList_append_seg rfl (.tmp 14) (.tmp 15) rfl w.heap.size _ (putNum xs n) ts rfl hv1 b n c2 Hn.out rfl hS kb (by have := Hn.out; omega) z1 ?_; intro v2 w2 hv2 hg2)
    go_ret
    exact ⟨_, rfl, by rw [Hp.out]; exact hv2, b1.grown hg2 z1 hv1.own⟩

set_option maxHeartbeats 800000 in
theorem impl_PutText_any (a b : Option Addr) (c1 c2 : Nat) (xs ts : List Int) (w : World) (ha : Seg w a xs) (hb : Seg w b ts) (ka : a = none → c1 = 0) (kb : b = none → c2 = 0) (hl : xs.length ≤ 2097152) (hl2 : ts.length ≤ 2097152) :
    Calls Tryz.prog 35 #[.slice a xs.length c1, .slice b ts.length c2] w fun e w' => ∃ v, e = .returned v ∧ Bts w' w.heap.size v (putText xs ts) ∧ Below w.heap.size w w' := by
  by_cases h : 20 < ts.length
  · have Hp : Hid (putText xs ts = xs) := putText_no xs ts h
    have h' : (20 : Int) < (ts.length : Int) := by omega
    go_enter Tryz.func35, Tryz.ntmps35
    go_wp2_with fail
    refine (joined_any _ _ _ _ xs [] _ ha ⟨by simp, .inl rfl⟩ ka (by simp) (by omega) (by simp)).mono ?_
    rintro e w1 ⟨v1, rfl, hv1, b1⟩
    simp only [List.append_nil] at hv1
    go_wp2
    go_ret
    exact ⟨_, rfl, by rw [Hp.out]; exact hv1, b1⟩
  · have Hp : Hid (putText xs ts = putNum xs ts.length ++ ts) := putText_yes xs ts h
    have h' : ¬ (20 : Int) < (ts.length : Int) := by omega
    have hpl := putNum_len xs ts.length
    go_enter Tryz.func35, Tryz.ntmps35
    go_wp2_with fail
    refine (impl_PutNum_any _ _ xs ts.length _ ha ka (by omega)).mono ?_
    rintro e w1 ⟨v1, rfl, hv1, b1⟩
    obtain ⟨a1, d1, rfl, _, _, _, _, k1⟩ := hv1.shape
    have hS := hb.grow b1
    go_wp2_with fail
    refine (joined_any _ _ _ _ (putNum xs ts.length) ts _ hv1.seg hS k1 kb (by omega) (by omega)).mono ?_
    rintro e w2 ⟨v2, rfl, hv2, b2⟩
    go_wp2
    go_ret
    exact ⟨_, rfl, by rw [Hp.out]; exact hv2.mono b1.size, Below.on b1 b2⟩

end Go.Proofs.YthnkedbmfhokiaaGreatDoor
/-
  A row that is being appended to, each of its items in blocks of its own.
-/
namespace Go.Proofs.YthnkedbmfhokiaaGreatDoor
open Go.RowKit
set_option linter.unusedVariables false
set_option linter.unusedSimpArgs false

theorem flatten_at (s : Nat) : ∀ (cs : List (List Value)), (∀ c ∈ cs, c.length = s) → ∀ i, i < cs.length → ∀ j, j < s → cs.flatten[i * s + j]? = (cs.getD i [])[j]? := by
  intro cs
  induction cs with
  | nil => intro _ i hi; simp at hi
  | cons c cs ih =>
    intro hl i hi j hj
    have hc := hl c (by simp)
    rw [List.flatten_cons]
    cases i with
    | zero => rw [List.getElem?_append_left (by omega)]; simp
    | succ i =>
      have hge : s ≤ (i + 1) * s + j := by rw [Nat.add_mul, Nat.one_mul]; omega
      rw [List.getElem?_append_right (by omega), hc]
      have he : (i + 1) * s + j - s = i * s + j := by rw [Nat.add_mul, Nat.one_mul]; omega
      rw [he, ih (fun c' h => hl c' (by simp [h])) i (by simpa using hi) j hj]
      simp

/-- A row of n items that lies from block 'base' on; item i has the cells cs[i], and what it reaches lies in the blocks Bi[i]. -/
def RW (T : TypeId) (s : Nat) (It : World → Nat → List Value → List Nat → Prop) (w : World) (base : Nat) (x : Value) (n : Nat) (cs : List (List Value)) (Bi : List (List Nat)) : Prop :=
  cs.length = n ∧ Bi.length = n ∧ w.ownsRow base T s x n cs.flatten ∧ (∀ i, i < n → It w i (cs.getD i []) (Bi.getD i [])) ∧ (x.ownBlock.toList ++ Bi.flatten).Nodup ∧ ∀ b ∈ x.ownBlock.toList ++ Bi.flatten, base ≤ b ∧ b < w.heap.size

theorem RW.nil (T : TypeId) (s : Nat) (It : World → Nat → List Value → List Nat → Prop) (w : World) (base : Nat) : RW T s It w base (.slice none 0 0) 0 [] [] :=
  ⟨rfl, rfl, ⟨by simp, .inl ⟨rfl, rfl⟩⟩, fun i hi => by omega, by simp [Value.ownBlock], by simp [Value.ownBlock]⟩

theorem mem_flat {Bi : List (List Nat)} {i b : Nat} (h : b ∈ Bi.getD i []) : b ∈ Bi.flatten := by
  rw [List.getD_eq_getElem?_getD] at h
  cases hi : Bi[i]? with
  | none => rw [hi] at h; simp at h
  | some l => rw [hi] at h; exact List.mem_flatten.2 ⟨l, List.mem_of_getElem? hi, h⟩

/-- It stands where its blocks do. -/
theorem RW.agree {T : TypeId} {s : Nat} {It : World → Nat → List Value → List Nat → Prop} (hIt : ∀ w w' i c B, It w i c B → Agree (fun b => b ∈ B) w w' → It w' i c B) {w w' : World} {base : Nat} {x : Value} {n : Nat} {cs : List (List Value)} {Bi : List (List Nat)}
    (h : RW T s It w base x n cs Bi) (ha : Agree (fun b => b ∈ x.ownBlock.toList ++ Bi.flatten) w w') (hz : w.heap.size ≤ w'.heap.size) : RW T s It w' base x n cs Bi := by
  obtain ⟨h1, h2, h3, h4, h5, h6⟩ := h
  refine ⟨h1, h2, ⟨h3.1, ?_⟩, fun i hi => hIt _ _ _ _ _ (h4 i hi) fun b hb => ha b (by simp only [List.mem_append]; exact .inr (mem_flat hb)), h5, fun b hb => ⟨(h6 b hb).1, Nat.lt_of_lt_of_le (h6 b hb).2 hz⟩⟩
  rcases h3.2 with h0 | ⟨g, cap, cur, rfl, hb, hh, r⟩
  · exact .inl h0
  · exact .inr ⟨g, cap, cur, rfl, hb, (ha g (by simp [Value.ownBlock])).trans hh, r⟩

/-- One item more. -/
theorem RW.add {T : TypeId} {s : Nat} {It : World → Nat → List Value → List Nat → Prop} (hIt : ∀ w w' i c B, It w i c B → Agree (fun b => b ∈ B) w w' → It w' i c B) {w w2 w3 : World} {base : Nat} {x : Value} {n : Nat} {cs : List (List Value)} {Bi : List (List Nat)} {c : List Value} {Bv : List Nat} {g cap : Nat}
    (h : RW T s It w base x n cs Bi) (ha : ∀ b, b < w.heap.size → w2.heap[b]? = w.heap[b]?) (hz : w.heap.size ≤ w2.heap.size) (hc : It w2 n c Bv) (hBv : ∀ b ∈ Bv, w.heap.size ≤ b ∧ b < w2.heap.size) (hBn : Bv.Nodup) (hbase : base ≤ w.heap.size)
    (hown : w3.ownsRow base T s (.slice (some ⟨g, 0, none⟩) (n + 1) cap) (n + 1) (cs.flatten ++ c)) (hg : w2.grownBy w3 x.ownBlock) (hat : x.ownBlock = some g ∨ g = w2.heap.size) :
    RW T s It w3 base (.slice (some ⟨g, 0, none⟩) (n + 1) cap) (n + 1) (cs ++ [c]) (Bi ++ [Bv]) := by
  obtain ⟨h1, h2, h3, h4, h5, h6⟩ := h
  have hlt := hown.lt g rfl
  have hsz := hg.size
  have hfl : ∀ b ∈ Bi.flatten, base ≤ b ∧ b < w.heap.size := fun b hb => h6 b (by simp only [List.mem_append]; exact .inr hb)
  have hdis : ∀ b ∈ Bi.flatten, x.ownBlock ≠ some b := by
    intro b hb hx
    rw [hx] at h5
    simp only [Option.toList_some, List.nodup_append] at h5
    exact h5.2.2 b (by simp) b hb rfl
  have hxb : ∀ b, x.ownBlock = some b → b < w.heap.size := fun b hb => (h3.lt b hb).2
  refine ⟨by simp [h1], by simp [h2], by simpa using hown, fun i hi => ?_, ?_, ?_⟩
  · by_cases hin : i < n
    · have e1 : (cs ++ [c]).getD i [] = cs.getD i [] := by simp [List.getD_eq_getElem?_getD, List.getElem?_append_left (show i < cs.length by omega)]
      have e2 : (Bi ++ [Bv]).getD i [] = Bi.getD i [] := by simp [List.getD_eq_getElem?_getD, List.getElem?_append_left (show i < Bi.length by omega)]
      rw [e1, e2]
      refine hIt _ _ _ _ _ (h4 i hin) fun b hb => ?_
      have hm := mem_flat hb
      have hb' := hfl b hm
      exact (hg.block b (by omega) (fun e => hdis b hm e.symm)).trans (ha b hb'.2)
    · have hin' : i = n := by omega
      subst hin'
      have e1 : (cs ++ [c]).getD i [] = c := by rw [← h1]; simp [List.getD_eq_getElem?_getD]
      have e2 : (Bi ++ [Bv]).getD i [] = Bv := by rw [← h2]; simp [List.getD_eq_getElem?_getD]
      rw [e1, e2]
      refine hIt _ _ _ _ _ hc fun b hb => ?_
      have hb' := hBv b hb
      exact hg.block b hb'.2 (fun e => by have := hxb b e.symm; omega)
  · have hmid : (Bi.flatten ++ Bv).Nodup := by
      rw [List.nodup_append]
      refine ⟨(List.nodup_append.1 h5).2.1, hBn, fun a ha' b hb' => ?_⟩
      have := hfl a ha'
      have := hBv b hb'
      omega
    have hgn : g ∉ Bi.flatten ++ Bv := by
      intro hm
      rcases hat with hx | hx
      · rcases List.mem_append.1 hm with h' | h'
        · exact hdis g h' hx
        · have := hBv g h'
          have := hxb g hx
          omega
      · rcases List.mem_append.1 hm with h' | h'
        · have := hfl g h'; omega
        · have := hBv g h'; omega
    simp only [Value.ownBlock, Option.toList_some, List.flatten_append, List.flatten_singleton, List.singleton_append]
    exact List.nodup_cons.2 ⟨hgn, hmid⟩
  · intro b hb
    simp only [Value.ownBlock, Option.toList_some, List.flatten_append, List.flatten_singleton, List.singleton_append, List.mem_cons, List.mem_append] at hb
    rcases hb with rfl | hb | hb
    · exact hlt
    · have := hfl b hb; omega
    · have := hBv b hb; omega

/-- A value's five cells. -/
def enc5 (e : Value × Value × Value × Value × Value) : List Value := [e.1, e.2.1, e.2.2.1, e.2.2.2.1, e.2.2.2.2]

/-- Item i is the value l[i]. -/
def ItV (d : Nat) (l : List (Vl d)) (w : World) (i : Nat) (c : List Value) (B : List Nat) : Prop := ∃ e, c = enc5 e ∧ ∃ h : i < l.length, VOwn w d e l[i] B

/-- Item i is the text ks[i]. -/
def ItK (ks : List (List Int)) (w : World) (i : Nat) (c : List Value) (B : List Nat) : Prop := ∃ u, c = [u] ∧ TOwn w u (ks.getD i []) B

theorem ItV.agree (d : Nat) (l : List (Vl d)) : ∀ w w' i c B, ItV d l w i c B → Agree (fun b => b ∈ B) w w' → ItV d l w' i c B := by
  rintro w w' i c B ⟨e, rfl, h, hv⟩ ha
  exact ⟨e, rfl, h, VOwn.agree d hv ha⟩

theorem ItK.agree (ks : List (List Int)) : ∀ w w' i c B, ItK ks w i c B → Agree (fun b => b ∈ B) w w' → ItK ks w' i c B := by
  rintro w w' i c B ⟨u, rfl, hv⟩ ha
  exact ⟨u, rfl, hv.agree ha⟩

theorem getD_of_mem {α : Type} {cs : List α} {c z : α} (h : c ∈ cs) : ∃ i, i < cs.length ∧ cs.getD i z = c := by
  obtain ⟨i, hi, e⟩ := List.getElem_of_mem h
  exact ⟨i, hi, by simp [List.getD_eq_getElem?_getD, hi, e]⟩

/-- All of it: a list of values of the call's own. -/
theorem RW.lown {w : World} {base d : Nat} {x : Value} {l : List (Vl d)} {cs : List (List Value)} {Bi : List (List Nat)} (h : RW 26 5 (ItV d l) w base x l.length cs Bi) : LOwn w d x l (x.ownBlock.toList ++ Bi.flatten) := by
  obtain ⟨h1, h2, h3, h4, h5, h6⟩ := h
  have hl5 : ∀ c ∈ cs, c.length = 5 := by
    intro c hc
    obtain ⟨i, hi, e⟩ := getD_of_mem (z := []) hc
    obtain ⟨e', he, _⟩ := h4 i (by omega)
    rw [← e, he]
    rfl
  rcases h3.2 with ⟨rfl, h0⟩ | ⟨g, cap, cur, rfl, hb, hh, hn, hm, hs, ht⟩
  · have hl0 : l = [] := List.eq_nil_of_length_eq_zero h0
    have hb0 : Bi = [] := List.eq_nil_of_length_eq_zero (by omega)
    subst hl0 hb0
    exact .inl ⟨rfl, rfl, rfl⟩
  · refine .inr ⟨g, cap, cur, Bi, rfl, hh, hn, hm, hs, h2, fun i hi => ?_, rfl, h5⟩
    obtain ⟨e, he, _, hv⟩ := h4 i hi
    have hcell : ∀ j, j < 5 → cur[i * 5 + j]? = (enc5 e)[j]? := by
      intro j hj
      have hf := flatten_at 5 cs hl5 i (by omega) j hj
      rw [he, ← ht, List.getElem?_take_of_lt (by omega), Array.getElem?_toList] at hf
      exact hf
    exact ⟨e, ⟨hcell 0 (by omega), hcell 1 (by omega), hcell 2 (by omega), hcell 3 (by omega), hcell 4 (by omega)⟩, hv⟩

/-- All of it: a list of texts of the call's own. -/
theorem RW.kown {w : World} {base : Nat} {x : Value} {ks : List (List Int)} {cs : List (List Value)} {Bi : List (List Nat)} (h : RW 22 1 (ItK ks) w base x ks.length cs Bi) : KOwn w x ks (x.ownBlock.toList ++ Bi.flatten) := by
  obtain ⟨h1, h2, h3, h4, h5, h6⟩ := h
  have hl1 : ∀ c ∈ cs, c.length = 1 := by
    intro c hc
    obtain ⟨i, hi, e⟩ := getD_of_mem (z := []) hc
    obtain ⟨e', he, _⟩ := h4 i (by omega)
    rw [← e, he]
    rfl
  rcases h3.2 with ⟨rfl, h0⟩ | ⟨g, cap, cur, rfl, hb, hh, hn, hm, hs, ht⟩
  · have hl0 : ks = [] := List.eq_nil_of_length_eq_zero h0
    have hb0 : Bi = [] := List.eq_nil_of_length_eq_zero (by omega)
    subst hl0 hb0
    exact .inl ⟨rfl, rfl, rfl⟩
  · refine .inr ⟨g, cap, cur, Bi, rfl, hh, hn, hm, by omega, h2, fun i hi => ?_, rfl, h5⟩
    obtain ⟨u, he, hv⟩ := h4 i hi
    have hcell : cur[i]? = some u := by
      have hf := flatten_at 1 cs hl1 i (by omega) 0 (by omega)
      rw [he, ← ht, List.getElem?_take_of_lt (by omega), Array.getElem?_toList] at hf
      simpa using hf
    exact ⟨u, hcell, hv⟩
end Go.Proofs.YthnkedbmfhokiaaGreatDoor
/-
  A text, a number of a value, names that ascend: textOk, ascendingNames of the program, l2text, l2int of the specification; they only read.
-/
namespace Go.Proofs.YthnkedbmfhokiaaGreatDoor
open Go.RowKit
set_option linter.unusedVariables false

/-- A byte of a text. -/
def chrB (c : Int) : Bool := decide (32 ≤ c) && decide (c ≤ 126)
/-- A text. -/
def textB (xs : List Int) : Bool := decide (xs.length ≤ 20) && xs.all chrB
theorem textB_long (xs : List Int) (h : 20 < xs.length) : textB xs = false := by simp [textB]; omega
theorem textB_all (xs : List Int) (h2 : xs.length ≤ 20) : textB xs = xs.all chrB := by simp [textB, h2]

set_option maxHeartbeats 800000 in
theorem impl_textOk_any (a : Option Addr) (c1 : Nat) (xs : List Int) (w : World) (ha : Seg w a xs) (hl : xs.length ≤ maxLen) :
    Calls Tryz.prog 57 #[.slice a xs.length c1] w fun e w' => e = .returned (.bool (textB xs)) ∧ w = w' := by
  unfold maxLen at hl
  by_cases h2 : 20 < xs.length
  · have HO : Hid (textB xs = false) := textB_long xs h2
    have h2' : (20 : Int) < (xs.length : Int) := by omega
    go_enter Tryz.func57, Tryz.ntmps57
    go_wp2
    go_ret
    exact ⟨ret_bool HO.out.symm, rfl⟩
  have HO : Hid (textB xs = xs.all chrB) := textB_all xs (by omega)
  have hb := getD_byt ha.1
  generalize hn : xs.length = n at *
  have Hn : Hid (xs.length = n) := hn
  have h2' : ¬ (20 : Int) < (n : Int) := by omega
  clear hn
  go_enter Tryz.func57, Tryz.ntmps57
  go_wp2
  go_loopw [10] (fun i wr => ∃ k : Nat, k ≤ n ∧ i = .int .i64 k ∧ fstAll chrB xs k ∧ wr = w) (fun i _ => n - (intOf i).toNat)
  case atStart => exact ⟨0, Nat.zero_le _, rfl, fstAll_zero _ _, rfl⟩
  case round =>
    obtain ⟨k, hk, rfl, hall, rfl⟩ := hrel
    by_cases hlt : k < n
    · obtain ⟨b1, o1, rfl, hc1⟩ := ha.at (k := k) (by have := Hn.out; omega)
      have hbk := hb k
      have HS : Hid (chrB (xs.getD k 0) = true → fstAll chrB xs (k + 1)) := fun h => fstAll_succ hall h
      have HN : Hid (chrB (xs.getD k 0) = false → xs.all chrB = false) := fun h => not_all_of (by have := Hn.out; omega) h
      generalize xs.getD k 0 = c at hc1 hbk HS HN
      have hlt' : (k : Int) < (n : Int) := by omega
      obtain ⟨hb1, hb2⟩ := hbk
      by_cases hc : c < 32
      · have HF : Hid (xs.all chrB = false) := HN.out (by simp [chrB]; omega)
        go_wp2
        go_ret
        exact ⟨ret_bool (by rw [HO.out, HF.out]), rfl⟩
      · by_cases hd : 126 < c
        · have HF : Hid (xs.all chrB = false) := HN.out (by simp [chrB]; omega)
          go_wp2
          go_ret
          exact ⟨ret_bool (by rw [HO.out, HF.out]), rfl⟩
        · have HF : Hid (fstAll chrB xs (k + 1)) := HS.out (by simp [chrB]; omega)
          go_wp2
          go_roundw
          case rel => exact ⟨k + 1, by omega, by go_num, HF.out, by first | rfl | trivial⟩
          case measure => simp [intOf]; omega
    · have HF : Hid (xs.all chrB = true) := all_of_fstAll (by rw [Hn.out]; have e : k = n := by omega
                                                              rw [← e]; exact hall)
      have hlt' : ¬ (k : Int) < (n : Int) := by omega
      go_wp2
      go_ret
      exact ⟨ret_bool (by rw [HO.out, HF.out]), rfl⟩

set_option maxHeartbeats 800000 in
theorem spec_l2text_any (a : Option Addr) (c1 : Nat) (xs : List Int) (w : World) (ha : Seg w a xs) (hl : xs.length ≤ maxLen) :
    Calls Tryz.prog 38 #[.slice a xs.length c1] w fun e w' => e = .returned (.bool (textB xs)) ∧ w = w' := by
  unfold maxLen at hl
  by_cases h2 : 20 < xs.length
  · have HO : Hid (textB xs = false) := textB_long xs h2
    have h2' : (20 : Int) < (xs.length : Int) := by omega
    go_enter Tryz.func38, Tryz.ntmps38
    go_wp2
    go_ret
    exact ⟨ret_bool HO.out.symm, rfl⟩
  have HO : Hid (textB xs = xs.all chrB) := textB_all xs (by omega)
  have hb := getD_byt ha.1
  generalize hn : xs.length = n at *
  have Hn : Hid (xs.length = n) := hn
  have h2' : ¬ (20 : Int) < (n : Int) := by omega
  clear hn
  go_enter Tryz.func38, Tryz.ntmps38
  go_wp2
  go_loopw [3] (fun i wr => ∃ k : Nat, k ≤ n ∧ i = .int .i64 k ∧ fstAll chrB xs k ∧ wr = w) (fun i _ => n - (intOf i).toNat)
  case atStart => exact ⟨0, Nat.zero_le _, rfl, fstAll_zero _ _, rfl⟩
  case round =>
    obtain ⟨k, hk, rfl, hall, rfl⟩ := hrel
    by_cases hlt : k < n
    · obtain ⟨b1, o1, rfl, hc1⟩ := ha.at (k := k) (by have := Hn.out; omega)
      have hbk := hb k
      have HS : Hid (chrB (xs.getD k 0) = true → fstAll chrB xs (k + 1)) := fun h => fstAll_succ hall h
      have HN : Hid (chrB (xs.getD k 0) = false → xs.all chrB = false) := fun h => not_all_of (by have := Hn.out; omega) h
      generalize xs.getD k 0 = c at hc1 hbk HS HN
      have hlt' : (k : Int) < (n : Int) := by omega
      obtain ⟨hb1, hb2⟩ := hbk
      by_cases hc : c < 32
      · have HF : Hid (xs.all chrB = false) := HN.out (by simp [chrB]; omega)
        go_wp2
        go_ret
        exact ⟨ret_bool (by rw [HO.out, HF.out]), rfl⟩
      · by_cases hd : 126 < c
        · have HF : Hid (xs.all chrB = false) := HN.out (by simp [chrB]; omega)
          go_wp2
          go_ret
          exact ⟨ret_bool (by rw [HO.out, HF.out]), rfl⟩
        · have HF : Hid (fstAll chrB xs (k + 1)) := HS.out (by simp [chrB]; omega)
          go_wp2
          go_roundw
          case rel => exact ⟨k + 1, by omega, by go_num, HF.out, by first | rfl | trivial⟩
          case measure => simp [intOf]; omega
    · have HF : Hid (xs.all chrB = true) := all_of_fstAll (by rw [Hn.out]; have e : k = n := by omega
                                                              rw [← e]; exact hall)
      have hlt' : ¬ (k : Int) < (n : Int) := by omega
      go_wp2
      go_ret
      exact ⟨ret_bool (by rw [HO.out, HF.out]), rfl⟩

/-- The name at place i is one, and behind the one ahead of it. -/
def stepB (ks : List (List Int)) (i : Nat) : Bool := nameB (ks.getD i []) && (i == 0 || ltS (ks.getD (i - 1) []) (ks.getD i []))
/-- Names that ascend. -/
def ascB (ks : List (List Int)) : Bool := (List.range ks.length).all (stepB ks)
theorem ascB_yes {ks : List (List Int)} (h : ∀ i, i < ks.length → stepB ks i = true) : ascB ks = true := by
  rw [ascB, List.all_eq_true]
  intro i hi
  exact h i (List.mem_range.1 hi)
theorem ascB_no {ks : List (List Int)} {i : Nat} (hi : i < ks.length) (h : stepB ks i = false) : ascB ks = false := by
  rw [ascB, List.all_eq_false]
  exact ⟨i, List.mem_range.2 hi, by simp [h]⟩
theorem ascB_at {ks : List (List Int)} (h : ascB ks = true) {i : Nat} (hi : i < ks.length) : stepB ks i = true := by
  rw [ascB, List.all_eq_true] at h
  exact h i (List.mem_range.2 hi)

theorem KSeg.at {R : Nat → Prop} {w : World} {a : Option Addr} {n cap : Nat} {ks : List (List Int)} (h : KSeg R w (.slice a n cap) ks) {k : Nat} (hk : k < ks.length) :
    ∃ b off, a = some ⟨b, off, none⟩ ∧ ∀ i, i < ks.length → ∃ a2 c2, w.cell? ⟨b, off + i, none⟩ = some (.slice a2 (ks.getD i []).length c2) ∧ Seg w a2 (ks.getD i []) ∧ (ks.getD i []).length ≤ maxLen := by
  obtain ⟨a', cap', h1, h2, h3, h4, h5⟩ := h
  simp only [Value.slice.injEq] at h1
  obtain ⟨rfl, _, _⟩ := h1
  rcases h5 with h0 | ⟨b, off, rfl, _, hc⟩
  · subst h0; simp at hk
  · refine ⟨b, off, rfl, fun i hi => ?_⟩
    obtain ⟨u, hu, a2, c2, rfl, s2, l2, m2, _⟩ := hc i hi
    exact ⟨a2, c2, hu, s2, by omega⟩

set_option maxHeartbeats 1600000 in
theorem ascendingNames_any (R : Nat → Prop) (x : Value) (ks : List (List Int)) (w : World) (hx : KSeg R w x ks) :
    Calls Tryz.prog 69 #[x] w fun e w' => e = .returned (.bool (ascB ks)) ∧ w = w' := by
  have HX : Hid (KSeg R w x ks) := hx
  obtain ⟨a, cap, rfl, hlc, hcm, ka, hc⟩ := hx
  unfold maxLen at hcm
  clear hc
  have HY : Hid ((∀ i, i < ks.length → stepB ks i = true) → ascB ks = true) := ascB_yes
  have HNo : Hid (∀ i, i < ks.length → stepB ks i = false → ascB ks = false) := fun i hi h => ascB_no hi h
  go_enter Tryz.func69, Tryz.ntmps69
  go_wp2
  go_loopw [7] (fun i wr => ∃ k : Nat, k ≤ ks.length ∧ i = .int .i64 k ∧ (∀ j, j < k → stepB ks j = true) ∧ wr = w) (fun i _ => ks.length - (intOf i).toNat)
  case atStart => exact ⟨0, Nat.zero_le _, rfl, fun j h => by omega, rfl⟩
  case round =>
    obtain ⟨k, hk, rfl, hall, rfl⟩ := hrel
    by_cases hlt : k < ks.length
    · obtain ⟨b, off, rfl, hat⟩ := HX.out.at hlt
      have hlt' : (k : Int) < (ks.length : Int) := by omega
      obtain ⟨a2, c2, hu, s2, m2⟩ := hat k hlt
      by_cases hn : nameB (ks.getD k []) = true
      · cases k with
        | zero =>
          have HS : Hid (stepB ks 0 = true) := by simp [Hid, stepB]; simpa using hn
          have HN := hide' (impl_NameOk_any a2 c2 (ks.getD 0 []) wr s2 m2)
          rw [hn] at HN
          generalize (ks.getD 0 []) = ys at *
          simp only [Nat.add_zero] at hu
          clear hat
          go_wp2_with fail
          refine HN.out.mono ?_
          rintro e w1 ⟨rfl, e1⟩
          obtain rfl := e1
          go_wp2
          go_roundw
          case rel => exact ⟨1, by omega, by go_num, fun j hj => by obtain rfl : j = 0 := by omega
                                                                    exact HS.out, by first | rfl | trivial⟩
          case measure => simp [intOf]; omega
        | succ j =>
          obtain ⟨a3, c3, hu3, s3, m3⟩ := hat j (by omega)
          have hst : stepB ks (j + 1) = ltS (ks.getD j []) (ks.getD (j + 1) []) := by simp only [stepB, hn]; simp
          have HN := hide' (impl_NameOk_any a2 c2 (ks.getD (j + 1) []) wr s2 m2)
          rw [hn] at HN
          have HC := hide' (bytes_Compare_any a3 a2 c3 c2 (ks.getD j []) (ks.getD (j + 1) []) wr s3 s2)
          have hlc : ltS (ks.getD j []) (ks.getD (j + 1) []) = decide (Lib.compareBytes (u8s (ks.getD j [])) (u8s (ks.getD (j + 1) [])) < 0) := less_cmp _ _
          rw [hlc] at hst
          have hcr := cmp_range (u8s (ks.getD j [])) (u8s (ks.getD (j + 1) []))
          have HS := hide' hst
          generalize Lib.compareBytes (u8s (ks.getD j [])) (u8s (ks.getD (j + 1) [])) = q at *
          generalize (ks.getD (j + 1) []) = ys at *
          generalize (ks.getD j []) = zs at *
          clear hat hst hlc hn s2 s3
          go_wp2_with fail
          refine HN.out.mono ?_
          rintro e w1 ⟨rfl, e1⟩
          obtain rfl := e1
          go_wp2_with fail
          refine HC.out.mono ?_
          rintro e w1 ⟨rfl, e1⟩
          obtain rfl := e1
          by_cases hq : 0 ≤ q
          · have HF : Hid (ascB ks = false) := HNo.out (j + 1) (by omega) (by rw [HS.out]; simpa using hq)
            go_wp2
            go_ret
            exact ⟨ret_bool HF.out.symm, rfl⟩
          · have HF : Hid (stepB ks (j + 1) = true) := by show stepB ks (j + 1) = true; rw [HS.out]; simpa using hq
            go_wp2
            go_roundw
            case rel => exact ⟨j + 2, by omega, by go_num, fun i hi => by
                                by_cases e : i = j + 1
                                · rw [e]; exact HF.out
                                · exact hall i (by omega), by first | rfl | trivial⟩
            case measure => simp [intOf]; omega
      · have hn' : nameB (ks.getD k []) = false := by simpa using hn
        have HF : Hid (ascB ks = false) := HNo.out k hlt (by unfold stepB; rw [hn']; rfl)
        have HN := hide' (impl_NameOk_any a2 c2 (ks.getD k []) wr s2 m2)
        rw [hn'] at HN
        generalize (ks.getD k []) = ys at *
        clear hat hn hn'
        go_wp2_with fail
        refine HN.out.mono ?_
        rintro e w1 ⟨rfl, e1⟩
        obtain rfl := e1
        go_wp2
        go_ret
        exact ⟨ret_bool HF.out.symm, rfl⟩
    · have HF : Hid (ascB ks = true) := HY.out (fun i hi => hall i (by omega))
      have hlt' : ¬ (k : Int) < (ks.length : Int) := by omega
      go_wp2
      go_ret
      exact ⟨ret_bool HF.out.symm, rfl⟩
end Go.Proofs.YthnkedbmfhokiaaGreatDoor
/-
  Small laws on calls that turn nothing, on the box of a value, on lists of values; no statement is proved here.
-/
namespace Go.Proofs.YthnkedbmfhokiaaGreatDoor
open Go.RowKit
set_option linter.unusedVariables false
set_option linter.unusedSimpArgs false

theorem quiet_same {P : Program} {f : FuncId} {args : Array Value} {w : World} {n : Nat} {v : Value}
    (h : Calls P f args (w.drewN n) fun e w' => e = .returned v ∧ w.drewN n = w') : Calls P f args (w.drewN n) fun e w'' => e = .returned v ∧ ∃ m, w'' = w.drewN m :=
  Calls.quiet_of_same (h.mono fun _ _ ⟨he, hm⟩ => ⟨he, hm.symm⟩)

/-- The box of a value that was handed in. -/
theorem box_row {w wr : World} {o : Obj} (h : Below (w.alloc o).heap.size (w.alloc o) wr) : wr.heap[w.heap.size]? = some o :=
  (h.block w.heap.size (by simp)).trans (MapKept.heap_alloc w o).1

theorem LSeg.at {N : Nat} {w wr : World} {d : Nat} {a : Option Addr} {n cap : Nat} {l : List (Vl d)} (h : LSeg (fun b => b < N) w d (.slice a n cap) l) (hb : Below w.heap.size w wr) (hN : N ≤ w.heap.size) {k : Nat} (hk : k < l.length) :
    ∃ b off c, a = some ⟨b, off, none⟩ ∧ Five wr b (off + k * 5) c ∧ ∀ wx, Below w.heap.size w wx → VSeg (fun b => b < N) wx d c (l[k]) := by
  obtain ⟨a', cap', h1, h2, h3, h4, h5⟩ := h
  simp only [Value.slice.injEq] at h1
  obtain ⟨rfl, _, _⟩ := h1
  rcases h5 with h0 | ⟨b, off, rfl, hR, hc⟩
  · subst h0; simp at hk
  · obtain ⟨c, h5, hv⟩ := hc k hk
    exact ⟨b, off, c, rfl, h5.agree (agree_below (hb.mono hN)) hR, fun wx hx => VSeg.agree (agree_below (hx.mono hN)) d hv⟩

theorem VSeg.form {R : Nat → Prop} {w : World} (d : Nat) {c0 c1 c2 c3 c4 : Value} {v : Vl d} (h : VSeg R w d (c0, c1, c2, c3, c4) v) :
    ∃ (k n : Int) (a2 : Option Addr) (l2 p2 : Nat) (a3 : Option Addr) (l3 p3 : Nat) (a4 : Option Addr) (l4 p4 : Nat), c0 = .int .i64 k ∧ c1 = .int .i64 n ∧ c2 = .slice a2 l2 p2 ∧ c3 = .slice a3 l3 p3 ∧ c4 = .slice a4 l4 p4 := by
  cases d with
  | zero => exact h.elim
  | succ d =>
    obtain ⟨e0, e1, ⟨a2, p2, e2, _⟩, ⟨a3, p3, e3, _⟩, a4, p4, e4, _⟩ := h
    exact ⟨_, _, _, _, _, _, _, _, _, _, _, e0, e1, e2, e3, e4⟩
end Go.Proofs.YthnkedbmfhokiaaGreatDoor
/-
  A row of bytes of the call's own, as a text with its blocks.
-/
namespace Go.Proofs.YthnkedbmfhokiaaGreatDoor
open Go.RowKit
set_option linter.unusedVariables false
set_option linter.unusedSimpArgs false

theorem tOwn_of {w : World} {base : Nat} {v : Value} {xs : List Int} (h : Bts w base v xs) : ∃ B, TOwn w v xs B ∧ (∀ b ∈ B, base ≤ b ∧ b < w.heap.size) ∧ B.Nodup := by
  have hlt := h.2.lt
  rcases h.2.2 with ⟨rfl, h0⟩ | ⟨g, cap, cur, rfl, _⟩
  · exact ⟨[], ⟨h.free, .inl ⟨rfl, rfl⟩⟩, by simp, by simp⟩
  · exact ⟨[g], ⟨h.free, .inr ⟨g, cap, rfl, rfl⟩⟩, by intro b hb; simp at hb; subst hb; exact hlt b rfl, by simp⟩

end Go.Proofs.YthnkedbmfhokiaaGreatDoor
/-
  What l2int of the specification answers.
-/
namespace Go.Proofs.YthnkedbmfhokiaaGreatDoor
open Go.RowKit
set_option linter.unusedVariables false

/-- A number of a value. -/
def intB (n : Int) : Bool := decide (-1000000000000 ≤ n) && decide (n ≤ 1000000000000)

set_option maxHeartbeats 800000 in
theorem spec_l2int_any (n : Int) (w : World) :
    Calls Tryz.prog 37 #[.int .i64 n] w fun e w' => e = .returned (.bool (intB n)) ∧ w = w' := by
  by_cases h1 : -1000000000000 ≤ n
  · by_cases h2 : n ≤ 1000000000000
    · have HO : Hid (intB n = true) := by simp [Hid, intB, h1, h2]
      go_enter Tryz.func37, Tryz.ntmps37
      go_wp2
      go_ret
      exact ⟨ret_bool HO.out.symm, rfl⟩
    · have HO : Hid (intB n = false) := by simp [Hid, intB, h2]
      go_enter Tryz.func37, Tryz.ntmps37
      go_wp2
      go_ret
      exact ⟨ret_bool HO.out.symm, rfl⟩
  · have HO : Hid (intB n = false) := by simp [Hid, intB, h1]
    go_enter Tryz.func37, Tryz.ntmps37
    go_wp2
    go_ret
    exact ⟨ret_bool HO.out.symm, rfl⟩
end Go.Proofs.YthnkedbmfhokiaaGreatDoor
/-
  Cells of a list of values, of a list of texts: the same behind later calls.
-/
namespace Go.Proofs.YthnkedbmfhokiaaGreatDoor
open Go.RowKit
set_option linter.unusedVariables false
set_option linter.unusedSimpArgs false

theorem KSeg.none_at {R : Nat → Prop} {w : World} {b off : Nat} {n cap : Nat} {ks : List (List Int)} (h : KSeg R w (.slice (some ⟨b, off, none⟩) n cap) ks) {k : Nat} (hk : k < ks.length) {ta : Option Addr} {l tc : Nat} (hq : w.cell? ⟨b, off + k, none⟩ = some (.slice ta l tc)) : ta = none → tc = 0 := by
  obtain ⟨a', cap', h1, h2, h3, h4, h5⟩ := h
  simp only [Value.slice.injEq] at h1
  obtain ⟨rfl, _, _⟩ := h1
  rcases h5 with h0 | ⟨b, off, e, _, hc⟩
  · subst h0; simp at hk
  · simp only [Option.some.injEq, Addr.mk.injEq] at e
    obtain ⟨rfl, rfl, _⟩ := e
    obtain ⟨u, hu, a2, c2, rfl, s2, l2, m2, k2, _⟩ := hc k hk
    rw [hq] at hu
    simp at hu
    obtain ⟨rfl, _, rfl⟩ := hu
    exact k2

theorem five_same {N : Nat} {w wr wx : World} {d : Nat} {b off n cap : Nat} {l : List (Vl d)} {c : Value × Value × Value × Value × Value} (h : LSeg (fun b => b < N) w d (.slice (some ⟨b, off, none⟩) n cap) l) (hx : Below w.heap.size w wx) (hr : Below w.heap.size w wr) (hN : N ≤ w.heap.size) {k : Nat} (hk : k < l.length) (h5 : Five wr b (off + k * 5) c) : Five wx b (off + k * 5) c := by
  obtain ⟨a', cap', h1, h2, h3, h4, h5'⟩ := h
  simp only [Value.slice.injEq] at h1
  obtain ⟨rfl, _, _⟩ := h1
  rcases h5' with h0 | ⟨b', off', e, hR, hc⟩
  · subst h0; simp at hk
  · simp only [Option.some.injEq, Addr.mk.injEq] at e
    obtain ⟨rfl, rfl, _⟩ := e
    have hbr : wr.heap[b]? = w.heap[b]? := hr.block b (by omega)
    have hbx : wx.heap[b]? = w.heap[b]? := hx.block b (by omega)
    have hcc : ∀ j, wx.cell? ⟨b, j, none⟩ = wr.cell? ⟨b, j, none⟩ := fun j => World.cell?_of_block (hbx.trans hbr.symm)
    exact ⟨(hcc _).trans h5.1, (hcc _).trans h5.2.1, (hcc _).trans h5.2.2.1, (hcc _).trans h5.2.2.2.1, (hcc _).trans h5.2.2.2.2⟩

end Go.Proofs.YthnkedbmfhokiaaGreatDoor
/-
  '[]byte(s)': a text of the call's own.
-/
namespace Go.Proofs.YthnkedbmfhokiaaGreatDoor
open Go.RowKit
set_option linter.unusedVariables false
set_option linter.unusedSimpArgs false

/-- '[]byte(s)': a text of the call's own. -/
theorem conv_back (xs : List Int) (hx : ∀ x ∈ xs, Byt x) (hl : xs.length ≤ 1048576) (w : World) : ∃ cap wB, (convert 9 22 (.string (strOf xs))).run Tryz.prog w = .ok (.slice (some ⟨w.heap.size, 0, none⟩) xs.length cap) wB ∧
    TOwn wB (.slice (some ⟨w.heap.size, 0, none⟩) xs.length cap) xs [w.heap.size] ∧ Below w.heap.size w wB ∧ wB.heap.size = w.heap.size + 1 := by
  have hsz := size_strOf xs
  have hsc := strCells_of hx
  have hrun := run_bytes_of_string (P := Tryz.prog) w 9 22 5 (strOf xs) Tryz.underlying9 Tryz.underlying22 Tryz.underlying5
  rw [hsz] at hrun
  have hge := grownCap_ge w xs.length 0 5
  have hle := grownCap_le_maxLen w xs.length 0 5 (by unfold maxLen; omega)
  generalize grownCap w xs.length 0 5 = cap at hrun hge hle
  have hrs : (bytesRow (strOf xs) cap).size = cap := by
    have h1 : (strOf xs).data.size = xs.length := hsz
    simp [bytesRow, h1, hsz]
    omega
  have hrt : (bytesRow (strOf xs) cap).toList.take xs.length = cellsOf xs := by
    rw [← hsc]
    unfold bytesRow Lib.strCells
    rw [Array.toList_append, Array.toList_map, List.take_append_of_le_length (by simp; exact Nat.le_of_eq hsz.symm)]
    rw [List.take_of_length_le (by simp; exact Nat.le_of_eq hsz)]
  rw [hrs] at hrun
  refine ⟨cap, _, hrun, ⟨⟨hx, by simp [cellsOf], .inr ⟨w.heap.size, cap, _, _, rfl, heap_alloc_new w.drew _, .inr (Nat.le_refl _), hge, hle, hrs, hrt⟩⟩, .inr ⟨_, _, rfl, rfl⟩⟩, ((Below.refl _ w).drew).alloc (Nat.le_refl _) _, by simp⟩
end Go.Proofs.YthnkedbmfhokiaaGreatDoor
/-
  markValue of the laws over a value of the call's own; heldValueS and heldValue find the running numbers there.
-/
namespace Go.Proofs.YthnkedbmfhokiaaGreatDoor
open Go.RowKit
set_option linter.unusedVariables false
set_option linter.unusedSimpArgs false

end Go.Proofs.YthnkedbmfhokiaaGreatDoor
/-
  What a call has made for itself can be read by whoever comes behind it.
-/
namespace Go.Proofs.YthnkedbmfhokiaaGreatDoor
open Go.RowKit
set_option linter.unusedVariables false

/-- What a call has made for itself can be read by whoever comes behind it. -/
theorem VOwn.below {w w' : World} {d : Nat} {c : Value × Value × Value × Value × Value} {v : Vl d} {B : List Nat} (h : VOwn w d c v B) (hb : Below w.heap.size w w') : VSeg (fun b => b < w.heap.size) w' d c v :=
  VSeg.agree (agree_below hb) d (VSeg.mono (fun b hb => VOwn.lt d h b hb) d (VOwn.seg d h))
end Go.Proofs.YthnkedbmfhokiaaGreatDoor
/-
  l2own of the specification: what its two loops leave.
-/
namespace Go.Proofs.YthnkedbmfhokiaaGreatDoor
open Go.RowKit
set_option linter.unusedVariables false
set_option linter.unusedSimpArgs false

end Go.Proofs.YthnkedbmfhokiaaGreatDoor
