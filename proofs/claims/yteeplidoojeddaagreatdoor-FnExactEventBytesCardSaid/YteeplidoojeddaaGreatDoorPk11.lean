/-
  Texts that a law leans on, one behind the other; no statement is proved here.
-/
import Derived.Test.YteeplidoojeddaaGreatDoorPk5
import Derived.Deep.AppendLies
import Derived.Test.YteeplidoojeddaaGreatDoorPk1
import Derived.Laws.IdiomStrings
import Derived.Test.YteeplidoojeddaaGreatDoorPk3
import Derived.Test.YteeplidoojeddaaGreatDoorPk10
import Derived.Test.YteeplidoojeddaaGreatDoorPk6
import Derived.Test.YteeplidoojeddaaGreatDoorPk0
import Derived.Deep.RegionLaw
import Derived.Deep.RegionWith
import Derived.Test.YteeplidoojeddaaGreatDoorPk7
import Derived.Test.YteeplidoojeddaaGreatDoorPk2
/-
  A row that is being appended to, each of its items in blocks of its own.
-/
namespace Go.Proofs.YteeplidoojeddaaGreatDoor
open Go.RowKit
set_option linter.unusedVariables false
set_option linter.unusedSimpArgs false

theorem flatten_at (s : Nat) : ∀ (cs : List (List Value)), (∀ c ∈ cs, c.length = s) → ∀ i, i < cs.length → ∀ j, j < s → cs.flatten[i * s + j]? = (cs.getD i [])[j]? := by
  intro cs
  induction cs with
  | nil => intro _ i hi; simp at hi
  | cons c cs ih =>
    intro hl i hi j hj
    have hc := hl c (by simp)
    rw [List.flatten_cons]
    cases i with
    | zero => rw [List.getElem?_append_left (by omega)]; simp
    | succ i =>
      have hge : s ≤ (i + 1) * s + j := by rw [Nat.add_mul, Nat.one_mul]; omega
      rw [List.getElem?_append_right (by omega), hc]
      have he : (i + 1) * s + j - s = i * s + j := by rw [Nat.add_mul, Nat.one_mul]; omega
      rw [he, ih (fun c' h => hl c' (by simp [h])) i (by simpa using hi) j hj]
      simp

/-- A row of n items that lies from block 'base' on; item i has the cells cs[i], and what it reaches lies in the blocks Bi[i]. -/
def RW (T : TypeId) (s : Nat) (It : World → Nat → List Value → List Nat → Prop) (w : World) (base : Nat) (x : Value) (n : Nat) (cs : List (List Value)) (Bi : List (List Nat)) : Prop :=
  cs.length = n ∧ Bi.length = n ∧ w.ownsRow base T s x n cs.flatten ∧ (∀ i, i < n → It w i (cs.getD i []) (Bi.getD i [])) ∧ (x.ownBlock.toList ++ Bi.flatten).Nodup ∧ ∀ b ∈ x.ownBlock.toList ++ Bi.flatten, base ≤ b ∧ b < w.heap.size

theorem RW.nil (T : TypeId) (s : Nat) (It : World → Nat → List Value → List Nat → Prop) (w : World) (base : Nat) : RW T s It w base (.slice none 0 0) 0 [] [] :=
  ⟨rfl, rfl, ⟨by simp, .inl ⟨rfl, rfl⟩⟩, fun i hi => by omega, by simp [Value.ownBlock], by simp [Value.ownBlock]⟩

theorem mem_flat {Bi : List (List Nat)} {i b : Nat} (h : b ∈ Bi.getD i []) : b ∈ Bi.flatten := by
  rw [List.getD_eq_getElem?_getD] at h
  cases hi : Bi[i]? with
  | none => rw [hi] at h; simp at h
  | some l => rw [hi] at h; exact List.mem_flatten.2 ⟨l, List.mem_of_getElem? hi, h⟩

/-- It stands where its blocks do. -/
theorem RW.agree {T : TypeId} {s : Nat} {It : World → Nat → List Value → List Nat → Prop} (hIt : ∀ w w' i c B, It w i c B → Agree (fun b => b ∈ B) w w' → It w' i c B) {w w' : World} {base : Nat} {x : Value} {n : Nat} {cs : List (List Value)} {Bi : List (List Nat)}
    (h : RW T s It w base x n cs Bi) (ha : Agree (fun b => b ∈ x.ownBlock.toList ++ Bi.flatten) w w') (hz : w.heap.size ≤ w'.heap.size) : RW T s It w' base x n cs Bi := by
  obtain ⟨h1, h2, h3, h4, h5, h6⟩ := h
  refine ⟨h1, h2, ⟨h3.1, ?_⟩, fun i hi => hIt _ _ _ _ _ (h4 i hi) fun b hb => ha b (by simp only [List.mem_append]; exact .inr (mem_flat hb)), h5, fun b hb => ⟨(h6 b hb).1, Nat.lt_of_lt_of_le (h6 b hb).2 hz⟩⟩
  rcases h3.2 with h0 | ⟨g, cap, cur, rfl, hb, hh, r⟩
  · exact .inl h0
  · exact .inr ⟨g, cap, cur, rfl, hb, (ha g (by simp [Value.ownBlock])).trans hh, r⟩

/-- One item more. -/
theorem RW.add {T : TypeId} {s : Nat} {It : World → Nat → List Value → List Nat → Prop} (hIt : ∀ w w' i c B, It w i c B → Agree (fun b => b ∈ B) w w' → It w' i c B) {w w2 w3 : World} {base : Nat} {x : Value} {n : Nat} {cs : List (List Value)} {Bi : List (List Nat)} {c : List Value} {Bv : List Nat} {g cap : Nat}
    (h : RW T s It w base x n cs Bi) (ha : ∀ b, b < w.heap.size → w2.heap[b]? = w.heap[b]?) (hz : w.heap.size ≤ w2.heap.size) (hc : It w2 n c Bv) (hBv : ∀ b ∈ Bv, w.heap.size ≤ b ∧ b < w2.heap.size) (hBn : Bv.Nodup) (hbase : base ≤ w.heap.size)
    (hown : w3.ownsRow base T s (.slice (some ⟨g, 0, none⟩) (n + 1) cap) (n + 1) (cs.flatten ++ c)) (hg : w2.grownBy w3 x.ownBlock) (hat : x.ownBlock = some g ∨ g = w2.heap.size) :
    RW T s It w3 base (.slice (some ⟨g, 0, none⟩) (n + 1) cap) (n + 1) (cs ++ [c]) (Bi ++ [Bv]) := by
  obtain ⟨h1, h2, h3, h4, h5, h6⟩ := h
  have hlt := hown.lt g rfl
  have hsz := hg.size
  have hfl : ∀ b ∈ Bi.flatten, base ≤ b ∧ b < w.heap.size := fun b hb => h6 b (by simp only [List.mem_append]; exact .inr hb)
  have hdis : ∀ b ∈ Bi.flatten, x.ownBlock ≠ some b := by
    intro b hb hx
    rw [hx] at h5
    simp only [Option.toList_some, List.nodup_append] at h5
    exact h5.2.2 b (by simp) b hb rfl
  have hxb : ∀ b, x.ownBlock = some b → b < w.heap.size := fun b hb => (h3.lt b hb).2
  refine ⟨by simp [h1], by simp [h2], by simpa using hown, fun i hi => ?_, ?_, ?_⟩
  · by_cases hin : i < n
    · have e1 : (cs ++ [c]).getD i [] = cs.getD i [] := by simp [List.getD_eq_getElem?_getD, List.getElem?_append_left (show i < cs.length by omega)]
      have e2 : (Bi ++ [Bv]).getD i [] = Bi.getD i [] := by simp [List.getD_eq_getElem?_getD, List.getElem?_append_left (show i < Bi.length by omega)]
      rw [e1, e2]
      refine hIt _ _ _ _ _ (h4 i hin) fun b hb => ?_
      have hm := mem_flat hb
      have hb' := hfl b hm
      exact (hg.block b (by omega) (fun e => hdis b hm e.symm)).trans (ha b hb'.2)
    · have hin' : i = n := by omega
      subst hin'
      have e1 : (cs ++ [c]).getD i [] = c := by rw [← h1]; simp [List.getD_eq_getElem?_getD]
      have e2 : (Bi ++ [Bv]).getD i [] = Bv := by rw [← h2]; simp [List.getD_eq_getElem?_getD]
      rw [e1, e2]
      refine hIt _ _ _ _ _ hc fun b hb => ?_
      have hb' := hBv b hb
      exact hg.block b hb'.2 (fun e => by have := hxb b e.symm; omega)
  · have hmid : (Bi.flatten ++ Bv).Nodup := by
      rw [List.nodup_append]
      refine ⟨(List.nodup_append.1 h5).2.1, hBn, fun a ha' b hb' => ?_⟩
      have := hfl a ha'
      have := hBv b hb'
      omega
    have hgn : g ∉ Bi.flatten ++ Bv := by
      intro hm
      rcases hat with hx | hx
      · rcases List.mem_append.1 hm with h' | h'
        · exact hdis g h' hx
        · have := hBv g h'
          have := hxb g hx
          omega
      · rcases List.mem_append.1 hm with h' | h'
        · have := hfl g h'; omega
        · have := hBv g h'; omega
    simp only [Value.ownBlock, Option.toList_some, List.flatten_append, List.flatten_singleton, List.singleton_append]
    exact List.nodup_cons.2 ⟨hgn, hmid⟩
  · intro b hb
    simp only [Value.ownBlock, Option.toList_some, List.flatten_append, List.flatten_singleton, List.singleton_append, List.mem_cons, List.mem_append] at hb
    rcases hb with rfl | hb | hb
    · exact hlt
    · have := hfl b hb; omega
    · have := hBv b hb; omega

/-- A value's five cells. -/
def enc5 (e : Value × Value × Value × Value × Value) : List Value := [e.1, e.2.1, e.2.2.1, e.2.2.2.1, e.2.2.2.2]

/-- Item i is the value l[i]. -/
def ItV (d : Nat) (l : List (Vl d)) (w : World) (i : Nat) (c : List Value) (B : List Nat) : Prop := ∃ e, c = enc5 e ∧ ∃ h : i < l.length, VOwn w d e l[i] B

/-- Item i is the text ks[i]. -/
def ItK (ks : List (List Int)) (w : World) (i : Nat) (c : List Value) (B : List Nat) : Prop := ∃ u, c = [u] ∧ TOwn w u (ks.getD i []) B

theorem ItV.agree (d : Nat) (l : List (Vl d)) : ∀ w w' i c B, ItV d l w i c B → Agree (fun b => b ∈ B) w w' → ItV d l w' i c B := by
  rintro w w' i c B ⟨e, rfl, h, hv⟩ ha
  exact ⟨e, rfl, h, VOwn.agree d hv ha⟩

theorem ItK.agree (ks : List (List Int)) : ∀ w w' i c B, ItK ks w i c B → Agree (fun b => b ∈ B) w w' → ItK ks w' i c B := by
  rintro w w' i c B ⟨u, rfl, hv⟩ ha
  exact ⟨u, rfl, hv.agree ha⟩

theorem getD_of_mem {α : Type} {cs : List α} {c z : α} (h : c ∈ cs) : ∃ i, i < cs.length ∧ cs.getD i z = c := by
  obtain ⟨i, hi, e⟩ := List.getElem_of_mem h
  exact ⟨i, hi, by simp [List.getD_eq_getElem?_getD, hi, e]⟩

/-- All of it: a list of values of the call's own. -/
theorem RW.lown {w : World} {base d : Nat} {x : Value} {l : List (Vl d)} {cs : List (List Value)} {Bi : List (List Nat)} (h : RW 34 5 (ItV d l) w base x l.length cs Bi) : LOwn w d x l (x.ownBlock.toList ++ Bi.flatten) := by
  obtain ⟨h1, h2, h3, h4, h5, h6⟩ := h
  have hl5 : ∀ c ∈ cs, c.length = 5 := by
    intro c hc
    obtain ⟨i, hi, e⟩ := getD_of_mem (z := []) hc
    obtain ⟨e', he, _⟩ := h4 i (by omega)
    rw [← e, he]
    rfl
  rcases h3.2 with ⟨rfl, h0⟩ | ⟨g, cap, cur, rfl, hb, hh, hn, hm, hs, ht⟩
  · have hl0 : l = [] := List.eq_nil_of_length_eq_zero h0
    have hb0 : Bi = [] := List.eq_nil_of_length_eq_zero (by omega)
    subst hl0 hb0
    exact .inl ⟨rfl, rfl, rfl⟩
  · refine .inr ⟨g, cap, cur, Bi, rfl, hh, hn, hm, hs, h2, fun i hi => ?_, rfl, h5⟩
    obtain ⟨e, he, _, hv⟩ := h4 i hi
    have hcell : ∀ j, j < 5 → cur[i * 5 + j]? = (enc5 e)[j]? := by
      intro j hj
      have hf := flatten_at 5 cs hl5 i (by omega) j hj
      rw [he, ← ht, List.getElem?_take_of_lt (by omega), Array.getElem?_toList] at hf
      exact hf
    exact ⟨e, ⟨hcell 0 (by omega), hcell 1 (by omega), hcell 2 (by omega), hcell 3 (by omega), hcell 4 (by omega)⟩, hv⟩

/-- All of it: a list of texts of the call's own. -/
theorem RW.kown {w : World} {base : Nat} {x : Value} {ks : List (List Int)} {cs : List (List Value)} {Bi : List (List Nat)} (h : RW 22 1 (ItK ks) w base x ks.length cs Bi) : KOwn w x ks (x.ownBlock.toList ++ Bi.flatten) := by
  obtain ⟨h1, h2, h3, h4, h5, h6⟩ := h
  have hl1 : ∀ c ∈ cs, c.length = 1 := by
    intro c hc
    obtain ⟨i, hi, e⟩ := getD_of_mem (z := []) hc
    obtain ⟨e', he, _⟩ := h4 i (by omega)
    rw [← e, he]
    rfl
  rcases h3.2 with ⟨rfl, h0⟩ | ⟨g, cap, cur, rfl, hb, hh, hn, hm, hs, ht⟩
  · have hl0 : ks = [] := List.eq_nil_of_length_eq_zero h0
    have hb0 : Bi = [] := List.eq_nil_of_length_eq_zero (by omega)
    subst hl0 hb0
    exact .inl ⟨rfl, rfl, rfl⟩
  · refine .inr ⟨g, cap, cur, Bi, rfl, hh, hn, hm, by omega, h2, fun i hi => ?_, rfl, h5⟩
    obtain ⟨u, he, hv⟩ := h4 i hi
    have hcell : cur[i]? = some u := by
      have hf := flatten_at 1 cs hl1 i (by omega) 0 (by omega)
      rw [he, ← ht, List.getElem?_take_of_lt (by omega), Array.getElem?_toList] at hf
      simpa using hf
    exact ⟨u, hcell, hv⟩
end Go.Proofs.YteeplidoojeddaaGreatDoor
/-
  A row of bytes of the call's own, as a text with its blocks.
-/
namespace Go.Proofs.YteeplidoojeddaaGreatDoor
open Go.RowKit
set_option linter.unusedVariables false
set_option linter.unusedSimpArgs false

theorem tOwn_of {w : World} {base : Nat} {v : Value} {xs : List Int} (h : Bts w base v xs) : ∃ B, TOwn w v xs B ∧ (∀ b ∈ B, base ≤ b ∧ b < w.heap.size) ∧ B.Nodup := by
  have hlt := h.2.lt
  rcases h.2.2 with ⟨rfl, h0⟩ | ⟨g, cap, cur, rfl, _⟩
  · exact ⟨[], ⟨h.free, .inl ⟨rfl, rfl⟩⟩, by simp, by simp⟩
  · exact ⟨[g], ⟨h.free, .inr ⟨g, cap, rfl, rfl⟩⟩, by intro b hb; simp at hb; subst hb; exact hlt b rfl, by simp⟩

end Go.Proofs.YteeplidoojeddaaGreatDoor
/-
  '[]byte(s)': a text of the call's own.
-/
namespace Go.Proofs.YteeplidoojeddaaGreatDoor
open Go.RowKit
set_option linter.unusedVariables false
set_option linter.unusedSimpArgs false

/-- '[]byte(s)': a text of the call's own. -/
theorem conv_back (xs : List Int) (hx : ∀ x ∈ xs, Byt x) (hl : xs.length ≤ 1048576) (w : World) : ∃ cap wB, (convert 9 22 (.string (strOf xs))).run Tryz.prog w = .ok (.slice (some ⟨w.heap.size, 0, none⟩) xs.length cap) wB ∧
    TOwn wB (.slice (some ⟨w.heap.size, 0, none⟩) xs.length cap) xs [w.heap.size] ∧ Below w.heap.size w wB ∧ wB.heap.size = w.heap.size + 1 := by
  have hsz := size_strOf xs
  have hsc := strCells_of hx
  have hrun := run_bytes_of_string (P := Tryz.prog) w 9 22 5 (strOf xs) Tryz.underlying9 Tryz.underlying22 Tryz.underlying5
  rw [hsz] at hrun
  have hge := grownCap_ge w xs.length 0 5
  have hle := grownCap_le_maxLen w xs.length 0 5 (by unfold maxLen; omega)
  generalize grownCap w xs.length 0 5 = cap at hrun hge hle
  have hrs : (bytesRow (strOf xs) cap).size = cap := by
    have h1 : (strOf xs).data.size = xs.length := hsz
    simp [bytesRow, h1, hsz]
    omega
  have hrt : (bytesRow (strOf xs) cap).toList.take xs.length = cellsOf xs := by
    rw [← hsc]
    unfold bytesRow Lib.strCells
    rw [Array.toList_append, Array.toList_map, List.take_append_of_le_length (by simp; exact Nat.le_of_eq hsz.symm)]
    rw [List.take_of_length_le (by simp; exact Nat.le_of_eq hsz)]
  rw [hrs] at hrun
  refine ⟨cap, _, hrun, ⟨⟨hx, by simp [cellsOf], .inr ⟨w.heap.size, cap, _, _, rfl, heap_alloc_new w.drew _, .inr (Nat.le_refl _), hge, hle, hrs, hrt⟩⟩, .inr ⟨_, _, rfl, rfl⟩⟩, ((Below.refl _ w).drew).alloc (Nat.le_refl _) _, by simp⟩
end Go.Proofs.YteeplidoojeddaaGreatDoor
/-
  A text that is read: its bytes, and that nil has no room.
-/
namespace Go.Proofs.YteeplidoojeddaaGreatDoor
open Go.RowKit
set_option linter.unusedVariables false

theorem TSeg.out {R : Nat → Prop} {w : World} {a : Option Addr} {n c : Nat} {xs : List Int} (h : TSeg R w (.slice a n c) xs) : Seg w a xs ∧ (a = none → c = 0) := by
  obtain ⟨a', c', h1, h2, h3, h4, h5, _⟩ := h
  simp only [Value.slice.injEq] at h1
  obtain ⟨rfl, _, rfl⟩ := h1
  exact ⟨h2, h5⟩
end Go.Proofs.YteeplidoojeddaaGreatDoor
/-
  l2say of the specification: a value without parts.
-/
namespace Go.Proofs.YteeplidoojeddaaGreatDoor
open Go.RowKit
set_option linter.unusedVariables false
set_option linter.unusedSimpArgs false

/-- What l2say has left. -/
def SayEnd (xs : List Int) (w : World) (e : Ending) (w' : World) : Prop := ∃ a c, e = .returned (.slice a xs.length c) ∧ Seg w' a xs ∧ (a = none → c = 0) ∧ (∀ x, a = some x → w.heap.size ≤ x.block ∧ x.block < w'.heap.size) ∧ Below w.heap.size w w'

theorem sayEnd_of {w w1 w' : World} {u : Value} {xs : List Int} (hB : Bts w' w1.heap.size u xs) (hz : w.heap.size ≤ w1.heap.size) (hb : Below w.heap.size w w') : SayEnd xs w (.returned u) w' := by
  obtain ⟨a, c, rfl, hs, _, _, hx, k⟩ := hB.shape
  exact ⟨a, c, rfl, hs, k, fun x e => ⟨by have := (hx x e).1; omega, (hx x e).2.1⟩, hb⟩

theorem push_modify (a : Array Obj) (x : Obj) (f : Obj → Obj) : (a.push x).modify a.size f = a.push (f x) := by
  ext i h1 h2
  · simp
  · rw [Array.getElem_modify]
    split
    · rename_i h; subst h; simp
    · rename_i h
      have : i < a.size := by simp at h1; omega
      simp [Array.getElem_push, this]

theorem conv_same (cs : Array Value) (n : Nat) (hn : cs.size = n) (w : World) : (convert 22 22 (.slice (some ⟨w.heap.size, 0, none⟩) n n)).run Tryz.prog (w.alloc (.cells cs 5)) = .ok (.slice (some ⟨w.heap.size, 0, none⟩) n n) (w.alloc (.cells cs 5 (n, n + 1))) := by
  have hsh : (w.alloc (.cells cs 5)).shape? w.heap.size = some (5, n) := by
    unfold World.shape?
    rw [heap_alloc_new w (.cells cs 5)]
    rw [← hn]
  have hfr : (w.alloc (.cells cs 5)).freeze ⟨w.heap.size, n, none⟩ 1 = w.alloc (.cells cs 5 (n, n + 1)) := by
    unfold World.freeze
    rw [if_neg (by decide)]
    show ({ w.alloc (.cells cs 5) with heap := (w.heap.push (.cells cs 5)).modify w.heap.size _ } : World) = _
    rw [push_modify]
    rfl
  simp [convert, run_underlying Tryz.underlying22, run_underlying Tryz.underlying5, markStringish, hsh, hfr]

/-- The cells of a text that was written out, marked as such. -/
theorem seg_lit (w : World) (xs : List Int) (h : ∀ x ∈ xs, Byt x) (fr : Nat × Nat) : Seg (w.alloc (.cells (cellsOf xs).toArray 5 fr)) (some ⟨w.heap.size, 0, none⟩) xs := by
  refine ⟨h, .inr ⟨w.heap.size, 0, rfl, fun i hi => ?_⟩⟩
  rw [cell_of_row _ w.heap.size _ _ _ fr (heap_alloc_new w _)]
  simp [cellsOf, List.getD_eq_getElem?_getD, hi]


end Go.Proofs.YteeplidoojeddaaGreatDoor
/-
  Cells of a list of values, of a list of texts: the same behind later calls.
-/
namespace Go.Proofs.YteeplidoojeddaaGreatDoor
open Go.RowKit
set_option linter.unusedVariables false
set_option linter.unusedSimpArgs false

theorem KSeg.none_at {R : Nat → Prop} {w : World} {b off : Nat} {n cap : Nat} {ks : List (List Int)} (h : KSeg R w (.slice (some ⟨b, off, none⟩) n cap) ks) {k : Nat} (hk : k < ks.length) {ta : Option Addr} {l tc : Nat} (hq : w.cell? ⟨b, off + k, none⟩ = some (.slice ta l tc)) : ta = none → tc = 0 := by
  obtain ⟨a', cap', h1, h2, h3, h4, h5⟩ := h
  simp only [Value.slice.injEq] at h1
  obtain ⟨rfl, _, _⟩ := h1
  rcases h5 with h0 | ⟨b, off, e, _, hc⟩
  · subst h0; simp at hk
  · simp only [Option.some.injEq, Addr.mk.injEq] at e
    obtain ⟨rfl, rfl, _⟩ := e
    obtain ⟨u, hu, a2, c2, rfl, s2, l2, m2, k2, _⟩ := hc k hk
    rw [hq] at hu
    simp at hu
    obtain ⟨rfl, _, rfl⟩ := hu
    exact k2

theorem five_same {N : Nat} {w wr wx : World} {d : Nat} {b off n cap : Nat} {l : List (Vl d)} {c : Value × Value × Value × Value × Value} (h : LSeg (fun b => b < N) w d (.slice (some ⟨b, off, none⟩) n cap) l) (hx : Below w.heap.size w wx) (hr : Below w.heap.size w wr) (hN : N ≤ w.heap.size) {k : Nat} (hk : k < l.length) (h5 : Five wr b (off + k * 5) c) : Five wx b (off + k * 5) c := by
  obtain ⟨a', cap', h1, h2, h3, h4, h5'⟩ := h
  simp only [Value.slice.injEq] at h1
  obtain ⟨rfl, _, _⟩ := h1
  rcases h5' with h0 | ⟨b', off', e, hR, hc⟩
  · subst h0; simp at hk
  · simp only [Option.some.injEq, Addr.mk.injEq] at e
    obtain ⟨rfl, rfl, _⟩ := e
    have hbr : wr.heap[b]? = w.heap[b]? := hr.block b (by omega)
    have hbx : wx.heap[b]? = w.heap[b]? := hx.block b (by omega)
    have hcc : ∀ j, wx.cell? ⟨b, j, none⟩ = wr.cell? ⟨b, j, none⟩ := fun j => World.cell?_of_block (hbx.trans hbr.symm)
    exact ⟨(hcc _).trans h5.1, (hcc _).trans h5.2.1, (hcc _).trans h5.2.2.1, (hcc _).trans h5.2.2.2.1, (hcc _).trans h5.2.2.2.2⟩

end Go.Proofs.YteeplidoojeddaaGreatDoor
/-
  l2say of the specification: lists and maps, all; ValText.
-/
namespace Go.Proofs.YteeplidoojeddaaGreatDoor
open Go.RowKit
set_option linter.unusedVariables false
set_option linter.unusedSimpArgs false

theorem below_next {w wx : World} {o : Obj} (h : Below (w.heap.size + 1) (w.alloc o) wx) : Below w.heap.size w wx := by
  have h1 : Below (w.alloc o).heap.size (w.alloc o) wx := by simp only [World.size_alloc]; exact h
  exact Below.on ((Below.refl _ _).alloc (Nat.le_refl _) o) h1

theorem below_on1 {w w1 w2 : World} {o : Obj} (h : Below (w.heap.size + 1) (w.alloc o) w1) (k : Below w1.heap.size w1 w2) : Below (w.heap.size + 1) (w.alloc o) w2 := h.trans (k.mono (by have := h.size; simp at this; omega))

theorem kidS_first {α : Type} (f : α → List Int) (m : Bool) (K : List (List Int)) (L : List α) : kidS f m K L 0 = [] := rfl

end Go.Proofs.YteeplidoojeddaaGreatDoor
/-
  l2say of the specification: maps.
-/
namespace Go.Proofs.YteeplidoojeddaaGreatDoor
open Go.RowKit
set_option linter.unusedVariables false
set_option linter.unusedSimpArgs false

theorem key_same {N : Nat} {w wr wx : World} {b off n cap : Nat} {K : List (List Int)} {ta : Option Addr} {l tc : Nat} (h : KSeg (fun b => b < N) w (.slice (some ⟨b, off, none⟩) n cap) K) (hx : Below w.heap.size w wx) (hr : Below w.heap.size w wr) (hN : N ≤ w.heap.size) {k : Nat} (hk : k < K.length) (hq : wr.cell? ⟨b, off + k, none⟩ = some (.slice ta l tc)) :
    wx.cell? ⟨b, off + k, none⟩ = some (.slice ta l tc) ∧ Seg wx ta (K.getD k []) := by
  obtain ⟨a', cap', h1, h2, h3, h4, h5'⟩ := h.agree (agree_below (hx.mono hN))
  simp only [Value.slice.injEq] at h1
  obtain ⟨rfl, _, _⟩ := h1
  rcases h5' with h0 | ⟨b', off', e, hR, hc⟩
  · subst h0; simp at hk
  · simp only [Option.some.injEq, Addr.mk.injEq] at e
    obtain ⟨rfl, rfl, _⟩ := e
    have hcc : wx.cell? ⟨b, off + k, none⟩ = wr.cell? ⟨b, off + k, none⟩ := World.cell?_of_block ((hx.block b (by omega)).trans (hr.block b (by omega)).symm)
    obtain ⟨u, hu, a2, c2, rfl, s2, _⟩ := hc k hk
    have he := (hu.symm.trans hcc).trans hq
    simp only [Option.some.injEq, Value.slice.injEq] at he
    obtain ⟨rfl, rfl, rfl⟩ := he
    exact ⟨hu, s2⟩

end Go.Proofs.YteeplidoojeddaaGreatDoor
/-
  l2say of whatever value; ValText of the specification.
-/
namespace Go.Proofs.YteeplidoojeddaaGreatDoor
open Go.RowKit
set_option linter.unusedVariables false
set_option linter.unusedSimpArgs false

theorem shape_says {vk vn : Int} {vs : List Int} {vK : List (List Int)} {n : Nat} (h : shapeB vk vn vs vK n = true) :
    vs.length ≤ 20 ∧ (vk = 0 ∨ vk = 6 ∨ (vk = 1 ∧ (vn = 0 ∨ vn = 1)) ∨ (vk = 2 ∧ -1000000000000 ≤ vn ∧ vn ≤ 1000000000000) ∨ vk = 3 ∨ (vk = 4 ∧ vK.length = 0) ∨ (vk = 5 ∧ vK.length = n ∧ ascB vK = true)) := by
  unfold shapeB bareB intB at h
  simp only [Bool.and_eq_true, Bool.or_eq_true, decide_eq_true_eq] at h
  obtain ⟨⟨⟨⟨h1, h2⟩, h3⟩, h4⟩, h5⟩ := h
  have htx : textB vs = true → vs.length ≤ 20 := fun ht => by
    unfold textB at ht
    simp only [Bool.and_eq_true, decide_eq_true_eq] at ht
    exact ht.1
  rcases h5 with (((((h5 | h5) | h5) | h5) | h5) | h5) | h5
  · exact ⟨by omega, .inl h5⟩
  · exact ⟨by omega, .inr (.inl h5)⟩
  · exact ⟨by omega, .inr (.inr (.inl h5))⟩
  · exact ⟨by omega, .inr (.inr (.inr (.inl ⟨h5.1, h5.2.1, h5.2.2⟩)))⟩
  · exact ⟨htx h5.2, .inr (.inr (.inr (.inr (.inl h5.1))))⟩
  · exact ⟨by omega, .inr (.inr (.inr (.inr (.inr (.inl ⟨h5, by omega⟩)))))⟩
  · exact ⟨by omega, .inr (.inr (.inr (.inr (.inr (.inr ⟨h5.1, h5.2.1, h5.2.2⟩)))))⟩

theorem kids_less {d : Nat} (vL : List (Vl d)) : ∀ k, k ≤ vL.length → k ≤ pre (partsV d) vL k := by
  intro k
  induction k with
  | zero => intro _; exact Nat.zero_le _
  | succ k ih =>
    intro hk
    have h1 := pre_succ (partsV d) vL k (by omega)
    have h2 := ih (by omega)
    have h3 : 1 ≤ partsV d vL[k] := by
      cases d with
      | zero => exact (vL[k]).elim
      | succ d => exact parts_pos d _
    omega

theorem ok_says {d : Nat} {v : Vl d} (h : okB d v = true) : goodB d v 1 = true ∧ partsV d v ≤ 40 := by
  unfold okB at h
  simp only [Bool.and_eq_true, decide_eq_true_eq] at h
  exact h

end Go.Proofs.YteeplidoojeddaaGreatDoor
/-
  Blocks that hold no bytes stay where bytes are appended.
-/
namespace Go.Proofs.YteeplidoojeddaaGreatDoor
open Go.RowKit
set_option linter.unusedVariables false
set_option linter.unusedSimpArgs false

/-- All blocks that hold no bytes stay as they are. -/
def Kept (w w' : World) : Prop := ∀ (g : Nat) (cs : Array Value) (T : TypeId) (fr : Nat × Nat), w.heap[g]? = some (.cells cs T fr) → T ≠ 5 → w'.heap[g]? = some (.cells cs T fr)
theorem Kept.refl (w : World) : Kept w w := fun _ _ _ _ h _ => h
theorem Kept.trans {w w1 w2 : World} (h : Kept w w1) (k : Kept w1 w2) : Kept w w2 := fun g cs T fr hh hT => k g cs T fr (h g cs T fr hh hT) hT
theorem kept_below {w w' : World} (h : Below w.heap.size w w') : Kept w w' := fun g cs T fr hh _ => (h.block g (Array.getElem?_eq_some_iff.1 hh).1).trans hh
theorem kept_alloc (w : World) (o : Obj) : Kept w (w.alloc o) := kept_below ((Below.refl _ _).alloc (Nat.le_refl _) o)
theorem bts_box {w : World} {B : Nat} {v : Value} {xs : List Int} {g : Nat} {cs : Array Value} {T : TypeId} {fr : Nat × Nat} (h : Bts w B v xs) (hb : w.heap[g]? = some (.cells cs T fr)) (hT : T ≠ 5) : some g ≠ v.ownBlock := by
  intro e
  rcases h.2.2 with ⟨rfl, _⟩ | ⟨g', cap, cur, rfl, _, hh, _⟩
  · simp [Value.ownBlock] at e
  · simp [Value.ownBlock] at e
    subst e
    rw [hh] at hb
    simp at hb
    exact hT hb.2.1.symm
theorem kept_grown {w w' : World} {B : Nat} {v : Value} {xs : List Int} (h : Bts w B v xs) (hg : w.grownBy w' v.ownBlock) : Kept w w' := fun g cs T fr hh hT => (hg.block g (Array.getElem?_eq_some_iff.1 hh).1 (bts_box h hh hT)).trans hh
theorem kept_app {w0 w w' : World} {o : Obj} {B : Nat} {v : Value} {xs : List Int} (hk : Kept w0 w) (h : Bts (w.alloc o) B v xs) (hg : (w.alloc o).grownBy w' v.ownBlock) : Kept w0 w' := hk.trans ((kept_alloc w o).trans (kept_grown h hg))
theorem kept_app2 {w0 w w' : World} {o o' : Obj} {B : Nat} {v : Value} {xs : List Int} (hk : Kept w0 w) (h : Bts ((w.alloc o).alloc o') B v xs) (hg : ((w.alloc o).alloc o').grownBy w' v.ownBlock) : Kept w0 w' := hk.trans ((kept_alloc w o).trans ((kept_alloc _ o').trans (kept_grown h hg)))
end Go.Proofs.YteeplidoojeddaaGreatDoor
/-
  A slice of one byte that is made as a step of a region that draws its order, and what keeps it.
-/
namespace Go.Proofs.YteeplidoojeddaaGreatDoor
open Go.RowKit
set_option linter.unusedVariables false
set_option linter.unusedSimpArgs false

/-- A block of one byte. -/
def LitB (w : World) (g : Nat) (c : Int) : Prop := w.heap[g]? = some (.cells #[.int .u8 c] 5 (0, 0))

theorem LitB.lt {w : World} {g : Nat} {c : Int} (h : LitB w g c) : g < w.heap.size := (Array.getElem?_eq_some_iff.1 h).1
theorem LitB.kept {w w' : World} {g : Nat} {c : Int} {r : Option Nat} (h : LitB w g c) (hg : w.grownBy w' r) (hr : some g ≠ r) : LitB w' g c := (hg.block g h.lt hr).trans h
theorem LitB.grow {w w' : World} {g : Nat} {c : Int} (h : LitB w g c) (hb : Below w.heap.size w w') : LitB w' g c := (hb.block g h.lt).trans h
theorem LitB.seg {w : World} {g : Nat} {c : Int} (h : LitB w g c) (hc : Byt c) : Seg w (some ⟨g, 0, none⟩) [c] := by
  refine ⟨by simpa using hc, .inr ⟨g, 0, rfl, fun i hi => ?_⟩⟩
  obtain rfl : i = 0 := by simp at hi; omega
  rw [cell_of_row w g _ _ _ _ h]
  rfl

theorem LitB.ne {w : World} {B g : Nat} {c x : Int} {v : Value} {xs : List Int} (h : LitB w g c) (hB : Bts w B v (xs ++ [x])) (hx : x ≠ c) : some g ≠ v.ownBlock := by
  intro e
  have hlen : 0 < (xs ++ [x]).length := by simp
  rcases hB.2.2 with ⟨rfl, h0⟩ | ⟨g', cap, cur, rfl, _, hh, h4, _, h5, h6⟩
  · simp [Value.ownBlock] at e
  · simp [Value.ownBlock] at e
    subst e
    have hc : cur = #[.int .u8 c] := by
      have := h.symm.trans hh
      simp at this
      exact this.symm
    subst hc
    have hl1 : (xs ++ [x]).length = 1 := by
      have h5' : 1 = cap := by simpa using h5
      omega
    have hx0 : xs = [] := by simpa using hl1
    subst hx0
    simp [cellsOf] at h6
    exact hx h6.symm

/-- A new block of one byte, not ahead of lo. -/
def LitA (lo : Nat) (w : World) (g : Nat) (c : Int) : Prop := LitB w g c ∧ lo ≤ g
theorem lit_new {lo q : Nat} {w : World} {c : Int} (hq : w.heap.size = q) (hl : lo ≤ q) : LitA lo (w.alloc (.cells #[.int .u8 c] 5)) q c := by
  subst hq
  exact ⟨(MapKept.heap_alloc w _).1, hl⟩
theorem LitA.alloc {lo g : Nat} {w : World} {c : Int} (h : LitA lo w g c) (o : Obj) : LitA lo (w.alloc o) g c := ⟨h.1.kept (World.grownBy_alloc w o none) (by simp), h.2⟩
theorem LitA.drew {lo g : Nat} {w : World} {c : Int} (h : LitA lo w g c) : LitA lo w.drew g c := h
theorem LitA.seg {lo g : Nat} {w : World} {c : Int} (h : LitA lo w g c) (hc : Byt c) : Seg w (some ⟨g, 0, none⟩) [c] := h.1.seg hc
theorem LitA.kept {lo g : Nat} {w w' : World} {c : Int} {r : Option Nat} (h : LitA lo w g c) (hg : w.grownBy w' r) (hr : some g ≠ r) : LitA lo w' g c := ⟨h.1.kept hg hr, h.2⟩
theorem LitA.old {lo g : Nat} {w w' : World} {c : Int} {v : Value} (h : LitA lo w g c) (hg : w.grownBy w' v.ownBlock) (hr : ∀ k, v.ownBlock = some k → k < lo) : LitA lo w' g c := h.kept hg fun e => by have := hr g e.symm; have := h.2; omega
theorem LitA.grow {lo g : Nat} {w w' : World} {c : Int} (h : LitA lo w g c) (hb : Below w.heap.size w w') : LitA lo w' g c := ⟨h.1.grow hb, h.2⟩
theorem LitA.far {lo g B : Nat} {w w' : World} {c x : Int} {v : Value} {xs : List Int} (h : LitA lo w g c) (hB : Bts w B v (xs ++ [x])) (hx : x ≠ c) (hg : w.grownBy w' v.ownBlock) : LitA lo w' g c := h.kept hg (h.1.ne hB hx)
theorem Bts.young2 {lo : Nat} {w w' : World} {u v : Value} {xs : List Int} (h : Bts w lo u xs) (hg : w.grownBy w' v.ownBlock) (hv : ∀ k, u.ownBlock = some k → v.ownBlock = some k → False) : Bts w' lo u xs := by
  refine h.kept hg ?_
  cases hq : u.ownBlock with
  | none => exact .inl rfl
  | some q => exact .inr fun e => hv q hq e.symm
theorem Bts.young {lo : Nat} {w w' : World} {u v : Value} {xs : List Int} (h : Bts w lo u xs) (hg : w.grownBy w' v.ownBlock) (hv : ∀ k, v.ownBlock = some k → k < lo) : Bts w' lo u xs := by
  refine h.kept hg ?_
  cases hq : u.ownBlock with
  | none => exact .inl rfl
  | some q =>
    refine .inr fun e => ?_
    have h1 := (h.2.lt q hq).1
    have h2 := hv q e.symm
    omega
end Go.Proofs.YteeplidoojeddaaGreatDoor
/-
  'append(own, ys...)' as a step of a region that draws its order.
-/
namespace Go.Proofs.YteeplidoojeddaaGreatDoor
open Go.RowKit
set_option linter.unusedVariables false
set_option linter.unusedSimpArgs false

theorem step_append_seg {ops : Array Oper} {o : Oper} {a : Act} {w : World} {K : Act → World → Prop} {Q : Exit → Act → World → Prop} {E : Prop} (hgd : o.guard = none) (s x : Operand)
    (ho : o.op = .call { callee := .builtin .append, args := #[s, x], argTypes := #[22, 22] })
    (base : Nat) (v : Value) (xs ys : List Int) (hs : a.eval s = v) (hB : Bts w base v xs) (ad : Option Addr) (m c : Nat) (hm : m = ys.length) (hx : a.eval x = .slice ad m c) (hS : Seg w ad ys) (hc : ad = none → c = 0)
    (hlen : xs.length + ys.length ≤ 1099511627776) (hbase : base ≤ w.heap.size)
    (h : ∀ v' w', Bts w' base v' (xs ++ ys) → w.grownBy w' v.ownBlock → K (a.put o.dst v') w') : if Region.wanted o (yielded ops a.tmps) = true then Oper.wp Tryz.prog o a w K Q else E := by
  have hw : Region.wanted o (yielded ops a.tmps) = true := by simp [Region.wanted, hgd]
  rw [if_pos hw]
  obtain ⟨i0, hi, hz0, hz1, hz2⟩ := info_parts info5
  have hbyt : ∀ z ∈ xs ++ ys, Byt z := by
    intro z hz
    rcases List.mem_append.1 hz with h1 | h1
    · exact hB.1 z h1
    · exact hS.1 z h1
  subst hm
  cases ad with
  | none =>
    have hc0 := hc rfl
    have hy : ys = [] := by
      rcases hS.2 with h0 | ⟨b, off, h1, _⟩
      · exact h0
      · simp at h1
    subst hc0
    subst hy
    have hrun := run_append_owned_none (P := Tryz.prog) (w := w) base 22 o.type 5 i0 1 Tryz.underlying22 hi v xs.length (cellsOf xs) hB.2
    unfold Oper.wp
    simp only [List.length_nil] at hx
    simp [execOp, ho, resolve, invoke, builtin, hs, hx, hrun, Result.andThen]
    exact h v w (by simpa using hB) (World.grownBy.refl _ _)
  | some ad =>
    obtain ⟨v', w', hrun, r1, r2, _⟩ := run_append_own (P := Tryz.prog) w base 22 o.type 5 i0 (.int .u8 0) 1 1 Tryz.underlying22 hi hz0 hz1 hz2 rfl (by decide) v xs.length (cellsOf xs) hB.2 ad ys.length c (cellsOf ys) (by simp [cellsOf])
      (by
        intro j u hu
        rcases hS.2 with h0 | ⟨b, off, h1, h2⟩
        · subst h0; simp [cellsOf] at hu
        · simp at h1
          subst h1
          have hj : j < ys.length := by
            have := (List.getElem?_eq_some_iff.1 hu).1
            simpa [cellsOf] using this
          rw [Addr.add_lit, h2 j hj]
          simp [cellsOf, hj] at hu
          simp [hj, hu])
      (by
        intro u hu
        simp only [cellsOf, List.mem_map] at hu
        obtain ⟨q, _, rfl⟩ := hu
        rfl)
      (by unfold maxLen; omega) (by omega) hbase
    unfold Oper.wp
    simp [execOp, ho, resolve, invoke, builtin, hs, hx, hrun, Result.andThen]
    exact h v' w' ⟨hbyt, by rw [cellsOf_append]; simpa using r1⟩ r2

end Go.Proofs.YteeplidoojeddaaGreatDoor
/-
  'append(own, s...)', s a string, as a step of a region that draws its order.
-/
namespace Go.Proofs.YteeplidoojeddaaGreatDoor
open Go.RowKit
set_option linter.unusedVariables false
set_option linter.unusedSimpArgs false

theorem step_append_text {ops : Array Oper} {o : Oper} {a : Act} {w : World} {K : Act → World → Prop} {Q : Exit → Act → World → Prop} {E : Prop} (hgd : o.guard = none) (s x : Operand) (t : TypeId)
    (ho : o.op = .call { callee := .builtin .append, args := #[s, x], argTypes := #[22, t] }) (ht : Tryz.prog.underlying t = some .string)
    (base : Nat) (v : Value) (xs ys : List Int) (hs : a.eval s = v) (hB : Bts w base v xs) (sx : ByteArray) (hsx : sx = strOf ys) (hy : ∀ y ∈ ys, Byt y) (hx : a.eval x = .string sx)
    (hlen : xs.length + ys.length ≤ 1099511627776) (hbase : base ≤ w.heap.size)
    (h : ∀ v' w', Bts w' base v' (xs ++ ys) → w.grownBy w' v.ownBlock → K (a.put o.dst v') w') : if Region.wanted o (yielded ops a.tmps) = true then Oper.wp Tryz.prog o a w K Q else E := by
  have hw : Region.wanted o (yielded ops a.tmps) = true := by simp [Region.wanted, hgd]
  rw [if_pos hw]
  obtain ⟨i0, hi, hz0, hz1, hz2⟩ := info_parts info5
  subst hsx
  have hsz := size_strOf ys
  obtain ⟨v', w', hrun, hown, hg, _⟩ := Lib.run_append_own_string (P := Tryz.prog) w base 22 t o.type 5 i0 Tryz.underlying22 ht hi hz0 hz1 hz2 v xs.length (cellsOf xs) hB.2 (strOf ys) (by unfold maxLen; omega) (by omega) hbase
  unfold Oper.wp
  simp [execOp, ho, resolve, invoke, builtin, hs, hx, hrun, Result.andThen]
  refine h v' w' ⟨?_, ?_⟩ hg
  · intro z hz
    rcases List.mem_append.1 hz with h1 | h1
    · exact hB.1 z h1
    · exact hy z h1
  · rw [strCells_of hy, hsz, ← cellsOf_append] at hown
    rw [List.length_append]
    exact hown
end Go.Proofs.YteeplidoojeddaaGreatDoor
/-
  Plans: which may be written, and their texts (mathematics).
-/
namespace Go.Proofs.YteeplidoojeddaaGreatDoor
open Go.RowKit
set_option linter.unusedVariables false
set_option linter.unusedSimpArgs false

/-- The word of an act. -/
def nmT (k : Int) : List Int := if k = 1 then [99, 114, 101, 97, 116, 101] else if k = 2 then [117, 112, 100, 97, 116, 101] else if k = 3 then [114, 101, 112, 108, 97, 99, 101] else [100, 101, 108, 101, 116, 101]
/-- An act may be written. -/
def actB (d : Nat) (a : Rcd d) : Bool := decide (1 ≤ a.1) && (decide (a.1 ≤ 4) && (addrB a.2.1 && okB d a.2.2.2.1))
/-- Its line. -/
def actT (d : Nat) (a : Rcd d) : List Int := (((nmT a.1 ++ [32]) ++ a.2.1) ++ (if a.1 = 4 then [] else [32] ++ sayV d a.2.2.2.1)) ++ [10]
/-- The lines of the first k. -/
def preA (d : Nat) (l : List (Rcd d)) (k : Nat) : List Int := ((l.take k).map (actT d)).flatten
def planB (d : Nat) (l : List (Rcd d)) (s : Int) : Bool := decide (l.length ≤ 32) && (decide (0 ≤ s) && (decide (s ≤ 16) && l.all (actB d)))
def planT (d : Nat) (l : List (Rcd d)) (s : Int) : List Int := if planB d l s = true then ((preA d l l.length ++ [107, 101, 101, 112, 32]) ++ decI s.toNat) ++ [10] else []

theorem nm_len (k : Int) : (nmT k).length ≤ 7 := by
  unfold nmT
  split
  · simp
  · split
    · simp
    · split <;> simp
theorem nm_byt (k : Int) : ∀ y ∈ nmT k, Byt y := by
  have h : (nmT k).all (fun y => decide (0 ≤ y) && decide (y ≤ 255)) = true := by
    unfold nmT
    split
    · decide
    · split
      · decide
      · split <;> decide
  intro y hy
  have := List.all_eq_true.1 h y hy
  simp at this
  exact this
theorem preA_zero (d : Nat) (l : List (Rcd d)) : preA d l 0 = [] := by simp [preA]
theorem preA_succ (d : Nat) (l : List (Rcd d)) (k : Nat) (h : k < l.length) : preA d l (k + 1) = preA d l k ++ actT d l[k] := by
  unfold preA
  rw [List.take_succ_eq_append_getElem h, List.map_append, List.flatten_append]
  simp
theorem act_of {d : Nat} {a : Rcd d} (h : actB d a = true) : 1 ≤ a.1 ∧ a.1 ≤ 4 ∧ addrB a.2.1 = true ∧ okB d a.2.2.2.1 = true := by
  unfold actB at h
  simp only [Bool.and_eq_true, decide_eq_true_eq] at h
  exact h
theorem actT_len {d : Nat} {a : Rcd d} (h : actB d a = true) (hz : a.2.1.length ≤ 1048576) : (actT d a).length ≤ 1052000 := by
  obtain ⟨_, _, _, h4⟩ := act_of h
  obtain ⟨g1, g2⟩ := ok_says h4
  have h5 := sayV_len d a.2.2.2.1 1 g1
  have h6 := nm_len a.1
  unfold actT
  split <;> simp only [List.length_append, List.length_cons, List.length_nil] <;> omega
theorem preA_len {d : Nat} {l : List (Rcd d)} (hz : ∀ i (h : i < l.length), (l[i]).2.1.length ≤ 1048576) : ∀ k, k ≤ l.length → (∀ j (h : j < l.length), j < k → actB d l[j] = true) → (preA d l k).length ≤ k * 1052000
  | 0, _, _ => by rw [preA_zero]; simp
  | k + 1, hk, h => by
    rw [preA_succ d l k (by omega), List.length_append]
    have h1 := preA_len hz k (by omega) (fun j hj hjk => h j hj (by omega))
    have h2 := actT_len (h k (by omega) (by omega)) (hz k (by omega))
    omega
theorem plan_no {d : Nat} {l : List (Rcd d)} {s : Int} (h : ¬ (l.length ≤ 32 ∧ 0 ≤ s ∧ s ≤ 16)) : planB d l s = false := by
  cases hp : planB d l s with
  | false => rfl
  | true =>
    unfold planB at hp
    simp only [Bool.and_eq_true, decide_eq_true_eq] at hp
    exact absurd ⟨hp.1, hp.2.1, hp.2.2.1⟩ h
theorem plan_at {d : Nat} {l : List (Rcd d)} {s : Int} {k : Nat} (hk : k < l.length) (h : actB d l[k] = false) : planB d l s = false := by
  cases hp : planB d l s with
  | false => rfl
  | true =>
    unfold planB at hp
    simp only [Bool.and_eq_true, decide_eq_true_eq] at hp
    rw [List.all_eq_true.1 hp.2.2.2 l[k] (List.getElem_mem hk)] at h
    cases h
theorem plan_yes {d : Nat} {l : List (Rcd d)} {s : Int} (h1 : l.length ≤ 32) (h2 : 0 ≤ s) (h3 : s ≤ 16) (h : ∀ j (h : j < l.length), actB d l[j] = true) : planB d l s = true := by
  unfold planB
  simp only [Bool.and_eq_true, decide_eq_true_eq]
  refine ⟨h1, h2, h3, List.all_eq_true.2 fun a ha => ?_⟩
  obtain ⟨i, hi, rfl⟩ := List.getElem_of_mem ha
  exact h i hi
theorem planT_no {d : Nat} {l : List (Rcd d)} {s : Int} (h : planB d l s = false) : planT d l s = [] := by
  unfold planT
  rw [if_neg (by rw [h]; simp)]
theorem planT_some (d : Nat) (l : List (Rcd d)) (s : Int) : ((planT d l s).length = 0) ↔ planB d l s = false := by
  constructor
  · intro h
    cases hp : planB d l s with
    | false => rfl
    | true =>
      unfold planT at h
      rw [if_pos hp] at h
      simp at h
  · intro h
    rw [planT_no h]
    rfl

/-- The nine cells of a block. -/
theorem act_row {w : World} {g : Nat} {T : TypeId} {c0 c1 c2 c3 c4 c5 c6 c7 c8 : Value} (h : w.heap[g]? = some (.cells #[c0, c1, c2, c3, c4, c5, c6, c7, c8] T (0, 0))) :
    w.cell? ⟨g, 0, none⟩ = some c0 ∧ w.cell? ⟨g, 1, none⟩ = some c1 ∧ w.cell? ⟨g, 3, none⟩ = some c3 ∧ w.cell? ⟨g, 4, none⟩ = some c4 ∧ w.cell? ⟨g, 5, none⟩ = some c5 ∧ w.cell? ⟨g, 6, none⟩ = some c6 ∧ w.cell? ⟨g, 7, none⟩ = some c7 := by
  refine ⟨?_, ?_, ?_, ?_, ?_, ?_, ?_⟩ <;> (rw [cell_of_row w g _ _ _ _ h]; rfl)
theorem two_row {w : World} {g : Nat} {T : TypeId} {c0 c1 : Value} (h : w.heap[g]? = some (.cells #[c0, c1] T (0, 0))) :
    w.cell? ⟨g, 0, none⟩ = some c0 ∧ w.cell? ⟨g, 1, none⟩ = some c1 := by
  refine ⟨?_, ?_⟩ <;> (rw [cell_of_row w g _ _ _ _ h]; rfl)
end Go.Proofs.YteeplidoojeddaaGreatDoor
/-
  What EventText tells (mathematics).
-/
namespace Go.Proofs.YteeplidoojeddaaGreatDoor
open Go.RowKit
set_option linter.unusedVariables false
set_option linter.unusedSimpArgs false

/-- The word of an event. -/
def evW (k : Int) : List Int := if k = 0 then [98, 101, 103, 105, 110] else if k = 1 then [105, 110, 116, 101, 110, 116] else if k = 2 then [100, 111, 110, 101] else if k = 3 then [103, 111, 110, 101] else if k = 4 then [102, 97, 105, 108] else if k = 5 then [101, 110, 100] else [114, 101, 115, 101, 116]
/-- What EventText tells. -/
def evtT (d : Nat) (it : Rcd d) : List Int := if evB d it = true then (evW it.1 ++ (if 1 ≤ it.1 ∧ it.1 ≤ 4 then [32] ++ it.2.1 else [])) ++ (if it.1 = 1 then [32] ++ nmT it.2.2.1 else if it.1 = 2 then [32] ++ sayV d it.2.2.2.1 else []) else []

theorem evtT_no {d : Nat} {it : Rcd d} (h : evB d it = false) : evtT d it = [] := by unfold evtT; rw [h]; rfl
theorem ev_parts {d : Nat} {kk : Int} {ad : List Int} {jj : Int} {v : Vl d} {ds : List (List Int)} (h : evB d (kk, ad, jj, v, ds) = true) : 0 ≤ kk ∧ kk ≤ 6 ∧ headE kk ad jj = true ∧ restE d kk v ds = true := by
  unfold evB at h
  simp only [Bool.and_eq_true, decide_eq_true_eq] at h
  exact ⟨h.1, h.2.1, h.2.2.1, h.2.2.2⟩
theorem head_addr {kk : Int} {ad : List Int} {jj : Int} (h : headE kk ad jj = true) : ((1 ≤ kk ∧ kk ≤ 4) → ¬ ad.length = 0) ∧ (¬ (1 ≤ kk ∧ kk ≤ 4) → ad.length = 0) ∧ (kk = 1 → 1 ≤ jj ∧ jj ≤ 4) := by
  unfold headE at h
  simp only [Bool.and_eq_true] at h
  refine ⟨fun e => ?_, fun e => ?_, fun e => ?_⟩
  · have h1 := h.1
    rw [if_pos e] at h1
    exact addrB_some h1
  · have h1 := h.1
    rw [if_neg e] at h1
    simpa using h1
  · have h2 := h.2
    rw [if_pos e] at h2
    simpa using h2
theorem rest_map {d : Nat} {kk : Int} {v : Vl d} {ds : List (List Int)} (h : restE d kk v ds = true) (e : kk = 2) : goodB d v 1 = true ∧ partsV d v ≤ 40 := by
  unfold restE at h
  rw [if_pos e] at h
  simp only [mapB, Bool.and_eq_true] at h
  have h2 := h.1.2.1
  unfold okB at h2
  rw [Bool.and_eq_true, decide_eq_true_eq] at h2
  exact h2
theorem evtT_len {d : Nat} {it : Rcd d} (hz : it.2.1.length ≤ 1048576) : (evtT d it).length ≤ 1060000 := by
  obtain ⟨kk, ad, jj, v, ds⟩ := it
  unfold evtT
  split
  · next h =>
    obtain ⟨h0, h6, _, hr⟩ := ev_parts h
    have hw : (evW kk).length ≤ 7 := by
      unfold evW
      repeat' split
      all_goals simp
    have hn := nm_len jj
    simp only at hz ⊢
    simp only [List.length_append]
    have h1 : (if 1 ≤ kk ∧ kk ≤ 4 then [32] ++ ad else ([] : List Int)).length ≤ 1048577 := by
      split
      · simp; omega
      · simp
    have h2 : (if kk = 1 then [32] ++ nmT jj else if kk = 2 then [32] ++ sayV d v else ([] : List Int)).length ≤ 2500 := by
      split
      · simp; omega
      · split
        · next e =>
          have h3 := rest_map hr e
          have h4 := sayV_len d v 1 h3.1
          simp
          omega
        · simp
    omega
  · simp
end Go.Proofs.YteeplidoojeddaaGreatDoor
