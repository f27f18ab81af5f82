/-
  Texts that a law leans on, one behind the other; no statement is proved here.
-/
import Derived.Test.YtfokidhamjphfaaDoorPk4
import Derived.Test.YtfokidhamjphfaaDoorPk8
import Derived.Test.YtfokidhamjphfaaDoorPk2
import Derived.Test.YtfokidhamjphfaaDoorPk12
import Derived.Test.YtfokidhamjphfaaDoorPk3
import Derived.Laws.AppendOwn
import Derived.Deep.AppendLies
/-
  What marking turns: blocks of the call's own alone.
-/
namespace Go.Proofs.YtfokidhamjphfaaDoor
open Go.RowKit
set_option linter.unusedVariables false
set_option linter.unusedSimpArgs false

/-- Nothing has turned but what lies in the blocks B. -/
structure Turned (B : List Nat) (w w' : World) : Prop where
  os : w'.os = w.os
  tape : w'.tape = w.tape
  output : w'.output = w.output
  size : w.heap.size ≤ w'.heap.size
  block : ∀ b, b < w.heap.size → b ∉ B → w'.heap[b]? = w.heap[b]?

theorem Turned.refl (B : List Nat) (w : World) : Turned B w w := ⟨rfl, rfl, rfl, Nat.le_refl _, fun _ _ _ => rfl⟩
theorem Turned.trans {B : List Nat} {w w1 w2 : World} (h : Turned B w w1) (k : Turned B w1 w2) : Turned B w w2 :=
  ⟨k.os.trans h.os, k.tape.trans h.tape, k.output.trans h.output, Nat.le_trans h.size k.size, fun b hb hn => (k.block b (Nat.lt_of_lt_of_le hb h.size) hn).trans (h.block b hb hn)⟩
theorem Turned.mono {B B' : List Nat} {w w' : World} (h : Turned B w w') (hb : ∀ b ∈ B, b ∈ B') : Turned B' w w' := ⟨h.os, h.tape, h.output, h.size, fun b hl hn => h.block b hl fun hm => hn (hb b hm)⟩
theorem Turned.of_grown {w w' : World} {r : Option Nat} {B : List Nat} (h : w.grownBy w' r) (hr : ∀ g, r = some g → g ∈ B) : Turned B w w' :=
  ⟨h.os, h.tape, h.output, h.size, fun b hb hn => h.block b hb fun e => hn (hr b e.symm)⟩
theorem Turned.below {B : List Nat} {N : Nat} {w w1 w2 : World} (h : Below N w w1) (k : Turned B w1 w2) (hN : N ≤ w.heap.size) (hB : ∀ b ∈ B, N ≤ b) : Below N w w2 :=
  ⟨k.os.trans h.os, k.tape.trans h.tape, k.output.trans h.output, Nat.le_trans h.size k.size, fun b hb => (k.block b (by have := h.size; omega) fun hm => by have := hB b hm; omega).trans (h.block b hb)⟩

/-- The texts after they were marked, from k on. -/
def mkKs : List (List Int) → Nat → List (List Int)
  | [], _ => []
  | x :: r, k => marks k x.length :: mkKs r (k + x.length)
theorem length_mkKs : ∀ (l : List (List Int)) (k : Nat), (mkKs l k).length = l.length
  | [], _ => rfl
  | x :: r, k => by simp [mkKs, length_mkKs r]
/-- The first n are marked. -/
def mixK (l : List (List Int)) (k n : Nat) : List (List Int) := mkKs (l.take n) k ++ l.drop n
theorem mixK_zero (l : List (List Int)) (k : Nat) : mixK l k 0 = l := by simp [mixK, mkKs]
theorem mixK_all (l : List (List Int)) (k : Nat) : mixK l k l.length = mkKs l k := by simp [mixK]
theorem length_mixK (l : List (List Int)) (k n : Nat) (h : n ≤ l.length) : (mixK l k n).length = l.length := by simp [mixK, length_mkKs]; omega
theorem mkKs_append : ∀ (l r : List (List Int)) (k : Nat), mkKs (l ++ r) k = mkKs l k ++ mkKs r (k + (l.map List.length).sum)
  | [], r, k => by simp [mkKs]
  | x :: l, r, k => by simp [mkKs, mkKs_append l r, Nat.add_assoc]
theorem mixK_at (l : List (List Int)) (k n : Nat) (h : n < l.length) : (mixK l k n).getD n [] = l.getD n [] := by
  have hl : (mkKs (l.take n) k).length = n := by rw [length_mkKs]; simp; omega
  unfold mixK
  simp only [List.getD_eq_getElem?_getD]
  rw [List.getElem?_append_right (by omega), hl]
  simp
theorem mixK_succ (l : List (List Int)) (k n : Nat) (h : n < l.length) : mixK l k (n + 1) = (mixK l k n).set n (marks (k + pre List.length l n) (l.getD n []).length) := by
  have e : l.getD n [] = l[n] := by simp [List.getD_eq_getElem?_getD, h]
  unfold mixK pre
  rw [e, List.take_succ_eq_append_getElem h, mkKs_append, List.drop_eq_getElem_cons h]
  have hl : (mkKs (l.take n) k).length = n := by rw [length_mkKs]; simp; omega
  rw [List.set_append_right _ _ (by omega), hl, Nat.sub_self, List.set_cons_zero]
  simp only [mkKs, List.append_assoc, List.singleton_append]

theorem disj_flatten {Bs : List (List Nat)} (h : Bs.flatten.Nodup) {i k : Nat} (hi : i < Bs.length) (hk : k < Bs.length) (hne : i ≠ k) {b : Nat} (h1 : b ∈ Bs.getD i []) (h2 : b ∈ Bs.getD k []) : False := by
  have h' : Bs.flatten.Pairwise (· ≠ ·) := h
  rw [List.pairwise_flatten] at h'
  have hp := List.pairwise_iff_getElem.1 h'.2
  have e1 : Bs.getD i [] = Bs[i] := by simp [List.getD_eq_getElem?_getD, hi]
  have e2 : Bs.getD k [] = Bs[k] := by simp [List.getD_eq_getElem?_getD, hk]
  rw [e1] at h1
  rw [e2] at h2
  rcases Nat.lt_or_gt_of_ne hne with hlt | hgt
  · exact hp i k hi hk hlt b h1 b h2 rfl
  · exact hp k i hk hi hgt b h2 b h1 rfl

/-- One text of a list of the call's own is written anew, in its own block. -/
theorem KOwn.turn {w w' : World} {v : Value} {ks : List (List Int)} {B : List Nat} {g cap : Nat} {cur : Array Value} {Bs : List (List Nat)} (hv : v = .slice (some ⟨g, 0, none⟩) ks.length cap) (hh : w.heap[g]? = some (.cells cur 22 (0, 0))) (h3 : ks.length ≤ cap) (h4 : cap ≤ maxLen) (h5 : cur.size = cap) (h6 : Bs.length = ks.length)
    (h7 : ∀ i, i < ks.length → ∃ u, cur[i]? = some u ∧ TOwn w u (ks.getD i []) (Bs.getD i [])) (hB : B = g :: Bs.flatten) (hN : B.Nodup) {k : Nat} (hk : k < ks.length) {u : Value} (hu : cur[k]? = some u) {x' : List Int} (hx : TOwn w' u x' (Bs.getD k [])) (ht : Turned (Bs.getD k []) w w') : KOwn w' v (ks.set k x') B := by
  subst hB
  have hg : g ∉ Bs.flatten := (List.nodup_cons.1 hN).1
  have hgk : g ∉ Bs.getD k [] := fun h => hg (flatten_mem_getD (by omega) h)
  have hgl : g < w.heap.size := (Array.getElem?_eq_some_iff.1 hh).1
  refine .inr ⟨g, cap, cur, Bs, by simpa using hv, (ht.block g hgl hgk).trans hh, by simpa using h3, h4, h5, by simpa using h6, fun i hi => ?_, rfl, hN⟩
  rw [List.length_set] at hi
  by_cases e : i = k
  · subst e
    exact ⟨u, hu, by simpa [List.getD_eq_getElem?_getD, hk] using hx⟩
  · obtain ⟨u', hu', ht'⟩ := h7 i hi
    refine ⟨u', hu', ?_⟩
    have e2 : (ks.set k x').getD i [] = ks.getD i [] := by simp [List.getD_eq_getElem?_getD, List.getElem?_set_ne (fun h => e h.symm)]
    rw [e2]
    refine ht'.agree fun b hb => ht.block b (ht'.lt b hb) fun hm => ?_
    exact disj_flatten (List.nodup_cons.1 hN).2 (by omega : i < Bs.length) (by omega : k < Bs.length) e hb hm

/-- A text of the call's own, marked. -/
theorem TOwn.marked {w w' : World} {a : Option Addr} {c : Nat} {xs : List Int} {B : List Nat} {m : Nat} (h : TOwn w (.slice a xs.length c) xs B) (hb : BtsF w' (.slice a xs.length c) (marks m xs.length)) : TOwn w' (.slice a xs.length c) (marks m xs.length) B := by
  refine ⟨hb, ?_⟩
  rcases h.2 with ⟨h1, h2⟩ | ⟨g, cap, h1, h2⟩
  · exact .inl ⟨h1, h2⟩
  · exact .inr ⟨g, cap, by rw [length_marks]; exact h1, h2⟩

theorem TOwn.turned {w w' : World} {v : Value} {xs : List Int} {B : List Nat} (h : TOwn w v xs B) (hg : w.grownBy w' v.ownBlock) : Turned B w w' := by
  refine Turned.of_grown hg fun g e => ?_
  rcases h.2 with ⟨rfl, _⟩ | ⟨g', cap, rfl, rfl⟩
  · simp [Value.ownBlock] at e
  · simp [Value.ownBlock] at e
    simp [e]

theorem Bts.far {w w' : World} {base : Nat} {v : Value} {xs : List Int} {B : List Nat} (h : Bts w base v xs) (hT : Turned B w w') (hv : ∀ k, v.ownBlock = some k → k ∉ B) : Bts w' base v xs := by
  have hl := h.2.lt
  refine ⟨h.1, h.2.1, ?_⟩
  rcases h.2.2 with h0 | ⟨g, cap, cur, rfl, hg, hh, r⟩
  · exact .inl h0
  · exact .inr ⟨g, cap, cur, rfl, hg, (hT.block g (hl g rfl).2 (hv g rfl)).trans hh, r⟩
end Go.Proofs.YtfokidhamjphfaaDoor
/-
  A heap on which values are drawn and bent: from block B on, each row of bytes, of texts, of values holds what such a row may hold, and each row of values has a rank above those that its values lead to; so whatever lies there can be read. No statement is proved here.
-/
namespace Go.Proofs.YtfokidhamjphfaaDoor
open Go.RowKit
set_option linter.unusedVariables false
set_option linter.unusedSimpArgs false

/-- A slice of at most M elements, of s cells each: nil, or all of a block of type T, from B on, for which p holds. -/
def Sli (B M : Nat) (T : TypeId) (s : Nat) (p : Nat → Prop) (w : World) (v : Value) : Prop :=
  ∃ a n cap, v = .slice a n cap ∧ n ≤ M ∧ n ≤ cap ∧ cap ≤ maxLen ∧ ((a = none ∧ cap = 0) ∨ ∃ (g : Nat) (cur : Array Value) (fr : Nat × Nat), a = some ⟨g, 0, none⟩ ∧ B ≤ g ∧ p g ∧ w.heap[g]? = some (.cells cur T fr) ∧ cur.size = cap * s)

/-- Five cells that are a value, whose parts lie in rows of a rank below r. -/
def Grp (B M : Nat) (rk : Nat → Nat) (r : Nat) (w : World) (c : Value × Value × Value × Value × Value) : Prop :=
  (∃ x, c.1 = .int .i64 x) ∧ (∃ x, c.2.1 = .int .i64 x) ∧ Sli B M 5 1 (fun _ => True) w c.2.2.1 ∧ Sli B M 22 1 (fun _ => True) w c.2.2.2.1 ∧ Sli B M 26 5 (fun g => rk g < r) w c.2.2.2.2

/-- What a block holds that is such a row. -/
def Okc (B M : Nat) (rk : Nat → Nat) (w : World) (g : Nat) (cur : Array Value) (T : TypeId) (fr : Nat × Nat) : Prop :=
  (T = 5 → (fr.2 = 0 ∨ cur.size ≤ fr.1) ∧ ∀ (j : Nat) (c : Value), cur[j]? = some c → ∃ x, Byt x ∧ c = .int .u8 x) ∧
  (T = 22 → fr = (0, 0) ∧ ∀ (j : Nat) (c : Value), cur[j]? = some c → Sli B M 5 1 (fun _ => True) w c) ∧
  (T = 26 → fr = (0, 0) ∧ ∀ (j : Nat) (c0 c1 c2 c3 c4 : Value), cur[j * 5]? = some c0 → cur[j * 5 + 1]? = some c1 → cur[j * 5 + 2]? = some c2 → cur[j * 5 + 3]? = some c3 → cur[j * 5 + 4]? = some c4 → Grp B M rk (rk g) w (c0, c1, c2, c3, c4))

def Okb (B M : Nat) (rk : Nat → Nat) (w : World) (g : Nat) : Prop := ∀ (cur : Array Value) (T : TypeId) (fr : Nat × Nat), w.heap[g]? = some (.cells cur T fr) → Okc B M rk w g cur T fr

/-- The heap from B on. -/
def Hw (B M : Nat) (rk : Nat → Nat) (w : World) : Prop := ∀ g, B ≤ g → Okb B M rk w g

/-- The three types of rows. -/
def Row3 (T : TypeId) : Prop := T = 5 ∨ T = 22 ∨ T = 26

/-- Rows keep their types, sizes and marks. -/
def Shp (w w' : World) : Prop := ∀ (g : Nat) (cur : Array Value) (T : TypeId) (fr : Nat × Nat), Row3 T → w.heap[g]? = some (.cells cur T fr) → ∃ cur' : Array Value, w'.heap[g]? = some (.cells cur' T fr) ∧ cur'.size = cur.size

/-- Ranks of blocks that are there stay. -/
def Rks (rk rk' : Nat → Nat) (n : Nat) : Prop := ∀ g, g < n → rk' g = rk g

theorem Shp.refl (w : World) : Shp w w := fun g cur T fr _ h => ⟨cur, h, rfl⟩
theorem Shp.trans {w w1 w2 : World} (h : Shp w w1) (k : Shp w1 w2) : Shp w w2 := fun g cur T fr hT hg => by
  obtain ⟨c1, h1, e1⟩ := h g cur T fr hT hg
  obtain ⟨c2, h2, e2⟩ := k g c1 T fr hT h1
  exact ⟨c2, h2, e2.trans e1⟩
theorem Shp.of_heap {w w' : World} (h : ∀ g, g < w.heap.size → w'.heap[g]? = w.heap[g]?) : Shp w w' := fun g cur T fr _ hg => ⟨cur, (h g (Array.getElem?_eq_some_iff.1 hg).1).trans hg, rfl⟩
theorem Shp.below {w w' : World} (h : Below w.heap.size w w') : Shp w w' := Shp.of_heap h.block
theorem Shp.alloc (w : World) (o : Obj) : Shp w (w.alloc o) := Shp.of_heap fun g hg => Below.heap_alloc w o g hg
theorem Shp.setCell (w : World) (g j : Nat) (v : Value) : Shp w (w.setCell ⟨g, j, none⟩ v) := fun b cur T fr _ hb => by
  by_cases he : b = g
  · subst he
    exact ⟨_, heap_setCell_fr w b j cur T fr v hb, by simp⟩
  · exact ⟨cur, (Below.heap_setCell w ⟨g, j, none⟩ v b he).trans hb, rfl⟩
theorem Rks.refl (rk : Nat → Nat) (n : Nat) : Rks rk rk n := fun _ _ => rfl
theorem Rks.trans {rk rk1 rk2 : Nat → Nat} {n m : Nat} (h : Rks rk rk1 n) (k : Rks rk1 rk2 m) (hnm : n ≤ m) : Rks rk rk2 n := fun g hg => (k g (by omega)).trans (h g hg)

theorem Sli.lt {B M s : Nat} {T : TypeId} {p : Nat → Prop} {w : World} {a : Option Addr} {n cap : Nat} (h : Sli B M T s p w (.slice a n cap)) : ∀ x, a = some x → B ≤ x.block ∧ x.block < w.heap.size := by
  obtain ⟨a', n', cap', e, _, _, _, ⟨rfl, _⟩ | ⟨g, cur, fr, rfl, hB, _, hg, _⟩⟩ := h
  · intro x hx; simp only [Value.slice.injEq] at e; rw [e.1] at hx; simp at hx
  · intro x hx
    simp only [Value.slice.injEq] at e
    rw [e.1] at hx
    simp at hx
    subst hx
    exact ⟨hB, (Array.getElem?_eq_some_iff.1 hg).1⟩

theorem Sli.shp {B M s : Nat} {T : TypeId} {p q : Nat → Prop} {w w' : World} {v : Value} (h : Sli B M T s p w v) (hT : Row3 T) (hs : Shp w w') (hp : ∀ g, g < w.heap.size → p g → q g) : Sli B M T s q w' v := by
  obtain ⟨a, n, cap, e, h1, h2, h3, h4⟩ := h
  refine ⟨a, n, cap, e, h1, h2, h3, ?_⟩
  rcases h4 with h4 | ⟨g, cur, fr, ha, hB, hpg, hg, hc⟩
  · exact .inl h4
  · obtain ⟨cur', hg', hc'⟩ := hs g cur T fr hT hg
    exact .inr ⟨g, cur', fr, ha, hB, hp g (Array.getElem?_eq_some_iff.1 hg).1 hpg, hg', by omega⟩

theorem row3_b : Row3 5 := .inl rfl
theorem row3_k : Row3 22 := .inr (.inl rfl)
theorem row3_v : Row3 26 := .inr (.inr rfl)

theorem Grp.shp {B M : Nat} {rk rk' : Nat → Nat} {r r' : Nat} {w w' : World} {c : Value × Value × Value × Value × Value} (h : Grp B M rk r w c) (hs : Shp w w') (hk : Rks rk rk' w.heap.size) (hr : r ≤ r') : Grp B M rk' r' w' c :=
  ⟨h.1, h.2.1, h.2.2.1.shp row3_b hs fun _ _ h => h, h.2.2.2.1.shp row3_k hs fun _ _ h => h, h.2.2.2.2.shp row3_v hs fun g hg h => by rw [hk g hg]; omega⟩

theorem Okc.shp {B M : Nat} {rk rk' : Nat → Nat} {w w' : World} {g : Nat} {cur : Array Value} {T : TypeId} {fr : Nat × Nat} (h : Okc B M rk w g cur T fr) (hs : Shp w w') (hk : Rks rk rk' w.heap.size) (hg : rk' g = rk g) : Okc B M rk' w' g cur T fr := by
  refine ⟨h.1, fun hT => ⟨(h.2.1 hT).1, fun j c hc => ((h.2.1 hT).2 j c hc).shp row3_b hs fun _ _ h => h⟩, fun hT => ⟨(h.2.2 hT).1, fun j c0 c1 c2 c3 c4 h0 h1 h2 h3 h4 => ?_⟩⟩
  exact ((h.2.2 hT).2 j c0 c1 c2 c3 c4 h0 h1 h2 h3 h4).shp hs hk (by omega)

/-- A step: each block from B on is as it was, or holds what it may. -/
theorem Hw.step {B M : Nat} {rk rk' : Nat → Nat} {w w' : World} (h : Hw B M rk w) (hs : Shp w w') (hk : Rks rk rk' w.heap.size) (hb : ∀ g, B ≤ g → g < w'.heap.size → (g < w.heap.size ∧ w'.heap[g]? = w.heap[g]?) ∨ Okb B M rk' w' g) : Hw B M rk' w' := by
  intro g hg cur T fr hh
  rcases hb g hg (Array.getElem?_eq_some_iff.1 hh).1 with ⟨hl, e⟩ | hb
  · rw [e] at hh
    exact (h g hg cur T fr hh).shp hs hk (hk g hl)
  · exact hb cur T fr hh

/-- A new block. -/
theorem Hw.alloc {B M : Nat} {rk rk' : Nat → Nat} {w : World} (h : Hw B M rk w) (o : Obj) (hk : Rks rk rk' w.heap.size) (ho : ∀ (cur : Array Value) (T : TypeId) (fr : Nat × Nat), o = .cells cur T fr → Okc B M rk' (w.alloc o) w.heap.size cur T fr) : Hw B M rk' (w.alloc o) := by
  refine h.step (Shp.alloc w o) hk fun g hg _ => ?_
  by_cases hl : g < w.heap.size
  · exact .inl ⟨hl, Below.heap_alloc w o g hl⟩
  · refine .inr fun cur T fr hh => ?_
    have hz : g < (w.alloc o).heap.size := (Array.getElem?_eq_some_iff.1 hh).1
    simp at hz
    obtain rfl : g = w.heap.size := by omega
    rw [heap_alloc_new] at hh
    simp only [Option.some.injEq] at hh
    exact ho cur T fr hh

end Go.Proofs.YtfokidhamjphfaaDoor
