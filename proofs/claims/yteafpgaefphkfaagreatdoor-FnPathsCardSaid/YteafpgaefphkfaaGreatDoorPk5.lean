/-
  Texts that a law leans on, one behind the other; no statement is proved here.
-/
import Derived.Test.YteafpgaefphkfaaGreatDoorPk0
import Derived.Test.YteafpgaefphkfaaGreatDoorPk4
import Derived.Laws.AppendOwn
import Derived.Deep.AppendLies
/-
  A heap on which values are drawn and bent: from block B on, each row of bytes, of texts, of values holds what such a row may hold, and each row of values has a rank above those that its values lead to; so whatever lies there can be read. No statement is proved here.
-/
namespace Go.Proofs.YteafpgaefphkfaaGreatDoor
open Go.RowKit
set_option linter.unusedVariables false
set_option linter.unusedSimpArgs false

/-- A slice of at most M elements, of s cells each: nil, or all of a block of type T, from B on, for which p holds. -/
def Sli (B M : Nat) (T : TypeId) (s : Nat) (p : Nat → Prop) (w : World) (v : Value) : Prop :=
  ∃ a n cap, v = .slice a n cap ∧ n ≤ M ∧ n ≤ cap ∧ cap ≤ maxLen ∧ ((a = none ∧ cap = 0) ∨ ∃ (g : Nat) (cur : Array Value) (fr : Nat × Nat), a = some ⟨g, 0, none⟩ ∧ B ≤ g ∧ p g ∧ w.heap[g]? = some (.cells cur T fr) ∧ cur.size = cap * s)

/-- Five cells that are a value, whose parts lie in rows of a rank below r. -/
def Grp (B M : Nat) (rk : Nat → Nat) (r : Nat) (w : World) (c : Value × Value × Value × Value × Value) : Prop :=
  (∃ x, c.1 = .int .i64 x) ∧ (∃ x, c.2.1 = .int .i64 x) ∧ Sli B M 5 1 (fun _ => True) w c.2.2.1 ∧ Sli B M 22 1 (fun _ => True) w c.2.2.2.1 ∧ Sli B M 29 5 (fun g => rk g < r) w c.2.2.2.2

/-- What a block holds that is such a row. -/
def Okc (B M : Nat) (rk : Nat → Nat) (w : World) (g : Nat) (cur : Array Value) (T : TypeId) (fr : Nat × Nat) : Prop :=
  (T = 5 → (fr.2 = 0 ∨ cur.size ≤ fr.1) ∧ ∀ (j : Nat) (c : Value), cur[j]? = some c → ∃ x, Byt x ∧ c = .int .u8 x) ∧
  (T = 22 → fr = (0, 0) ∧ ∀ (j : Nat) (c : Value), cur[j]? = some c → Sli B M 5 1 (fun _ => True) w c) ∧
  (T = 29 → fr = (0, 0) ∧ ∀ (j : Nat) (c0 c1 c2 c3 c4 : Value), cur[j * 5]? = some c0 → cur[j * 5 + 1]? = some c1 → cur[j * 5 + 2]? = some c2 → cur[j * 5 + 3]? = some c3 → cur[j * 5 + 4]? = some c4 → Grp B M rk (rk g) w (c0, c1, c2, c3, c4))

def Okb (B M : Nat) (rk : Nat → Nat) (w : World) (g : Nat) : Prop := ∀ (cur : Array Value) (T : TypeId) (fr : Nat × Nat), w.heap[g]? = some (.cells cur T fr) → Okc B M rk w g cur T fr

/-- The heap from B on. -/
def Hw (B M : Nat) (rk : Nat → Nat) (w : World) : Prop := ∀ g, B ≤ g → Okb B M rk w g

/-- The three types of rows. -/
def Row3 (T : TypeId) : Prop := T = 5 ∨ T = 22 ∨ T = 29

/-- Rows keep their types, sizes and marks. -/
def Shp (w w' : World) : Prop := ∀ (g : Nat) (cur : Array Value) (T : TypeId) (fr : Nat × Nat), Row3 T → w.heap[g]? = some (.cells cur T fr) → ∃ cur' : Array Value, w'.heap[g]? = some (.cells cur' T fr) ∧ cur'.size = cur.size

/-- Ranks of blocks that are there stay. -/
def Rks (rk rk' : Nat → Nat) (n : Nat) : Prop := ∀ g, g < n → rk' g = rk g

theorem Shp.refl (w : World) : Shp w w := fun g cur T fr _ h => ⟨cur, h, rfl⟩
theorem Shp.trans {w w1 w2 : World} (h : Shp w w1) (k : Shp w1 w2) : Shp w w2 := fun g cur T fr hT hg => by
  obtain ⟨c1, h1, e1⟩ := h g cur T fr hT hg
  obtain ⟨c2, h2, e2⟩ := k g c1 T fr hT h1
  exact ⟨c2, h2, e2.trans e1⟩
theorem Shp.of_heap {w w' : World} (h : ∀ g, g < w.heap.size → w'.heap[g]? = w.heap[g]?) : Shp w w' := fun g cur T fr _ hg => ⟨cur, (h g (Array.getElem?_eq_some_iff.1 hg).1).trans hg, rfl⟩
theorem Shp.below {w w' : World} (h : Below w.heap.size w w') : Shp w w' := Shp.of_heap h.block
theorem Shp.alloc (w : World) (o : Obj) : Shp w (w.alloc o) := Shp.of_heap fun g hg => Below.heap_alloc w o g hg
theorem Shp.setCell (w : World) (g j : Nat) (v : Value) : Shp w (w.setCell ⟨g, j, none⟩ v) := fun b cur T fr _ hb => by
  by_cases he : b = g
  · subst he
    exact ⟨_, heap_setCell_fr w b j cur T fr v hb, by simp⟩
  · exact ⟨cur, (Below.heap_setCell w ⟨g, j, none⟩ v b he).trans hb, rfl⟩
theorem Shp.setRow {w : World} {g : Nat} {cur new : Array Value} {T : TypeId} {fr : Nat × Nat} (hg : w.heap[g]? = some (.cells cur T fr)) (hs : new.size = cur.size) : Shp w (w.setRow g new) := fun b c T' fr' _ hb => by
  by_cases he : b = g
  · subst he
    rw [hg] at hb
    simp only [Option.some.injEq, Obj.cells.injEq] at hb
    obtain ⟨rfl, rfl, rfl⟩ := hb
    exact ⟨new, setRow_heap w b cur new T fr hg, hs⟩
  · exact ⟨c, (setRow_other w g b new he).trans hb, rfl⟩

theorem Rks.refl (rk : Nat → Nat) (n : Nat) : Rks rk rk n := fun _ _ => rfl
theorem Rks.trans {rk rk1 rk2 : Nat → Nat} {n m : Nat} (h : Rks rk rk1 n) (k : Rks rk1 rk2 m) (hnm : n ≤ m) : Rks rk rk2 n := fun g hg => (k g (by omega)).trans (h g hg)

theorem Sli.lt {B M s : Nat} {T : TypeId} {p : Nat → Prop} {w : World} {a : Option Addr} {n cap : Nat} (h : Sli B M T s p w (.slice a n cap)) : ∀ x, a = some x → B ≤ x.block ∧ x.block < w.heap.size := by
  obtain ⟨a', n', cap', e, _, _, _, ⟨rfl, _⟩ | ⟨g, cur, fr, rfl, hB, _, hg, _⟩⟩ := h
  · intro x hx; simp only [Value.slice.injEq] at e; rw [e.1] at hx; simp at hx
  · intro x hx
    simp only [Value.slice.injEq] at e
    rw [e.1] at hx
    simp at hx
    subst hx
    exact ⟨hB, (Array.getElem?_eq_some_iff.1 hg).1⟩

theorem Sli.shp {B M s : Nat} {T : TypeId} {p q : Nat → Prop} {w w' : World} {v : Value} (h : Sli B M T s p w v) (hT : Row3 T) (hs : Shp w w') (hp : ∀ g, g < w.heap.size → p g → q g) : Sli B M T s q w' v := by
  obtain ⟨a, n, cap, e, h1, h2, h3, h4⟩ := h
  refine ⟨a, n, cap, e, h1, h2, h3, ?_⟩
  rcases h4 with h4 | ⟨g, cur, fr, ha, hB, hpg, hg, hc⟩
  · exact .inl h4
  · obtain ⟨cur', hg', hc'⟩ := hs g cur T fr hT hg
    exact .inr ⟨g, cur', fr, ha, hB, hp g (Array.getElem?_eq_some_iff.1 hg).1 hpg, hg', by omega⟩

theorem Sli.more {B M M' s : Nat} {T : TypeId} {p : Nat → Prop} {w : World} {v : Value} (h : Sli B M T s p w v) (hM : M ≤ M') : Sli B M' T s p w v := by
  obtain ⟨a, n, cap, e, h1, r⟩ := h
  exact ⟨a, n, cap, e, by omega, r⟩

theorem row3_b : Row3 5 := .inl rfl
theorem row3_k : Row3 22 := .inr (.inl rfl)
theorem row3_v : Row3 29 := .inr (.inr rfl)

theorem Grp.shp {B M : Nat} {rk rk' : Nat → Nat} {r r' : Nat} {w w' : World} {c : Value × Value × Value × Value × Value} (h : Grp B M rk r w c) (hs : Shp w w') (hk : Rks rk rk' w.heap.size) (hr : r ≤ r') : Grp B M rk' r' w' c :=
  ⟨h.1, h.2.1, h.2.2.1.shp row3_b hs fun _ _ h => h, h.2.2.2.1.shp row3_k hs fun _ _ h => h, h.2.2.2.2.shp row3_v hs fun g hg h => by rw [hk g hg]; omega⟩

theorem Grp.more {B M M' : Nat} {rk : Nat → Nat} {r : Nat} {w : World} {c : Value × Value × Value × Value × Value} (h : Grp B M rk r w c) (hM : M ≤ M') : Grp B M' rk r w c :=
  ⟨h.1, h.2.1, h.2.2.1.more hM, h.2.2.2.1.more hM, h.2.2.2.2.more hM⟩

theorem Okc.shp {B M : Nat} {rk rk' : Nat → Nat} {w w' : World} {g : Nat} {cur : Array Value} {T : TypeId} {fr : Nat × Nat} (h : Okc B M rk w g cur T fr) (hs : Shp w w') (hk : Rks rk rk' w.heap.size) (hg : rk' g = rk g) : Okc B M rk' w' g cur T fr := by
  refine ⟨h.1, fun hT => ⟨(h.2.1 hT).1, fun j c hc => ((h.2.1 hT).2 j c hc).shp row3_b hs fun _ _ h => h⟩, fun hT => ⟨(h.2.2 hT).1, fun j c0 c1 c2 c3 c4 h0 h1 h2 h3 h4 => ?_⟩⟩
  exact ((h.2.2 hT).2 j c0 c1 c2 c3 c4 h0 h1 h2 h3 h4).shp hs hk (by omega)

theorem Okc.more {B M M' : Nat} {rk : Nat → Nat} {w : World} {g : Nat} {cur : Array Value} {T : TypeId} {fr : Nat × Nat} (h : Okc B M rk w g cur T fr) (hM : M ≤ M') : Okc B M' rk w g cur T fr :=
  ⟨h.1, fun hT => ⟨(h.2.1 hT).1, fun j c hc => ((h.2.1 hT).2 j c hc).more hM⟩, fun hT => ⟨(h.2.2 hT).1, fun j c0 c1 c2 c3 c4 h0 h1 h2 h3 h4 => ((h.2.2 hT).2 j c0 c1 c2 c3 c4 h0 h1 h2 h3 h4).more hM⟩⟩

theorem Hw.more {B M M' : Nat} {rk : Nat → Nat} {w : World} (h : Hw B M rk w) (hM : M ≤ M') : Hw B M' rk w := fun g hg cur T fr hh => (h g hg cur T fr hh).more hM

/-- A step: each block from B on is as it was, or holds what it may. -/
theorem Hw.step {B M : Nat} {rk rk' : Nat → Nat} {w w' : World} (h : Hw B M rk w) (hs : Shp w w') (hk : Rks rk rk' w.heap.size) (hb : ∀ g, B ≤ g → g < w'.heap.size → (g < w.heap.size ∧ w'.heap[g]? = w.heap[g]?) ∨ Okb B M rk' w' g) : Hw B M rk' w' := by
  intro g hg cur T fr hh
  rcases hb g hg (Array.getElem?_eq_some_iff.1 hh).1 with ⟨hl, e⟩ | hb
  · rw [e] at hh
    exact (h g hg cur T fr hh).shp hs hk (hk g hl)
  · exact hb cur T fr hh

/-- A rank for a block. -/
def rkUp (rk : Nat → Nat) (n r : Nat) : Nat → Nat := fun g => if g = n then r else rk g
theorem rkUp_at (rk : Nat → Nat) (n r : Nat) : rkUp rk n r n = r := by simp [rkUp]
theorem rkUp_old (rk : Nat → Nat) (n r : Nat) : Rks rk (rkUp rk n r) n := fun g hg => by simp [rkUp, Nat.ne_of_lt hg]

/-- A new block. -/
theorem Hw.alloc {B M : Nat} {rk rk' : Nat → Nat} {w : World} (h : Hw B M rk w) (o : Obj) (hk : Rks rk rk' w.heap.size) (ho : ∀ (cur : Array Value) (T : TypeId) (fr : Nat × Nat), o = .cells cur T fr → Okc B M rk' (w.alloc o) w.heap.size cur T fr) : Hw B M rk' (w.alloc o) := by
  refine h.step (Shp.alloc w o) hk fun g hg _ => ?_
  by_cases hl : g < w.heap.size
  · exact .inl ⟨hl, Below.heap_alloc w o g hl⟩
  · refine .inr fun cur T fr hh => ?_
    have hz : g < (w.alloc o).heap.size := (Array.getElem?_eq_some_iff.1 hh).1
    simp at hz
    obtain rfl : g = w.heap.size := by omega
    rw [heap_alloc_new] at hh
    simp only [Option.some.injEq] at hh
    exact ho cur T fr hh

theorem Hw.alloc_other {B M : Nat} {rk : Nat → Nat} {w : World} (h : Hw B M rk w) (cur : Array Value) (T : TypeId) (fr : Nat × Nat) (hT : T ≠ 5 ∧ T ≠ 22 ∧ T ≠ 29) : Hw B M rk (w.alloc (.cells cur T fr)) := by
  refine h.alloc _ (Rks.refl _ _) fun c T' fr' e => ?_
  simp only [Obj.cells.injEq] at e
  obtain ⟨rfl, rfl, rfl⟩ := e
  exact ⟨fun h => absurd h hT.1, fun h => absurd h hT.2.1, fun h => absurd h hT.2.2⟩

/-- A new block of five cells. -/
theorem Hw.alloc_v {B M : Nat} {rk : Nat → Nat} {w : World} (h : Hw B M rk w) (r : Nat) (c0 c1 c2 c3 c4 : Value) (hc : Grp B M rk r w (c0, c1, c2, c3, c4)) : Hw B M (rkUp rk w.heap.size r) (w.alloc (.cells #[c0, c1, c2, c3, c4] 29)) := by
  refine h.alloc _ (rkUp_old _ _ _) fun c T' fr' e => ?_
  simp only [Obj.cells.injEq] at e
  obtain ⟨rfl, rfl, rfl⟩ := e
  refine ⟨fun h => absurd h (by decide), fun h => absurd h (by decide), fun _ => ⟨rfl, fun j d0 d1 d2 d3 d4 h0 h1 h2 h3 h4 => ?_⟩⟩
  have hj : j = 0 := by
    have := (Array.getElem?_eq_some_iff.1 h0).1
    simp at this
    omega
  subst hj
  simp at h0 h1 h2 h3 h4
  subst h0 h1 h2 h3 h4
  exact hc.shp (Shp.alloc _ _) (rkUp_old _ _ _) (by rw [rkUp_at]; exact Nat.le_refl _)

/-- A new block of one text. -/
theorem Hw.alloc_k {B M : Nat} {rk : Nat → Nat} {w : World} (h : Hw B M rk w) (c0 : Value) (hc : Sli B M 5 1 (fun _ => True) w c0) : Hw B M rk (w.alloc (.cells #[c0] 22)) := by
  refine h.alloc _ (Rks.refl _ _) fun c T' fr' e => ?_
  simp only [Obj.cells.injEq] at e
  obtain ⟨rfl, rfl, rfl⟩ := e
  refine ⟨fun h => absurd h (by decide), fun _ => ⟨rfl, fun j d hd => ?_⟩, fun h => absurd h (by decide)⟩
  have hj : j = 0 := by
    have := (Array.getElem?_eq_some_iff.1 hd).1
    simp at this
    omega
  subst hj
  simp at hd
  subst hd
  exact hc.shp row3_b (Shp.alloc _ _) fun _ _ h => h

/-- A new block of bytes. -/
theorem Hw.alloc_b {B M : Nat} {rk : Nat → Nat} {w : World} (h : Hw B M rk w) (cur : Array Value) (fr : Nat × Nat) (hf : fr.2 = 0 ∨ cur.size ≤ fr.1) (hc : ∀ (j : Nat) (c : Value), cur[j]? = some c → ∃ x, Byt x ∧ c = .int .u8 x) : Hw B M rk (w.alloc (.cells cur 5 fr)) := by
  refine h.alloc _ (Rks.refl _ _) fun c T' fr' e => ?_
  simp only [Obj.cells.injEq] at e
  obtain ⟨rfl, rfl, rfl⟩ := e
  exact ⟨fun _ => ⟨hf, hc⟩, fun h => absurd h (by decide), fun h => absurd h (by decide)⟩

/-- One cell of a row of values is written. -/
theorem Hw.set_v {B M : Nat} {rk : Nat → Nat} {w : World} {g : Nat} {cur : Array Value} (h : Hw B M rk w) (hB : B ≤ g) (hg : w.heap[g]? = some (.cells cur 29 (0, 0))) (i f : Nat) (hf : f < 5) (v : Value)
    (hv : ∀ c0 c1 c2 c3 c4 : Value, Grp B M rk (rk g) w (c0, c1, c2, c3, c4) → Grp B M rk (rk g) w (if f = 0 then v else c0, if f = 1 then v else c1, if f = 2 then v else c2, if f = 3 then v else c3, if f = 4 then v else c4)) : Hw B M rk (w.setCell ⟨g, i * 5 + f, none⟩ v) := by
  refine h.step (Shp.setCell w g _ v) (Rks.refl _ _) fun b hb hbz => ?_
  by_cases he : b = g
  · subst he
    refine .inr fun c T fr hh => ?_
    rw [heap_setCell_fr w b _ cur _ _ v hg] at hh
    simp only [Option.some.injEq, Obj.cells.injEq] at hh
    obtain ⟨rfl, rfl, rfl⟩ := hh
    refine ⟨fun h => absurd h (by decide), fun h => absurd h (by decide), fun _ => ⟨rfl, fun j d0 d1 d2 d3 d4 h0 h1 h2 h3 h4 => ?_⟩⟩
    have hold := ((h b hb cur _ _ hg).2.2 rfl).2 j
    have hz : j * 5 + 4 < cur.size := by have := (Array.getElem?_eq_some_iff.1 h4).1; simpa using this
    have at_ : ∀ q, q < cur.size → ∃ c, cur[q]? = some c := fun q hq => ⟨_, Array.getElem?_eq_getElem hq⟩
    obtain ⟨e0, g0⟩ := at_ (j * 5) (by omega)
    obtain ⟨e1, g1⟩ := at_ (j * 5 + 1) (by omega)
    obtain ⟨e2, g2⟩ := at_ (j * 5 + 2) (by omega)
    obtain ⟨e3, g3⟩ := at_ (j * 5 + 3) (by omega)
    obtain ⟨e4, g4⟩ := at_ (j * 5 + 4) (by omega)
    have hG := hold e0 e1 e2 e3 e4 g0 g1 g2 g3 g4
    rw [Array.getElem?_setIfInBounds] at h0 h1 h2 h3 h4
    by_cases hij : i = j
    · subst hij
      have hG' := hv _ _ _ _ _ hG
      have r0 : d0 = if f = 0 then v else e0 := by
        by_cases hf0 : f = 0
        · subst hf0; simp [show i * 5 < cur.size by omega] at h0 ⊢; exact h0.symm
        · rw [if_neg (by omega)] at h0; rw [if_neg hf0]; rw [g0] at h0; simpa using h0.symm
      have r1 : d1 = if f = 1 then v else e1 := by
        by_cases hf0 : f = 1
        · subst hf0; simp [show i * 5 + 1 < cur.size by omega] at h1 ⊢; exact h1.symm
        · rw [if_neg (by omega)] at h1; rw [if_neg hf0]; rw [g1] at h1; simpa using h1.symm
      have r2 : d2 = if f = 2 then v else e2 := by
        by_cases hf0 : f = 2
        · subst hf0; simp [show i * 5 + 2 < cur.size by omega] at h2 ⊢; exact h2.symm
        · rw [if_neg (by omega)] at h2; rw [if_neg hf0]; rw [g2] at h2; simpa using h2.symm
      have r3 : d3 = if f = 3 then v else e3 := by
        by_cases hf0 : f = 3
        · subst hf0; simp [show i * 5 + 3 < cur.size by omega] at h3 ⊢; exact h3.symm
        · rw [if_neg (by omega)] at h3; rw [if_neg hf0]; rw [g3] at h3; simpa using h3.symm
      have r4 : d4 = if f = 4 then v else e4 := by
        by_cases hf0 : f = 4
        · subst hf0; simp [show i * 5 + 4 < cur.size by omega] at h4 ⊢; exact h4.symm
        · rw [if_neg (by omega)] at h4; rw [if_neg hf0]; rw [g4] at h4; simpa using h4.symm
      rw [r0, r1, r2, r3, r4]
      exact hG'.shp (Shp.setCell w b _ v) (Rks.refl _ _) (Nat.le_refl _)
    · rw [if_neg (by omega)] at h0 h1 h2 h3 h4
      rw [g0] at h0; rw [g1] at h1; rw [g2] at h2; rw [g3] at h3; rw [g4] at h4
      simp only [Option.some.injEq] at h0 h1 h2 h3 h4
      subst h0 h1 h2 h3 h4
      exact hG.shp (Shp.setCell w b _ v) (Rks.refl _ _) (Nat.le_refl _)
  · exact .inl ⟨by simpa [World.setCell] using hbz, Below.heap_setCell w ⟨g, i * 5 + f, none⟩ v b he⟩
end Go.Proofs.YteafpgaefphkfaaGreatDoor
/-
  What lies on such a heap can be read; an append to a slice that lies there. No statement is proved here.
-/
namespace Go.Proofs.YteafpgaefphkfaaGreatDoor
open Go.RowKit
set_option linter.unusedVariables false
set_option linter.unusedSimpArgs false

theorem pick_list {α : Type} (n : Nat) (P : Nat → α → Prop) (h : ∀ i, i < n → ∃ x, P i x) : ∃ l : List α, l.length = n ∧ ∀ i (hi : i < l.length), P i l[i] := by
  induction n with
  | zero => exact ⟨[], rfl, fun i hi => by simp at hi⟩
  | succ n ih =>
    obtain ⟨l, hl, hp⟩ := ih fun i hi => h i (by omega)
    obtain ⟨x, hx⟩ := h n (by omega)
    refine ⟨l ++ [x], by simp [hl], fun i hi => ?_⟩
    by_cases hlt : i < l.length
    · rw [List.getElem_append_left hlt]
      exact hp i hlt
    · have hi' : i = l.length := by simp at hi; omega
      subst hi'
      rw [List.getElem_append_right (Nat.le_refl _)]
      simp
      rw [hl]
      exact hx

/-- The blocks from B on that are there. -/
def From (B : Nat) (w : World) : Nat → Prop := fun b => B ≤ b ∧ b < w.heap.size

theorem Hw.text {B M M' : Nat} {rk : Nat → Nat} {p : Nat → Prop} {w : World} {v : Value} (h : Hw B M rk w) (hv : Sli B M' 5 1 p w v) : ∃ xs : List Int, TSeg (From B w) w v xs ∧ xs.length ≤ M' := by
  obtain ⟨a, n, cap, rfl, h1, h2, h3, ⟨rfl, rfl⟩ | ⟨g, cur, fr, rfl, hB, _, hg, hc⟩⟩ := hv
  · obtain rfl : n = 0 := by omega
    exact ⟨[], ⟨none, 0, rfl, ⟨by simp, .inl rfl⟩, Nat.le_refl _, h3, fun _ => rfl, by simp⟩, Nat.zero_le _⟩
  · have hcell := ((h g hB cur 5 fr hg).1 rfl).2
    obtain ⟨l, hl, hp⟩ := pick_list n (fun i x => Byt x ∧ cur[i]? = some (.int .u8 x)) fun i hi => by
      obtain ⟨x, hx, e⟩ := hcell i cur[i] (Array.getElem?_eq_getElem (by omega))
      exact ⟨x, hx, by rw [Array.getElem?_eq_getElem (by omega), e]⟩
    subst hl
    have hlt := (Array.getElem?_eq_some_iff.1 hg).1
    refine ⟨l, ⟨some ⟨g, 0, none⟩, cap, rfl, ⟨fun x hx => ?_, .inr ⟨g, 0, rfl, fun i hi => ?_⟩⟩, h2, h3, by simp, fun x hx _ => by simp at hx; subst hx; exact ⟨hB, hlt⟩⟩, h1⟩
    · obtain ⟨i, hi, rfl⟩ := List.mem_iff_getElem.1 hx
      exact (hp i hi).1
    · rw [Nat.zero_add, cell_of_row w g i cur 5 fr hg, (hp i hi).2]
      simp [List.getD_eq_getElem?_getD, hi]

theorem Hw.texts {B M M' : Nat} {rk : Nat → Nat} {p : Nat → Prop} {w : World} {v : Value} (h : Hw B M rk w) (hv : Sli B M' 22 1 p w v) : ∃ ks : List (List Int), KSeg (From B w) w v ks ∧ ks.length ≤ M' := by
  obtain ⟨a, n, cap, rfl, h1, h2, h3, ⟨rfl, rfl⟩ | ⟨g, cur, fr, rfl, hB, _, hg, hc⟩⟩ := hv
  · obtain rfl : n = 0 := by omega
    exact ⟨[], ⟨none, 0, rfl, Nat.le_refl _, h3, fun _ => rfl, .inl rfl⟩, Nat.zero_le _⟩
  · have hcell := ((h g hB cur _ fr hg).2.1 rfl).2
    obtain ⟨l, hl, hp⟩ := pick_list n (fun i (x : List Int) => ∃ u, cur[i]? = some u ∧ TSeg (From B w) w u x) fun i hi => by
      obtain ⟨x, hx, _⟩ := h.text (hcell i cur[i] (Array.getElem?_eq_getElem (by omega)))
      exact ⟨x, _, Array.getElem?_eq_getElem (by omega), hx⟩
    subst hl
    have hlt := (Array.getElem?_eq_some_iff.1 hg).1
    refine ⟨l, ⟨some ⟨g, 0, none⟩, cap, rfl, h2, h3, by simp, .inr ⟨g, 0, rfl, ⟨hB, hlt⟩, fun i hi => ?_⟩⟩, h1⟩
    obtain ⟨u, hu, ht⟩ := hp i hi
    refine ⟨u, ?_, ?_⟩
    · rw [Nat.zero_add, cell_of_row w g i cur _ fr hg, hu]
    · have : l.getD i [] = l[i] := by simp [List.getD_eq_getElem?_getD, hi]
      rw [this]
      exact ht

/-- A value that lies there reads as one. -/
theorem Hw.val {B M M' : Nat} {rk : Nat → Nat} {w : World} (h : Hw B M rk w) (hM : M ≤ M') : ∀ (r : Nat) (c : Value × Value × Value × Value × Value), Grp B M' rk r w c → ∃ v : Vl (r + 1), VSeg (From B w) w (r + 1) c v
  | r, (c0, c1, c2, c3, c4), hc => by
    obtain ⟨⟨x0, h0⟩, ⟨x1, h1⟩, h2, h3, h4⟩ := hc
    simp only at h0 h1 h2 h3 h4
    obtain ⟨xs, hT, _⟩ := h.text h2
    obtain ⟨ks, hK, _⟩ := h.texts h3
    subst h0 h1
    obtain ⟨a, n, cap, rfl, g1, g2, g3, ⟨rfl, rfl⟩ | ⟨g, cur, fr, rfl, hB, hp, hg, hcz⟩⟩ := h4
    · obtain rfl : n = 0 := by omega
      exact ⟨(x0, x1, xs, ks, []), (VSeg_succ _ _ _ _ _).2 ⟨rfl, rfl, hT, hK, none, 0, rfl, Nat.le_refl _, g3, fun _ => rfl, .inl rfl⟩⟩
    · have hcell := ((h g hB cur _ fr hg).2.2 rfl).2
      have hlt := (Array.getElem?_eq_some_iff.1 hg).1
      cases r with
      | zero => omega
      | succ r =>
        obtain ⟨l, hl, hpl⟩ := pick_list n (fun i (x : Vl (r + 1)) => ∃ e, Five w g (0 + i * 5) e ∧ VSeg (From B w) w (r + 1) e x) fun i hi => by
          have hz : ∀ q, q < 5 → i * 5 + q < cur.size := fun q hq => by omega
          have hG := hcell i _ _ _ _ _ (Array.getElem?_eq_getElem (hz 0 (by omega))) (Array.getElem?_eq_getElem (hz 1 (by omega))) (Array.getElem?_eq_getElem (hz 2 (by omega))) (Array.getElem?_eq_getElem (hz 3 (by omega))) (Array.getElem?_eq_getElem (hz 4 (by omega)))
          obtain ⟨x, hx⟩ := Hw.val h hM r _ ((hG.more hM).shp (Shp.refl w) (Rks.refl _ _) (by omega))
          refine ⟨x, _, ⟨?_, ?_, ?_, ?_, ?_⟩, hx⟩
          · rw [Nat.zero_add, cell_of_row w g _ cur _ fr hg]; exact Array.getElem?_eq_getElem (hz 0 (by omega))
          · rw [Nat.zero_add, cell_of_row w g _ cur _ fr hg]; exact Array.getElem?_eq_getElem (hz 1 (by omega))
          · rw [Nat.zero_add, cell_of_row w g _ cur _ fr hg]; exact Array.getElem?_eq_getElem (hz 2 (by omega))
          · rw [Nat.zero_add, cell_of_row w g _ cur _ fr hg]; exact Array.getElem?_eq_getElem (hz 3 (by omega))
          · rw [Nat.zero_add, cell_of_row w g _ cur _ fr hg]; exact Array.getElem?_eq_getElem (hz 4 (by omega))
        subst hl
        exact ⟨(x0, x1, xs, ks, l), (VSeg_succ _ _ _ _ _).2 ⟨rfl, rfl, hT, hK, some ⟨g, 0, none⟩, cap, rfl, g2, g3, by simp, .inr ⟨g, 0, rfl, ⟨hB, hlt⟩, hpl⟩⟩⟩

/-- Cells are stored where no mark is. -/
theorem storeCells_hw (P : Program) (g o : Nat) (t : TypeId) (fr : Nat × Nat) : ∀ (vs : List Value) (i : Nat) (cur : Array Value) (w : World), w.heap[g]? = some (.cells cur t fr) → o + i + vs.length ≤ cur.size → (fr.2 = 0 ∨ cur.size ≤ fr.1) → (∀ v ∈ vs, v.oneCell' = true) →
    (storeCells ⟨g, o, none⟩ vs i).run P w = .ok () (w.setRow g (cur.toList.take (o + i) ++ vs ++ cur.toList.drop (o + i + vs.length)).toArray)
  | [], i, cur, w, hg, _, _, _ => by
    simp only [storeCells, List.append_nil, List.length_nil, Nat.add_zero, List.take_append_drop, Array.toArray_toList]
    rw [setRow_self w g cur t fr hg]
    rfl
  | v :: rest, i, cur, w, hg, hl, hf, h1 => by
    have hi : o + i < cur.size := by simp at hl; omega
    have hadd : (⟨g, o, none⟩ : Addr).add i = ⟨g, o + i, none⟩ := by unfold Addr.add; split <;> simp_all
    have hcell : w.cell? ⟨g, o + i, none⟩ = some cur[o + i] := by simp [World.cell?, hg, hi]
    have hfro : w.frozen? ⟨g, o + i, none⟩ = false := by
      obtain ⟨lo, hh⟩ := fr
      simp only [World.frozen?, hg]
      simp only at hf
      simp
      omega
    have hst : (store ((⟨g, o, none⟩ : Addr).add i) v).run P w = .ok () (w.setRow g (cur.setIfInBounds (o + i) v)) := by
      rw [hadd, run_store P w _ v _ (h1 v (by simp)), hcell]
      simp [hfro, setCell_eq_setRow w g (o + i) cur t fr v hg]
    have ih := storeCells_hw P g o t fr rest (i + 1) (cur.setIfInBounds (o + i) v) (w.setRow g (cur.setIfInBounds (o + i) v)) (setRow_heap w g cur _ t _ hg) (by simp at hl ⊢; omega) (by simpa using hf) (fun x hx => h1 x (by simp [hx]))
    simp only [storeCells, Sem.run_bind, hst, Result.andThen_ok, ih, setRow_setRow]
    congr 3
    have e := list_seg_step cur.toList (o + i) v rest (by simp at hl ⊢; omega)
    simpa [Array.toList_setIfInBounds, Nat.add_assoc] using e

/-- What an append does: into the row, or into a new one. -/
theorem run_append_sl (w : World) (t ty e : TypeId) (i : TypeInfo) (z : Value) (size bytes : Nat) (ht : Tryz.prog.underlying t = some (.slice e)) (hi : Tryz.prog.info? e = some i) (hz : i.zero = some z) (hsize : i.size = size) (hby : i.bytes = bytes) (hb1 : bytes ≤ 100) (hzs : z.cells.size = size)
    (B M : Nat) (p : Nat → Prop) (a : Option Addr) (n cap : Nat) (hv : Sli B M e size p w (.slice a n cap)) (hfr : ∀ (g : Nat) (cur : Array Value) (fr : Nat × Nat), B ≤ g → w.heap[g]? = some (.cells cur e fr) → fr.2 = 0 ∨ cur.size ≤ fr.1) (hn : n ≤ 1000000)
    (ad : Addr) (m c : Nat) (news : List Value) (hl : news.length = m * size) (hnews : ∀ (j : Nat) (u : Value), news[j]? = some u → w.cell? (ad.add j) = some u) (h1 : ∀ u ∈ news, u.oneCell' = true) (hm : 0 < m) (hm2 : m ≤ 1000000) :
    ∃ (g' cap' : Nat) (w' : World), (Builtin.append_ #[t, t] ty #[.slice a n cap, .slice (some ad) m c]).run Tryz.prog w = .ok (.slice (some ⟨g', 0, none⟩) (n + m) cap') w' ∧ n + m ≤ cap' ∧ cap' ≤ maxLen ∧
      ((∃ (cur : Array Value) (fr : Nat × Nat), a = some ⟨g', 0, none⟩ ∧ B ≤ g' ∧ p g' ∧ cap' = cap ∧ w.heap[g']? = some (.cells cur e fr) ∧ cur.size = cap * size ∧ n * size + m * size ≤ cur.size ∧ w' = w.setRow g' (cur.toList.take (n * size) ++ news ++ cur.toList.drop (n * size + m * size)).toArray) ∨
       (g' = w.heap.size ∧ ∃ old : List Value, old.length = n * size ∧ ((a = none ∧ old = []) ∨ ∃ (g : Nat) (cur : Array Value) (fr : Nat × Nat), a = some ⟨g, 0, none⟩ ∧ B ≤ g ∧ p g ∧ w.heap[g]? = some (.cells cur e fr) ∧ old = cur.toList.take (n * size)) ∧
          w' = w.drew.alloc (.cells (old.toArray ++ news.toArray ++ Builtin.zeroCells z.cells (cap' - (n + m))) e))) := by
  subst hsize hby
  obtain ⟨a', n', cap0, e0, _, hnc, hcm, hcase⟩ := hv
  simp only [Value.slice.injEq] at e0
  obtain ⟨rfl, rfl, rfl⟩ := e0
  have hbm : (n + m) * i.bytes ≤ 140737488355328 := by
    have := Nat.mul_le_mul (show n + m ≤ 2000000 by omega) hb1
    omega
  rcases hcase with ⟨rfl, rfl⟩ | ⟨g, cur, fr, rfl, hB, hp, hg, hcz⟩
  · obtain rfl : n = 0 := by omega
    have hr := run_append_nil (P := Tryz.prog) w t ty e i z ht hi hz ad m c news hl hnews hm (by omega) (by simp at hbm; omega)
    refine ⟨w.heap.size, grownCap w m 0 e, _, by simpa using hr, by have := grownCap_ge w m 0 e; omega, grownCap_le_maxLen w m 0 e (by unfold maxLen; omega), .inr ⟨rfl, [], by simp, .inl ⟨rfl, rfl⟩, by simp⟩⟩
  · by_cases hroom : n + m ≤ cap
    · have hfit : n * i.size + m * i.size ≤ cur.size := by rw [hcz, ← Nat.add_mul]; exact Nat.mul_le_mul_right _ hroom
      have hf := run_firstCells_some (P := Tryz.prog) w i.size m ad m c news hl hnews
      have hst := storeCells_hw Tryz.prog g (n * i.size) e fr news 0 cur w hg (by omega) (hfr g cur fr hB hg) h1
      simp only [Nat.add_zero] at hst
      have hr : (Builtin.append_ #[t, t] ty #[.slice (some ⟨g, 0, none⟩) n cap, .slice (some ad) m c]).run Tryz.prog w = .ok (.slice (some ⟨g, 0, none⟩) (n + m) cap) (w.setRow g (cur.toList.take (n * i.size) ++ news ++ cur.toList.drop (n * i.size + news.length)).toArray) := by
        simp [Builtin.append_, run_underlying ht, sizeOf, typeInfo, hi, Builtin.lenOf, hroom, hf, Addr.add_lit, hst]
      exact ⟨g, cap, _, hr, hroom, hcm, .inl ⟨cur, fr, rfl, hB, hp, rfl, hg, hcz, hfit, by rw [hl]⟩⟩
    · have hlen : (cur.toList.take (n * i.size)).length = n * i.size := by
        rw [List.length_take, Array.length_toList, hcz]
        exact Nat.min_eq_left (Nat.mul_le_mul_right _ hnc)
      have holds : ∀ (j : Nat) (u : Value), (cur.toList.take (n * i.size))[j]? = some u → w.cell? ((⟨g, 0, none⟩ : Addr).add j) = some u := by
        intro j u hu
        rw [Addr.add_lit, Nat.zero_add, cell_of_row w g j cur e fr hg]
        rw [List.getElem?_take] at hu
        split at hu
        · simpa using hu
        · cases hu
      have hr := run_append_grow (P := Tryz.prog) w t ty e i z ht hi hz ⟨g, 0, none⟩ n cap (cur.toList.take (n * i.size)) hlen holds ad m c news hl hnews (by omega) (by omega) (growslice_fits (by omega) hbm)
      refine ⟨w.heap.size, _, _, hr, grownCap_ge w (n + m) cap e, grownCap_le_maxLen w (n + m) cap e (by unfold maxLen; omega), .inr ⟨rfl, _, hlen, .inr ⟨g, cur, fr, rfl, hB, hp, hg, rfl⟩, rfl⟩⟩
end Go.Proofs.YteafpgaefphkfaaGreatDoor
