/-
  Texts that a law leans on, one behind the other; no statement is proved here.
-/
import Derived.Test.YtngjhimieacjhaaGreatDoorPk0
/-
  What a value (kind, number, text, keys, parts) holds in memory, by its depth: 'Vl d' and 'VSeg'; lists of texts: 'KSeg'; no statement is proved here.
-/
namespace Go.Proofs.YtngjhimieacjhaaGreatDoor
open Go.RowKit
set_option linter.unusedVariables false

/-- Values of depth at most d. -/
def Vl : Nat → Type
  | 0 => Empty
  | d + 1 => Int × Int × List Int × List (List Int) × List (Vl d)

/-- The blocks in which something lies all fulfil R, and may be read alike in two worlds. -/
def Agree (R : Nat → Prop) (w w' : World) : Prop := ∀ b, R b → w'.heap[b]? = w.heap[b]?

/-- A slice of bytes, all in blocks of R. -/
def TSeg (R : Nat → Prop) (w : World) (v : Value) (xs : List Int) : Prop := ∃ a cap, v = .slice a xs.length cap ∧ Seg w a xs ∧ xs.length ≤ cap ∧ cap ≤ maxLen ∧ (a = none → cap = 0) ∧ ∀ x, a = some x → xs ≠ [] → R x.block

/-- A slice of slices of bytes. -/
def KSeg (R : Nat → Prop) (w : World) (v : Value) (ks : List (List Int)) : Prop := ∃ a cap, v = .slice a ks.length cap ∧ ks.length ≤ cap ∧ cap ≤ maxLen ∧ (a = none → cap = 0) ∧
  (ks = [] ∨ ∃ b off, a = some ⟨b, off, none⟩ ∧ R b ∧ ∀ i, i < ks.length → ∃ u, w.cell? ⟨b, off + i, none⟩ = some u ∧ TSeg R w u (ks.getD i []))

/-- The five cells of a value at a place. -/
def Five (w : World) (b off : Nat) (c : Value × Value × Value × Value × Value) : Prop :=
  w.cell? ⟨b, off, none⟩ = some c.1 ∧ w.cell? ⟨b, off + 1, none⟩ = some c.2.1 ∧ w.cell? ⟨b, off + 2, none⟩ = some c.2.2.1 ∧ w.cell? ⟨b, off + 3, none⟩ = some c.2.2.2.1 ∧ w.cell? ⟨b, off + 4, none⟩ = some c.2.2.2.2

/-- Five cells read as a value. -/
def VSeg (R : Nat → Prop) (w : World) : (d : Nat) → Value × Value × Value × Value × Value → Vl d → Prop
  | 0, _, _ => False
  | d + 1, c, v => c.1 = .int .i64 v.1 ∧ c.2.1 = .int .i64 v.2.1 ∧ TSeg R w c.2.2.1 v.2.2.1 ∧ KSeg R w c.2.2.2.1 v.2.2.2.1 ∧
      ∃ a cap, c.2.2.2.2 = .slice a v.2.2.2.2.length cap ∧ v.2.2.2.2.length ≤ cap ∧ cap ≤ maxLen ∧ (a = none → cap = 0) ∧
        (v.2.2.2.2 = [] ∨ ∃ b off, a = some ⟨b, off, none⟩ ∧ R b ∧ ∀ i (h : i < v.2.2.2.2.length), ∃ e, Five w b (off + i * 5) e ∧ VSeg R w d e (v.2.2.2.2[i]))

/-- A slice of values. -/
def LSeg (R : Nat → Prop) (w : World) (d : Nat) (x : Value) (l : List (Vl d)) : Prop := ∃ a cap, x = .slice a l.length cap ∧ l.length ≤ cap ∧ cap ≤ maxLen ∧ (a = none → cap = 0) ∧
  (l = [] ∨ ∃ b off, a = some ⟨b, off, none⟩ ∧ R b ∧ ∀ i (h : i < l.length), ∃ e, Five w b (off + i * 5) e ∧ VSeg R w d e (l[i]))

theorem VSeg_succ (R : Nat → Prop) (w : World) (d : Nat) (c : Value × Value × Value × Value × Value) (v : Vl (d + 1)) :
    VSeg R w (d + 1) c v ↔ c.1 = .int .i64 v.1 ∧ c.2.1 = .int .i64 v.2.1 ∧ TSeg R w c.2.2.1 v.2.2.1 ∧ KSeg R w c.2.2.2.1 v.2.2.2.1 ∧ LSeg R w d c.2.2.2.2 v.2.2.2.2 := Iff.rfl

theorem cell_agree {R : Nat → Prop} {w w' : World} (h : Agree R w w') {b o : Nat} (hb : R b) : w'.cell? ⟨b, o, none⟩ = w.cell? ⟨b, o, none⟩ := World.cell?_of_block (h b hb)

theorem TSeg.agree {R : Nat → Prop} {w w' : World} {v : Value} {xs : List Int} (h : TSeg R w v xs) (ha : Agree R w w') : TSeg R w' v xs := by
  obtain ⟨a, cap, h1, h2, h3, h4, h5, h6⟩ := h
  refine ⟨a, cap, h1, ⟨h2.1, ?_⟩, h3, h4, h5, h6⟩
  rcases h2.2 with h0 | ⟨b, off, rfl, hc⟩
  · exact .inl h0
  · by_cases he : xs = []
    · exact .inl he
    · exact .inr ⟨b, off, rfl, fun i hi => (cell_agree ha (h6 _ rfl he)).trans (hc i hi)⟩

theorem KSeg.agree {R : Nat → Prop} {w w' : World} {v : Value} {ks : List (List Int)} (h : KSeg R w v ks) (ha : Agree R w w') : KSeg R w' v ks := by
  obtain ⟨a, cap, h1, h2, h3, h4, h5⟩ := h
  refine ⟨a, cap, h1, h2, h3, h4, ?_⟩
  rcases h5 with h0 | ⟨b, off, hb, hR, hc⟩
  · exact .inl h0
  · refine .inr ⟨b, off, hb, hR, fun i hi => ?_⟩
    obtain ⟨u, hu, ht⟩ := hc i hi
    exact ⟨u, (cell_agree ha hR).trans hu, ht.agree ha⟩

theorem Five.agree {R : Nat → Prop} {w w' : World} {b off : Nat} {c : Value × Value × Value × Value × Value} (h : Five w b off c) (ha : Agree R w w') (hb : R b) : Five w' b off c := by
  obtain ⟨h0, h1, h2, h3, h4⟩ := h
  exact ⟨(cell_agree ha hb).trans h0, (cell_agree ha hb).trans h1, (cell_agree ha hb).trans h2, (cell_agree ha hb).trans h3, (cell_agree ha hb).trans h4⟩

theorem VSeg.agree {R : Nat → Prop} {w w' : World} (ha : Agree R w w') (d : Nat) : ∀ {c : Value × Value × Value × Value × Value} {v : Vl d}, VSeg R w d c v → VSeg R w' d c v := by
  induction d with
  | zero => intro c v h; exact h
  | succ d ih =>
    intro c v h
    obtain ⟨h0, h1, h2, h3, a, cap, g1, g2, g3, g4, g5⟩ := h
    refine ⟨h0, h1, h2.agree ha, h3.agree ha, a, cap, g1, g2, g3, g4, ?_⟩
    rcases g5 with e | ⟨b, off, hb, hR, hc⟩
    · exact .inl e
    · refine .inr ⟨b, off, hb, hR, fun i hi => ?_⟩
      obtain ⟨e, he, hv⟩ := hc i hi
      exact ⟨e, he.agree ha hR, ih hv⟩

theorem LSeg.agree {R : Nat → Prop} {w w' : World} {d : Nat} {x : Value} {l : List (Vl d)} (h : LSeg R w d x l) (ha : Agree R w w') : LSeg R w' d x l := by
  obtain ⟨a, cap, g1, g2, g3, g4, g5⟩ := h
  refine ⟨a, cap, g1, g2, g3, g4, ?_⟩
  rcases g5 with e | ⟨b, off, hb, hR, hc⟩
  · exact .inl e
  · refine .inr ⟨b, off, hb, hR, fun i hi => ?_⟩
    obtain ⟨e, he, hv⟩ := hc i hi
    exact ⟨e, he.agree ha hR, VSeg.agree ha d hv⟩

/-- What lies below N is read alike behind whatever leaves what is below N. -/
theorem agree_below {N : Nat} {w w' : World} (h : Below N w w') : Agree (fun b => b < N) w w' := fun b hb => h.block b hb

/-- A value's weight: how much szValue takes off. -/
def szT (xs : List Int) : Nat := xs.length
def szK (ks : List (List Int)) : Nat := ks.length + (ks.map List.length).sum
def szV : (d : Nat) → Vl d → Nat
  | 0, _ => 0
  | d + 1, v => szT v.2.2.1 + szK v.2.2.2.1 + (v.2.2.2.2.length + (v.2.2.2.2.map (szV d)).sum)
def szL (d : Nat) (l : List (Vl d)) : Nat := l.length + (l.map (szV d)).sum

end Go.Proofs.YtngjhimieacjhaaGreatDoor
/-
  szByteS of the laws: what is left of a bound behind a text's weight, or -1.
-/
namespace Go.Proofs.YtngjhimieacjhaaGreatDoor
open Go.RowKit
set_option linter.unusedVariables false

/-- What is left. -/
def less (l : Int) (n : Nat) : Int := if l < n then -1 else l - n
theorem less_no (l : Int) (n : Nat) (h : l < n) : less l n = -1 := by simp [less, h]
theorem less_yes (l : Int) (n : Nat) (h : ¬ l < n) : less l n = l - n := by simp [less, h]

/-- The weight of the first k. -/
def pre {α : Type} (f : α → Nat) (l : List α) (k : Nat) : Nat := ((l.take k).map f).sum
theorem pre_zero {α : Type} (f : α → Nat) (l : List α) : pre f l 0 = 0 := by simp [pre]
theorem pre_succ {α : Type} (f : α → Nat) (l : List α) (k : Nat) (h : k < l.length) : pre f l (k + 1) = pre f l k + f l[k] := by
  unfold pre
  rw [List.take_succ_eq_append_getElem h, List.map_append, List.sum_append]
  simp only [List.map_cons, List.map_nil, List.sum_cons, List.sum_nil, Nat.add_zero]
theorem pre_all {α : Type} (f : α → Nat) (l : List α) : pre f l l.length = (l.map f).sum := by simp [pre]
theorem pre_le {α : Type} (f : α → Nat) (l : List α) (k : Nat) : pre f l k ≤ (l.map f).sum := by
  unfold pre
  have : (l.map f).sum = ((l.take k).map f).sum + ((l.drop k).map f).sum := by
    rw [← List.sum_append, ← List.map_append, List.take_append_drop]
  omega

set_option maxHeartbeats 800000 in
theorem szByteS_any (a : Option Addr) (n cap : Nat) (l : Int) (w : World) (h0 : 0 ≤ l) (h1 : l ≤ 1048576) (hn : n ≤ maxLen) :
    Calls Tryz.prog 22 #[.slice a n cap, .int .i64 l] w fun e w' => e = .returned (.int .i64 (less l n)) ∧ w = w' := by
  unfold maxLen at hn
  by_cases h : l < n
  · have HO : Hid (less l n = -1) := less_no l n h
    have h' : l - (n : Int) < 0 := by omega
    go_enter Tryz.func22, Tryz.ntmps22
    go_wp2
    go_ret
    exact ⟨ret_i64 (by rw [HO.out]), rfl⟩
  · have HO : Hid (less l n = l - n) := less_yes l n h
    have h' : ¬ l - (n : Int) < 0 := by omega
    go_enter Tryz.func22, Tryz.ntmps22
    go_wp2
    go_ret
    exact ⟨ret_i64 (by rw [HO.out]), rfl⟩

theorem less_less (l : Int) (a b : Nat) (h : ¬ l < a) : less (l - a) b = less l (a + b) := by
  unfold less
  by_cases h2 : l - a < b
  · rw [if_pos h2, if_pos (by omega)]
  · rw [if_neg h2, if_neg (by omega)]
    omega

theorem grown1 (w : World) (g j : Nat) (v : Value) : w.grownBy (w.setCell ⟨g, j, none⟩ v) (some g) :=
  ⟨rfl, rfl, rfl, by simp [World.setCell], fun k _ hk => Below.heap_setCell w ⟨g, j, none⟩ v k (fun e => hk (by simp [e]))⟩

theorem size2 (w : World) (o o' : Obj) : ((w.alloc o).alloc o').heap.size = w.heap.size + 2 := by simp
theorem two_boxes (w : World) (o o' : Obj) : ((w.alloc o).alloc o').heap[w.heap.size]? = some o ∧ ((w.alloc o).alloc o').heap[w.heap.size + 1]? = some o' := by
  have e : (w.alloc o).heap.size = w.heap.size + 1 := by simp
  constructor
  · exact (((Below.refl (w.alloc o).heap.size (w.alloc o)).alloc (Nat.le_refl _) o').block w.heap.size (by omega)).trans (MapKept.heap_alloc w o).1
  · have h := (MapKept.heap_alloc (w.alloc o) o').1
    rw [e] at h
    exact h


end Go.Proofs.YtngjhimieacjhaaGreatDoor
/-
  A row of bytes of the call's own that may bear a mark of the run-time behind its last cell (as '[]byte(s)' lays one): it is read and written as any other.
-/
namespace Go.Proofs.YtngjhimieacjhaaGreatDoor
open Go.RowKit
set_option linter.unusedVariables false

/-- A row of the call's own; no cell of it is frozen. -/
def RowF (w : World) (v : Value) (n : Nat) (xs : List Value) : Prop :=
  xs.length = n ∧ ((v = .slice none 0 0 ∧ n = 0) ∨
    ∃ (g cap : Nat) (cur : Array Value) (fr : Nat × Nat), v = .slice (some ⟨g, 0, none⟩) n cap ∧ w.heap[g]? = some (.cells cur 5 fr) ∧ (fr.2 = 0 ∨ cap ≤ fr.1) ∧ n ≤ cap ∧ cap ≤ maxLen ∧ cur.size = cap ∧ cur.toList.take n = xs)

/-- The slice value 'v' owns such a row, that holds 'xs'. -/
def BtsF (w : World) (v : Value) (xs : List Int) : Prop := (∀ x ∈ xs, Byt x) ∧ RowF w v xs.length (cellsOf xs)

theorem Bts.free {w : World} {base : Nat} {v : Value} {xs : List Int} (h : Bts w base v xs) : BtsF w v xs := by
  obtain ⟨hb, hl, h0 | ⟨g, cap, cur, h1, _, h3, h4, h5, h6, h7⟩⟩ := h
  · exact ⟨hb, by simp [cellsOf], .inl h0⟩
  · exact ⟨hb, by simp [cellsOf], .inr ⟨g, cap, cur, (0, 0), h1, h3, .inl rfl, h4, h5, by omega, by rw [Nat.mul_one] at h7; exact h7⟩⟩

theorem RowF.cellAt {w : World} {g n cap : Nat} {xs : List Value} (h : RowF w (.slice (some ⟨g, 0, none⟩) n cap) n xs) (j : Nat) (hj : j < n) : w.cell? ⟨g, j, none⟩ = xs[j]? := by
  rcases h.2 with ⟨h', _⟩ | ⟨g', cap', cur, fr, h', hg, _, _, _, _, htake⟩
  · simp at h'
  · simp only [Value.slice.injEq, Option.some.injEq, Addr.mk.injEq, and_true, true_and] at h'
    obtain ⟨rfl, rfl⟩ := h'
    rw [cell_of_row w g j cur 5 fr hg, ← htake, List.getElem?_take, if_pos hj]
    simp

theorem RowF.frozenAt {w : World} {g n cap : Nat} {xs : List Value} (h : RowF w (.slice (some ⟨g, 0, none⟩) n cap) n xs) (j : Nat) (hj : j < n) : w.frozen? ⟨g, j, none⟩ = false := by
  rcases h.2 with ⟨h', _⟩ | ⟨g', cap', cur, fr, h', hg, hf, hn, _⟩
  · simp at h'
  · simp only [Value.slice.injEq, Option.some.injEq, Addr.mk.injEq, and_true, true_and] at h'
    obtain ⟨rfl, rfl⟩ := h'
    obtain ⟨lo, hi⟩ := fr
    simp only [World.frozen?, hg]
    simp only at hf
    simp
    omega

theorem heap_setCell_fr (w : World) (g i : Nat) (cs : Array Value) (t : TypeId) (fr : Nat × Nat) (v : Value) (hg : w.heap[g]? = some (.cells cs t fr)) : (w.setCell ⟨g, i, none⟩ v).heap[g]? = some (.cells (cs.setIfInBounds i v) t fr) := by
  have h2 := (Array.getElem?_eq_some_iff.1 hg).1
  simp [World.setCell, Array.getElem?_modify, hg]

theorem RowF.stored {w : World} {g n cap : Nat} {xs : List Value} (h : RowF w (.slice (some ⟨g, 0, none⟩) n cap) n xs) (j : Nat) (u : Value) :
    RowF (w.setCell ⟨g, j, none⟩ u) (.slice (some ⟨g, 0, none⟩) n cap) n (xs.set j u) ∧ w.grownBy (w.setCell ⟨g, j, none⟩ u) (some g) := by
  rcases h.2 with ⟨h', _⟩ | ⟨g', cap', cur, fr, h', hg, hf, hn, hm, hs, htake⟩
  · simp at h'
  · simp only [Value.slice.injEq, Option.some.injEq, Addr.mk.injEq, and_true, true_and] at h'
    obtain ⟨rfl, rfl⟩ := h'
    refine ⟨⟨by simpa using h.1, .inr ⟨g, cap, cur.setIfInBounds j u, fr, rfl, heap_setCell_fr w g j cur 5 fr u hg, hf, hn, hm, by simpa using hs, ?_⟩⟩, ⟨rfl, rfl, rfl, by simp [World.setCell], fun k _ hk => Below.heap_setCell w ⟨g, j, none⟩ u k (fun e => hk (by simp [e]))⟩⟩
    rw [Array.toList_setIfInBounds, ← htake, List.take_set]

theorem BtsF.shape {w : World} {v : Value} {xs : List Int} (h : BtsF w v xs) : ∃ a cap, v = .slice a xs.length cap ∧ Seg w a xs ∧ xs.length ≤ cap ∧ cap ≤ maxLen ∧ (∀ x, a = some x → 0 ≤ x.block ∧ x.block < w.heap.size ∧ x.off = 0 ∧ x.spot = none) ∧ (a = none → cap = 0) := by
  obtain ⟨hb, ho⟩ := h
  have ho' := ho
  obtain ⟨hl, hc⟩ := ho
  rcases hc with ⟨rfl, h0⟩ | ⟨g, cap, cur, fr, rfl, hh, hf, hle, hm, hsz, htake⟩
  · have : xs = [] := List.eq_nil_of_length_eq_zero h0
    subst this
    exact ⟨none, 0, rfl, ⟨hb, .inl rfl⟩, Nat.le_refl _, Nat.zero_le _, by simp, fun _ => rfl⟩
  · refine ⟨some ⟨g, 0, none⟩, cap, rfl, ⟨hb, .inr ⟨g, 0, rfl, fun i hi => ?_⟩⟩, hle, hm, ?_, by simp⟩
    · have := RowF.cellAt ho' i (by omega)
      rw [Nat.zero_add, this]
      simp [cellsOf, hi]
    · rintro x hx
      simp at hx
      subst hx
      exact ⟨Nat.zero_le _, (Array.getElem?_eq_some_iff.1 hh).1, rfl, rfl⟩

theorem RowF.lt {w : World} {v : Value} {n : Nat} {xs : List Value} (h : RowF w v n xs) : ∀ k, v.ownBlock = some k → k < w.heap.size := by
  intro k hk
  rcases h.2 with ⟨rfl, _⟩ | ⟨g, cap, cur, fr, rfl, hh, _⟩
  · simp [Value.ownBlock] at hk
  · simp [Value.ownBlock] at hk
    subst hk
    exact (Array.getElem?_eq_some_iff.1 hh).1
end Go.Proofs.YtngjhimieacjhaaGreatDoor
/-
  What a call owns: a text, a list of texts, a value, each with the list of the blocks in which it lies, no block twice.
-/
namespace Go.Proofs.YtngjhimieacjhaaGreatDoor
open Go.RowKit
set_option linter.unusedVariables false

/-- A text of the call's own, in the blocks B. -/
def TOwn (w : World) (v : Value) (xs : List Int) (B : List Nat) : Prop :=
  BtsF w v xs ∧ ((v = .slice none 0 0 ∧ B = []) ∨ ∃ g cap, v = .slice (some ⟨g, 0, none⟩) xs.length cap ∧ B = [g])

/-- A list of texts of the call's own, in the blocks B. -/
def KOwn (w : World) (v : Value) (ks : List (List Int)) (B : List Nat) : Prop :=
  (v = .slice none 0 0 ∧ ks = [] ∧ B = []) ∨
  ∃ (g cap : Nat) (cur : Array Value) (Bs : List (List Nat)), v = .slice (some ⟨g, 0, none⟩) ks.length cap ∧ w.heap[g]? = some (.cells cur 22 (0, 0)) ∧ ks.length ≤ cap ∧ cap ≤ maxLen ∧ cur.size = cap ∧ Bs.length = ks.length ∧
    (∀ i, i < ks.length → ∃ u, cur[i]? = some u ∧ TOwn w u (ks.getD i []) (Bs.getD i [])) ∧ B = g :: Bs.flatten ∧ B.Nodup

theorem TOwn.agree {w w' : World} {v : Value} {xs : List Int} {B : List Nat} (h : TOwn w v xs B) (ha : Agree (fun b => b ∈ B) w w') : TOwn w' v xs B := by
  refine ⟨?_, h.2⟩
  rcases h.2 with ⟨rfl, rfl⟩ | ⟨g, cap, rfl, rfl⟩
  · refine ⟨h.1.1, h.1.2.1, ?_⟩
    rcases h.1.2.2 with h0 | ⟨g, cap, cur, fr, h1, _⟩
    · exact .inl h0
    · simp at h1
  · refine ⟨h.1.1, h.1.2.1, ?_⟩
    rcases h.1.2.2 with ⟨h0, _⟩ | ⟨g', cap', cur, fr, h1, h3, h4⟩
    · simp at h0
    · simp only [Value.slice.injEq, Option.some.injEq, Addr.mk.injEq, and_true, true_and] at h1
      obtain ⟨rfl, rfl⟩ := h1
      exact .inr ⟨g, cap, cur, fr, rfl, (ha g (by simp)).trans h3, h4⟩

theorem TOwn.lt {w : World} {v : Value} {xs : List Int} {B : List Nat} (h : TOwn w v xs B) : ∀ b ∈ B, b < w.heap.size := by
  intro b hb
  rcases h.2 with ⟨rfl, rfl⟩ | ⟨g, cap, rfl, rfl⟩
  · simp at hb
  · simp at hb
    subst hb
    exact h.1.2.lt b rfl

theorem flatten_mem_getD {Bs : List (List Nat)} {i : Nat} (hi : i < Bs.length) {b : Nat} (hb : b ∈ Bs.getD i []) : b ∈ Bs.flatten := by
  rw [List.mem_flatten]
  refine ⟨Bs[i], List.getElem_mem hi, ?_⟩
  simpa [List.getD_eq_getElem?_getD, hi] using hb

theorem KOwn.agree {w w' : World} {v : Value} {ks : List (List Int)} {B : List Nat} (h : KOwn w v ks B) (ha : Agree (fun b => b ∈ B) w w') : KOwn w' v ks B := by
  rcases h with h0 | ⟨g, cap, cur, Bs, h1, h2, h3, h4, h5, h6, h7, rfl, h9⟩
  · exact .inl h0
  · refine .inr ⟨g, cap, cur, Bs, h1, (ha g (by simp)).trans h2, h3, h4, h5, h6, fun i hi => ?_, rfl, h9⟩
    obtain ⟨u, hu, ht⟩ := h7 i hi
    exact ⟨u, hu, ht.agree fun b hb => ha b (List.mem_cons_of_mem _ (flatten_mem_getD (by omega) hb))⟩

/-- What is owned can be read. -/
theorem TOwn.seg {w : World} {v : Value} {xs : List Int} {B : List Nat} (h : TOwn w v xs B) : TSeg (fun b => b ∈ B) w v xs := by
  obtain ⟨a, cap, h1, h2, h3, h4, h5, h6⟩ := h.1.shape
  refine ⟨a, cap, h1, h2, h3, h4, h6, fun x hx he => ?_⟩
  rcases h.2 with ⟨e, rfl⟩ | ⟨g, cp, e, rfl⟩
  · rw [e] at h1; simp at h1; rw [← h1.1] at hx; simp at hx
  · rw [e] at h1; simp at h1; rw [← h1.1] at hx; simp at hx; simp [← hx]

theorem TSeg.mono {R R' : Nat → Prop} {w : World} {v : Value} {xs : List Int} (h : TSeg R w v xs) (hr : ∀ b, R b → R' b) : TSeg R' w v xs := by
  obtain ⟨a, cap, h1, h2, h3, h4, h5, h6⟩ := h
  exact ⟨a, cap, h1, h2, h3, h4, h5, fun x hx he => hr _ (h6 x hx he)⟩

theorem KOwn.seg {w : World} {v : Value} {ks : List (List Int)} {B : List Nat} (h : KOwn w v ks B) : KSeg (fun b => b ∈ B) w v ks := by
  rcases h with ⟨rfl, rfl, rfl⟩ | ⟨g, cap, cur, Bs, rfl, h2, h3, h4, h5, h6, h7, rfl, h9⟩
  · exact ⟨none, 0, rfl, Nat.le_refl _, Nat.zero_le _, fun _ => rfl, .inl rfl⟩
  · refine ⟨some ⟨g, 0, none⟩, cap, rfl, h3, h4, by simp, .inr ⟨g, 0, rfl, by simp, fun i hi => ?_⟩⟩
    obtain ⟨u, hu, ht⟩ := h7 i hi
    refine ⟨u, ?_, ht.seg.mono fun b hb => List.mem_cons_of_mem _ (flatten_mem_getD (by omega) hb)⟩
    rw [Nat.zero_add, cell_of_row w g i cur 22 (0, 0) h2]
    exact hu

/-- A row of the call's own that was just made. -/
theorem tOwn_new {w : World} {base g : Nat} {xs : List Int} (h : Bts w base (.slice (some ⟨g, 0, none⟩) xs.length xs.length) xs) : TOwn w (.slice (some ⟨g, 0, none⟩) xs.length xs.length) xs [g] :=
  ⟨h.free, .inr ⟨g, _, rfl, rfl⟩⟩

theorem infoT : (Tryz.prog.info? 22).map (fun i => (i.zero, i.size, i.bytes)) = some (some (.slice none 0 0), 1, 24) := by kernel_rfl

/-- After k rounds of toByteSS. -/
def KPart (w : World) (g n : Nat) (ks : List (List Int)) (k : Nat) (N : Nat) : Prop :=
  ∃ (cur : Array Value) (Bs : List (List Nat)), w.heap[g]? = some (.cells cur 22 (0, 0)) ∧ cur.size = n ∧ Bs.length = k ∧
    (∀ i, i < k → ∃ u, cur[i]? = some u ∧ TOwn w u (ks.getD i []) (Bs.getD i [])) ∧ (∀ b ∈ Bs.flatten, N ≤ b ∧ b < w.heap.size) ∧ Bs.flatten.Nodup

theorem kPart_next {w w1 : World} {g n : Nat} {ks : List (List Int)} {k N : Nat} (h : KPart w g n ks k N) (hgN : g < N) (hk : k < n) (b1 : Below w.heap.size w w1) (hN : N ≤ w.heap.size) (u : Value) (gb : Nat) (hu : TOwn w1 u (ks.getD k []) [gb]) (hgb : w.heap.size ≤ gb) :
    KPart (w1.setCell ⟨g, k, none⟩ u) g n ks (k + 1) N ∧ w1.grownBy (w1.setCell ⟨g, k, none⟩ u) (some g) := by
  obtain ⟨cur, Bs, h1, h2, h3, h4, h5, h6⟩ := h
  have hgw : g < w.heap.size := (Array.getElem?_eq_some_iff.1 h1).1
  have h1' : w1.heap[g]? = some (.cells cur 22 (0, 0)) := (b1.block g hgw).trans h1
  have hgr : w1.grownBy (w1.setCell ⟨g, k, none⟩ u) (some g) := ⟨rfl, rfl, rfl, by simp [World.setCell], fun j _ hj => Below.heap_setCell w1 ⟨g, k, none⟩ u j (fun e => hj (by simp [e]))⟩
  have hsz : (w1.setCell ⟨g, k, none⟩ u).heap.size = w1.heap.size := by simp [World.setCell]
  have hgbl := hu.lt gb (by simp)
  refine ⟨⟨cur.setIfInBounds k u, Bs ++ [[gb]], heap_setCell_same w1 g k cur 22 u h1', by simpa using h2, by simp [h3], fun i hi => ?_, ?_, ?_⟩, hgr⟩
  · by_cases hik : i = k
    · subst hik
      refine ⟨u, by simp [h2, hk], ?_⟩
      have e : (Bs ++ [[gb]]).getD i [] = [gb] := by simp [List.getD_eq_getElem?_getD, ← h3]
      rw [e]
      exact hu.agree fun b hb => Below.heap_setCell w1 ⟨g, i, none⟩ u b (by simp at hb; show b ≠ g; omega)
    · have hi' : i < k := by omega
      obtain ⟨u', hu', ht'⟩ := h4 i hi'
      have e : (Bs ++ [[gb]]).getD i [] = Bs.getD i [] := by
        simp only [List.getD_eq_getElem?_getD]
        rw [List.getElem?_append_left (by omega)]
      refine ⟨u', by rw [Array.getElem?_setIfInBounds_ne (by omega)]; exact hu', ?_⟩
      rw [e]
      refine (ht'.agree fun b hb => b1.block b ?_).agree fun b hb => Below.heap_setCell w1 ⟨g, k, none⟩ u b ?_
      · exact ht'.lt b hb
      · have := h5 b (flatten_mem_getD (by omega) hb)
        show b ≠ g
        omega
  · intro b hb
    rw [List.flatten_append, List.mem_append] at hb
    rw [hsz]
    rcases hb with hb | hb
    · have := h5 b hb
      have := b1.size
      omega
    · simp at hb
      omega
  · rw [List.flatten_append, List.nodup_append]
    refine ⟨h6, by simp, fun b hb c hc => ?_⟩
    simp at hc
    have := h5 b hb
    omega

end Go.Proofs.YtngjhimieacjhaaGreatDoor
/-
  szByteSS, szValueS, szValue of the laws: what is left of a bound behind a value's weight, or -1.
-/
namespace Go.Proofs.YtngjhimieacjhaaGreatDoor
open Go.RowKit
set_option linter.unusedVariables false

set_option maxHeartbeats 800000 in
theorem szByteSS_any (R : Nat → Prop) (v : Value) (ks : List (List Int)) (l : Int) (w : World) (hk : KSeg R w v ks) (h0 : 0 ≤ l) (h1 : l ≤ 1048576) :
    Calls Tryz.prog 57 #[v, .int .i64 l] w fun e w' => e = .returned (.int .i64 (less l (szK ks))) ∧ w = w' := by
  obtain ⟨a, cap, rfl, hlc, hcm, ka, hc⟩ := hk
  unfold maxLen at hcm
  have hsz : szK ks = ks.length + (ks.map List.length).sum := rfl
  by_cases h : l < ks.length
  · have HO : Hid (less l (szK ks) = -1) := less_no l _ (by rw [hsz]; omega)
    have h' : l - (ks.length : Int) < 0 := by omega
    clear hsz
    go_enter Tryz.func57, Tryz.ntmps57
    go_wp2
    go_ret
    exact ⟨ret_i64 (by rw [HO.out]), rfl⟩
  · have h' : ¬ l - (ks.length : Int) < 0 := by omega
    have hpre := pre_le List.length ks
    have Hpre := fun k (hk : k < ks.length) => pre_succ List.length ks k hk
    have HP : Hid (∀ k (hk : k < ks.length), pre List.length ks (k + 1) = pre List.length ks k + ks[k].length) := Hpre
    have HL : Hid (∀ k, pre List.length ks k ≤ (ks.map List.length).sum) := hpre
    have HZ : Hid (szK ks = ks.length + (ks.map List.length).sum) := hsz
    have HA : Hid (pre List.length ks ks.length = (ks.map List.length).sum) := pre_all _ _
    have HC : Hid (ks = [] ∨ ∃ b off, a = some ⟨b, off, none⟩ ∧ R b ∧ ∀ i, i < ks.length → ∃ u, w.cell? ⟨b, off + i, none⟩ = some u ∧ TSeg R w u (ks.getD i [])) := hc
    clear hsz hpre Hpre hc
    go_enter Tryz.func57, Tryz.ntmps57
    go_wp2
    go_loopw [1, 5] (fun l' i wr => ∃ (k : Nat), k ≤ ks.length ∧ i = .int .i64 k ∧ (pre List.length ks k : Int) ≤ l - ks.length ∧ l' = .int .i64 (l - ks.length - pre List.length ks k) ∧ wr = w) (fun _ i _ => ks.length - (intOf i).toNat)
    case atStart => exact ⟨0, Nat.zero_le _, rfl, by rw [pre_zero]; omega, by rw [pre_zero]; simp, rfl⟩
    case round =>
      obtain ⟨k, hk, rfl, hle, rfl, rfl⟩ := hrel
      have hpk := HL.out k
      by_cases hlt : k < ks.length
      · have hps := HP.out k hlt
        have hcell : ∃ b off u, a = some ⟨b, off, none⟩ ∧ wr.cell? ⟨b, off + k, none⟩ = some u ∧ TSeg R wr u (ks.getD k []) := by
          rcases HC.out with e | ⟨b, off, e, _, hc⟩
          · rw [e] at hlt; simp at hlt
          · obtain ⟨u, hu, ht⟩ := hc k hlt
            exact ⟨b, off, u, e, hu, ht⟩
        obtain ⟨b, off, u, rfl, hu, a2, c2, rfl, s2, hl2, hm2, k2, _⟩ := hcell
        have hgk : (ks.getD k []).length = ks[k].length := by simp [List.getD_eq_getElem?_getD, hlt]
        rw [hgk] at hl2 hu
        generalize ks[k].length = m at *
        have hm3 : m ≤ maxLen := by omega
        generalize hp0 : pre List.length ks k = p at *
        have Hps : Hid (pre List.length ks (k + 1) = p + m) := hps
        clear hps hgk hp0 s2
        unfold maxLen at hm2
        have hlt' : (k : Int) < (ks.length : Int) := by omega
        go_wp2_with fail
        refine (szByteS_any _ m _ _ _ (by omega) (by omega) hm3).mono ?_
        rintro e w1 ⟨rfl, e1⟩
        obtain rfl := e1
        by_cases hbad : l - ks.length - p < m
        · rw [less_no _ _ hbad]
          have HO : Hid (less l (szK ks) = -1) := less_no l _ (by have := HZ.out; have := Hps.out; have := HL.out (k + 1); omega)
          go_wp2
          go_ret
          exact ⟨ret_i64 (by rw [HO.out]), rfl⟩
        · rw [less_yes _ _ hbad]
          have hpos : ¬ (l - ks.length - p - m < 0) := by omega
          go_wp2
          go_roundw
          case rel => exact ⟨k + 1, by omega, by go_num, by have := Hps.out; omega, by have := Hps.out; rw [this]; go_num, by first | rfl | trivial⟩
          case measure => simp [intOf]; omega
      · have hkn : k = ks.length := by omega
        have HO : Hid (less l (szK ks) = l - ks.length - pre List.length ks k) := by
          show less l (szK ks) = _
          have h1 := HZ.out
          have h2 := HA.out
          rw [less_yes _ _ (by rw [← hkn] at h2; omega), hkn]
          omega
        have hkn' : ¬ (k : Int) < (ks.length : Int) := by omega
        clear hkn
        go_wp2
        go_ret
        exact ⟨ret_i64 (by rw [HO.out]), rfl⟩

/-- The contract of szValue at depth d. -/
def SzAt (d : Nat) : Prop := ∀ (N : Nat) (c : Value × Value × Value × Value × Value) (v : Vl d) (l : Int) (w : World), VSeg (fun b => b < N) w d c v → N ≤ w.heap.size → 0 ≤ l → l ≤ 1048576 →
  Calls Tryz.prog 56 #[.agg #[c.1, c.2.1, c.2.2.1, c.2.2.2.1, c.2.2.2.2], .int .i64 l] w fun e w' => e = .returned (.int .i64 (less l (szV d v))) ∧ Below w.heap.size w w'

set_option maxHeartbeats 1600000 in
theorem szValueS_of (d : Nat) (ih : SzAt d) (N : Nat) (x : Value) (l : List (Vl d)) (m : Int) (w : World) (hx : LSeg (fun b => b < N) w d x l) (hN : N ≤ w.heap.size) (h0 : 0 ≤ m) (h1 : m ≤ 1048576) :
    Calls Tryz.prog 77 #[x, .int .i64 m] w fun e w' => e = .returned (.int .i64 (less m (szL d l))) ∧ Below w.heap.size w w' := by
  obtain ⟨a, cap, rfl, hlc, hcm, ka, hc⟩ := hx
  unfold maxLen at hcm
  have hsz : szL d l = l.length + (l.map (szV d)).sum := rfl
  by_cases h : m < l.length
  · have HO : Hid (less m (szL d l) = -1) := less_no m _ (by rw [hsz]; omega)
    have h' : m - (l.length : Int) < 0 := by omega
    clear hsz
    go_enter Tryz.func77, Tryz.ntmps77
    go_wp2
    go_ret
    exact ⟨ret_i64 (by rw [HO.out]), Below.refl _ _⟩
  · have h' : ¬ m - (l.length : Int) < 0 := by omega
    have HP : Hid (∀ k (hk : k < l.length), pre (szV d) l (k + 1) = pre (szV d) l k + szV d l[k]) := fun k hk => pre_succ (szV d) l k hk
    have HL : Hid (∀ k, pre (szV d) l k ≤ (l.map (szV d)).sum) := pre_le (szV d) l
    have HZ : Hid (szL d l = l.length + (l.map (szV d)).sum) := hsz
    have HA : Hid (pre (szV d) l l.length = (l.map (szV d)).sum) := pre_all _ _
    have HC : Hid (l = [] ∨ ∃ b off, a = some ⟨b, off, none⟩ ∧ b < N ∧ ∀ i (h : i < l.length), ∃ e, Five w b (off + i * 5) e ∧ VSeg (fun b => b < N) w d e (l[i])) := hc
    have HI : Hid (SzAt d) := ih
    clear hsz hc ih
    go_enter Tryz.func77, Tryz.ntmps77
    go_wp2
    go_loopw [1, 5] (fun l' i wr => ∃ (k : Nat), k ≤ l.length ∧ i = .int .i64 k ∧ (pre (szV d) l k : Int) ≤ m - l.length ∧ l' = .int .i64 (m - l.length - pre (szV d) l k) ∧ Below w.heap.size w wr) (fun _ i _ => l.length - (intOf i).toNat)
    case atStart => exact ⟨0, Nat.zero_le _, rfl, by rw [pre_zero]; omega, by rw [pre_zero]; simp, Below.refl _ _⟩
    case round =>
      obtain ⟨k, hk, rfl, hle, rfl, hbel⟩ := hrel
      have hpk := HL.out k
      have hsz2 := hbel.size
      by_cases hlt : k < l.length
      · have hps := HP.out k hlt
        have hcell : ∃ b off e, a = some ⟨b, off, none⟩ ∧ Five wr b (off + k * 5) e ∧ VSeg (fun b => b < N) wr d e (l[k]) := by
          rcases HC.out with e | ⟨b, off, e, hb, hc⟩
          · rw [e] at hlt; simp at hlt
          · obtain ⟨c, h5, hv⟩ := hc k hlt
            have ag : Agree (fun b => b < N) w wr := agree_below (hbel.mono hN)
            exact ⟨b, off, c, e, h5.agree ag hb, VSeg.agree ag d hv⟩
        obtain ⟨b, off, c, rfl, h5, hv⟩ := hcell
        obtain ⟨c0, c1, c2, c3, c4⟩ := c
        obtain ⟨q0, q1, q2, q3, q4⟩ := h5
        simp only at q0 q1 q2 q3 q4
        generalize hp0 : pre (szV d) l k = p at *
        have Hps : Hid (pre (szV d) l (k + 1) = p + szV d l[k]) := hps
        have HV : Hid (VSeg (fun b => b < N) wr d (c0, c1, c2, c3, c4) l[k]) := hv
        clear hps hp0 hv
        have hlt' : (k : Int) < (l.length : Int) := by omega
        go_wp2_with fail
        refine (HI.out N (c0, c1, c2, c3, c4) l[k] _ wr HV.out (by omega) (by omega) (by omega)).mono ?_
        rintro e w1 ⟨rfl, b1⟩
        have B1 := Below.on hbel b1
        generalize szV d l[k] = q at *
        clear b1 HV q0 q1 q2 q3 q4
        by_cases hbad : m - l.length - p < q
        · rw [less_no _ _ hbad]
          have HO : Hid (less m (szL d l) = -1) := less_no m _ (by have := HZ.out; have := Hps.out; have := HL.out (k + 1); omega)
          go_wp2
          go_ret
          exact ⟨ret_i64 (by rw [HO.out]), B1⟩
        · rw [less_yes _ _ hbad]
          have hpos : ¬ (m - l.length - p - q < 0) := by omega
          go_wp2
          go_roundw
          case rel => exact ⟨k + 1, by omega, by go_num, by have := Hps.out; omega, by have := Hps.out; rw [this]; go_num, B1⟩
          case measure => simp [intOf]; omega
      · have hkn : k = l.length := by omega
        have HO : Hid (less m (szL d l) = m - l.length - pre (szV d) l k) := by
          show less m (szL d l) = _
          have h1 := HZ.out
          have h2 := HA.out
          rw [less_yes _ _ (by rw [← hkn] at h2; omega), hkn]
          omega
        have hkn' : ¬ (k : Int) < (l.length : Int) := by omega
        clear hkn
        go_wp2
        go_ret
        exact ⟨ret_i64 (by rw [HO.out]), hbel⟩

set_option maxHeartbeats 1600000 in
theorem szValue_succ (d : Nat) (ih : SzAt d) : SzAt (d + 1) := by
  intro N c v l w hv hN h0 h1
  obtain ⟨c0, c1, c2, c3, c4⟩ := c
  obtain ⟨vk, vn, vs, vK, vL⟩ := v
  obtain ⟨e0, e1, ht, hk, hl⟩ := (VSeg_succ _ _ _ _ _).1 hv
  simp only at e0 e1 ht hk hl
  subst e0
  subst e1
  have hsz : szV (d + 1) (vk, vn, vs, vK, vL) = vs.length + szK vK + szL d vL := rfl
  rw [hsz]
  clear hsz hv
  simp only
  have b0 : ∀ o : Obj, Below w.heap.size w (w.alloc o) := fun o => (Below.refl _ _).alloc (Nat.le_refl _) o
  have hN1 : ∀ o : Obj, N ≤ (w.alloc o).heap.size := fun o => by simp; omega
  have hkA : ∀ o : Obj, KSeg (fun b => b < N) (w.alloc o) c3 vK := fun o => hk.agree (agree_below ((b0 o).mono hN))
  have hlA : ∀ o : Obj, LSeg (fun b => b < N) (w.alloc o) d c4 vL := fun o => hl.agree (agree_below ((b0 o).mono hN))
  have HkA := hkA
  have Hk : Hid (∀ o : Obj, KSeg (fun b => b < N) (w.alloc o) c3 vK) := hkA
  have Hl : Hid (∀ o : Obj, LSeg (fun b => b < N) (w.alloc o) d c4 vL) := hlA
  have HI : Hid (SzAt d) := ih
  have Hb : Hid (∀ o : Obj, Below w.heap.size w (w.alloc o)) := b0
  obtain ⟨a3, cp3, rfl, _, _, _, _⟩ := hk
  obtain ⟨a4, cp4, rfl, _, _, _, _⟩ := hl
  obtain ⟨a2, cp2, rfl, s2, hl2, hm2, _, _⟩ := ht
  clear hkA hlA HkA ih b0
  have hn2 : vs.length ≤ maxLen := by omega
  go_enter Tryz.func56, Tryz.ntmps56
  go_wp2_with fail
  refine (szByteS_any _ vs.length _ l _ h0 h1 hn2).mono ?_
  rintro e w1 ⟨rfl, e1⟩
  obtain rfl := e1
  by_cases hb1 : l < vs.length
  · rw [less_no _ _ hb1]
    have HO : Hid (less l (vs.length + szK vK + szL d vL) = -1) := less_no _ _ (by omega)
    go_wp2
    go_ret
    exact ⟨ret_i64 (by rw [HO.out]), Hb.out _⟩
  · have hq1 : 0 ≤ l - (vs.length : Int) := by omega
    have hq2 : l - (vs.length : Int) ≤ 1048576 := by omega
    rw [less_yes _ _ hb1]
    go_wp2_with fail
    refine (szByteSS_any _ _ vK (l - vs.length) _ (Hk.out _) hq1 hq2).mono ?_
    rintro e w1 ⟨rfl, e1⟩
    obtain rfl := e1
    by_cases hb2 : l - vs.length < szK vK
    · rw [less_no _ _ hb2]
      have HO : Hid (less l (vs.length + szK vK + szL d vL) = -1) := less_no _ _ (by omega)
      go_wp2
      go_ret
      exact ⟨ret_i64 (by rw [HO.out]), Hb.out _⟩
    · rw [less_yes _ _ hb2]
      have hq3 : 0 ≤ l - (vs.length : Int) - (szK vK : Nat) := by omega
      have hq4 : l - (vs.length : Int) - (szK vK : Nat) ≤ 1048576 := by omega
      go_wp2_with fail
      refine (szValueS_of d HI.out N _ vL (l - vs.length - (szK vK : Nat)) _ (Hl.out _) (hN1 _) hq3 hq4).mono ?_
      rintro e w2 ⟨rfl, b2⟩
      have B2 := Below.on (Hb.out _) b2
      by_cases hb3 : l - vs.length - (szK vK : Nat) < szL d vL
      · rw [less_no _ _ hb3]
        have HO : Hid (less l (vs.length + szK vK + szL d vL) = -1) := less_no _ _ (by omega)
        go_wp2
        go_ret
        exact ⟨ret_i64 (by rw [HO.out]), B2⟩
      · rw [less_yes _ _ hb3]
        have HO : Hid (less l (vs.length + szK vK + szL d vL) = l - vs.length - (szK vK : Nat) - (szL d vL : Nat)) := by
          show less l (vs.length + szK vK + szL d vL) = _
          rw [less_yes _ _ (by omega)]
          omega
        have hq5 : ¬ (l - (vs.length : Int) - (szK vK : Nat) - (szL d vL : Nat) < 0) := by omega
        go_wp2
        go_ret
        exact ⟨ret_i64 (by rw [HO.out]), B2⟩

theorem szValue_any (d : Nat) : SzAt d := by
  induction d with
  | zero => intro N c v l w hv; exact hv.elim
  | succ d ih => exact szValue_succ d ih
end Go.Proofs.YtngjhimieacjhaaGreatDoor
/-
  toByteSS of the laws: it makes a list of texts of its own that holds what its argument holds.
-/
namespace Go.Proofs.YtngjhimieacjhaaGreatDoor
open Go.RowKit
set_option linter.unusedVariables false

set_option maxHeartbeats 1600000 in
theorem toByteSS_any (N : Nat) (v : Value) (ks : List (List Int)) (w : World) (hk : KSeg (fun b => b < N) w v ks) (hN : N ≤ w.heap.size) (hn : ks.length ≤ 1048576) (hs : ∀ t ∈ ks, t.length ≤ 1048576) :
    Calls Tryz.prog 62 #[v] w fun e w' => ∃ u, e = .returned u ∧ ∃ B, KOwn w' u ks B ∧ (∀ b ∈ B, w.heap.size ≤ b ∧ b < w'.heap.size) ∧ Below w.heap.size w w' := by
  obtain ⟨a, cap, rfl, hlc, hcm, ka, hc⟩ := hk
  unfold maxLen at hcm
  obtain ⟨i0, hi, hz0, hz1, hz2⟩ := info_parts infoT
  have HC : Hid (ks = [] ∨ ∃ b off, a = some ⟨b, off, none⟩ ∧ b < N ∧ ∀ i, i < ks.length → ∃ u, w.cell? ⟨b, off + i, none⟩ = some u ∧ TSeg (fun b => b < N) w u (ks.getD i [])) := hc
  have HS : Hid (∀ t ∈ ks, t.length ≤ 1048576) := hs
  clear hc hs
  go_enter Tryz.func62, Tryz.ntmps62
  go_wp2_with (refine wpList_make_full _ rfl _ _ 27 rfl w.heap.size 22 i0 (.slice none 0 0) 1 Tryz.underlying27 hi hz0 hz1 .i64 .i64 _ _ ks.length rfl rfl rfl rfl (by rw [hz2]; omega) (by unfold maxLen; omega) (Nat.le_refl _) ?_; intro w1 hown hgrow)
  have hK0 : KPart w1 w.heap.size ks.length ks 0 (w.heap.size + 1) := by
    rcases hown.2 with ⟨h1, _⟩ | ⟨g, cp, cur, h1, _, h3, _, _, h6, _⟩
    · simp at h1
    · simp only [Value.slice.injEq, Option.some.injEq, Addr.mk.injEq, and_true, true_and] at h1
      obtain ⟨e1, e2⟩ := h1
      subst e1
      exact ⟨cur, [], h3, by omega, rfl, by omega, by simp, by simp⟩
  have hb1 : Below w.heap.size w w1 := (Below.refl _ _).grown hgrow (Nat.le_refl _) (by simp)
  clear hown hgrow
  go_loopw [4] (fun i wr => ∃ k : Nat, k ≤ ks.length ∧ i = .int .i64 k ∧ KPart wr w.heap.size ks.length ks k (w.heap.size + 1) ∧ Below w.heap.size w wr) (fun i _ => ks.length - (intOf i).toNat)
  case atStart => exact ⟨0, Nat.zero_le _, rfl, hK0, hb1⟩
  case round =>
    obtain ⟨k, hk, rfl, hK, hbel⟩ := hrel
    clear hK0 hb1
    by_cases hlt : k < ks.length
    · have hlt' : (k : Int) < (ks.length : Int) := by omega
      have hcell : ∃ b off u, a = some ⟨b, off, none⟩ ∧ wr.cell? ⟨b, off + k, none⟩ = some u ∧ TSeg (fun b => b < N) wr u (ks.getD k []) := by
        rcases HC.out with e | ⟨b, off, e, hb, hc⟩
        · rw [e] at hlt; simp at hlt
        · obtain ⟨u, hu, ht⟩ := hc k hlt
          have ag : Agree (fun b => b < N) w wr := agree_below (hbel.mono hN)
          exact ⟨b, off, u, e, (cell_agree ag hb).trans hu, ht.agree ag⟩
      obtain ⟨b, off, u, rfl, hu, a2, c2, rfl, s2, hl2, hm2, k2, _⟩ := hcell
      have hle : (ks.getD k []).length ≤ 1048576 := by
        have := HS.out ks[k] (List.getElem_mem hlt)
        simpa [List.getD_eq_getElem?_getD, hlt] using this
      have hgw : w.heap.size < wr.heap.size := by
        obtain ⟨cur, Bs, h1, _⟩ := hK
        exact (Array.getElem?_eq_some_iff.1 h1).1
      generalize ht : ks.getD k [] = t at hu s2 hl2 hle
      have Ht : Hid (ks.getD k [] = t) := ht
      clear ht
      go_wp2_with fail
      refine (toByteS_any _ _ t _ s2 (by omega)).mono ?_
      rintro e w2 ⟨rfl, hB2, b2⟩
      have hT2 := tOwn_new hB2
      have hcells : ∃ x, w2.cell? ⟨w.heap.size, k, none⟩ = some x := by
        obtain ⟨cur, Bs, h1, h2, _⟩ := hK
        have h1' : w2.heap[w.heap.size]? = some (.cells cur 22 (0, 0)) := (b2.block _ hgw).trans h1
        rw [cell_of_row w2 _ k cur _ (0, 0) h1']
        exact ⟨_, Array.getElem?_eq_getElem (by omega)⟩
      obtain ⟨x, hx⟩ := hcells
      have hfz : w2.frozen? ⟨w.heap.size, k, none⟩ = false := by
        obtain ⟨cur, Bs, h1, h2, _⟩ := hK
        have h1' : w2.heap[w.heap.size]? = some (.cells cur 22 (0, 0)) := (b2.block _ hgw).trans h1
        exact frozen_of_row w2 _ k cur _ h1'
      obtain ⟨hK2, hg2⟩ := kPart_next hK (by omega) hlt b2 (by omega) _ wr.heap.size (by rw [Ht.out]; exact hT2) (Nat.le_refl _)
      have hb2 := Below.on hbel b2
      have hb3 := hb2.grown hg2 hb2.size (by intro j hj; simp at hj; omega)
      clear hK hbel hB2 hT2 b2 hu hg2 hb2
      go_wp2
      go_roundw
      case rel => exact ⟨k + 1, by omega, by go_num, hK2, hb3⟩
      case measure => simp [intOf]; omega
    · have hkn : k = ks.length := by omega
      have hkn' : ¬ (k : Int) < (ks.length : Int) := by omega
      rw [hkn] at hK
      clear hkn
      go_wp2
      go_ret
      obtain ⟨cur, Bs, h1, h2, h3, h4, h5, h6⟩ := hK
      have hgw := (Array.getElem?_eq_some_iff.1 h1).1
      refine ⟨_, rfl, w.heap.size :: Bs.flatten, .inr ⟨w.heap.size, ks.length, cur, Bs, rfl, h1, Nat.le_refl _, by unfold maxLen; omega, h2, h3, h4, rfl, ?_⟩, ?_, hbel⟩
      · rw [List.nodup_cons]
        exact ⟨fun hm => by have := h5 _ hm; omega, h6⟩
      · intro b hb
        rcases List.mem_cons.1 hb with rfl | hb
        · exact ⟨Nat.le_refl _, hgw⟩
        · have := h5 b hb
          omega
end Go.Proofs.YtngjhimieacjhaaGreatDoor
