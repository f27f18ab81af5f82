/-
  Texts that a law leans on, one behind the other; no statement is proved here.
-/
import Derived.Test.YtpknhmegoldppaaPk1
/-
  Values that a call owns, with the blocks in which they lie.
-/
namespace Go.Proofs.Ytpknhmegoldppaa
open Go.RowKit
set_option linter.unusedVariables false

/-- The five cells of a value in an array of cells. -/
def Cells5 (cur : Array Value) (j : Nat) (e : Value × Value × Value × Value × Value) : Prop :=
  cur[j]? = some e.1 ∧ cur[j + 1]? = some e.2.1 ∧ cur[j + 2]? = some e.2.2.1 ∧ cur[j + 3]? = some e.2.2.2.1 ∧ cur[j + 4]? = some e.2.2.2.2

/-- A value of the call's own, in the blocks B. -/
def VOwn (w : World) : (d : Nat) → Value × Value × Value × Value × Value → Vl d → List Nat → Prop
  | 0, _, _, _ => False
  | d + 1, c, v, B => c.1 = .int .i64 v.1 ∧ c.2.1 = .int .i64 v.2.1 ∧ ∃ Bs Bk Bl, TOwn w c.2.2.1 v.2.2.1 Bs ∧ KOwn w c.2.2.2.1 v.2.2.2.1 Bk ∧
      ((c.2.2.2.2 = .slice none 0 0 ∧ v.2.2.2.2 = [] ∧ Bl = []) ∨
        ∃ (g cap : Nat) (cur : Array Value) (Bi : List (List Nat)), c.2.2.2.2 = .slice (some ⟨g, 0, none⟩) v.2.2.2.2.length cap ∧ w.heap[g]? = some (.cells cur 30 (0, 0)) ∧ v.2.2.2.2.length ≤ cap ∧ cap ≤ maxLen ∧ cur.size = cap * 5 ∧ Bi.length = v.2.2.2.2.length ∧
          (∀ i (h : i < v.2.2.2.2.length), ∃ e, Cells5 cur (i * 5) e ∧ VOwn w d e (v.2.2.2.2[i]) (Bi.getD i [])) ∧ Bl = g :: Bi.flatten ∧ Bl.Nodup) ∧
      B = Bs ++ (Bk ++ Bl) ∧ B.Nodup

/-- A list of values of the call's own. -/
def LOwn (w : World) (d : Nat) (x : Value) (l : List (Vl d)) (B : List Nat) : Prop :=
  (x = .slice none 0 0 ∧ l = [] ∧ B = []) ∨
  ∃ (g cap : Nat) (cur : Array Value) (Bi : List (List Nat)), x = .slice (some ⟨g, 0, none⟩) l.length cap ∧ w.heap[g]? = some (.cells cur 30 (0, 0)) ∧ l.length ≤ cap ∧ cap ≤ maxLen ∧ cur.size = cap * 5 ∧ Bi.length = l.length ∧
    (∀ i (h : i < l.length), ∃ e, Cells5 cur (i * 5) e ∧ VOwn w d e (l[i]) (Bi.getD i [])) ∧ B = g :: Bi.flatten ∧ B.Nodup

theorem VOwn_succ (w : World) (d : Nat) (c : Value × Value × Value × Value × Value) (v : Vl (d + 1)) (B : List Nat) :
    VOwn w (d + 1) c v B ↔ c.1 = .int .i64 v.1 ∧ c.2.1 = .int .i64 v.2.1 ∧ ∃ Bs Bk Bl, TOwn w c.2.2.1 v.2.2.1 Bs ∧ KOwn w c.2.2.2.1 v.2.2.2.1 Bk ∧ LOwn w d c.2.2.2.2 v.2.2.2.2 Bl ∧ B = Bs ++ (Bk ++ Bl) ∧ B.Nodup := Iff.rfl

theorem KOwn.lt {w : World} {v : Value} {ks : List (List Int)} {B : List Nat} (h : KOwn w v ks B) : ∀ b ∈ B, b < w.heap.size := by
  intro b hb
  rcases h with ⟨_, _, rfl⟩ | ⟨g, cap, cur, Bs, _, h2, _, _, _, h6, h7, rfl, _⟩
  · simp at hb
  · rcases List.mem_cons.1 hb with rfl | hb
    · exact (Array.getElem?_eq_some_iff.1 h2).1
    · obtain ⟨l, hl, hbl⟩ := List.mem_flatten.1 hb
      obtain ⟨i, hi, rfl⟩ := List.getElem_of_mem hl
      obtain ⟨u, _, ht⟩ := h7 i (by omega)
      exact ht.lt b (by simpa [List.getD_eq_getElem?_getD, hi] using hbl)

theorem VOwn.lt {w : World} (d : Nat) : ∀ {c : Value × Value × Value × Value × Value} {v : Vl d} {B : List Nat}, VOwn w d c v B → ∀ b ∈ B, b < w.heap.size := by
  induction d with
  | zero => intro c v B h; exact h.elim
  | succ d ih =>
    intro c v B h b hb
    obtain ⟨_, _, Bs, Bk, Bl, ht, hk, hl, rfl, _⟩ := h
    rw [List.mem_append, List.mem_append] at hb
    rcases hb with hb | hb | hb
    · exact ht.lt b hb
    · exact hk.lt b hb
    · rcases hl with ⟨_, _, rfl⟩ | ⟨g, cap, cur, Bi, _, h2, _, _, _, h6, h7, rfl, _⟩
      · simp at hb
      · rcases List.mem_cons.1 hb with rfl | hb
        · exact (Array.getElem?_eq_some_iff.1 h2).1
        · obtain ⟨q, hq, hbq⟩ := List.mem_flatten.1 hb
          obtain ⟨i, hi, rfl⟩ := List.getElem_of_mem hq
          obtain ⟨e, _, hv⟩ := h7 i (by omega)
          exact ih hv b (by simpa [List.getD_eq_getElem?_getD, hi] using hbq)

theorem VOwn.agree {w w' : World} (d : Nat) : ∀ {c : Value × Value × Value × Value × Value} {v : Vl d} {B : List Nat}, VOwn w d c v B → Agree (fun b => b ∈ B) w w' → VOwn w' d c v B := by
  induction d with
  | zero => intro c v B h _; exact h.elim
  | succ d ih =>
    intro c v B h ha
    obtain ⟨e0, e1, Bs, Bk, Bl, ht, hk, hl, rfl, hn⟩ := h
    refine ⟨e0, e1, Bs, Bk, Bl, ht.agree fun b hb => ha b (by simp [hb]), hk.agree fun b hb => ha b (by simp [hb]), ?_, rfl, hn⟩
    rcases hl with h0 | ⟨g, cap, cur, Bi, h1, h2, h3, h4, h5, h6, h7, rfl, h9⟩
    · exact .inl h0
    · refine .inr ⟨g, cap, cur, Bi, h1, (ha g (by simp)).trans h2, h3, h4, h5, h6, fun i hi => ?_, rfl, h9⟩
      obtain ⟨e, he, hv⟩ := h7 i hi
      exact ⟨e, he, ih hv fun b hb => ha b (by have := flatten_mem_getD (Bs := Bi) (by omega) hb; simp only [List.mem_append, List.mem_cons]; exact .inr (.inr (.inr this)))⟩

theorem LOwn.agree {w w' : World} {d : Nat} {x : Value} {l : List (Vl d)} {B : List Nat} (h : LOwn w d x l B) (ha : Agree (fun b => b ∈ B) w w') : LOwn w' d x l B := by
  rcases h with h0 | ⟨g, cap, cur, Bi, h1, h2, h3, h4, h5, h6, h7, rfl, h9⟩
  · exact .inl h0
  · refine .inr ⟨g, cap, cur, Bi, h1, (ha g (by simp)).trans h2, h3, h4, h5, h6, fun i hi => ?_, rfl, h9⟩
    obtain ⟨e, he, hv⟩ := h7 i hi
    exact ⟨e, he, VOwn.agree d hv fun b hb => ha b (List.mem_cons_of_mem _ (flatten_mem_getD (by omega) hb))⟩

theorem KSeg.mono {R R' : Nat → Prop} {w : World} {v : Value} {ks : List (List Int)} (h : KSeg R w v ks) (hr : ∀ b, R b → R' b) : KSeg R' w v ks := by
  obtain ⟨a, cap, h1, h2, h3, h4, h5⟩ := h
  refine ⟨a, cap, h1, h2, h3, h4, ?_⟩
  rcases h5 with h0 | ⟨b, off, e, hb, hc⟩
  · exact .inl h0
  · refine .inr ⟨b, off, e, hr b hb, fun i hi => ?_⟩
    obtain ⟨u, hu, ht⟩ := hc i hi
    exact ⟨u, hu, ht.mono hr⟩

theorem VSeg.mono {R R' : Nat → Prop} {w : World} (hr : ∀ b, R b → R' b) (d : Nat) : ∀ {c : Value × Value × Value × Value × Value} {v : Vl d}, VSeg R w d c v → VSeg R' w d c v := by
  induction d with
  | zero => intro c v h; exact h
  | succ d ih =>
    intro c v h
    obtain ⟨h0, h1, h2, h3, a, cap, g1, g2, g3, g4, g5⟩ := h
    refine ⟨h0, h1, h2.mono hr, h3.mono hr, a, cap, g1, g2, g3, g4, ?_⟩
    rcases g5 with e | ⟨b, off, hb, hR, hc⟩
    · exact .inl e
    · refine .inr ⟨b, off, hb, hr b hR, fun i hi => ?_⟩
      obtain ⟨e, he, hv⟩ := hc i hi
      exact ⟨e, he, ih hv⟩

theorem Cells5.five {w : World} {g : Nat} {cur : Array Value} (h : w.heap[g]? = some (.cells cur 30 (0, 0))) {j : Nat} {e : Value × Value × Value × Value × Value} (he : Cells5 cur j e) : Five w g j e := by
  obtain ⟨h0, h1, h2, h3, h4⟩ := he
  refine ⟨?_, ?_, ?_, ?_, ?_⟩ <;> rw [cell_of_row w g _ cur _ (0, 0) h] <;> assumption

theorem VOwn.seg {w : World} (d : Nat) : ∀ {c : Value × Value × Value × Value × Value} {v : Vl d} {B : List Nat}, VOwn w d c v B → VSeg (fun b => b ∈ B) w d c v := by
  induction d with
  | zero => intro c v B h; exact h
  | succ d ih =>
    intro c v B h
    obtain ⟨e0, e1, Bs, Bk, Bl, ht, hk, hl, rfl, _⟩ := h
    refine ⟨e0, e1, ht.seg.mono fun b hb => by simp [hb], hk.seg.mono fun b hb => by simp [hb], ?_⟩
    rcases hl with ⟨h1, h2, rfl⟩ | ⟨g, cap, cur, Bi, h1, h2, h3, h4, h5, h6, h7, rfl, h9⟩
    · exact ⟨none, 0, by rw [h1, h2]; rfl, by rw [h2]; exact Nat.le_refl _, Nat.zero_le _, fun _ => rfl, .inl h2⟩
    · refine ⟨some ⟨g, 0, none⟩, cap, h1, h3, h4, by simp, .inr ⟨g, 0, rfl, by simp, fun i hi => ?_⟩⟩
      obtain ⟨e, he, hv⟩ := h7 i hi
      refine ⟨e, by rw [Nat.zero_add]; exact he.five h2, VSeg.mono (fun b hb => ?_) d (ih hv)⟩
      have := flatten_mem_getD (Bs := Bi) (by omega) hb
      simp only [List.mem_append, List.mem_cons]
      exact .inr (.inr (.inr this))

end Go.Proofs.Ytpknhmegoldppaa
/-
  toValueS and toValue of the laws: they make a value of their own that holds what their argument holds, at every depth.
-/
namespace Go.Proofs.Ytpknhmegoldppaa
open Go.RowKit
set_option linter.unusedVariables false

theorem infoV : (Try.prog.info? 30).map (fun i => (i.zero, i.size, i.bytes)) = some (some (.agg #[.int .i64 0, .int .i64 0, .slice none 0 0, .slice none 0 0, .slice none 0 0]), 5, 88) := by kernel_rfl

/-- After k rounds of toValueS. -/
def LPart (w : World) (g n d : Nat) (l : List (Vl d)) (k : Nat) (N : Nat) : Prop :=
  ∃ (cur : Array Value) (Bi : List (List Nat)), w.heap[g]? = some (.cells cur 30 (0, 0)) ∧ cur.size = n * 5 ∧ Bi.length = k ∧
    (∀ i (h : i < l.length), i < k → ∃ e, Cells5 cur (i * 5) e ∧ VOwn w d e l[i] (Bi.getD i [])) ∧ (∀ b ∈ Bi.flatten, N ≤ b ∧ b < w.heap.size) ∧ Bi.flatten.Nodup

/-- The contract of toValue at depth d. -/
def ToAt (d : Nat) : Prop := ∀ (N : Nat) (c : Value × Value × Value × Value × Value) (v : Vl d) (w : World), VSeg (fun b => b < N) w d c v → N ≤ w.heap.size → szV d v ≤ 1048576 →
  Calls Try.prog 8 #[.agg #[c.1, c.2.1, c.2.2.1, c.2.2.2.1, c.2.2.2.2]] w fun e w' => ∃ c0 c1 c2 c3 c4, e = .returned (.agg #[c0, c1, c2, c3, c4]) ∧ ∃ B, VOwn w' d (c0, c1, c2, c3, c4) v B ∧ (∀ b ∈ B, w.heap.size ≤ b ∧ b < w'.heap.size) ∧ Below w.heap.size w w'

theorem sz_elem {d : Nat} {l : List (Vl d)} {i : Nat} (hi : i < l.length) : szV d l[i] ≤ szL d l := by
  have h1 := pre_succ (szV d) l i hi
  have h2 := pre_le (szV d) l (i + 1)
  unfold szL
  omega

/-- Five cells stored one behind the other. -/
def set5 (w : World) (g j : Nat) (c0 c1 c2 c3 c4 : Value) : World :=
  ((((w.setCell ⟨g, j, none⟩ c0).setCell ⟨g, j + 1, none⟩ c1).setCell ⟨g, j + 2, none⟩ c2).setCell ⟨g, j + 3, none⟩ c3).setCell ⟨g, j + 4, none⟩ c4

/-- The array behind it. -/
def arrSet5 (cur : Array Value) (j : Nat) (c0 c1 c2 c3 c4 : Value) : Array Value :=
  ((((cur.setIfInBounds j c0).setIfInBounds (j + 1) c1).setIfInBounds (j + 2) c2).setIfInBounds (j + 3) c3).setIfInBounds (j + 4) c4

theorem set5_heap {w : World} {g j : Nat} {cur : Array Value} {T : TypeId} (c0 c1 c2 c3 c4 : Value) (h : w.heap[g]? = some (.cells cur T (0, 0))) :
    (set5 w g j c0 c1 c2 c3 c4).heap[g]? = some (.cells (arrSet5 cur j c0 c1 c2 c3 c4) T (0, 0)) :=
  heap_setCell_same _ g (j + 4) _ T c4 (heap_setCell_same _ g (j + 3) _ T c3 (heap_setCell_same _ g (j + 2) _ T c2 (heap_setCell_same _ g (j + 1) _ T c1 (heap_setCell_same w g j cur T c0 h))))

theorem set5_other (w : World) (g j : Nat) (c0 c1 c2 c3 c4 : Value) (b : Nat) (hb : b ≠ g) : (set5 w g j c0 c1 c2 c3 c4).heap[b]? = w.heap[b]? := by
  unfold set5
  rw [Below.heap_setCell _ _ _ b hb, Below.heap_setCell _ _ _ b hb, Below.heap_setCell _ _ _ b hb, Below.heap_setCell _ _ _ b hb, Below.heap_setCell _ _ _ b hb]

theorem set5_size (w : World) (g j : Nat) (c0 c1 c2 c3 c4 : Value) : (set5 w g j c0 c1 c2 c3 c4).heap.size = w.heap.size := by simp [set5, World.setCell]

theorem set5_grown (w : World) (g j : Nat) (c0 c1 c2 c3 c4 : Value) : w.grownBy (set5 w g j c0 c1 c2 c3 c4) (some g) :=
  grownBy_trans (grownBy_trans (grownBy_trans (grownBy_trans (grown1 _ _ _ _) (grown1 _ _ _ _)) (grown1 _ _ _ _)) (grown1 _ _ _ _)) (grown1 _ _ _ _)

theorem arrSet5_size (cur : Array Value) (j : Nat) (c0 c1 c2 c3 c4 : Value) : (arrSet5 cur j c0 c1 c2 c3 c4).size = cur.size := by simp [arrSet5]

theorem arrSet5_at (cur : Array Value) (j : Nat) (c0 c1 c2 c3 c4 : Value) (h : j + 4 < cur.size) : Cells5 (arrSet5 cur j c0 c1 c2 c3 c4) j (c0, c1, c2, c3, c4) := by
  unfold arrSet5 Cells5
  refine ⟨?_, ?_, ?_, ?_, ?_⟩ <;> simp [Array.getElem?_setIfInBounds] <;> omega

theorem arrSet5_ne (cur : Array Value) (j i : Nat) (c0 c1 c2 c3 c4 : Value) (h : i < j ∨ j + 4 < i) : (arrSet5 cur j c0 c1 c2 c3 c4)[i]? = cur[i]? := by
  unfold arrSet5
  rw [Array.getElem?_setIfInBounds_ne (by omega), Array.getElem?_setIfInBounds_ne (by omega), Array.getElem?_setIfInBounds_ne (by omega), Array.getElem?_setIfInBounds_ne (by omega), Array.getElem?_setIfInBounds_ne (by omega)]

theorem lPart_next {w w1 : World} {g n d : Nat} {l : List (Vl d)} {k N : Nat} (h : LPart w g n d l k N) (hgN : g < N) (hk : k < l.length) (hkn : k < n) (b1 : Below w.heap.size w w1) (hN : N ≤ w.heap.size) (c0 c1 c2 c3 c4 : Value) (B : List Nat) (hu : VOwn w1 d (c0, c1, c2, c3, c4) l[k] B) (hB : ∀ b ∈ B, w.heap.size ≤ b ∧ b < w1.heap.size) (hBn : B.Nodup) :
    LPart (set5 w1 g (k * 5) c0 c1 c2 c3 c4) g n d l (k + 1) N := by
  obtain ⟨cur, Bi, h1, h2, h3, h4, h5, h6⟩ := h
  have hgw : g < w.heap.size := (Array.getElem?_eq_some_iff.1 h1).1
  have h1' : w1.heap[g]? = some (.cells cur 30 (0, 0)) := (b1.block g hgw).trans h1
  refine ⟨arrSet5 cur (k * 5) c0 c1 c2 c3 c4, Bi ++ [B], set5_heap c0 c1 c2 c3 c4 h1', by rw [arrSet5_size]; exact h2, by simp [h3], fun i hi hik => ?_, ?_, ?_⟩
  · by_cases he : i = k
    · subst he
      have e : (Bi ++ [B]).getD i [] = B := by simp [List.getD_eq_getElem?_getD, ← h3]
      rw [e]
      exact ⟨_, arrSet5_at cur (i * 5) c0 c1 c2 c3 c4 (by omega), VOwn.agree d hu fun b hb => set5_other w1 g _ _ _ _ _ _ b (by have := hB b hb; omega)⟩
    · have hi' : i < k := by omega
      obtain ⟨e5, hc5, hv⟩ := h4 i hi hi'
      have e : (Bi ++ [B]).getD i [] = Bi.getD i [] := by
        simp only [List.getD_eq_getElem?_getD]
        rw [List.getElem?_append_left (by omega)]
      rw [e]
      refine ⟨e5, ?_, VOwn.agree d (VOwn.agree d hv fun b hb => b1.block b (VOwn.lt d hv b hb)) fun b hb => set5_other w1 g _ _ _ _ _ _ b ?_⟩
      · obtain ⟨q0, q1, q2, q3, q4⟩ := hc5
        refine ⟨?_, ?_, ?_, ?_, ?_⟩ <;> rw [arrSet5_ne _ _ _ _ _ _ _ _ (by omega)] <;> assumption
      · have := h5 b (flatten_mem_getD (by omega) hb)
        omega
  · intro b hb
    rw [List.flatten_append, List.mem_append] at hb
    rw [set5_size]
    rcases hb with hb | hb
    · have := h5 b hb
      have := b1.size
      omega
    · have hb' : b ∈ B := by simpa using hb
      have := hB b hb'
      omega
  · rw [List.flatten_append, List.nodup_append]
    refine ⟨h6, by simpa using hBn, fun b hb c hc => ?_⟩
    have hc' : c ∈ B := by simpa using hc
    have := h5 b hb
    have := hB c hc'
    omega

theorem VOwn.nodup {w : World} (d : Nat) {c : Value × Value × Value × Value × Value} {v : Vl d} {B : List Nat} (h : VOwn w d c v B) : B.Nodup := by
  cases d with
  | zero => exact h.elim
  | succ d =>
    obtain ⟨_, _, _, _, _, _, _, _, _, hn⟩ := h
    exact hn

/-- Of what shape the cells of a value are. -/
theorem VOwn.form {w : World} (d : Nat) {c0 c1 c2 c3 c4 : Value} {v : Vl d} {B : List Nat} (h : VOwn w d (c0, c1, c2, c3, c4) v B) :
    ∃ (k n : Int) (a2 : Option Addr) (l2 p2 : Nat) (a3 : Option Addr) (l3 p3 : Nat) (a4 : Option Addr) (l4 p4 : Nat), c0 = .int .i64 k ∧ c1 = .int .i64 n ∧ c2 = .slice a2 l2 p2 ∧ c3 = .slice a3 l3 p3 ∧ c4 = .slice a4 l4 p4 := by
  cases d with
  | zero => exact h.elim
  | succ d =>
    obtain ⟨e0, e1, Bs, Bk, Bl, ht, hk, hl, _, _⟩ := h
    obtain ⟨a2, p2, e2, _⟩ := ht.1.shape
    have e3 : ∃ (a3 : Option Addr) (l3 p3 : Nat), c3 = .slice a3 l3 p3 := by
      rcases hk with ⟨h1, _⟩ | ⟨g, cap, cur, Bs, h1, _⟩
      · exact ⟨_, _, _, h1⟩
      · exact ⟨_, _, _, h1⟩
    have e4 : ∃ (a4 : Option Addr) (l4 p4 : Nat), c4 = .slice a4 l4 p4 := by
      rcases hl with ⟨h1, _⟩ | ⟨g, cap, cur, Bs, h1, _⟩
      · exact ⟨_, _, _, h1⟩
      · exact ⟨_, _, _, h1⟩
    obtain ⟨a3, l3, p3, e3⟩ := e3
    obtain ⟨a4, l4, p4, e4⟩ := e4
    exact ⟨_, _, _, _, _, _, _, _, _, _, _, e0, e1, e2, e3, e4⟩

set_option maxHeartbeats 1600000 in
theorem toValueS_of (d : Nat) (ih : ToAt d) (N : Nat) (x : Value) (l : List (Vl d)) (w : World) (hx : LSeg (fun b => b < N) w d x l) (hN : N ≤ w.heap.size) (hz : szL d l ≤ 1048576) :
    Calls Try.prog 31 #[x] w fun e w' => ∃ u, e = .returned u ∧ ∃ B, LOwn w' d u l B ∧ (∀ b ∈ B, w.heap.size ≤ b ∧ b < w'.heap.size) ∧ Below w.heap.size w w' := by
  obtain ⟨a, cap, rfl, hlc, hcm, ka, hc⟩ := hx
  unfold maxLen at hcm
  obtain ⟨i0, hi, hz0, hz1, hz2⟩ := info_parts infoV
  have hn : l.length ≤ 1048576 := by unfold szL at hz; omega
  have HC : Hid (l = [] ∨ ∃ b off, a = some ⟨b, off, none⟩ ∧ b < N ∧ ∀ i (h : i < l.length), ∃ e, Five w b (off + i * 5) e ∧ VSeg (fun b => b < N) w d e (l[i])) := hc
  have HI : Hid (ToAt d) := ih
  have HZ : Hid (szL d l ≤ 1048576) := hz
  clear hc ih hz
  go_enter Try.func31, Try.ntmps31
  go_wp2_with (refine wpList_make_full _ rfl _ _ 28 rfl w.heap.size 30 i0 (.agg #[.int .i64 0, .int .i64 0, .slice none 0 0, .slice none 0 0, .slice none 0 0]) 5 Try.underlying28 hi hz0 hz1 .i64 .i64 _ _ l.length rfl rfl rfl rfl (by rw [hz2]; omega) (by unfold maxLen; omega) (Nat.le_refl _) ?_; intro w1 hown hgrow)
  have hK0 : LPart w1 w.heap.size l.length d l 0 (w.heap.size + 1) := by
    rcases hown.2 with ⟨h1, _⟩ | ⟨g, cp, cur, h1, _, h3, _, _, h6, _⟩
    · simp at h1
    · simp only [Value.slice.injEq, Option.some.injEq, Addr.mk.injEq, and_true, true_and] at h1
      obtain ⟨e1, e2⟩ := h1
      subst e1
      exact ⟨cur, [], h3, by omega, rfl, by intro i _ h; omega, by simp, by simp⟩
  have hb1 : Below w.heap.size w w1 := (Below.refl _ _).grown hgrow (Nat.le_refl _) (by simp)
  clear hown hgrow
  go_loopw [4] (fun i wr => ∃ k : Nat, k ≤ l.length ∧ i = .int .i64 k ∧ LPart wr w.heap.size l.length d l k (w.heap.size + 1) ∧ Below w.heap.size w wr) (fun i _ => l.length - (intOf i).toNat)
  case atStart => exact ⟨0, Nat.zero_le _, rfl, hK0, hb1⟩
  case round =>
    obtain ⟨k, hk, rfl, hK, hbel⟩ := hrel
    clear hK0 hb1
    by_cases hlt : k < l.length
    · have hlt' : (k : Int) < (l.length : Int) := by omega
      have hcell : ∃ b off e, a = some ⟨b, off, none⟩ ∧ Five wr b (off + k * 5) e ∧ VSeg (fun b => b < N) wr d e (l[k]) := by
        rcases HC.out with e | ⟨b, off, e, hb, hc⟩
        · rw [e] at hlt; simp at hlt
        · obtain ⟨c, h5, hv⟩ := hc k hlt
          have ag : Agree (fun b => b < N) w wr := agree_below (hbel.mono hN)
          exact ⟨b, off, c, e, h5.agree ag hb, VSeg.agree ag d hv⟩
      obtain ⟨b, off, c, rfl, h5, hv⟩ := hcell
      obtain ⟨e0, e1, e2, e3, e4⟩ := c
      obtain ⟨q0, q1, q2, q3, q4⟩ := h5
      simp only at q0 q1 q2 q3 q4
      have HV : Hid (VSeg (fun b => b < N) wr d (e0, e1, e2, e3, e4) l[k]) := hv
      clear hv
      have hzk : Hid (szV d l[k] ≤ 1048576) := Nat.le_trans (sz_elem hlt) HZ.out
      have hgw : w.heap.size < wr.heap.size := by
        obtain ⟨cur, Bs, h1, _⟩ := hK
        exact (Array.getElem?_eq_some_iff.1 h1).1
      go_wp2_with fail
      refine (HI.out N (e0, e1, e2, e3, e4) l[k] wr HV.out (by omega) hzk.out).mono ?_
      rintro e w2 ⟨c0, c1, c2, c3, c4, rfl, B, hB2, hBb, b2⟩
      clear q0 q1 q2 q3 q4 HV
      obtain ⟨ck, cn, s2, l2, p2, s3, l3, p3, s4, l4, p4, rfl, rfl, rfl, rfl, rfl⟩ := VOwn.form d hB2
      have hcells : ∃ cur : Array Value, w2.heap[w.heap.size]? = some (.cells cur 30 (0, 0)) ∧ cur.size = l.length * 5 := by
        obtain ⟨cur, Bs, h1, h2, _⟩ := hK
        exact ⟨cur, (b2.block _ hgw).trans h1, h2⟩
      obtain ⟨cur, hcur, hcs⟩ := hcells
      have hx : ∀ j, j < l.length * 5 → ∃ x, w2.cell? ⟨w.heap.size, j, none⟩ = some x := by
        intro j hj
        rw [cell_of_row w2 _ j cur _ (0, 0) hcur]
        exact ⟨_, Array.getElem?_eq_getElem (by omega)⟩
      have hf : ∀ j, w2.frozen? ⟨w.heap.size, j, none⟩ = false := fun j => frozen_of_row w2 _ j cur _ hcur
      obtain ⟨x0, hx0⟩ := hx (k * 5) (by omega)
      obtain ⟨x1, hx1⟩ := hx (k * 5 + 1) (by omega)
      obtain ⟨x2, hx2⟩ := hx (k * 5 + 2) (by omega)
      obtain ⟨x3, hx3⟩ := hx (k * 5 + 3) (by omega)
      obtain ⟨x4, hx4⟩ := hx (k * 5 + 4) (by omega)
      have f0 := hf (k * 5)
      have f1 := hf (k * 5 + 1)
      have f2 := hf (k * 5 + 2)
      have f3 := hf (k * 5 + 3)
      have f4 := hf (k * 5 + 4)
      have hL := lPart_next hK (by omega) hlt hlt b2 (by omega) _ _ _ _ _ B hB2 hBb (VOwn.nodup d hB2)
      have hb2 := Below.on hbel b2
      have hb3 := hb2.grown (set5_grown w2 w.heap.size (k * 5) (.int .i64 ck) (.int .i64 cn) (.slice s2 l2 p2) (.slice s3 l3 p3) (.slice s4 l4 p4)) hb2.size (by intro j hj; simp at hj; omega)
      have HL : Hid (LPart (set5 w2 w.heap.size (k * 5) (.int .i64 ck) (.int .i64 cn) (.slice s2 l2 p2) (.slice s3 l3 p3) (.slice s4 l4 p4)) w.heap.size l.length d l (k + 1) (w.heap.size + 1)) := hL
      have HB : Hid (Below w.heap.size w (set5 w2 w.heap.size (k * 5) (.int .i64 ck) (.int .i64 cn) (.slice s2 l2 p2) (.slice s3 l3 p3) (.slice s4 l4 p4))) := hb3
      clear hx hf hcur hL hb2 hb3 hK hB2
      go_wp2
      go_roundw
      case rel => exact ⟨k + 1, by omega, by go_num, HL.out, HB.out⟩
      case measure => simp [intOf]; omega
    · have hkn : k = l.length := by omega
      have hkn' : ¬ (k : Int) < (l.length : Int) := by omega
      rw [hkn] at hK
      clear hkn
      go_wp2
      go_ret
      obtain ⟨cur, Bi, h1, h2, h3, h4, h5, h6⟩ := hK
      have hgw := (Array.getElem?_eq_some_iff.1 h1).1
      refine ⟨_, rfl, w.heap.size :: Bi.flatten, .inr ⟨w.heap.size, l.length, cur, Bi, rfl, h1, Nat.le_refl _, by unfold maxLen; omega, h2, h3, fun i h => h4 i h h, rfl, ?_⟩, ?_, hbel⟩
      · rw [List.nodup_cons]
        exact ⟨fun hm => by have := h5 _ hm; omega, h6⟩
      · intro b hb
        rcases List.mem_cons.1 hb with rfl | hb
        · exact ⟨Nat.le_refl _, hgw⟩
        · have := h5 b hb
          omega

/-- The cells of a block of five that is known. -/
theorem row5 {w : World} {g : Nat} {T : TypeId} {c0 c1 c2 c3 c4 : Value} (h : w.heap[g]? = some (.cells #[c0, c1, c2, c3, c4] T (0, 0))) :
    w.cell? ⟨g, 0, none⟩ = some c0 ∧ w.cell? ⟨g, 1, none⟩ = some c1 ∧ w.cell? ⟨g, 2, none⟩ = some c2 ∧ w.cell? ⟨g, 3, none⟩ = some c3 ∧ w.cell? ⟨g, 4, none⟩ = some c4 ∧ ∀ j, w.frozen? ⟨g, j, none⟩ = false := by
  refine ⟨?_, ?_, ?_, ?_, ?_, fun j => frozen_of_row w g j _ T h⟩ <;> rw [cell_of_row w g _ _ T (0, 0) h] <;> rfl

/-- What toValue's three blocks hold while it goes. -/
def St (w : World) (X : Array Value) (vk vn : Int) (wx : World) (cS cK cL : Value) : Prop :=
  Below w.heap.size w wx ∧ wx.heap[w.heap.size]? = some (.cells X 26 (0, 0)) ∧ wx.heap[w.heap.size + 1]? = some (.cells #[.int .i64 0, .int .i64 0, .slice none 0 0, .slice none 0 0, .slice none 0 0] 30 (0, 0)) ∧
    wx.heap[w.heap.size + 1 + 1]? = some (.cells #[.int .i64 vk, .int .i64 vn, cS, cK, cL] 30 (0, 0)) ∧ w.heap.size + 3 ≤ wx.heap.size

theorem st_below {w : World} {X : Array Value} {vk vn : Int} {wx wy : World} {cS cK cL : Value} (h : St w X vk vn wx cS cK cL) (hb : Below wx.heap.size wx wy) : St w X vk vn wy cS cK cL := by
  obtain ⟨h0, h1, h2, h3, h4⟩ := h
  have := hb.size
  exact ⟨Below.on h0 hb, (hb.block _ (by omega)).trans h1, (hb.block _ (by omega)).trans h2, (hb.block _ (by omega)).trans h3, by omega⟩

theorem st_set {w : World} {X : Array Value} {vk vn : Int} {wx : World} {cS cK cL : Value} (h : St w X vk vn wx cS cK cL) (j : Nat) (u dS dK dL : Value) (hj : (#[.int .i64 vk, .int .i64 vn, cS, cK, cL] : Array Value).setIfInBounds j u = #[.int .i64 vk, .int .i64 vn, dS, dK, dL]) : St w X vk vn (wx.setCell ⟨w.heap.size + 1 + 1, j, none⟩ u) dS dK dL := by
  obtain ⟨h0, h1, h2, h3, h4⟩ := h
  refine ⟨h0.setCell (p := ⟨w.heap.size + 1 + 1, j, none⟩) (by show w.heap.size ≤ w.heap.size + 1 + 1; omega) u, (Below.heap_setCell wx _ u _ (by show w.heap.size ≠ w.heap.size + 1 + 1; omega)).trans h1, (Below.heap_setCell wx _ u _ (by show w.heap.size + 1 ≠ w.heap.size + 1 + 1; omega)).trans h2, ?_, by simp [World.setCell]; omega⟩
  rw [← hj]
  exact heap_setCell_same wx _ j _ _ u h3

theorem st_start (w : World) (X : Array Value) (vk vn : Int) (Z Y : Array Value) (hZ : Z = #[.int .i64 0, .int .i64 0, .slice none 0 0, .slice none 0 0, .slice none 0 0]) (hY : Y = #[.int .i64 vk, .int .i64 vn, .slice none 0 0, .slice none 0 0, .slice none 0 0]) :
    St w X vk vn (((w.alloc (.cells X 26)).alloc (.cells Z 30)).alloc (.cells Y 30)) (.slice none 0 0) (.slice none 0 0) (.slice none 0 0) := by
  subst hZ
  subst hY
  have z1 : (w.alloc (.cells X 26)).heap.size = w.heap.size + 1 := by simp
  have z2 : ((w.alloc (.cells X 26)).alloc (.cells #[.int .i64 0, .int .i64 0, .slice none 0 0, .slice none 0 0, .slice none 0 0] 30)).heap.size = w.heap.size + 1 + 1 := by simp
  refine ⟨(((Below.refl _ _).alloc (Nat.le_refl _) _).alloc (by simp) _).alloc (by simp; omega) _, ?_, ?_, ?_, by simp⟩
  · rw [Below.heap_alloc _ _ _ (by rw [z2]; omega), Below.heap_alloc _ _ _ (by rw [z1]; omega)]
    exact heap_alloc_new w _
  · rw [Below.heap_alloc _ _ _ (by rw [z2]; omega), ← z1]
    exact heap_alloc_new _ _
  · rw [← z2]
    exact heap_alloc_new _ _

end Go.Proofs.Ytpknhmegoldppaa
/-
  toValue of the laws at every depth.
-/
namespace Go.Proofs.Ytpknhmegoldppaa
open Go.RowKit
set_option linter.unusedVariables false

theorem KOwn.nodup {w : World} {v : Value} {ks : List (List Int)} {B : List Nat} (h : KOwn w v ks B) : B.Nodup := by
  rcases h with ⟨_, _, rfl⟩ | ⟨_, _, _, _, _, _, _, _, _, _, _, _, hn⟩
  · simp
  · exact hn
theorem LOwn.nodup {w : World} {d : Nat} {x : Value} {l : List (Vl d)} {B : List Nat} (h : LOwn w d x l B) : B.Nodup := by
  rcases h with ⟨_, _, rfl⟩ | ⟨_, _, _, _, _, _, _, _, _, _, _, _, hn⟩
  · simp
  · exact hn

set_option maxHeartbeats 3200000 in
theorem toValue_succ (d : Nat) (ih : ToAt d) : ToAt (d + 1) := by
  intro N c v w hv hN hz
  obtain ⟨c0, c1, c2, c3, c4⟩ := c
  obtain ⟨vk, vn, vs, vK, vL⟩ := v
  obtain ⟨e0, e1, ht, hk, hl⟩ := (VSeg_succ _ _ _ _ _).1 hv
  simp only at e0 e1 ht hk hl
  subst e0
  subst e1
  have hsz : szV (d + 1) (vk, vn, vs, vK, vL) = vs.length + szK vK + szL d vL := rfl
  have hzs : vs.length ≤ 1048576 := by omega
  have hzK : szK vK ≤ 1048576 := by omega
  have hzL : szL d vL ≤ 1048576 := by omega
  have hKn : vK.length ≤ 1048576 := by unfold szK at hzK; omega
  have hKe : ∀ t ∈ vK, t.length ≤ 1048576 := by
    intro t ht
    obtain ⟨i, hi, rfl⟩ := List.getElem_of_mem ht
    have h1 := pre_succ List.length vK i hi
    have h2 := pre_le List.length vK (i + 1)
    unfold szK at hzK
    omega
  clear hsz hv hz
  simp only
  have HK : Hid (∀ t ∈ vK, t.length ≤ 1048576) := hKe
  have HI : Hid (ToAt d) := ih
  clear hKe ih
  have hagree : ∀ w' : World, Below w.heap.size w w' → Agree (fun b => b < N) w w' := fun w' h => agree_below (h.mono hN)
  have Hk : Hid (∀ w' : World, Below w.heap.size w w' → KSeg (fun b => b < N) w' c3 vK) := fun w' h => hk.agree (hagree w' h)
  have Hl : Hid (∀ w' : World, Below w.heap.size w w' → LSeg (fun b => b < N) w' d c4 vL) := fun w' h => hl.agree (hagree w' h)
  have Ht : Hid (∀ w' : World, Below w.heap.size w w' → TSeg (fun b => b < N) w' c2 vs) := fun w' h => ht.agree (hagree w' h)
  obtain ⟨a3, cp3, rfl, _, _, _, _⟩ := hk
  obtain ⟨a4, cp4, rfl, _, _, _, _⟩ := hl
  obtain ⟨a2, cp2, rfl, s2, hl2, hm2, _, _⟩ := ht
  clear hagree s2
  have hst0 := st_start w #[.int .i64 vk, .int .i64 vn, .slice a2 vs.length cp2, .slice a3 vK.length cp3, .slice a4 vL.length cp4] vk vn _ _ rfl rfl
  have Hst0 := hst0
  have H0 : Hid (St w #[.int .i64 vk, .int .i64 vn, .slice a2 vs.length cp2, .slice a3 vK.length cp3, .slice a4 vL.length cp4] vk vn (((w.alloc (.cells #[.int .i64 vk, .int .i64 vn, .slice a2 vs.length cp2, .slice a3 vK.length cp3, .slice a4 vL.length cp4] 26)).alloc (.cells #[.int .i64 0, .int .i64 0, .slice none 0 0, .slice none 0 0, .slice none 0 0] 30)).alloc (.cells #[.int .i64 vk, .int .i64 vn, .slice none 0 0, .slice none 0 0, .slice none 0 0] 30)) (.slice none 0 0) (.slice none 0 0) (.slice none 0 0)) := hst0
  clear hst0 Hst0
  go_enter Try.func8, Try.ntmps8
  go_wp2_with fail
  obtain ⟨a2', cp2', e2, sT, _⟩ := Ht.out _ H0.out.1
  simp only [Value.slice.injEq, true_and] at e2
  obtain ⟨rfl, rfl⟩ := e2
  refine (toByteS_any _ _ vs _ sT (by omega)).mono ?_
  rintro e w1 ⟨rfl, hB1, b1⟩
  have hst1 := st_below H0.out b1
  have hgS : w.heap.size + 3 ≤ (((w.alloc (.cells #[.int .i64 vk, .int .i64 vn, .slice a2 vs.length cp2, .slice a3 vK.length cp3, .slice a4 vL.length cp4] 26)).alloc (.cells #[.int .i64 0, .int .i64 0, .slice none 0 0, .slice none 0 0, .slice none 0 0] 30)).alloc (.cells #[.int .i64 vk, .int .i64 vn, .slice none 0 0, .slice none 0 0, .slice none 0 0] 30)).heap.size := by simp
  have hT1 := tOwn_new hB1
  generalize (((w.alloc (.cells #[.int .i64 vk, .int .i64 vn, .slice a2 vs.length cp2, .slice a3 vK.length cp3, .slice a4 vL.length cp4] 26)).alloc (.cells #[.int .i64 0, .int .i64 0, .slice none 0 0, .slice none 0 0, .slice none 0 0] 30)).alloc (.cells #[.int .i64 vk, .int .i64 vn, .slice none 0 0, .slice none 0 0, .slice none 0 0] 30)).heap.size = gS at *
  have z1 := hst1.2.2.2.2
  have hltS := hT1.lt gS (by simp)
  clear b1 hB1 sT H0
  -- the text is stored
  have hs1 := st_set hst1 2 (.slice (some ⟨gS, 0, none⟩) vs.length vs.length) (.slice (some ⟨gS, 0, none⟩) vs.length vs.length) (.slice none 0 0) (.slice none 0 0) rfl
  have hg1 := grown1 w1 (w.heap.size + 1 + 1) 2 (.slice (some ⟨gS, 0, none⟩) vs.length vs.length)
  have hT1' : TOwn (w1.setCell ⟨w.heap.size + 1 + 1, 2, none⟩ (.slice (some ⟨gS, 0, none⟩) vs.length vs.length)) (.slice (some ⟨gS, 0, none⟩) vs.length vs.length) vs [gS] := hT1.agree fun b hb => hg1.block b (hT1.lt b hb) (by simp at hb ⊢; omega)
  obtain ⟨p0, p1, p2, p3, p4, pf⟩ := row5 hst1.2.2.2.1
  obtain ⟨q0, q1, q2, q3, q4, qf⟩ := row5 hst1.2.1
  have pf2 := pf 2
  have hsz1 : (w1.setCell ⟨w.heap.size + 1 + 1, 2, none⟩ (.slice (some ⟨gS, 0, none⟩) vs.length vs.length)).heap.size = w1.heap.size := by simp [World.setCell]
  have HKc := toByteSS_any N _ vK _ (Hk.out _ hs1.1) (by rw [hsz1]; omega) hKn HK.out
  have HKc' := hide' HKc
  have Hs1 := hide' hs1
  have HT1 := hide' hT1'
  clear hs1 hT1' HKc pf qf hg1 hT1 hst1
  go_wp2_with fail
  refine HKc'.out.mono ?_
  rintro e w2 ⟨uK, rfl, BK, hK2, hBK, b2⟩
  have hst2 := st_below Hs1.out b2
  have hTS2 : TOwn w2 (.slice (some ⟨gS, 0, none⟩) vs.length vs.length) vs [gS] := HT1.out.agree fun b hb => b2.block b (HT1.out.lt b hb)
  have hKform : ∃ (a : Option Addr) (n p : Nat), uK = .slice a n p := by
    rcases hK2 with ⟨h1, _⟩ | ⟨g, cap, cur, Bs, h1, _⟩
    · exact ⟨_, _, _, h1⟩
    · exact ⟨_, _, _, h1⟩
  obtain ⟨aK, nK, pK, rfl⟩ := hKform
  rw [hsz1] at hBK
  clear HKc' Hs1 HT1 b2 p0 p1 p2 p3 p4 q0 q1 q2 q3 q4 pf2
  -- the list of texts is stored
  have hs2 := st_set hst2 3 (.slice aK nK pK) (.slice (some ⟨gS, 0, none⟩) vs.length vs.length) (.slice aK nK pK) (.slice none 0 0) rfl
  have hg2 := grown1 w2 (w.heap.size + 1 + 1) 3 (.slice aK nK pK)
  have hTS2' : TOwn (w2.setCell ⟨w.heap.size + 1 + 1, 3, none⟩ (.slice aK nK pK)) (.slice (some ⟨gS, 0, none⟩) vs.length vs.length) vs [gS] := hTS2.agree fun b hb => hg2.block b (hTS2.lt b hb) (by simp at hb ⊢; omega)
  have hK2' : KOwn (w2.setCell ⟨w.heap.size + 1 + 1, 3, none⟩ (.slice aK nK pK)) (.slice aK nK pK) vK BK := hK2.agree fun b hb => hg2.block b (hK2.lt b hb) (by have := hBK b hb; simp; omega)
  obtain ⟨p0, p1, p2, p3, p4, pf⟩ := row5 hst2.2.2.2.1
  obtain ⟨q0, q1, q2, q3, q4, qf⟩ := row5 hst2.2.1
  have pf3 := pf 3
  have z2 := hst2.2.2.2.2
  have hsz2 : (w2.setCell ⟨w.heap.size + 1 + 1, 3, none⟩ (.slice aK nK pK)).heap.size = w2.heap.size := by simp [World.setCell]
  have HLc := toValueS_of d HI.out N _ vL _ (Hl.out _ hs2.1) (by rw [hsz2]; omega) hzL
  have HLc' := hide' HLc
  have Hs2 := hide' hs2
  have HT2 := hide' hTS2'
  have HK2 := hide' hK2'
  have hltS2 := hTS2.lt gS (by simp)
  clear hs2 hTS2' hK2' HLc pf qf hg2 hTS2 hK2 hst2
  go_wp2_with fail
  refine HLc'.out.mono ?_
  rintro e w3 ⟨uL, rfl, BL, hL3, hBL, b3⟩
  have hst3 := st_below Hs2.out b3
  have hTS3 : TOwn w3 (.slice (some ⟨gS, 0, none⟩) vs.length vs.length) vs [gS] := HT2.out.agree fun b hb => b3.block b (HT2.out.lt b hb)
  have hK3 : KOwn w3 (.slice aK nK pK) vK BK := HK2.out.agree fun b hb => b3.block b (HK2.out.lt b hb)
  have hLform : ∃ (a : Option Addr) (n p : Nat), uL = .slice a n p := by
    rcases hL3 with ⟨h1, _⟩ | ⟨g, cap, cur, Bs, h1, _⟩
    · exact ⟨_, _, _, h1⟩
    · exact ⟨_, _, _, h1⟩
  obtain ⟨aL, nL, pL, rfl⟩ := hLform
  have z23 := b3.size
  rw [hsz2] at hBL z23
  clear HLc' Hs2 HT2 HK2 b3 p0 p1 p2 p3 p4 q0 q1 q2 q3 q4 pf3
  obtain ⟨p0, p1, p2, p3, p4, pf⟩ := row5 hst3.2.2.2.1
  obtain ⟨r0, r1, r2, r3, r4, rf⟩ := row5 hst3.2.2.1
  have pf4 := pf 4
  have rf0 := rf 0
  have rf1 := rf 1
  have rf2 := rf 2
  have rf3 := rf 3
  have rf4 := rf 4
  have z3 := hst3.2.2.2.2
  have B3 := hst3.1
  have hrow : (set5 (w3.setCell ⟨w.heap.size + 1 + 1, 4, none⟩ (.slice aL nL pL)) (w.heap.size + 1) 0 (.int .i64 vk) (.int .i64 vn) (.slice (some ⟨gS, 0, none⟩) vs.length vs.length) (.slice aK nK pK) (.slice aL nL pL)).heap[w.heap.size + 1]? = some (.cells #[.int .i64 vk, .int .i64 vn, .slice (some ⟨gS, 0, none⟩) vs.length vs.length, .slice aK nK pK, .slice aL nL pL] 30 (0, 0)) :=
    set5_heap _ _ _ _ _ ((Below.heap_setCell w3 _ _ _ (by show w.heap.size + 1 ≠ w.heap.size + 1 + 1; omega)).trans hst3.2.2.1)
  have hk5 := row5 hrow
  simp only [set5, Nat.zero_add] at hk5
  have Hk5 := hide' hk5
  clear hrow hk5
  have hltS3 := hTS3.lt gS (by simp)
  have HT3 := hide' hTS3
  have HK3 := hide' hK3
  have HL3 := hide' hL3
  clear hTS3 hK3 hL3 hst3 pf rf
  go_wp2_with fail
  obtain ⟨y0, y1, y2, y3, y4, _⟩ := Hk5.out
  refine bodyPost_ret (v := .agg #[.int .i64 vk, .int .i64 vn, .slice (some ⟨gS, 0, none⟩) vs.length vs.length, .slice aK nK pK, .slice aL nL pL]) (by simp [results, Try.results8, go_sem, y0, y1, y2, y3, y4]) rfl ?_
  have hA := grown1 w3 (w.heap.size + 1 + 1) 4 (.slice aL nL pL)
  have hsz3 : (w3.setCell ⟨w.heap.size + 1 + 1, 4, none⟩ (.slice aL nL pL)).heap.size = w3.heap.size := by simp [World.setCell]
  have hB5 := set5_grown (w3.setCell ⟨w.heap.size + 1 + 1, 4, none⟩ (.slice aL nL pL)) (w.heap.size + 1) 0 (.int .i64 vk) (.int .i64 vn) (.slice (some ⟨gS, 0, none⟩) vs.length vs.length) (.slice aK nK pK) (.slice aL nL pL)
  have hsz4 := set5_size (w3.setCell ⟨w.heap.size + 1 + 1, 4, none⟩ (.slice aL nL pL)) (w.heap.size + 1) 0 (.int .i64 vk) (.int .i64 vn) (.slice (some ⟨gS, 0, none⟩) vs.length vs.length) (.slice aK nK pK) (.slice aL nL pL)
  have hb : ∀ b, w.heap.size + 3 ≤ b → b < w3.heap.size → (set5 (w3.setCell ⟨w.heap.size + 1 + 1, 4, none⟩ (.slice aL nL pL)) (w.heap.size + 1) 0 (.int .i64 vk) (.int .i64 vn) (.slice (some ⟨gS, 0, none⟩) vs.length vs.length) (.slice aK nK pK) (.slice aL nL pL)).heap[b]? = w3.heap[b]? := by
    intro b h1 h2
    rw [hB5.block b (by omega) (by simp; omega)]
    exact hA.block b h2 (by simp; omega)
  have hBf : Below w.heap.size w (set5 (w3.setCell ⟨w.heap.size + 1 + 1, 4, none⟩ (.slice aL nL pL)) (w.heap.size + 1) 0 (.int .i64 vk) (.int .i64 vn) (.slice (some ⟨gS, 0, none⟩) vs.length vs.length) (.slice aK nK pK) (.slice aL nL pL)) :=
    (B3.grown hA B3.size (by intro j hj; simp at hj; omega)).grown hB5 (by omega) (by intro j hj; simp at hj; omega)
  have hTf := HT3.out.agree (w' := set5 (w3.setCell ⟨w.heap.size + 1 + 1, 4, none⟩ (.slice aL nL pL)) (w.heap.size + 1) 0 (.int .i64 vk) (.int .i64 vn) (.slice (some ⟨gS, 0, none⟩) vs.length vs.length) (.slice aK nK pK) (.slice aL nL pL)) fun b h => hb b (by simp at h; omega) (by simp at h; omega)
  have hKf := HK3.out.agree (w' := set5 (w3.setCell ⟨w.heap.size + 1 + 1, 4, none⟩ (.slice aL nL pL)) (w.heap.size + 1) 0 (.int .i64 vk) (.int .i64 vn) (.slice (some ⟨gS, 0, none⟩) vs.length vs.length) (.slice aK nK pK) (.slice aL nL pL)) fun b h => hb b (by have := hBK b h; omega) (by have := hBK b h; omega)
  have hLf := HL3.out.agree (w' := set5 (w3.setCell ⟨w.heap.size + 1 + 1, 4, none⟩ (.slice aL nL pL)) (w.heap.size + 1) 0 (.int .i64 vk) (.int .i64 vn) (.slice (some ⟨gS, 0, none⟩) vs.length vs.length) (.slice aK nK pK) (.slice aL nL pL)) fun b h => hb b (by have := hBL b h; omega) (by have := hBL b h; omega)
  refine ⟨_, _, _, _, _, rfl, [gS] ++ (BK ++ BL), (VOwn_succ _ _ _ _ _).2 ⟨rfl, rfl, [gS], BK, BL, hTf, hKf, hLf, rfl, ?_⟩, ?_, hBf⟩
  · rw [List.nodup_append, List.nodup_append]
    refine ⟨by simp, ⟨HK3.out.nodup, HL3.out.nodup, fun b h1 c h2 => ?_⟩, fun b h1 c h2 => ?_⟩
    · have := hBK b h1
      have := hBL c h2
      omega
    · simp at h1
      rcases List.mem_append.1 h2 with h3 | h3
      · have := hBK c h3; omega
      · have := hBL c h3; omega
  · intro b hbm
    show w.heap.size ≤ b ∧ b < (set5 (w3.setCell ⟨w.heap.size + 1 + 1, 4, none⟩ (.slice aL nL pL)) (w.heap.size + 1) 0 (.int .i64 vk) (.int .i64 vn) (.slice (some ⟨gS, 0, none⟩) vs.length vs.length) (.slice aK nK pK) (.slice aL nL pL)).heap.size
    rw [hsz4, hsz3]
    rcases List.mem_append.1 hbm with h3 | h3
    · simp at h3; omega
    · rcases List.mem_append.1 h3 with h4 | h4
      · have := hBK b h4; omega
      · have := hBL b h4; omega

theorem toValue_any (d : Nat) : ToAt d := by
  induction d with
  | zero => intro N c v w hv; exact hv.elim
  | succ d ih => exact toValue_succ d ih
end Go.Proofs.Ytpknhmegoldppaa
