/-
  Texts that a law leans on, one behind the other; no statement is proved here.
-/
import Derived.Test.YtfokidhamjphfaaDoorPk10
/-
  Values that a call owns, with the blocks in which they lie.
-/
namespace Go.Proofs.YtfokidhamjphfaaDoor
open Go.RowKit
set_option linter.unusedVariables false

/-- The five cells of a value in an array of cells. -/
def Cells5 (cur : Array Value) (j : Nat) (e : Value × Value × Value × Value × Value) : Prop :=
  cur[j]? = some e.1 ∧ cur[j + 1]? = some e.2.1 ∧ cur[j + 2]? = some e.2.2.1 ∧ cur[j + 3]? = some e.2.2.2.1 ∧ cur[j + 4]? = some e.2.2.2.2

/-- A value of the call's own, in the blocks B. -/
def VOwn (w : World) : (d : Nat) → Value × Value × Value × Value × Value → Vl d → List Nat → Prop
  | 0, _, _, _ => False
  | d + 1, c, v, B => c.1 = .int .i64 v.1 ∧ c.2.1 = .int .i64 v.2.1 ∧ ∃ Bs Bk Bl, TOwn w c.2.2.1 v.2.2.1 Bs ∧ KOwn w c.2.2.2.1 v.2.2.2.1 Bk ∧
      ((c.2.2.2.2 = .slice none 0 0 ∧ v.2.2.2.2 = [] ∧ Bl = []) ∨
        ∃ (g cap : Nat) (cur : Array Value) (Bi : List (List Nat)), c.2.2.2.2 = .slice (some ⟨g, 0, none⟩) v.2.2.2.2.length cap ∧ w.heap[g]? = some (.cells cur 26 (0, 0)) ∧ v.2.2.2.2.length ≤ cap ∧ cap ≤ maxLen ∧ cur.size = cap * 5 ∧ Bi.length = v.2.2.2.2.length ∧
          (∀ i (h : i < v.2.2.2.2.length), ∃ e, Cells5 cur (i * 5) e ∧ VOwn w d e (v.2.2.2.2[i]) (Bi.getD i [])) ∧ Bl = g :: Bi.flatten ∧ Bl.Nodup) ∧
      B = Bs ++ (Bk ++ Bl) ∧ B.Nodup

/-- A list of values of the call's own. -/
def LOwn (w : World) (d : Nat) (x : Value) (l : List (Vl d)) (B : List Nat) : Prop :=
  (x = .slice none 0 0 ∧ l = [] ∧ B = []) ∨
  ∃ (g cap : Nat) (cur : Array Value) (Bi : List (List Nat)), x = .slice (some ⟨g, 0, none⟩) l.length cap ∧ w.heap[g]? = some (.cells cur 26 (0, 0)) ∧ l.length ≤ cap ∧ cap ≤ maxLen ∧ cur.size = cap * 5 ∧ Bi.length = l.length ∧
    (∀ i (h : i < l.length), ∃ e, Cells5 cur (i * 5) e ∧ VOwn w d e (l[i]) (Bi.getD i [])) ∧ B = g :: Bi.flatten ∧ B.Nodup

theorem VOwn_succ (w : World) (d : Nat) (c : Value × Value × Value × Value × Value) (v : Vl (d + 1)) (B : List Nat) :
    VOwn w (d + 1) c v B ↔ c.1 = .int .i64 v.1 ∧ c.2.1 = .int .i64 v.2.1 ∧ ∃ Bs Bk Bl, TOwn w c.2.2.1 v.2.2.1 Bs ∧ KOwn w c.2.2.2.1 v.2.2.2.1 Bk ∧ LOwn w d c.2.2.2.2 v.2.2.2.2 Bl ∧ B = Bs ++ (Bk ++ Bl) ∧ B.Nodup := Iff.rfl

theorem KOwn.lt {w : World} {v : Value} {ks : List (List Int)} {B : List Nat} (h : KOwn w v ks B) : ∀ b ∈ B, b < w.heap.size := by
  intro b hb
  rcases h with ⟨_, _, rfl⟩ | ⟨g, cap, cur, Bs, _, h2, _, _, _, h6, h7, rfl, _⟩
  · simp at hb
  · rcases List.mem_cons.1 hb with rfl | hb
    · exact (Array.getElem?_eq_some_iff.1 h2).1
    · obtain ⟨l, hl, hbl⟩ := List.mem_flatten.1 hb
      obtain ⟨i, hi, rfl⟩ := List.getElem_of_mem hl
      obtain ⟨u, _, ht⟩ := h7 i (by omega)
      exact ht.lt b (by simpa [List.getD_eq_getElem?_getD, hi] using hbl)

theorem VOwn.lt {w : World} (d : Nat) : ∀ {c : Value × Value × Value × Value × Value} {v : Vl d} {B : List Nat}, VOwn w d c v B → ∀ b ∈ B, b < w.heap.size := by
  induction d with
  | zero => intro c v B h; exact h.elim
  | succ d ih =>
    intro c v B h b hb
    obtain ⟨_, _, Bs, Bk, Bl, ht, hk, hl, rfl, _⟩ := h
    rw [List.mem_append, List.mem_append] at hb
    rcases hb with hb | hb | hb
    · exact ht.lt b hb
    · exact hk.lt b hb
    · rcases hl with ⟨_, _, rfl⟩ | ⟨g, cap, cur, Bi, _, h2, _, _, _, h6, h7, rfl, _⟩
      · simp at hb
      · rcases List.mem_cons.1 hb with rfl | hb
        · exact (Array.getElem?_eq_some_iff.1 h2).1
        · obtain ⟨q, hq, hbq⟩ := List.mem_flatten.1 hb
          obtain ⟨i, hi, rfl⟩ := List.getElem_of_mem hq
          obtain ⟨e, _, hv⟩ := h7 i (by omega)
          exact ih hv b (by simpa [List.getD_eq_getElem?_getD, hi] using hbq)

theorem VOwn.agree {w w' : World} (d : Nat) : ∀ {c : Value × Value × Value × Value × Value} {v : Vl d} {B : List Nat}, VOwn w d c v B → Agree (fun b => b ∈ B) w w' → VOwn w' d c v B := by
  induction d with
  | zero => intro c v B h _; exact h.elim
  | succ d ih =>
    intro c v B h ha
    obtain ⟨e0, e1, Bs, Bk, Bl, ht, hk, hl, rfl, hn⟩ := h
    refine ⟨e0, e1, Bs, Bk, Bl, ht.agree fun b hb => ha b (by simp [hb]), hk.agree fun b hb => ha b (by simp [hb]), ?_, rfl, hn⟩
    rcases hl with h0 | ⟨g, cap, cur, Bi, h1, h2, h3, h4, h5, h6, h7, rfl, h9⟩
    · exact .inl h0
    · refine .inr ⟨g, cap, cur, Bi, h1, (ha g (by simp)).trans h2, h3, h4, h5, h6, fun i hi => ?_, rfl, h9⟩
      obtain ⟨e, he, hv⟩ := h7 i hi
      exact ⟨e, he, ih hv fun b hb => ha b (by have := flatten_mem_getD (Bs := Bi) (by omega) hb; simp only [List.mem_append, List.mem_cons]; exact .inr (.inr (.inr this)))⟩

theorem LOwn.agree {w w' : World} {d : Nat} {x : Value} {l : List (Vl d)} {B : List Nat} (h : LOwn w d x l B) (ha : Agree (fun b => b ∈ B) w w') : LOwn w' d x l B := by
  rcases h with h0 | ⟨g, cap, cur, Bi, h1, h2, h3, h4, h5, h6, h7, rfl, h9⟩
  · exact .inl h0
  · refine .inr ⟨g, cap, cur, Bi, h1, (ha g (by simp)).trans h2, h3, h4, h5, h6, fun i hi => ?_, rfl, h9⟩
    obtain ⟨e, he, hv⟩ := h7 i hi
    exact ⟨e, he, VOwn.agree d hv fun b hb => ha b (List.mem_cons_of_mem _ (flatten_mem_getD (by omega) hb))⟩

theorem KSeg.mono {R R' : Nat → Prop} {w : World} {v : Value} {ks : List (List Int)} (h : KSeg R w v ks) (hr : ∀ b, R b → R' b) : KSeg R' w v ks := by
  obtain ⟨a, cap, h1, h2, h3, h4, h5⟩ := h
  refine ⟨a, cap, h1, h2, h3, h4, ?_⟩
  rcases h5 with h0 | ⟨b, off, e, hb, hc⟩
  · exact .inl h0
  · refine .inr ⟨b, off, e, hr b hb, fun i hi => ?_⟩
    obtain ⟨u, hu, ht⟩ := hc i hi
    exact ⟨u, hu, ht.mono hr⟩

theorem VSeg.mono {R R' : Nat → Prop} {w : World} (hr : ∀ b, R b → R' b) (d : Nat) : ∀ {c : Value × Value × Value × Value × Value} {v : Vl d}, VSeg R w d c v → VSeg R' w d c v := by
  induction d with
  | zero => intro c v h; exact h
  | succ d ih =>
    intro c v h
    obtain ⟨h0, h1, h2, h3, a, cap, g1, g2, g3, g4, g5⟩ := h
    refine ⟨h0, h1, h2.mono hr, h3.mono hr, a, cap, g1, g2, g3, g4, ?_⟩
    rcases g5 with e | ⟨b, off, hb, hR, hc⟩
    · exact .inl e
    · refine .inr ⟨b, off, hb, hr b hR, fun i hi => ?_⟩
      obtain ⟨e, he, hv⟩ := hc i hi
      exact ⟨e, he, ih hv⟩

theorem Cells5.five {w : World} {g : Nat} {cur : Array Value} (h : w.heap[g]? = some (.cells cur 26 (0, 0))) {j : Nat} {e : Value × Value × Value × Value × Value} (he : Cells5 cur j e) : Five w g j e := by
  obtain ⟨h0, h1, h2, h3, h4⟩ := he
  refine ⟨?_, ?_, ?_, ?_, ?_⟩ <;> rw [cell_of_row w g _ cur _ (0, 0) h] <;> assumption

theorem VOwn.seg {w : World} (d : Nat) : ∀ {c : Value × Value × Value × Value × Value} {v : Vl d} {B : List Nat}, VOwn w d c v B → VSeg (fun b => b ∈ B) w d c v := by
  induction d with
  | zero => intro c v B h; exact h
  | succ d ih =>
    intro c v B h
    obtain ⟨e0, e1, Bs, Bk, Bl, ht, hk, hl, rfl, _⟩ := h
    refine ⟨e0, e1, ht.seg.mono fun b hb => by simp [hb], hk.seg.mono fun b hb => by simp [hb], ?_⟩
    rcases hl with ⟨h1, h2, rfl⟩ | ⟨g, cap, cur, Bi, h1, h2, h3, h4, h5, h6, h7, rfl, h9⟩
    · exact ⟨none, 0, by rw [h1, h2]; rfl, by rw [h2]; exact Nat.le_refl _, Nat.zero_le _, fun _ => rfl, .inl h2⟩
    · refine ⟨some ⟨g, 0, none⟩, cap, h1, h3, h4, by simp, .inr ⟨g, 0, rfl, by simp, fun i hi => ?_⟩⟩
      obtain ⟨e, he, hv⟩ := h7 i hi
      refine ⟨e, by rw [Nat.zero_add]; exact he.five h2, VSeg.mono (fun b hb => ?_) d (ih hv)⟩
      have := flatten_mem_getD (Bs := Bi) (by omega) hb
      simp only [List.mem_append, List.mem_cons]
      exact .inr (.inr (.inr this))

end Go.Proofs.YtfokidhamjphfaaDoor
