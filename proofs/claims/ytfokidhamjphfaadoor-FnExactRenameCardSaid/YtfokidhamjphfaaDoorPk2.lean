/-
  Texts that a law leans on, one behind the other; no statement is proved here.
-/
import Derived.Test.YtfokidhamjphfaaDoorPk1
/-
  What a value (kind, number, text, keys, parts) holds in memory, by its depth: 'Vl d' and 'VSeg'; lists of texts: 'KSeg'; no statement is proved here.
-/
namespace Go.Proofs.YtfokidhamjphfaaDoor
open Go.RowKit
set_option linter.unusedVariables false

/-- Values of depth at most d. -/
def Vl : Nat → Type
  | 0 => Empty
  | d + 1 => Int × Int × List Int × List (List Int) × List (Vl d)

/-- The blocks in which something lies all fulfil R, and may be read alike in two worlds. -/
def Agree (R : Nat → Prop) (w w' : World) : Prop := ∀ b, R b → w'.heap[b]? = w.heap[b]?

/-- A slice of bytes, all in blocks of R. -/
def TSeg (R : Nat → Prop) (w : World) (v : Value) (xs : List Int) : Prop := ∃ a cap, v = .slice a xs.length cap ∧ Seg w a xs ∧ xs.length ≤ cap ∧ cap ≤ maxLen ∧ (a = none → cap = 0) ∧ ∀ x, a = some x → xs ≠ [] → R x.block

/-- A slice of slices of bytes. -/
def KSeg (R : Nat → Prop) (w : World) (v : Value) (ks : List (List Int)) : Prop := ∃ a cap, v = .slice a ks.length cap ∧ ks.length ≤ cap ∧ cap ≤ maxLen ∧ (a = none → cap = 0) ∧
  (ks = [] ∨ ∃ b off, a = some ⟨b, off, none⟩ ∧ R b ∧ ∀ i, i < ks.length → ∃ u, w.cell? ⟨b, off + i, none⟩ = some u ∧ TSeg R w u (ks.getD i []))

/-- The five cells of a value at a place. -/
def Five (w : World) (b off : Nat) (c : Value × Value × Value × Value × Value) : Prop :=
  w.cell? ⟨b, off, none⟩ = some c.1 ∧ w.cell? ⟨b, off + 1, none⟩ = some c.2.1 ∧ w.cell? ⟨b, off + 2, none⟩ = some c.2.2.1 ∧ w.cell? ⟨b, off + 3, none⟩ = some c.2.2.2.1 ∧ w.cell? ⟨b, off + 4, none⟩ = some c.2.2.2.2

/-- Five cells read as a value. -/
def VSeg (R : Nat → Prop) (w : World) : (d : Nat) → Value × Value × Value × Value × Value → Vl d → Prop
  | 0, _, _ => False
  | d + 1, c, v => c.1 = .int .i64 v.1 ∧ c.2.1 = .int .i64 v.2.1 ∧ TSeg R w c.2.2.1 v.2.2.1 ∧ KSeg R w c.2.2.2.1 v.2.2.2.1 ∧
      ∃ a cap, c.2.2.2.2 = .slice a v.2.2.2.2.length cap ∧ v.2.2.2.2.length ≤ cap ∧ cap ≤ maxLen ∧ (a = none → cap = 0) ∧
        (v.2.2.2.2 = [] ∨ ∃ b off, a = some ⟨b, off, none⟩ ∧ R b ∧ ∀ i (h : i < v.2.2.2.2.length), ∃ e, Five w b (off + i * 5) e ∧ VSeg R w d e (v.2.2.2.2[i]))

/-- A slice of values. -/
def LSeg (R : Nat → Prop) (w : World) (d : Nat) (x : Value) (l : List (Vl d)) : Prop := ∃ a cap, x = .slice a l.length cap ∧ l.length ≤ cap ∧ cap ≤ maxLen ∧ (a = none → cap = 0) ∧
  (l = [] ∨ ∃ b off, a = some ⟨b, off, none⟩ ∧ R b ∧ ∀ i (h : i < l.length), ∃ e, Five w b (off + i * 5) e ∧ VSeg R w d e (l[i]))

theorem VSeg_succ (R : Nat → Prop) (w : World) (d : Nat) (c : Value × Value × Value × Value × Value) (v : Vl (d + 1)) :
    VSeg R w (d + 1) c v ↔ c.1 = .int .i64 v.1 ∧ c.2.1 = .int .i64 v.2.1 ∧ TSeg R w c.2.2.1 v.2.2.1 ∧ KSeg R w c.2.2.2.1 v.2.2.2.1 ∧ LSeg R w d c.2.2.2.2 v.2.2.2.2 := Iff.rfl

theorem cell_agree {R : Nat → Prop} {w w' : World} (h : Agree R w w') {b o : Nat} (hb : R b) : w'.cell? ⟨b, o, none⟩ = w.cell? ⟨b, o, none⟩ := World.cell?_of_block (h b hb)

theorem TSeg.agree {R : Nat → Prop} {w w' : World} {v : Value} {xs : List Int} (h : TSeg R w v xs) (ha : Agree R w w') : TSeg R w' v xs := by
  obtain ⟨a, cap, h1, h2, h3, h4, h5, h6⟩ := h
  refine ⟨a, cap, h1, ⟨h2.1, ?_⟩, h3, h4, h5, h6⟩
  rcases h2.2 with h0 | ⟨b, off, rfl, hc⟩
  · exact .inl h0
  · by_cases he : xs = []
    · exact .inl he
    · exact .inr ⟨b, off, rfl, fun i hi => (cell_agree ha (h6 _ rfl he)).trans (hc i hi)⟩

theorem KSeg.agree {R : Nat → Prop} {w w' : World} {v : Value} {ks : List (List Int)} (h : KSeg R w v ks) (ha : Agree R w w') : KSeg R w' v ks := by
  obtain ⟨a, cap, h1, h2, h3, h4, h5⟩ := h
  refine ⟨a, cap, h1, h2, h3, h4, ?_⟩
  rcases h5 with h0 | ⟨b, off, hb, hR, hc⟩
  · exact .inl h0
  · refine .inr ⟨b, off, hb, hR, fun i hi => ?_⟩
    obtain ⟨u, hu, ht⟩ := hc i hi
    exact ⟨u, (cell_agree ha hR).trans hu, ht.agree ha⟩

theorem Five.agree {R : Nat → Prop} {w w' : World} {b off : Nat} {c : Value × Value × Value × Value × Value} (h : Five w b off c) (ha : Agree R w w') (hb : R b) : Five w' b off c := by
  obtain ⟨h0, h1, h2, h3, h4⟩ := h
  exact ⟨(cell_agree ha hb).trans h0, (cell_agree ha hb).trans h1, (cell_agree ha hb).trans h2, (cell_agree ha hb).trans h3, (cell_agree ha hb).trans h4⟩

theorem VSeg.agree {R : Nat → Prop} {w w' : World} (ha : Agree R w w') (d : Nat) : ∀ {c : Value × Value × Value × Value × Value} {v : Vl d}, VSeg R w d c v → VSeg R w' d c v := by
  induction d with
  | zero => intro c v h; exact h
  | succ d ih =>
    intro c v h
    obtain ⟨h0, h1, h2, h3, a, cap, g1, g2, g3, g4, g5⟩ := h
    refine ⟨h0, h1, h2.agree ha, h3.agree ha, a, cap, g1, g2, g3, g4, ?_⟩
    rcases g5 with e | ⟨b, off, hb, hR, hc⟩
    · exact .inl e
    · refine .inr ⟨b, off, hb, hR, fun i hi => ?_⟩
      obtain ⟨e, he, hv⟩ := hc i hi
      exact ⟨e, he.agree ha hR, ih hv⟩

theorem LSeg.agree {R : Nat → Prop} {w w' : World} {d : Nat} {x : Value} {l : List (Vl d)} (h : LSeg R w d x l) (ha : Agree R w w') : LSeg R w' d x l := by
  obtain ⟨a, cap, g1, g2, g3, g4, g5⟩ := h
  refine ⟨a, cap, g1, g2, g3, g4, ?_⟩
  rcases g5 with e | ⟨b, off, hb, hR, hc⟩
  · exact .inl e
  · refine .inr ⟨b, off, hb, hR, fun i hi => ?_⟩
    obtain ⟨e, he, hv⟩ := hc i hi
    exact ⟨e, he.agree ha hR, VSeg.agree ha d hv⟩

/-- What lies below N is read alike behind whatever leaves what is below N. -/
theorem agree_below {N : Nat} {w w' : World} (h : Below N w w') : Agree (fun b => b < N) w w' := fun b hb => h.block b hb

/-- A value's weight: how much szValue takes off. -/
def szT (xs : List Int) : Nat := xs.length
def szK (ks : List (List Int)) : Nat := ks.length + (ks.map List.length).sum
def szV : (d : Nat) → Vl d → Nat
  | 0, _ => 0
  | d + 1, v => szT v.2.2.1 + szK v.2.2.2.1 + (v.2.2.2.2.length + (v.2.2.2.2.map (szV d)).sum)
def szL (d : Nat) (l : List (Vl d)) : Nat := l.length + (l.map (szV d)).sum

end Go.Proofs.YtfokidhamjphfaaDoor
