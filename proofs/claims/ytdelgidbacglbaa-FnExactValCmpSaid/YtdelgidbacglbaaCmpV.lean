/-
  The order of values, as the specification has it: 'cmpV'; readings at one depth. Plain mathematics.
-/
import Derived.Test.YtdelgidbacglbaaVal
import Derived.Test.YtdelgidbacglbaaReadT
import Derived.Test.YtdelgidbacglbaaCmp0
namespace Go.Proofs.Ytdelgidbacglbaa
open Go.RowKit
set_option linter.unusedVariables false
set_option linter.unusedSimpArgs false

/-- The order of two lists of parts, with their keys where they are those of maps. -/
def cmpLs {α : Type} (m : Bool) (f : α → α → Int) : List (List Int) → List (List Int) → List α → List α → Int
  | _, _, [], [] => 0
  | _, _, [], _ :: _ => -1
  | _, _, _ :: _, [] => 1
  | aK, bK, a :: aL, b :: bL => if m = true ∧ bytesC (aK.headD []) (bK.headD []) ≠ 0 then bytesC (aK.headD []) (bK.headD []) else if f a b ≠ 0 then f a b else cmpLs m f aK.tail bK.tail aL bL

/-- The order of two values. -/
def cmpV : (d : Nat) → Vl d → Vl d → Int
  | 0, _, _ => 0
  | d + 1, a, b => if a.1 ≠ b.1 then numC a.1 b.1 else if a.1 = 3 then bytesC a.2.2.1 b.2.2.1 else if a.2.1 ≠ b.2.1 then numC a.2.1 b.2.1 else cmpLs (decide (a.1 = 5)) (cmpV d) a.2.2.2.1 b.2.2.2.1 a.2.2.2.2 b.2.2.2.2

/-- From the k-th parts on. -/
def cmpK {d : Nat} (m : Bool) (aK bK : List (List Int)) (aL bL : List (Vl d)) (k : Nat) : Int := cmpLs m (cmpV d) (aK.drop k) (bK.drop k) (aL.drop k) (bL.drop k)

theorem headD_drop (l : List (List Int)) (k : Nat) : (l.drop k).headD [] = l.getD k [] := by
  induction l generalizing k with
  | nil => simp
  | cons a l ih =>
    cases k with
    | zero => rfl
    | succ k => simp

theorem tail_drop (l : List (List Int)) (k : Nat) : (l.drop k).tail = l.drop (k + 1) := by rw [List.tail_drop]

theorem cmpK_step {d : Nat} {m : Bool} {aK bK : List (List Int)} {aL bL : List (Vl d)} {k : Nat} (ha : k < aL.length) (hb : k < bL.length) :
    cmpK m aK bK aL bL k = if m = true ∧ bytesC (aK.getD k []) (bK.getD k []) ≠ 0 then bytesC (aK.getD k []) (bK.getD k []) else if cmpV d aL[k] bL[k] ≠ 0 then cmpV d aL[k] bL[k] else cmpK m aK bK aL bL (k + 1) := by
  unfold cmpK
  rw [List.drop_eq_getElem_cons ha, List.drop_eq_getElem_cons hb]
  simp only [cmpLs, headD_drop, tail_drop]
theorem cmpK_end1 {d : Nat} {m : Bool} {aK bK : List (List Int)} {aL bL : List (Vl d)} {k : Nat} (ha : k < aL.length) (hb : ¬ k < bL.length) : cmpK m aK bK aL bL k = 1 := by
  unfold cmpK
  rw [List.drop_eq_getElem_cons ha, List.drop_eq_nil_of_le (by omega : bL.length ≤ k)]
  rfl
theorem cmpK_end2 {d : Nat} {m : Bool} {aK bK : List (List Int)} {aL bL : List (Vl d)} {k : Nat} (ha : ¬ k < aL.length) (hb : k < bL.length) : cmpK m aK bK aL bL k = -1 := by
  unfold cmpK
  rw [List.drop_eq_getElem_cons hb, List.drop_eq_nil_of_le (by omega : aL.length ≤ k)]
  rfl
theorem cmpK_end3 {d : Nat} {m : Bool} {aK bK : List (List Int)} {aL bL : List (Vl d)} {k : Nat} (ha : ¬ k < aL.length) (hb : ¬ k < bL.length) : cmpK m aK bK aL bL k = 0 := by
  unfold cmpK
  rw [List.drop_eq_nil_of_le (by omega : aL.length ≤ k), List.drop_eq_nil_of_le (by omega : bL.length ≤ k)]
  rfl
theorem cmpK_zero {d : Nat} (m : Bool) (aK bK : List (List Int)) (aL bL : List (Vl d)) : cmpK m aK bK aL bL 0 = cmpLs m (cmpV d) aK bK aL bL := by simp [cmpK]

theorem cmpV_kind {d : Nat} {a b : Vl (d + 1)} (h : a.1 ≠ b.1) : cmpV (d + 1) a b = numC a.1 b.1 := by
  show (if a.1 ≠ b.1 then _ else _) = _
  rw [if_pos h]
theorem cmpV_text {d : Nat} {a b : Vl (d + 1)} (h : a.1 = b.1) (h3 : a.1 = 3) : cmpV (d + 1) a b = bytesC a.2.2.1 b.2.2.1 := by
  show (if a.1 ≠ b.1 then _ else if a.1 = 3 then _ else _) = _
  rw [if_neg (by simpa using h), if_pos h3]
theorem cmpV_num {d : Nat} {a b : Vl (d + 1)} (h : a.1 = b.1) (h3 : a.1 ≠ 3) (hn : a.2.1 ≠ b.2.1) : cmpV (d + 1) a b = numC a.2.1 b.2.1 := by
  show (if a.1 ≠ b.1 then _ else if a.1 = 3 then _ else if a.2.1 ≠ b.2.1 then _ else _) = _
  rw [if_neg (by simpa using h), if_neg h3, if_pos hn]
theorem cmpV_parts {d : Nat} {a b : Vl (d + 1)} (h : a.1 = b.1) (h3 : a.1 ≠ 3) (hn : a.2.1 = b.2.1) : cmpV (d + 1) a b = cmpK (decide (a.1 = 5)) a.2.2.2.1 b.2.2.2.1 a.2.2.2.2 b.2.2.2.2 0 := by
  rw [cmpK_zero]
  show (if a.1 ≠ b.1 then _ else if a.1 = 3 then _ else if a.2.1 ≠ b.2.1 then _ else _) = _
  rw [if_neg (by simpa using h), if_neg h3, if_neg (by simpa using hn)]

/-- What is read at a depth is read at the next one. -/
theorem VSeg.up {R : Nat → Prop} {w : World} (d : Nat) : ∀ {c : Value × Value × Value × Value × Value} {v : Vl d}, VSeg R w d c v → ∃ v' : Vl (d + 1), VSeg R w (d + 1) c v' := by
  induction d with
  | zero => intro c v h; exact h.elim
  | succ d ih =>
    intro c v h
    obtain ⟨h0, h1, h2, h3, a, cap, g1, g2, g3, g4, g5⟩ := h
    have hq : ∀ i, i < v.2.2.2.2.length → ∃ x : Vl (d + 1), ∀ b off, a = some ⟨b, off, none⟩ → (∀ i (h : i < v.2.2.2.2.length), ∃ e, Five w b (off + i * 5) e ∧ VSeg R w d e (v.2.2.2.2[i])) → ∃ e, Five w b (off + i * 5) e ∧ VSeg R w (d + 1) e x := by
      intro i hi
      rcases g5 with e | ⟨b, off, hb, hR, hc⟩
      · rw [e] at hi; simp at hi
      · obtain ⟨e, he, hv⟩ := hc i hi
        obtain ⟨x, hx⟩ := ih hv
        refine ⟨x, fun b' off' hb' _ => ?_⟩
        rw [hb] at hb'
        simp at hb'
        obtain ⟨rfl, rfl⟩ := hb'
        exact ⟨e, he, hx⟩
    obtain ⟨l, hl, hls⟩ := list_of v.2.2.2.2.length hq
    refine ⟨(v.1, v.2.1, v.2.2.1, v.2.2.2.1, l), h0, h1, h2, h3, a, cap, by simpa [hl] using g1, by simpa [hl] using g2, g3, g4, ?_⟩
    rcases g5 with e | ⟨b, off, hb, hR, hc⟩
    · refine .inl ?_
      show l = []
      exact List.eq_nil_of_length_eq_zero (by rw [hl, e]; rfl)
    · refine .inr ⟨b, off, hb, hR, fun i hi => ?_⟩
      exact hls i hi b off hb hc

theorem VSeg.upto {R : Nat → Prop} {w : World} (d k : Nat) {c : Value × Value × Value × Value × Value} {v : Vl d} (h : VSeg R w d c v) : ∃ v' : Vl (d + k), VSeg R w (d + k) c v' := by
  induction k with
  | zero => exact ⟨v, h⟩
  | succ k ih =>
    obtain ⟨v', h'⟩ := ih
    exact VSeg.up (d + k) h'
end Go.Proofs.Ytdelgidbacglbaa
