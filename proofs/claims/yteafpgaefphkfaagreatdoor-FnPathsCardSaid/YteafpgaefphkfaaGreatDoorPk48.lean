/-
  Texts that a law leans on, one behind the other; no statement is proved here.
-/
import Derived.Test.YteafpgaefphkfaaGreatDoorPk47
import Derived.Test.YteafpgaefphkfaaGreatDoorPk44
/-
  l3bentPath of the specification on a heap on which values are drawn. No statement is proved here.
-/
namespace Go.Proofs.YteafpgaefphkfaaGreatDoor
open Go.RowKit
set_option linter.unusedVariables false
set_option linter.unusedSimpArgs false

section
variable {B M : Nat} {rk rkr rk5 : Nat → Nat} {g : Nat} {A : Option Addr} {C : Nat} {cs : List Int} {w wr w5 : World} {a : Option Addr} {n cap : Nat}

/-- A row of seven steps that is filled. -/
def Sev (B M : Nat) (w : World) (cur : Array Value) : Prop := cur.size = 21 ∧ Trs B M w cur.toList 7

theorem sev_set {cur : Array Value} (h : Sev B M wr cur) (hS : Shp wr w5) {i : Nat} (hi : i < 7) {v : Value} (hv : Sli B M 5 1 (fun _ => True) w5 v) : Sev B M w5 (cur.setIfInBounds (i * 3 + 1) v) := by
  obtain ⟨h1, h2, h3⟩ := h
  refine ⟨by simp [h1], by simp [h1], fun j hj => ?_⟩
  obtain ⟨e0, e1, e2, g0, g1, g2, t0, t1, t2⟩ := h3 j hj
  rw [Array.getElem?_toList] at g0 g1 g2
  simp only [Array.getElem?_toList]
  by_cases he : j = i
  · subst he
    refine ⟨e0, v, e2, ?_, ?_, ?_, t0, hv, t2⟩
    · rw [Array.getElem?_setIfInBounds_ne (by omega)]; exact g0
    · rw [Array.getElem?_setIfInBounds]; simp; omega
    · rw [Array.getElem?_setIfInBounds_ne (by omega)]; exact g2
  · refine ⟨e0, e1, e2, ?_, ?_, ?_, t0, t1.shp row3_b hS fun _ _ h => h, t2⟩ <;> (rw [Array.getElem?_setIfInBounds_ne (by omega)]; assumption)

/-- While the long path is filled: its row at block q. -/
def SvSt (B M : Nat) (rk : Nat → Nat) (g : Nat) (A : Option Addr) (C : Nat) (cs : List Int) (w : World) (q : Nat) (rkr : Nat → Nat) (wr : World) : Prop :=
  w.heap.size ≤ q ∧ (∃ cur, wr.heap[q]? = some (.cells cur 50 (0, 0)) ∧ Sev B M wr cur) ∧ Hs B M rkr wr g A C cs ∧ Hst rk w rkr wr g ∧ g < w.heap.size

theorem SvSt.next {q : Nat} (h : SvSt B M rk g A C cs w q rkr wr) (hT : Hst rkr wr rk5 w5 g) (hS : Hs B M rk5 w5 g A C cs) : SvSt B M rk g A C cs w q rk5 w5 := by
  obtain ⟨h1, ⟨cur, h2, h3⟩, h4, h5, h6⟩ := h
  exact ⟨h1, ⟨cur, (hT.block (Array.getElem?_eq_some_iff.1 h2).1 (by omega)).trans h2, h3.1, h3.2.shp hT.2.2⟩, hS, h5.trans hT, h6⟩

/-- A key is stored. -/
theorem SvSt.put {q i : Nat} (h : SvSt B M rk g A C cs w q rkr wr) (hi : i < 7) {v : Value} (hv : Sli B M 5 1 (fun _ => True) wr v) : SvSt B M rk g A C cs w q rkr (wr.setCell ⟨q, i * 3 + 1, none⟩ v) := by
  obtain ⟨h1, ⟨cur, h2, h3⟩, h4, h5, h6⟩ := h
  have hql := (Array.getElem?_eq_some_iff.1 h2).1
  have hB : B ≤ w.heap.size := by have := h4.2.2.1; omega
  have hset : (wr.setCell ⟨q, i * 3 + 1, none⟩ v).heap[q]? = some (.cells (cur.setIfInBounds (i * 3 + 1) v) 50 (0, 0)) := heap_setCell_same wr q (i * 3 + 1) cur _ v h2
  have hoth : ∀ b, b ≠ q → (wr.setCell ⟨q, i * 3 + 1, none⟩ v).heap[b]? = wr.heap[b]? := fun b hb => Below.heap_setCell wr ⟨q, i * 3 + 1, none⟩ v b hb
  have hw : Hw B M rkr (wr.setCell ⟨q, i * 3 + 1, none⟩ v) := by
    refine h4.1.step (Shp.setCell wr q _ v) (Rks.refl _ _) fun b hb hbz => ?_
    by_cases he : b = q
    · subst he
      refine .inr fun c T fr hh => ?_
      rw [hset] at hh
      simp only [Option.some.injEq, Obj.cells.injEq] at hh
      obtain ⟨rfl, rfl, rfl⟩ := hh
      exact ⟨fun h => absurd h (by decide), fun h => absurd h (by decide), fun h => absurd h (by decide)⟩
    · exact .inl ⟨by simpa [World.setCell] using hbz, hoth b he⟩
  refine ⟨h1, ⟨_, hset, sev_set h3 (Shp.setCell wr q _ v) hi (hv.shp row3_b (Shp.setCell wr q _ v) fun _ _ h => h)⟩, h4.on hw (hoth g (by omega)) (fun b hb => hoth b (by omega)), ⟨h5.1, h5.2.1.andThen (grown1 wr q (i * 3 + 1) v) (fun j hj => .inl (by cases hj; omega)), h5.2.2.trans (Shp.setCell wr q _ v)⟩, h6⟩

theorem SvSt.row {q : Nat} (h : SvSt B M rk g A C cs w q rkr wr) : ∃ cur, wr.heap[q]? = some (.cells cur 50 (0, 0)) ∧ cur.size = 21 := by
  obtain ⟨_, ⟨cur, h2, h3⟩, _⟩ := h
  exact ⟨cur, h2, h3.1⟩

/-- The long path cut. -/
theorem SvSt.cut {q m : Nat} (h : SvSt B M rk g A C cs w q rkr wr) (hm : m ≤ 7) : PdSt B M rk g A C cs w rkr wr (some ⟨q, m * 3, none⟩) (7 - m) (7 - m) := by
  obtain ⟨h1, ⟨cur, h2, h3⟩, h4, h5, h6⟩ := h
  refine ⟨⟨Nat.le_refl _, by unfold maxLen; omega, .inr ⟨q, m * 3, cur, rfl, h1, h2, by have := h3.1; omega, ?_, fun j hj => ?_⟩⟩, h4, h5, h6⟩
  · rw [List.length_take, List.length_drop, Array.length_toList, h3.1]; omega
  · obtain ⟨e0, e1, e2, g0, g1, g2, ht⟩ := h3.2.2 (m + j) (by omega)
    refine ⟨e0, e1, e2, ?_, ?_, ?_, ht⟩
    · rw [List.getElem?_take, if_pos (by omega), List.getElem?_drop, ← g0]; congr 1; omega
    · rw [List.getElem?_take, if_pos (by omega), List.getElem?_drop, ← g1]; congr 1; omega
    · rw [List.getElem?_take, if_pos (by omega), List.getElem?_drop, ← g2]; congr 1; omega
end
end Go.Proofs.YteafpgaefphkfaaGreatDoor
