/-
  mapOf of the program.
-/
import Derived.Test.YtkklhdeecamifaaValA
import Derived.Test.YtkklhdeecamifaaTake3
namespace Go.Proofs.Ytkklhdeecamifaa
open Go.RowKit Go.Shelf
set_option linter.unusedVariables false
set_option linter.unusedSimpArgs false

theorem nomap_boolPart (x : Value) (w : World) : (Instr.typeAssert (.iface 70 x) 57 53 true).run Try.prog w = .ok (.tuple #[.agg #[.map none], .bool false]) w := by kernel_rfl
theorem nomap_intPart (x : Value) (w : World) : (Instr.typeAssert (.iface 71 x) 57 53 true).run Try.prog w = .ok (.tuple #[.agg #[.map none], .bool false]) w := by kernel_rfl
theorem nomap_textPart (x : Value) (w : World) : (Instr.typeAssert (.iface 73 x) 57 53 true).run Try.prog w = .ok (.tuple #[.agg #[.map none], .bool false]) w := by kernel_rfl
theorem nomap_listPart (x : Value) (w : World) : (Instr.typeAssert (.iface 76 x) 57 53 true).run Try.prog w = .ok (.tuple #[.agg #[.map none], .bool false]) w := by kernel_rfl
theorem nomap_nil (w : World) : (Instr.typeAssert .nilIface 57 53 true).run Try.prog w = .ok (.tuple #[.agg #[.map none], .bool false]) w := by kernel_rfl

/-- The kind of a value. -/
def kindV : (d : Nat) → Vl d → Int
  | 0, _ => 0
  | d + 1, v => v.1

/-- What mapOf leaves. -/
def MapOf (d : Nat) (v : Vl d) (w : World) (e : Ending) (w' : World) : Prop :=
  Below w.heap.size w w' ∧ ((∃ b, e = .returned (.tuple #[.agg #[.map (some b)], .bool true]) ∧ okB d v = true ∧ kindV d v = 5 ∧ PSeg (fun b => w.heap.size ≤ b ∧ b < w'.heap.size) w' d (.iface 53 (.agg #[.map (some b)])) v) ∨
    (e = .returned (.tuple #[.agg #[.map none], .bool false]) ∧ ¬ (okB d v = true ∧ kindV d v = 5)))

/-- What partOf leaves, asked for a map. -/
theorem part_map {d : Nat} {v : Vl d} {w w' : World} {e : Ending} (h : PartEnd d v w e w') : Below w.heap.size w w' ∧ ∃ p f, e = .returned (.tuple #[p, .bool f]) ∧ ∃ mo ok, (∀ wx, (Instr.typeAssert p 57 53 true).run Try.prog wx = .ok (.tuple #[.agg #[.map mo], .bool ok]) wx) ∧
    ((∃ b, mo = some b ∧ ok = true ∧ okB d v = true ∧ kindV d v = 5 ∧ PSeg (fun b => w.heap.size ≤ b ∧ b < w'.heap.size) w' d (.iface 53 (.agg #[.map (some b)])) v) ∨ (mo = none ∧ ok = false ∧ ¬ (okB d v = true ∧ kindV d v = 5))) := by
  obtain ⟨hb, ⟨p, rfl, hok, hp⟩ | ⟨rfl, hno⟩⟩ := h
  · refine ⟨hb, p, true, rfl, ?_⟩
    cases d with
    | zero => exact hp.elim
    | succ d =>
      have hp' := hp
      rcases hp with ⟨hk, rfl⟩ | ⟨hk, rfl⟩ | ⟨hk, rfl⟩ | ⟨hk, rfl⟩ | ⟨hk, rfl⟩ | ⟨hk, a, cap, rfl, hc⟩ | ⟨hk, b, ps, rfl, hR, hm, hc⟩
      · exact ⟨none, false, nomap_nullPart _, .inr ⟨rfl, rfl, fun h => by have h2 : v.1 = 5 := h.2; omega⟩⟩
      · exact ⟨none, false, nomap_unknownPart _, .inr ⟨rfl, rfl, fun h => by have h2 : v.1 = 5 := h.2; omega⟩⟩
      · exact ⟨none, false, nomap_boolPart _, .inr ⟨rfl, rfl, fun h => by have h2 : v.1 = 5 := h.2; omega⟩⟩
      · exact ⟨none, false, nomap_intPart _, .inr ⟨rfl, rfl, fun h => by have h2 : v.1 = 5 := h.2; omega⟩⟩
      · exact ⟨none, false, nomap_textPart _, .inr ⟨rfl, rfl, fun h => by have h2 : v.1 = 5 := h.2; omega⟩⟩
      · exact ⟨none, false, nomap_listPart _, .inr ⟨rfl, rfl, fun h => by have h2 : v.1 = 5 := h.2; omega⟩⟩
      · exact ⟨some b, true, is_mapPart _, .inl ⟨b, rfl, rfl, hok, hk, hp'⟩⟩
  · exact ⟨hb, .nilIface, false, rfl, none, false, nomap_nil, .inr ⟨rfl, rfl, fun h => by rw [hno] at h; simp at h⟩⟩

set_option maxHeartbeats 1600000 in
theorem mapOf_any (d N : Nat) (c0 c1 c2 c3 c4 : Value) (v : Vl d) (w : World) (hv : VSeg (fun b => b < N) w d (c0, c1, c2, c3, c4) v) (hN : N ≤ w.heap.size) :
    Calls Try.prog 31 #[.agg #[c0, c1, c2, c3, c4]] w (MapOf d v w) := by
  have HA : Hid (∀ o o' : Obj, Below w.heap.size w ((w.alloc o).alloc o') ∧ ((w.alloc o).alloc o').heap[w.heap.size + 1]? = some o') := fun o o' => ⟨((Below.refl _ _).alloc (Nat.le_refl _) o).alloc (by simp) o', by have := (MapKept.heap_alloc (w.alloc o) o').1; simpa using this⟩
  have HP : Hid (∀ o o' : Obj, Calls Try.prog 41 #[.agg #[c0, c1, c2, c3, c4]] ((w.alloc o).alloc o') (PartEnd d v ((w.alloc o).alloc o'))) := fun o o' => partOf_any d N c0 c1 c2 c3 c4 v _ (VSeg.agree (fun b (h : b < N) => (HA.out o o').1.block b (by omega)) d hv) (by simp; omega)
  clear hv
  go_enter Try.func31, Try.ntmps31
  go_wp2_with fail
  refine (HP.out _ _).mono ?_
  intro e w1 he
  obtain ⟨b1, p, f, rfl, mo, ok, hta, hres⟩ := part_map he
  have hR : w1.heap[w.heap.size + 1]? = some (.cells #[.map none] 53 (0, 0)) := (b1.block _ (by simp)).trans (HA.out _ _).2
  have hB1 := Below.on (HA.out _ _).1 b1
  have hlt : w.heap.size + 1 < w1.heap.size := (Array.getElem?_eq_some_iff.1 hR).1
  have hne : ¬ w.heap.size + 1 = w1.heap.size := by omega
  have hne' : ¬ w1.heap.size = w.heap.size + 1 := by omega
  have rc : ∀ o, (w1.alloc o).cell? ⟨w.heap.size + 1, 0, none⟩ = some (.map none) := fun o => by
    rw [cell_of_row (w1.alloc o) (w.heap.size + 1) 0 _ _ _ ((Below.heap_alloc w1 o _ hlt).trans hR)]
    rfl
  have rf : ∀ o, (w1.alloc o).frozen? ⟨w.heap.size + 1, 0, none⟩ = false := fun o => frozen_of_row _ _ _ _ _ ((Below.heap_alloc w1 o _ hlt).trans hR)
  have HR := hide' hR
  have HB1 := hide' hB1
  have HRes := hide' hres
  have Hb1 := hide' b1
  clear hR hB1 hres b1 he HP
  go_wp2_with fail
  have hrow : ((w1.setCell ⟨w.heap.size + 1, 0, none⟩ (.map mo)).alloc (.cells #[.map mo] 53)).heap[w.heap.size + 1]? = some (.cells #[.map mo] 53 (0, 0)) := (Below.heap_alloc _ _ _ (by simp [World.setCell]; omega)).trans (heap_setCell_same w1 _ 0 _ _ _ HR.out)
  have hc := cell_of_row _ _ 0 _ _ _ hrow
  have hg := grown1 w1 (w.heap.size + 1) 0 (.map mo)
  have hBf : Below w.heap.size w ((w1.setCell ⟨w.heap.size + 1, 0, none⟩ (.map mo)).alloc (.cells #[.map mo] 53)) := (HB1.out.grown hg (by omega) (by intro j hj; simp at hj; omega)).alloc (by simp [World.setCell]; omega) _
  have hsz : w1.heap.size ≤ ((w1.setCell ⟨w.heap.size + 1, 0, none⟩ (.map mo)).alloc (.cells #[.map mo] 53)).heap.size := by simp [World.setCell]
  refine bodyPost_ret (v := .tuple #[.agg #[.map mo], .bool ok]) (by simp [results, Try.results31, go_sem, hc]) rfl ?_
  refine ⟨hBf, ?_⟩
  rcases HRes.out with ⟨b, rfl, rfl, h1, h2, h3⟩ | ⟨rfl, rfl, h1⟩
  · refine .inl ⟨b, rfl, h1, h2, PSeg.carry (fun b' hb' => ?_) (fun b' hb' => ?_) d h3⟩
    · simp at hb'
      omega
    · simp at hb'
      exact (Below.heap_alloc _ _ _ (by simp [World.setCell]; omega)).trans (hg.block b' hb'.2 (by simp; omega))
  · exact .inr ⟨rfl, h1⟩
end Go.Proofs.Ytkklhdeecamifaa
