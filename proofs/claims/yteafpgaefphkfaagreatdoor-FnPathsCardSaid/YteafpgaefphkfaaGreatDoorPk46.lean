/-
  Texts that a law leans on, one behind the other; no statement is proved here.
-/
import Derived.Test.YteafpgaefphkfaaGreatDoorPk45
import Derived.OwnWalk
/-
  While a drawn value is bent: the laws for the walk. No statement is proved here.
-/
namespace Go.Proofs.YteafpgaefphkfaaGreatDoor
open Go.RowKit
set_option linter.unusedVariables false
set_option linter.unusedSimpArgs false

section
variable {B M ρ : Nat} {rk rkx rk2 : Nat → Nat} {w wx wy wa wb : World} {g b off : Nat} {a : Option Addr} {cap : Nat} {cs : List Int}

theorem made_groups (Q : Value × Value × Value × Value × Value → Prop) (n : Nat) (h : Q (.int .i64 0, .int .i64 0, .slice none 0 0, .slice none 0 0, .slice none 0 0)) : Gps Q (madeCells (Value.cells (.agg #[.int .i64 0, .int .i64 0, .slice none 0 0, .slice none 0 0, .slice none 0 0])) (n * 5)).toList := by
  have e : madeCells (Value.cells (.agg #[.int .i64 0, .int .i64 0, .slice none 0 0, .slice none 0 0, .slice none 0 0])) (n * 5) = Builtin.zeroCells (Value.cells (.agg #[.int .i64 0, .int .i64 0, .slice none 0 0, .slice none 0 0, .slice none 0 0])) n := by
    unfold madeCells Builtin.zeroCells
    rw [show (Value.cells (.agg #[.int .i64 0, .int .i64 0, .slice none 0 0, .slice none 0 0, .slice none 0 0])).size = 5 from rfl]
  rw [e]
  exact Gps.zero n h

/-- A list of zero values in the value's place. -/
theorem bst_make {n : Nat} (h : BnS B M rk ρ w g a cap cs rkx wx) (hBw : B ≤ w.heap.size) (hn : n ≤ M) (hn2 : n ≤ 1000) :
    ∃ rk2, BnS B M rk ρ w g a cap cs rk2 (set5 (wx.alloc (.cells (madeCells (Value.cells (.agg #[.int .i64 0, .int .i64 0, .slice none 0 0, .slice none 0 0, .slice none 0 0])) (n * 5)) 29)) w.heap.size 0 (.int .i64 4) (.int .i64 0) (.slice none 0 0) (.slice none 0 0) (.slice (some ⟨wx.heap.size, 0, none⟩) n n)) := by
  have hRa : Rks rkx (rkUp rkx wx.heap.size 0) wx.heap.size := rkUp_old _ _ _
  have hat := rkUp_at rkx wx.heap.size 0
  generalize rkUp rkx wx.heap.size 0 = rk2 at *
  have hsz : (madeCells (Value.cells (.agg #[.int .i64 0, .int .i64 0, .slice none 0 0, .slice none 0 0, .slice none 0 0])) (n * 5)).size = n * 5 := size_madeCells _ _
  have hgr := made_groups (Grp B M rk2 (rk2 wx.heap.size) (wx.alloc (.cells (madeCells (Value.cells (.agg #[.int .i64 0, .int .i64 0, .slice none 0 0, .slice none 0 0, .slice none 0 0])) (n * 5)) 29))) n (grp_leaf _ _ _ _ _ _ _)
  generalize madeCells (Value.cells (.agg #[.int .i64 0, .int .i64 0, .slice none 0 0, .slice none 0 0, .slice none 0 0])) (n * 5) = mc at *
  have hA := bst_alloc h (.cells mc 29) hRa (h.1.1.alloc _ hRa fun c T fr e => by
    simp only [Obj.cells.injEq] at e
    obtain ⟨rfl, rfl, rfl⟩ := e
    exact ⟨fun h => absurd h (by decide), fun h => absurd h (by decide), fun _ => ⟨rfl, fun j c0 c1 c2 c3 c4 e0 e1 e2 e3 e4 => hgr j c0 c1 c2 c3 c4 (by rwa [Array.getElem?_toList]) (by rwa [Array.getElem?_toList]) (by rwa [Array.getElem?_toList]) (by rwa [Array.getElem?_toList]) (by rwa [Array.getElem?_toList])⟩⟩)
  obtain ⟨k, n', a2, l2, p2, a3, l3, p3, a4, l4, p4, hVa, _⟩ := hA.2.1.form hA.1.1 hBw
  have hGa : Grp B M rk2 (ρ + 8) (wx.alloc (.cells mc 29)) (.int .i64 4, .int .i64 0, .slice none 0 0, .slice none 0 0, .slice (some ⟨wx.heap.size, 0, none⟩) n n) :=
    ⟨⟨4, rfl⟩, ⟨0, rfl⟩, sli_nil _ _ _ _ _ _, sli_nil _ _ _ _ _ _, _, n, n, rfl, hn, Nat.le_refl _, by unfold maxLen; omega, .inr ⟨wx.heap.size, _, (0, 0), rfl, h.1.base, by show rk2 wx.heap.size < _; omega, heap_alloc_new wx _, hsz⟩⟩
  have hkV : rk2 w.heap.size = ρ + 8 := hA.2.2.2.2.2.2.1
  obtain ⟨k1, k2⟩ := hA.1.1.set5 hVa (by rw [hkV]; exact hGa)
  have hgV := hA.1.ne_row hVa row3_v
  have hoth : ∀ q, q ≠ w.heap.size → (set5 (wx.alloc (.cells mc 29)) w.heap.size 0 (.int .i64 4) (.int .i64 0) (.slice none 0 0) (.slice none 0 0) (.slice (some ⟨wx.heap.size, 0, none⟩) n n)).heap[q]? = (wx.alloc (.cells mc 29)).heap[q]? := fun q hq => set5_other (wx.alloc (.cells mc 29)) w.heap.size 0 _ _ _ _ _ q hq
  have h8 := set5_grown (wx.alloc (.cells mc 29)) w.heap.size 0 (.int .i64 4) (.int .i64 0) (.slice none 0 0) (.slice none 0 0) (.slice (some ⟨wx.heap.size, 0, none⟩) n n)
  generalize set5 (wx.alloc (.cells mc 29)) w.heap.size 0 (.int .i64 4) (.int .i64 0) (.slice none 0 0) (.slice none 0 0) (.slice (some ⟨wx.heap.size, 0, none⟩) n n) = wf at *
  exact ⟨rk2, hA.on (hA.1.on k1 (hoth g (Ne.symm hgV)) (fun q hq => hoth q (by omega))) (Rks.refl _ _) k2 ⟨h8.os, h8.tape, h8.output, h8.size, fun q hq => hoth q (by omega)⟩⟩

/-- A store into an old block and a new block: the order does not count. -/
theorem setCell_alloc (w : World) (V j : Nat) (v : Value) (o : Obj) (h : V < w.heap.size) : (w.alloc o).setCell ⟨V, j, none⟩ v = (w.setCell ⟨V, j, none⟩ v).alloc o := by
  have hh : ((w.alloc o).setCell ⟨V, j, none⟩ v).heap = ((w.setCell ⟨V, j, none⟩ v).alloc o).heap := by
    apply Array.ext_getElem?
    intro q
    by_cases hq : q < w.heap.size
    · rw [Below.heap_alloc (w.setCell ⟨V, j, none⟩ v) o q (by simpa [World.setCell] using hq)]
      by_cases he : q = V
      · subst he
        simp only [World.setCell, Array.getElem?_modify]
        rw [Below.heap_alloc w o q h]
      · rw [Below.heap_setCell _ ⟨V, j, none⟩ v q he, Below.heap_setCell _ ⟨V, j, none⟩ v q he, Below.heap_alloc w o q hq]
    · have hne : q ≠ V := by omega
      rw [Below.heap_setCell _ ⟨V, j, none⟩ v q hne]
      by_cases he : q = w.heap.size
      · subst he
        have h1 := heap_alloc_new w o
        have h2 := heap_alloc_new (w.setCell ⟨V, j, none⟩ v) o
        rw [h1]
        simp only [World.setCell, Array.size_modify] at h2
        exact h2.symm
      · rw [Array.getElem?_eq_none (by simp; omega), Array.getElem?_eq_none (by simp [World.setCell]; omega)]
  show ({ heap := ((w.alloc o).setCell ⟨V, j, none⟩ v).heap, tape := w.tape, drawn := w.drawn, os := w.os, output := w.output } : World) = { heap := ((w.setCell ⟨V, j, none⟩ v).alloc o).heap, tape := w.tape, drawn := w.drawn, os := w.os, output := w.output }
  rw [hh]
theorem set5_alloc (w : World) (V : Nat) (c0 c1 c2 c3 c4 : Value) (o : Obj) (h : V < w.heap.size) : set5 (w.alloc o) V 0 c0 c1 c2 c3 c4 = (set5 w V 0 c0 c1 c2 c3 c4).alloc o := by
  unfold set5
  rw [setCell_alloc _ _ _ _ _ h, setCell_alloc _ _ _ _ _ (by simpa [World.setCell] using h), setCell_alloc _ _ _ _ _ (by simpa [World.setCell] using h), setCell_alloc _ _ _ _ _ (by simpa [World.setCell] using h), setCell_alloc _ _ _ _ _ (by simpa [World.setCell] using h)]

/-- 'make([]Value, n)'. -/
theorem wpList_make_hw {ops : Array Oper} {rest : List Oper} {o : Oper} {ac : Act} {Q : Exit → Act → World → Prop} (hg : o.guard = none) (l c : Operand) (hop : o.op = Op.makeSlice 27 l c)
    (kl kc : IntKind) (L C : Int) (n : Nat) (hl : ac.eval l = .int kl L) (hc : ac.eval c = .int kc C) (hL : L = (n : Int)) (hC : C = (n : Int)) (hn : n ≤ 1000)
    (hK : wpList Tryz.prog ops Q rest (ac.put o.dst (.slice (some ⟨wx.heap.size, 0, none⟩) n n)) (wx.alloc (.cells (madeCells (Value.cells (.agg #[.int .i64 0, .int .i64 0, .slice none 0 0, .slice none 0 0, .slice none 0 0])) (n * 5)) 29))) :
    wpList Tryz.prog ops Q (o :: rest) ac wx := by
  refine wpList_plain hg fun K hK' => ?_
  obtain ⟨i, hi, hz0, hz1, hz2⟩ := info_parts info_valueT
  have hr := run_make (P := Tryz.prog) wx 27 29 i _ Tryz.underlying27 hi hz0 kl kc n n (by omega) (Int.le_refl _) (by rw [hz2]; omega) (by omega)
  simp only [Int.toNat_natCast, hz1] at hr
  subst hL
  subst hC
  unfold Oper.wp
  simp [execOp, hop, hl, hc, hr, Result.andThen]
  exact hK' _ _ hK

theorem wpList_app_s {k n : Int} {a2 : Option Addr} {l2 p2 : Nat} {a3 : Option Addr} {l3 p3 : Nat} {a4 : Option Addr} {l4 p4 : Nat} {ops : Array Oper} {rest : List Oper} {o : Oper} {ac : Act} {Q : Exit → Act → World → Prop} (hgd : o.guard = none) (s x : Operand) (ho : o.op = .call { callee := .builtin .append, args := #[s, x], argTypes := #[22, 22] })
    (h : PSt B M rk ρ w g a cap cs rkx b off wx) (hG : Grp B M rkx (rkx b) wx (.int .i64 k, .int .i64 n, .slice a2 l2 p2, .slice a3 l3 p3, .slice a4 l4 p4)) (hM : M ≤ 100000) (hs : ac.eval s = .slice a2 l2 p2) (hx : ac.eval x = .slice (some ⟨wx.heap.size, 0, none⟩) 1 1)
    (hk : ∀ (g' cap' : Nat) (wb : World), (∃ u, wb.cell? ⟨b, off + 2, none⟩ = some u) → wb.frozen? ⟨b, off + 2, none⟩ = false → BnS B (M + 1) rk ρ w g a cap cs rkx (wb.setCell ⟨b, off + 2, none⟩ (.slice (some ⟨g', 0, none⟩) (l2 + 1) cap')) →
      wpList Tryz.prog ops Q rest (ac.put o.dst (.slice (some ⟨g', 0, none⟩) (l2 + 1) cap')) wb) : wpList Tryz.prog ops Q (o :: rest) ac (wx.alloc (.cells #[.int .u8 7] 5)) := by
  refine wpList_plain hgd fun K hK => ?_
  obtain ⟨g', cap', wb, hrun, r1, r2, r3⟩ := h.app_s hG hM o.type
  unfold Oper.wp execOp
  simp only [ho, resolve, invoke, builtin, Sem.run_bind, Sem.run_pure, Result.andThen_ok, List.map_toArray, List.map_cons, List.map_nil, hs, hx, hrun]
  exact hK _ _ (hk g' cap' wb r1 r2 r3)
theorem wpList_app_k {k n : Int} {a2 : Option Addr} {l2 p2 : Nat} {a3 : Option Addr} {l3 p3 : Nat} {a4 : Option Addr} {l4 p4 : Nat} {ops : Array Oper} {rest : List Oper} {o : Oper} {ac : Act} {Q : Exit → Act → World → Prop} (hgd : o.guard = none) (s x : Operand) (ho : o.op = .call { callee := .builtin .append, args := #[s, x], argTypes := #[26, 26] })
    (h : PSt B M rk ρ w g a cap cs rkx b off wx) (hG : Grp B M rkx (rkx b) wx (.int .i64 k, .int .i64 n, .slice a2 l2 p2, .slice a3 l3 p3, .slice a4 l4 p4)) (hM1 : 64 ≤ M) (hM : M ≤ 100000) (hs : ac.eval s = .slice a3 l3 p3) (hx : ac.eval x = .slice (some ⟨wx.heap.size + 1, 0, none⟩) 1 1)
    (hk : ∀ (g' cap' : Nat) (wb : World), (∃ u, wb.cell? ⟨b, off + 3, none⟩ = some u) → wb.frozen? ⟨b, off + 3, none⟩ = false → BnS B (M + 1) rk ρ w g a cap cs rkx (wb.setCell ⟨b, off + 3, none⟩ (.slice (some ⟨g', 0, none⟩) (l3 + 1) cap')) →
      wpList Tryz.prog ops Q rest (ac.put o.dst (.slice (some ⟨g', 0, none⟩) (l3 + 1) cap')) wb) : wpList Tryz.prog ops Q (o :: rest) ac ((wx.alloc (.cells #[.int .u8 97] 5 (1, 1 + 1))).alloc (.cells #[.slice (some ⟨wx.heap.size, 0, none⟩) 1 1] 22)) := by
  refine wpList_plain hgd fun K hK => ?_
  obtain ⟨g', cap', wb, hrun, r1, r2, r3⟩ := h.app_k hG hM1 hM o.type
  unfold Oper.wp execOp
  simp only [ho, resolve, invoke, builtin, Sem.run_bind, Sem.run_pure, Result.andThen_ok, List.map_toArray, List.map_cons, List.map_nil, hs, hx, hrun]
  exact hK _ _ (hk g' cap' wb r1 r2 r3)
theorem step_app_v {k n : Int} {a2 : Option Addr} {l2 p2 : Nat} {a3 : Option Addr} {l3 p3 : Nat} {a4 : Option Addr} {l4 p4 : Nat} {ops : Array Oper} {o : Oper} {ac : Act} {K : Act → World → Prop} {Q : Exit → Act → World → Prop} {E : Prop} (hgd : o.guard = none) (s x : Operand) (ho : o.op = .call { callee := .builtin .append, args := #[s, x], argTypes := #[27, 27] })
    (h : PSt B M rk ρ w g a cap cs rkx b off wx) (hG : Grp B M rkx (rkx b) wx (.int .i64 k, .int .i64 n, .slice a2 l2 p2, .slice a3 l3 p3, .slice a4 l4 p4)) (hr : 1 ≤ rkx b) (hM : M ≤ 100000) (hs : ac.eval s = .slice a4 l4 p4) (hx : ac.eval x = .slice (some ⟨wx.heap.size, 0, none⟩) 1 1) (hwa : Alw wx (.cells #[.int .i64 0, .int .i64 0, .slice none 0 0, .slice none 0 0, .slice none 0 0] 29) wa)
    (hk : ∀ (g' cap' : Nat) (wb : World), AppV B (M + 1) rk ρ w g a cap cs b off l4 g' cap' wb → K (ac.put o.dst (.slice (some ⟨g', 0, none⟩) (l4 + 1) cap')) wb) : if Region.wanted o (yielded ops ac.tmps) = true then Oper.wp Tryz.prog o ac wa K Q else E := by
  have hw : Region.wanted o (yielded ops ac.tmps) = true := by simp [Region.wanted, hgd]
  rw [if_pos hw]
  obtain ⟨g', cap', wb, hrun, r1⟩ := h.app_v hG hr hM hwa o.type
  unfold Oper.wp
  simp [execOp, ho, resolve, invoke, builtin, hs, hx, hrun, Result.andThen]
  exact hk g' cap' wb r1
end
end Go.Proofs.YteafpgaefphkfaaGreatDoor
