/-
  Texts that a law leans on, one behind the other; no statement is proved here.
-/
import Derived.Test.YteafpgaefphkfaaGreatDoorPk43
/-
  While a drawn value is bent: a place in it, and what is written there. No statement is proved here.
-/
namespace Go.Proofs.YteafpgaefphkfaaGreatDoor
open Go.RowKit
set_option linter.unusedVariables false
set_option linter.unusedSimpArgs false

/-- A place in the value: five cells of block b, from off on. -/
def PSt (B M : Nat) (rk : Nat → Nat) (ρ : Nat) (w : World) (g : Nat) (a : Option Addr) (cap : Nat) (cs : List Int) (rkx : Nat → Nat) (b off : Nat) (wx : World) : Prop :=
  BnS B M rk ρ w g a cap cs rkx wx ∧ B ≤ b ∧ ∃ (i : Nat) (cur : Array Value), off = i * 5 ∧ wx.heap[b]? = some (.cells cur 29 (0, 0)) ∧ i * 5 + 5 ≤ cur.size

section
variable {B M ρ : Nat} {rk rkx rk2 : Nat → Nat} {w wx wy wa wb : World} {g b off : Nat} {a : Option Addr} {cap : Nat} {cs : List Int}

theorem PSt.cus (h : PSt B M rk ρ w g a cap cs rkx b off wx) (hS : Hs B M rkx wy g a cap cs) (hc : Cus g wx wy) : PSt B M rk ρ w g a cap cs rkx b off wy := by
  obtain ⟨h1, h2, i, cur, h3, h4, h5⟩ := h
  have hl := (Array.getElem?_eq_some_iff.1 h4).1
  have hne := h1.1.ne_row h4 row3_v
  exact ⟨h1.cus hS hc, h2, i, cur, h3, (hc.1.block b hl (by simpa using hne)).trans h4, h5⟩

/-- The cells of a place. -/
theorem PSt.cells (h : PSt B M rk ρ w g a cap cs rkx b off wx) : ∃ (k n : Int) (a2 : Option Addr) (l2 p2 : Nat) (a3 : Option Addr) (l3 p3 : Nat) (a4 : Option Addr) (l4 p4 : Nat), (wx.cell? ⟨b, off, none⟩ = some (.int .i64 k) ∧ wx.cell? ⟨b, off + 1, none⟩ = some (.int .i64 n) ∧ wx.cell? ⟨b, off + 2, none⟩ = some (.slice a2 l2 p2) ∧ wx.cell? ⟨b, off + 3, none⟩ = some (.slice a3 l3 p3) ∧ wx.cell? ⟨b, off + 4, none⟩ = some (.slice a4 l4 p4)) ∧
    Grp B M rkx (rkx b) wx (.int .i64 k, .int .i64 n, .slice a2 l2 p2, .slice a3 l3 p3, .slice a4 l4 p4) ∧ ∀ j, wx.frozen? ⟨b, j, none⟩ = false := by
  obtain ⟨h1, h2, i, cur, h3, h4, h5⟩ := h
  obtain ⟨k, n, a2, l2, p2, a3, l3, p3, a4, l4, p4, h6, hG, hf, _⟩ := h1.1.1.grp_at h2 h4 h5 h3
  exact ⟨k, n, a2, l2, p2, a3, l3, p3, a4, l4, p4, h6, hG, hf⟩

/-- On to a part. -/
theorem PSt.down {k n : Int} {a2 : Option Addr} {l2 p2 : Nat} {a3 : Option Addr} {l3 p3 : Nat} {a4 : Option Addr} {l4 p4 j : Nat} (h : PSt B M rk ρ w g a cap cs rkx b off wx) (hG : Grp B M rkx (rkx b) wx (.int .i64 k, .int .i64 n, .slice a2 l2 p2, .slice a3 l3 p3, .slice a4 l4 p4)) (hj : j < l4) :
    ∃ c, a4 = some ⟨c, 0, none⟩ ∧ rkx c < rkx b ∧ PSt B M rk ρ w g a cap cs rkx c (j * 5) wx := by
  obtain ⟨ad, n', c', e, h1, h2, h3, ⟨rfl, rfl⟩ | ⟨q, cur, fr, rfl, hB, hp, hg, hc⟩⟩ := hG.2.2.2.2
  · simp only [Value.slice.injEq] at e; omega
  · simp only [Value.slice.injEq] at e
    obtain ⟨rfl, rfl, rfl⟩ := e
    obtain rfl : fr = (0, 0) := ((h.1.1.1 q hB cur _ fr hg).2.2 rfl).1
    exact ⟨q, rfl, hp, h.1, hB, j, cur, rfl, hg, by omega⟩

/-- One cell of the place is written. -/
theorem PSt.set {q f : Nat} {v : Value} (h : PSt B M rk ρ w g a cap cs rkx b off wx) (hq : q = off + f) (hf : f < 5)
    (hv : ∀ c0 c1 c2 c3 c4 : Value, Grp B M rkx (rkx b) wx (c0, c1, c2, c3, c4) → Grp B M rkx (rkx b) wx (if f = 0 then v else c0, if f = 1 then v else c1, if f = 2 then v else c2, if f = 3 then v else c3, if f = 4 then v else c4)) : BnS B M rk ρ w g a cap cs rkx (wx.setCell ⟨b, q, none⟩ v) := by
  obtain ⟨h1, h2, i, cur, h3, h4, h5⟩ := h
  subst hq h3
  exact bst_set (M' := M) h1 h2 h4 hf hv

theorem PSt.set_int {q f : Nat} {x : Int} (h : PSt B M rk ρ w g a cap cs rkx b off wx) (hq : q = off + f) (hf : f < 2) : BnS B M rk ρ w g a cap cs rkx (wx.setCell ⟨b, q, none⟩ (.int .i64 x)) := by
  refine h.set hq (by omega) fun c0 c1 c2 c3 c4 hG => ?_
  obtain rfl | rfl : f = 0 ∨ f = 1 := by omega
  · exact ⟨⟨x, rfl⟩, hG.2.1, hG.2.2.1, hG.2.2.2.1, hG.2.2.2.2⟩
  · exact ⟨hG.1, ⟨x, rfl⟩, hG.2.2.1, hG.2.2.2.1, hG.2.2.2.2⟩

theorem PSt.alloc (h : PSt B M rk ρ w g a cap cs rkx b off wx) (o : Obj) (hk : Rks rkx rk2 wx.heap.size) (hw : Hw B M rk2 (wx.alloc o)) : PSt B M rk ρ w g a cap cs rk2 b off (wx.alloc o) := by
  obtain ⟨h1, h2, i, cur, h3, h4, h5⟩ := h
  exact ⟨bst_alloc h1 o hk hw, h2, i, cur, h3, (Below.heap_alloc wx o b (Array.getElem?_eq_some_iff.1 h4).1).trans h4, h5⟩

theorem PSt.more {M' : Nat} (h : PSt B M rk ρ w g a cap cs rkx b off wx) (hM : M ≤ M') : PSt B M' rk ρ w g a cap cs rkx b off wx := ⟨h.1.more hM, h.2⟩

/-- The heap is the same, whatever was drawn. -/
theorem PSt.heap (h : PSt B M rk ρ w g a cap cs rkx b off wx) (e0 : wy.heap = wx.heap) (e1 : wy.os = wx.os) (e2 : wy.tape = wx.tape) (e3 : wy.output = wx.output) : PSt B M rk ρ w g a cap cs rkx b off wy := by
  obtain ⟨h1, h2, i, cur, h3, h4, h5⟩ := h
  exact ⟨h1.on (h1.1.heap e0) (Rks.refl _ _) (Shp.heap e0) ⟨e1, e2, e3, by rw [e0]; exact Nat.le_refl _, fun k _ => by rw [e0]⟩, h2, i, cur, h3, by rw [e0]; exact h4, h5⟩

/-- Behind an append to another row. -/
theorem PSt.append {row : Option Nat} (h : PSt B M rk ρ w g a cap cs rkx b off wx) (hk : Rks rkx rk2 wx.heap.size) (hw : Hw B M rk2 wy) (hs : Shp wx wy) (hg : wx.grownBy wy row) (hr : ∀ k, row = some k → B ≤ k ∧ k ≠ g) (hb : row ≠ some b) : PSt B M rk ρ w g a cap cs rk2 b off wy := by
  obtain ⟨h1, h2, i, cur, h3, h4, h5⟩ := h
  exact ⟨bst_append h1 hk hw hs hg hr, h2, i, cur, h3, (hg.block b (Array.getElem?_eq_some_iff.1 h4).1 (Ne.symm hb)).trans h4, h5⟩

theorem PSt.row_ne {M' s : Nat} {T : TypeId} {p : Nat → Prop} {v : Value} (h : PSt B M rk ρ w g a cap cs rkx b off wx) (hv : Sli B M' T s p wx v) (hT : T ≠ 29 ∨ ∀ c, p c → c ≠ b) : v.ownBlock ≠ some b := by
  obtain ⟨h1, h2, i, cur, h3, h4, h5⟩ := h
  obtain ⟨ad, n, c, rfl, _, _, _, ⟨rfl, _⟩ | ⟨q, cur', fr, rfl, hB, hp, hg, _⟩⟩ := hv
  · simp [Value.ownBlock]
  · simp only [Value.ownBlock, ne_eq, Option.some.injEq]
    rintro rfl
    rcases hT with hT | hT
    · rw [h4] at hg
      simp only [Option.some.injEq, Obj.cells.injEq] at hg
      exact hT hg.2.1.symm
    · exact hT _ hp rfl

/-- A byte is appended to the text of the place. -/
theorem PSt.app_s {k n : Int} {a2 : Option Addr} {l2 p2 : Nat} {a3 : Option Addr} {l3 p3 : Nat} {a4 : Option Addr} {l4 p4 : Nat} (h : PSt B M rk ρ w g a cap cs rkx b off wx) (hG : Grp B M rkx (rkx b) wx (.int .i64 k, .int .i64 n, .slice a2 l2 p2, .slice a3 l3 p3, .slice a4 l4 p4)) (hM : M ≤ 100000) (ty : TypeId) :
    ∃ (g' cap' : Nat) (wb : World), (Builtin.append_ #[22, 22] ty #[.slice a2 l2 p2, .slice (some ⟨wx.heap.size, 0, none⟩) 1 1]).run Tryz.prog (wx.alloc (.cells #[.int .u8 7] 5)) = .ok (.slice (some ⟨g', 0, none⟩) (l2 + 1) cap') wb ∧
      (∃ u, wb.cell? ⟨b, off + 2, none⟩ = some u) ∧ wb.frozen? ⟨b, off + 2, none⟩ = false ∧ BnS B (M + 1) rk ρ w g a cap cs rkx (wb.setCell ⟨b, off + 2, none⟩ (.slice (some ⟨g', 0, none⟩) (l2 + 1) cap')) := by
  have hA := h.alloc (.cells #[.int .u8 7] 5) (Rks.refl _ _) (h.1.1.1.alloc_b #[.int .u8 7] (0, 0) (.inl rfl) fun j c hc => by
    have hj : j = 0 := by have := (Array.getElem?_eq_some_iff.1 hc).1; simp at this; omega
    subst hj
    simp at hc
    exact ⟨7, by simp [Byt], hc.symm⟩)
  have hS := hG.2.2.1.shp (q := fun _ => True) row3_b (Shp.alloc wx (.cells #[.int .u8 7] 5)) fun _ _ h => h
  have hl2 : l2 ≤ M := by obtain ⟨_, _, _, e, h1, _⟩ := hG.2.2.1; simp only [Value.slice.injEq] at e; omega
  obtain ⟨g', cap', wb, hrun, hHb, hsl, hSb, hgb⟩ := run_append_hb _ ty B M rkx a2 l2 p2 hS hA.1.1.1 (by have := hA.1.1.base; exact this) (by omega) 7 (by simp [Byt]) ⟨wx.heap.size, 0, none⟩ 1 (by
    intro j u hu
    rw [Addr.add_lit, Nat.zero_add, cell_of_row _ wx.heap.size j #[.int .u8 7] 5 (0, 0) (heap_alloc_new wx _)]
    simpa using hu)
  have hB := (hA.append (Rks.refl _ _) hHb hSb hgb (hS.row hA.1.1 row3_b) (hA.row_ne hS (.inl (by decide)))).more (Nat.le_succ M)
  obtain ⟨_, _, _, _, _, _, _, _, _, _, _, h5, _, hf⟩ := hB.cells
  refine ⟨g', cap', wb, hrun, ⟨_, h5.2.2.1⟩, hf _, hB.set rfl (by omega) fun c0 c1 c2 c3 c4 hG => ⟨hG.1, hG.2.1, hsl (M + 1) (by omega), hG.2.2.2.1, hG.2.2.2.2⟩⟩

/-- A text is appended to the keys of the place. -/
theorem PSt.app_k {k n : Int} {a2 : Option Addr} {l2 p2 : Nat} {a3 : Option Addr} {l3 p3 : Nat} {a4 : Option Addr} {l4 p4 : Nat} (h : PSt B M rk ρ w g a cap cs rkx b off wx) (hG : Grp B M rkx (rkx b) wx (.int .i64 k, .int .i64 n, .slice a2 l2 p2, .slice a3 l3 p3, .slice a4 l4 p4)) (hM1 : 64 ≤ M) (hM : M ≤ 100000) (ty : TypeId) :
    ∃ (g' cap' : Nat) (wb : World), (Builtin.append_ #[26, 26] ty #[.slice a3 l3 p3, .slice (some ⟨wx.heap.size + 1, 0, none⟩) 1 1]).run Tryz.prog ((wx.alloc (.cells #[.int .u8 97] 5 (1, 1 + 1))).alloc (.cells #[.slice (some ⟨wx.heap.size, 0, none⟩) 1 1] 22)) = .ok (.slice (some ⟨g', 0, none⟩) (l3 + 1) cap') wb ∧
      (∃ u, wb.cell? ⟨b, off + 3, none⟩ = some u) ∧ wb.frozen? ⟨b, off + 3, none⟩ = false ∧ BnS B (M + 1) rk ρ w g a cap cs rkx (wb.setCell ⟨b, off + 3, none⟩ (.slice (some ⟨g', 0, none⟩) (l3 + 1) cap')) := by
  have hA := h.alloc (.cells #[.int .u8 97] 5 (1, 1 + 1)) (Rks.refl _ _) (h.1.1.1.alloc_b #[.int .u8 97] (1, 1 + 1) (.inr (by simp)) fun j c hc => by
    have hj : j = 0 := by have := (Array.getElem?_eq_some_iff.1 hc).1; simp at this; omega
    subst hj
    simp at hc
    exact ⟨97, by simp [Byt], hc.symm⟩)
  have hU : Sli B M 5 1 (fun _ => True) (wx.alloc (.cells #[.int .u8 97] 5 (1, 1 + 1))) (.slice (some ⟨wx.heap.size, 0, none⟩) 1 1) := ⟨_, 1, 1, rfl, by omega, by omega, by unfold maxLen; omega, .inr ⟨wx.heap.size, _, _, rfl, h.1.1.base, trivial, heap_alloc_new wx _, rfl⟩⟩
  have hA2 := hA.alloc (.cells #[.slice (some ⟨wx.heap.size, 0, none⟩) 1 1] 22) (Rks.refl _ _) (hA.1.1.1.alloc_k _ hU)
  have hSh := (Shp.alloc wx (.cells #[.int .u8 97] 5 (1, 1 + 1))).trans (Shp.alloc (wx.alloc (.cells #[.int .u8 97] 5 (1, 1 + 1))) (.cells #[.slice (some ⟨wx.heap.size, 0, none⟩) 1 1] 22))
  have hS := hG.2.2.2.1.shp (q := fun _ => True) row3_k hSh fun _ _ h => h
  have hl3 : l3 ≤ M := by obtain ⟨_, _, _, e, h1, _⟩ := hG.2.2.2.1; simp only [Value.slice.injEq] at e; omega
  obtain ⟨g', cap', wb, hrun, hHb, hsl, hSb, hgb⟩ := run_append_hk _ ty B B M rkx a3 l3 p3 hS hA2.1.1.1 (Nat.le_refl _) (by have := hA2.1.1.base; exact this) (by omega) (.slice (some ⟨wx.heap.size, 0, none⟩) 1 1) (hU.shp row3_b (Shp.alloc _ _) fun _ _ h => h) ⟨wx.heap.size + 1, 0, none⟩ 1 (by
    intro j u hu
    have hn := heap_alloc_new (wx.alloc (.cells #[.int .u8 97] 5 (1, 1 + 1))) (.cells #[.slice (some ⟨wx.heap.size, 0, none⟩) 1 1] 22)
    simp only [World.size_alloc] at hn
    rw [Addr.add_lit, Nat.zero_add, cell_of_row _ (wx.heap.size + 1) j _ _ _ hn]
    simpa using hu)
  have hB := (hA2.append (Rks.refl _ _) hHb hSb hgb (hS.row hA2.1.1 row3_k) (hA2.row_ne hS (.inl (by decide)))).more (Nat.le_succ M)
  obtain ⟨_, _, _, _, _, _, _, _, _, _, _, h5, _, hf⟩ := hB.cells
  refine ⟨g', cap', wb, hrun, ⟨_, h5.2.2.2.1⟩, hf _, hB.set rfl (by omega) fun c0 c1 c2 c3 c4 hG => ⟨hG.1, hG.2.1, hG.2.2.1, hsl (M + 1) (by omega), hG.2.2.2.2⟩⟩
end

theorem push_modify_hw {α : Type} (xs : Array α) (x : α) (f : α → α) : (xs.push x).modify xs.size f = xs.push (f x) := by
  apply Array.ext_getElem?
  intro i
  rw [Array.getElem?_modify]
  by_cases h : xs.size = i
  · subst h
    simp
  · rw [if_neg h]
    simp [Array.getElem?_push, Ne.symm h]

theorem conv_same_hw (cs : Array Value) (n : Nat) (hn : cs.size = n) (w : World) : (convert 22 22 (.slice (some ⟨w.heap.size, 0, none⟩) n n)).run Tryz.prog (w.alloc (.cells cs 5)) = .ok (.slice (some ⟨w.heap.size, 0, none⟩) n n) (w.alloc (.cells cs 5 (n, n + 1))) := by
  have hsh : (w.alloc (.cells cs 5)).shape? w.heap.size = some (5, n) := by
    unfold World.shape?
    rw [heap_alloc_new w (.cells cs 5)]
    rw [← hn]
  have hfr : (w.alloc (.cells cs 5)).freeze ⟨w.heap.size, n, none⟩ 1 = w.alloc (.cells cs 5 (n, n + 1)) := by
    unfold World.freeze
    rw [if_neg (by decide)]
    show ({ w.alloc (.cells cs 5) with heap := (w.heap.push (.cells cs 5)).modify w.heap.size _ } : World) = _
    rw [push_modify_hw]
    rfl
  simp [convert, run_underlying Tryz.underlying22, run_underlying Tryz.underlying5, markStringish, hsh, hfr]
end Go.Proofs.YteafpgaefphkfaaGreatDoor
