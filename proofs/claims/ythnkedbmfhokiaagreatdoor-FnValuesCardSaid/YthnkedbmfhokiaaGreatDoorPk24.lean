/-
  Texts that a law leans on, one behind the other; no statement is proved here.
-/
import Derived.Test.YthnkedbmfhokiaaGreatDoorPk23
/-
  While a drawn value is bent: a place in it, and what is written there. No statement is proved here.
-/
namespace Go.Proofs.YthnkedbmfhokiaaGreatDoor
open Go.RowKit
set_option linter.unusedVariables false
set_option linter.unusedSimpArgs false

/-- A place in the value: five cells of block b, from off on. -/
def PSt (B M : Nat) (rk : Nat → Nat) (ρ : Nat) (w : World) (g : Nat) (a : Option Addr) (cap : Nat) (cs : List Int) (rkx : Nat → Nat) (b off : Nat) (wx : World) : Prop :=
  BnS B M rk ρ w g a cap cs rkx wx ∧ B ≤ b ∧ ∃ (i : Nat) (cur : Array Value), off = i * 5 ∧ wx.heap[b]? = some (.cells cur 26 (0, 0)) ∧ i * 5 + 5 ≤ cur.size

section
variable {B M ρ : Nat} {rk rkx rk2 : Nat → Nat} {w wx wy wa wb : World} {g b off : Nat} {a : Option Addr} {cap : Nat} {cs : List Int}

theorem PSt.cus (h : PSt B M rk ρ w g a cap cs rkx b off wx) (hS : Hs B M rkx wy g a cap cs) (hc : Cus g wx wy) : PSt B M rk ρ w g a cap cs rkx b off wy := by
  obtain ⟨h1, h2, i, cur, h3, h4, h5⟩ := h
  have hl := (Array.getElem?_eq_some_iff.1 h4).1
  have hne := h1.1.ne_row h4 row3_v
  exact ⟨h1.cus hS hc, h2, i, cur, h3, (hc.1.block b hl (by simpa using hne)).trans h4, h5⟩

/-- The cells of a place. -/
theorem PSt.cells (h : PSt B M rk ρ w g a cap cs rkx b off wx) : ∃ (k n : Int) (a2 : Option Addr) (l2 p2 : Nat) (a3 : Option Addr) (l3 p3 : Nat) (a4 : Option Addr) (l4 p4 : Nat), (wx.cell? ⟨b, off, none⟩ = some (.int .i64 k) ∧ wx.cell? ⟨b, off + 1, none⟩ = some (.int .i64 n) ∧ wx.cell? ⟨b, off + 2, none⟩ = some (.slice a2 l2 p2) ∧ wx.cell? ⟨b, off + 3, none⟩ = some (.slice a3 l3 p3) ∧ wx.cell? ⟨b, off + 4, none⟩ = some (.slice a4 l4 p4)) ∧
    Grp B M rkx (rkx b) wx (.int .i64 k, .int .i64 n, .slice a2 l2 p2, .slice a3 l3 p3, .slice a4 l4 p4) ∧ ∀ j, wx.frozen? ⟨b, j, none⟩ = false := by
  obtain ⟨h1, h2, i, cur, h3, h4, h5⟩ := h
  obtain ⟨k, n, a2, l2, p2, a3, l3, p3, a4, l4, p4, h6, hG, hf, _⟩ := h1.1.1.grp_at h2 h4 h5 h3
  exact ⟨k, n, a2, l2, p2, a3, l3, p3, a4, l4, p4, h6, hG, hf⟩

/-- On to a part. -/
theorem PSt.down {k n : Int} {a2 : Option Addr} {l2 p2 : Nat} {a3 : Option Addr} {l3 p3 : Nat} {a4 : Option Addr} {l4 p4 j : Nat} (h : PSt B M rk ρ w g a cap cs rkx b off wx) (hG : Grp B M rkx (rkx b) wx (.int .i64 k, .int .i64 n, .slice a2 l2 p2, .slice a3 l3 p3, .slice a4 l4 p4)) (hj : j < l4) :
    ∃ c, a4 = some ⟨c, 0, none⟩ ∧ rkx c < rkx b ∧ PSt B M rk ρ w g a cap cs rkx c (j * 5) wx := by
  obtain ⟨ad, n', c', e, h1, h2, h3, ⟨rfl, rfl⟩ | ⟨q, cur, fr, rfl, hB, hp, hg, hc⟩⟩ := hG.2.2.2.2
  · simp only [Value.slice.injEq] at e; omega
  · simp only [Value.slice.injEq] at e
    obtain ⟨rfl, rfl, rfl⟩ := e
    obtain rfl : fr = (0, 0) := ((h.1.1.1 q hB cur _ fr hg).2.2 rfl).1
    exact ⟨q, rfl, hp, h.1, hB, j, cur, rfl, hg, by omega⟩

/-- One cell of the place is written. -/
theorem PSt.set {q f : Nat} {v : Value} (h : PSt B M rk ρ w g a cap cs rkx b off wx) (hq : q = off + f) (hf : f < 5)
    (hv : ∀ c0 c1 c2 c3 c4 : Value, Grp B M rkx (rkx b) wx (c0, c1, c2, c3, c4) → Grp B M rkx (rkx b) wx (if f = 0 then v else c0, if f = 1 then v else c1, if f = 2 then v else c2, if f = 3 then v else c3, if f = 4 then v else c4)) : BnS B M rk ρ w g a cap cs rkx (wx.setCell ⟨b, q, none⟩ v) := by
  obtain ⟨h1, h2, i, cur, h3, h4, h5⟩ := h
  subst hq h3
  exact bst_set (M' := M) h1 h2 h4 hf hv

theorem PSt.set_int {q f : Nat} {x : Int} (h : PSt B M rk ρ w g a cap cs rkx b off wx) (hq : q = off + f) (hf : f < 2) : BnS B M rk ρ w g a cap cs rkx (wx.setCell ⟨b, q, none⟩ (.int .i64 x)) := by
  refine h.set hq (by omega) fun c0 c1 c2 c3 c4 hG => ?_
  obtain rfl | rfl : f = 0 ∨ f = 1 := by omega
  · exact ⟨⟨x, rfl⟩, hG.2.1, hG.2.2.1, hG.2.2.2.1, hG.2.2.2.2⟩
  · exact ⟨hG.1, ⟨x, rfl⟩, hG.2.2.1, hG.2.2.2.1, hG.2.2.2.2⟩

theorem PSt.alloc (h : PSt B M rk ρ w g a cap cs rkx b off wx) (o : Obj) (hk : Rks rkx rk2 wx.heap.size) (hw : Hw B M rk2 (wx.alloc o)) : PSt B M rk ρ w g a cap cs rk2 b off (wx.alloc o) := by
  obtain ⟨h1, h2, i, cur, h3, h4, h5⟩ := h
  exact ⟨bst_alloc h1 o hk hw, h2, i, cur, h3, (Below.heap_alloc wx o b (Array.getElem?_eq_some_iff.1 h4).1).trans h4, h5⟩

theorem PSt.more {M' : Nat} (h : PSt B M rk ρ w g a cap cs rkx b off wx) (hM : M ≤ M') : PSt B M' rk ρ w g a cap cs rkx b off wx := ⟨h.1.more hM, h.2⟩

/-- The heap is the same, whatever was drawn. -/
theorem PSt.heap (h : PSt B M rk ρ w g a cap cs rkx b off wx) (e0 : wy.heap = wx.heap) (e1 : wy.os = wx.os) (e2 : wy.tape = wx.tape) (e3 : wy.output = wx.output) : PSt B M rk ρ w g a cap cs rkx b off wy := by
  obtain ⟨h1, h2, i, cur, h3, h4, h5⟩ := h
  exact ⟨h1.on (h1.1.heap e0) (Rks.refl _ _) (Shp.heap e0) ⟨e1, e2, e3, by rw [e0]; exact Nat.le_refl _, fun k _ => by rw [e0]⟩, h2, i, cur, h3, by rw [e0]; exact h4, h5⟩

/-- Behind an append to another row. -/
theorem PSt.append {row : Option Nat} (h : PSt B M rk ρ w g a cap cs rkx b off wx) (hk : Rks rkx rk2 wx.heap.size) (hw : Hw B M rk2 wy) (hs : Shp wx wy) (hg : wx.grownBy wy row) (hr : ∀ k, row = some k → B ≤ k ∧ k ≠ g) (hb : row ≠ some b) : PSt B M rk ρ w g a cap cs rk2 b off wy := by
  obtain ⟨h1, h2, i, cur, h3, h4, h5⟩ := h
  exact ⟨bst_append h1 hk hw hs hg hr, h2, i, cur, h3, (hg.block b (Array.getElem?_eq_some_iff.1 h4).1 (Ne.symm hb)).trans h4, h5⟩

theorem PSt.row_ne {M' s : Nat} {T : TypeId} {p : Nat → Prop} {v : Value} (h : PSt B M rk ρ w g a cap cs rkx b off wx) (hv : Sli B M' T s p wx v) (hT : T ≠ 26 ∨ ∀ c, p c → c ≠ b) : v.ownBlock ≠ some b := by
  obtain ⟨h1, h2, i, cur, h3, h4, h5⟩ := h
  obtain ⟨ad, n, c, rfl, _, _, _, ⟨rfl, _⟩ | ⟨q, cur', fr, rfl, hB, hp, hg, _⟩⟩ := hv
  · simp [Value.ownBlock]
  · simp only [Value.ownBlock, ne_eq, Option.some.injEq]
    rintro rfl
    rcases hT with hT | hT
    · rw [h4] at hg
      simp only [Option.some.injEq, Obj.cells.injEq] at hg
      exact hT hg.2.1.symm
    · exact hT _ hp rfl

/-- A byte is appended to the text of the place. -/
theorem PSt.app_s {k n : Int} {a2 : Option Addr} {l2 p2 : Nat} {a3 : Option Addr} {l3 p3 : Nat} {a4 : Option Addr} {l4 p4 : Nat} (h : PSt B M rk ρ w g a cap cs rkx b off wx) (hG : Grp B M rkx (rkx b) wx (.int .i64 k, .int .i64 n, .slice a2 l2 p2, .slice a3 l3 p3, .slice a4 l4 p4)) (hM : M ≤ 100000) (ty : TypeId) :
    ∃ (g' cap' : Nat) (wb : World), (Builtin.append_ #[22, 22] ty #[.slice a2 l2 p2, .slice (some ⟨wx.heap.size, 0, none⟩) 1 1]).run Tryz.prog (wx.alloc (.cells #[.int .u8 7] 5)) = .ok (.slice (some ⟨g', 0, none⟩) (l2 + 1) cap') wb ∧
      (∃ u, wb.cell? ⟨b, off + 2, none⟩ = some u) ∧ wb.frozen? ⟨b, off + 2, none⟩ = false ∧ BnS B (M + 1) rk ρ w g a cap cs rkx (wb.setCell ⟨b, off + 2, none⟩ (.slice (some ⟨g', 0, none⟩) (l2 + 1) cap')) := by
  have hA := h.alloc (.cells #[.int .u8 7] 5) (Rks.refl _ _) (h.1.1.1.alloc_b #[.int .u8 7] (0, 0) (.inl rfl) fun j c hc => by
    have hj : j = 0 := by have := (Array.getElem?_eq_some_iff.1 hc).1; simp at this; omega
    subst hj
    simp at hc
    exact ⟨7, by simp [Byt], hc.symm⟩)
  have hS := hG.2.2.1.shp (q := fun _ => True) row3_b (Shp.alloc wx (.cells #[.int .u8 7] 5)) fun _ _ h => h
  have hl2 : l2 ≤ M := by obtain ⟨_, _, _, e, h1, _⟩ := hG.2.2.1; simp only [Value.slice.injEq] at e; omega
  obtain ⟨g', cap', wb, hrun, hHb, hsl, hSb, hgb⟩ := run_append_hb _ ty B M rkx a2 l2 p2 hS hA.1.1.1 (by have := hA.1.1.base; exact this) (by omega) 7 (by simp [Byt]) ⟨wx.heap.size, 0, none⟩ 1 (by
    intro j u hu
    rw [Addr.add_lit, Nat.zero_add, cell_of_row _ wx.heap.size j #[.int .u8 7] 5 (0, 0) (heap_alloc_new wx _)]
    simpa using hu)
  have hB := (hA.append (Rks.refl _ _) hHb hSb hgb (hS.row hA.1.1 row3_b) (hA.row_ne hS (.inl (by decide)))).more (Nat.le_succ M)
  obtain ⟨_, _, _, _, _, _, _, _, _, _, _, h5, _, hf⟩ := hB.cells
  refine ⟨g', cap', wb, hrun, ⟨_, h5.2.2.1⟩, hf _, hB.set rfl (by omega) fun c0 c1 c2 c3 c4 hG => ⟨hG.1, hG.2.1, hsl (M + 1) (by omega), hG.2.2.2.1, hG.2.2.2.2⟩⟩

/-- A text is appended to the keys of the place. -/
theorem PSt.app_k {k n : Int} {a2 : Option Addr} {l2 p2 : Nat} {a3 : Option Addr} {l3 p3 : Nat} {a4 : Option Addr} {l4 p4 : Nat} (h : PSt B M rk ρ w g a cap cs rkx b off wx) (hG : Grp B M rkx (rkx b) wx (.int .i64 k, .int .i64 n, .slice a2 l2 p2, .slice a3 l3 p3, .slice a4 l4 p4)) (hM1 : 64 ≤ M) (hM : M ≤ 100000) (ty : TypeId) :
    ∃ (g' cap' : Nat) (wb : World), (Builtin.append_ #[23, 23] ty #[.slice a3 l3 p3, .slice (some ⟨wx.heap.size + 1, 0, none⟩) 1 1]).run Tryz.prog ((wx.alloc (.cells #[.int .u8 97] 5 (1, 1 + 1))).alloc (.cells #[.slice (some ⟨wx.heap.size, 0, none⟩) 1 1] 22)) = .ok (.slice (some ⟨g', 0, none⟩) (l3 + 1) cap') wb ∧
      (∃ u, wb.cell? ⟨b, off + 3, none⟩ = some u) ∧ wb.frozen? ⟨b, off + 3, none⟩ = false ∧ BnS B (M + 1) rk ρ w g a cap cs rkx (wb.setCell ⟨b, off + 3, none⟩ (.slice (some ⟨g', 0, none⟩) (l3 + 1) cap')) := by
  have hA := h.alloc (.cells #[.int .u8 97] 5 (1, 1 + 1)) (Rks.refl _ _) (h.1.1.1.alloc_b #[.int .u8 97] (1, 1 + 1) (.inr (by simp)) fun j c hc => by
    have hj : j = 0 := by have := (Array.getElem?_eq_some_iff.1 hc).1; simp at this; omega
    subst hj
    simp at hc
    exact ⟨97, by simp [Byt], hc.symm⟩)
  have hU : Sli B M 5 1 (fun _ => True) (wx.alloc (.cells #[.int .u8 97] 5 (1, 1 + 1))) (.slice (some ⟨wx.heap.size, 0, none⟩) 1 1) := ⟨_, 1, 1, rfl, by omega, by omega, by unfold maxLen; omega, .inr ⟨wx.heap.size, _, _, rfl, h.1.1.base, trivial, heap_alloc_new wx _, rfl⟩⟩
  have hA2 := hA.alloc (.cells #[.slice (some ⟨wx.heap.size, 0, none⟩) 1 1] 22) (Rks.refl _ _) (hA.1.1.1.alloc_k _ hU)
  have hSh := (Shp.alloc wx (.cells #[.int .u8 97] 5 (1, 1 + 1))).trans (Shp.alloc (wx.alloc (.cells #[.int .u8 97] 5 (1, 1 + 1))) (.cells #[.slice (some ⟨wx.heap.size, 0, none⟩) 1 1] 22))
  have hS := hG.2.2.2.1.shp (q := fun _ => True) row3_k hSh fun _ _ h => h
  have hl3 : l3 ≤ M := by obtain ⟨_, _, _, e, h1, _⟩ := hG.2.2.2.1; simp only [Value.slice.injEq] at e; omega
  obtain ⟨g', cap', wb, hrun, hHb, hsl, hSb, hgb⟩ := run_append_hk _ ty B B M rkx a3 l3 p3 hS hA2.1.1.1 (Nat.le_refl _) (by have := hA2.1.1.base; exact this) (by omega) (.slice (some ⟨wx.heap.size, 0, none⟩) 1 1) (hU.shp row3_b (Shp.alloc _ _) fun _ _ h => h) ⟨wx.heap.size + 1, 0, none⟩ 1 (by
    intro j u hu
    have hn := heap_alloc_new (wx.alloc (.cells #[.int .u8 97] 5 (1, 1 + 1))) (.cells #[.slice (some ⟨wx.heap.size, 0, none⟩) 1 1] 22)
    simp only [World.size_alloc] at hn
    rw [Addr.add_lit, Nat.zero_add, cell_of_row _ (wx.heap.size + 1) j _ _ _ hn]
    simpa using hu)
  have hB := (hA2.append (Rks.refl _ _) hHb hSb hgb (hS.row hA2.1.1 row3_k) (hA2.row_ne hS (.inl (by decide)))).more (Nat.le_succ M)
  obtain ⟨_, _, _, _, _, _, _, _, _, _, _, h5, _, hf⟩ := hB.cells
  refine ⟨g', cap', wb, hrun, ⟨_, h5.2.2.2.1⟩, hf _, hB.set rfl (by omega) fun c0 c1 c2 c3 c4 hG => ⟨hG.1, hG.2.1, hG.2.2.1, hsl (M + 1) (by omega), hG.2.2.2.2⟩⟩
end

theorem push_modify_hw {α : Type} (xs : Array α) (x : α) (f : α → α) : (xs.push x).modify xs.size f = xs.push (f x) := by
  apply Array.ext_getElem?
  intro i
  rw [Array.getElem?_modify]
  by_cases h : xs.size = i
  · subst h
    simp
  · rw [if_neg h]
    simp [Array.getElem?_push, Ne.symm h]

theorem conv_same_hw (cs : Array Value) (n : Nat) (hn : cs.size = n) (w : World) : (convert 22 22 (.slice (some ⟨w.heap.size, 0, none⟩) n n)).run Tryz.prog (w.alloc (.cells cs 5)) = .ok (.slice (some ⟨w.heap.size, 0, none⟩) n n) (w.alloc (.cells cs 5 (n, n + 1))) := by
  have hsh : (w.alloc (.cells cs 5)).shape? w.heap.size = some (5, n) := by
    unfold World.shape?
    rw [heap_alloc_new w (.cells cs 5)]
    rw [← hn]
  have hfr : (w.alloc (.cells cs 5)).freeze ⟨w.heap.size, n, none⟩ 1 = w.alloc (.cells cs 5 (n, n + 1)) := by
    unfold World.freeze
    rw [if_neg (by decide)]
    show ({ w.alloc (.cells cs 5) with heap := (w.heap.push (.cells cs 5)).modify w.heap.size _ } : World) = _
    rw [push_modify_hw]
    rfl
  simp [convert, run_underlying Tryz.underlying22, run_underlying Tryz.underlying5, markStringish, hsh, hfr]
end Go.Proofs.YthnkedbmfhokiaaGreatDoor
/-
  While a drawn value is bent: a part more. No statement is proved here.
-/
namespace Go.Proofs.YthnkedbmfhokiaaGreatDoor
open Go.RowKit
set_option linter.unusedVariables false
set_option linter.unusedSimpArgs false

section
variable {B M ρ : Nat} {rk rkx rk2 : Nat → Nat} {w wx wy wa wb : World} {g b off : Nat} {a : Option Addr} {cap : Nat} {cs : List Int}

/-- A cell of a row of values is written with what is good anywhere. -/
theorem bst_one {g' i f : Nat} {cur : Array Value} {v : Value} (h : BnS B M rk ρ w g a cap cs rkx wx) (hB : B ≤ g') (hg : wx.heap[g']? = some (.cells cur 26 (0, 0))) (hf : f < 5) (hv : (f < 2 ∧ ∃ x, v = .int .i64 x) ∨ (2 ≤ f ∧ v = .slice none 0 0)) :
    BnS B M rk ρ w g a cap cs rkx (wx.setCell ⟨g', i * 5 + f, none⟩ v) ∧ ∃ cur' : Array Value, (wx.setCell ⟨g', i * 5 + f, none⟩ v).heap[g']? = some (.cells cur' 26 (0, 0)) ∧ cur'.size = cur.size := by
  refine ⟨bst_set (M' := M) h hB hg hf fun c0 c1 c2 c3 c4 hG => ?_, _, heap_setCell_fr wx g' (i * 5 + f) cur _ _ v hg, by simp⟩
  rcases hv with ⟨hf2, x, rfl⟩ | ⟨hf2, rfl⟩
  · obtain rfl | rfl : f = 0 ∨ f = 1 := by omega
    · exact ⟨⟨x, rfl⟩, hG.2.1, hG.2.2.1, hG.2.2.2.1, hG.2.2.2.2⟩
    · exact ⟨hG.1, ⟨x, rfl⟩, hG.2.2.1, hG.2.2.2.1, hG.2.2.2.2⟩
  · obtain rfl | rfl | rfl : f = 2 ∨ f = 3 ∨ f = 4 := by omega
    · exact ⟨hG.1, hG.2.1, sli_nil _ _ _ _ _ _, hG.2.2.2.1, hG.2.2.2.2⟩
    · exact ⟨hG.1, hG.2.1, hG.2.2.1, sli_nil _ _ _ _ _ _, hG.2.2.2.2⟩
    · exact ⟨hG.1, hG.2.1, hG.2.2.1, hG.2.2.2.1, sli_nil _ _ _ _ _ _⟩

theorem bst_zero {g' i : Nat} {cur : Array Value} (h : BnS B M rk ρ w g a cap cs rkx wx) (hB : B ≤ g') (hg : wx.heap[g']? = some (.cells cur 26 (0, 0))) :
    BnS B M rk ρ w g a cap cs rkx (set5 wx g' (i * 5) (.int .i64 0) (.int .i64 0) (.slice none 0 0) (.slice none 0 0) (.slice none 0 0)) := by
  obtain ⟨h0, c0, g0, _⟩ := bst_one (i := i) (f := 0) (v := .int .i64 0) h hB hg (by omega) (.inl ⟨by omega, _, rfl⟩)
  obtain ⟨h1, c1, g1, _⟩ := bst_one (i := i) (f := 1) (v := .int .i64 0) h0 hB g0 (by omega) (.inl ⟨by omega, _, rfl⟩)
  obtain ⟨h2, c2, g2, _⟩ := bst_one (i := i) (f := 2) (v := .slice none 0 0) h1 hB g1 (by omega) (.inr ⟨by omega, rfl⟩)
  obtain ⟨h3, c3, g3, _⟩ := bst_one (i := i) (f := 3) (v := .slice none 0 0) h2 hB g2 (by omega) (.inr ⟨by omega, rfl⟩)
  obtain ⟨h4, _, _, _⟩ := bst_one (i := i) (f := 4) (v := .slice none 0 0) h3 hB g3 (by omega) (.inr ⟨by omega, rfl⟩)
  exact h4

/-- What an append of a value leaves: the new row, and what may be written. -/
def AppV (B M : Nat) (rk : Nat → Nat) (ρ : Nat) (w : World) (g : Nat) (a : Option Addr) (cap : Nat) (cs : List Int) (b off n g' cap' : Nat) (wb : World) : Prop :=
  ∃ rk2, g' ≠ b ∧ PSt B M rk ρ w g a cap cs rk2 b off wb ∧ B ≤ g' ∧ (∃ cur : Array Value, wb.heap[g']? = some (.cells cur 26 (0, 0)) ∧ n * 5 + 5 ≤ cur.size) ∧ Sli B M 26 5 (fun q => rk2 q < rk2 b) wb (.slice (some ⟨g', 0, none⟩) (n + 1) cap')

theorem PSt.app_v {k n : Int} {a2 : Option Addr} {l2 p2 : Nat} {a3 : Option Addr} {l3 p3 : Nat} {a4 : Option Addr} {l4 p4 : Nat} (h : PSt B M rk ρ w g a cap cs rkx b off wx) (hG : Grp B M rkx (rkx b) wx (.int .i64 k, .int .i64 n, .slice a2 l2 p2, .slice a3 l3 p3, .slice a4 l4 p4)) (hr : 1 ≤ rkx b) (hM : M ≤ 100000) (hwa : Alw wx (.cells #[.int .i64 0, .int .i64 0, .slice none 0 0, .slice none 0 0, .slice none 0 0] 26) wa) (ty : TypeId) :
    ∃ (g' cap' : Nat) (wb : World), (Builtin.append_ #[24, 24] ty #[.slice a4 l4 p4, .slice (some ⟨wx.heap.size, 0, none⟩) 1 1]).run Tryz.prog wa = .ok (.slice (some ⟨g', 0, none⟩) (l4 + 1) cap') wb ∧ AppV B (M + 1) rk ρ w g a cap cs b off l4 g' cap' wb := by
  obtain ⟨e0, e1, e2, e3⟩ := hwa
  have hbl : b < wx.heap.size := by obtain ⟨_, _, _, _, _, h4, _⟩ := h; exact (Array.getElem?_eq_some_iff.1 h4).1
  have hRa : Rks rkx (rkUp rkx wx.heap.size 0) wx.heap.size := rkUp_old _ _ _
  have hA := (h.alloc (.cells #[.int .i64 0, .int .i64 0, .slice none 0 0, .slice none 0 0, .slice none 0 0] 26) hRa (h.1.1.1.alloc_v 0 _ _ _ _ _ (grp_leaf _ _ _ _ _ _ _))).heap e0 e1 e2 e3
  have hSa : Shp wx wa := (Shp.alloc wx _).trans (Shp.heap e0)
  have hza : wx.heap.size < wa.heap.size := by rw [e0]; simp
  generalize rkUp rkx wx.heap.size 0 = rka at *
  have hrb : rka b = rkx b := hRa b hbl
  have hS : Sli B M 26 5 (fun q => 0 ≤ rka q ∧ rka q < rka b) wa (.slice a4 l4 p4) := hG.2.2.2.2.shp row3_v hSa fun q hq h => ⟨Nat.zero_le _, by rw [hRa q hq, hrb]; exact h⟩
  have hl4 : l4 ≤ M := by obtain ⟨_, _, _, e, h1, _⟩ := hG.2.2.2.2; simp only [Value.slice.injEq] at e; omega
  obtain ⟨g', cap', wb, rk2, hrun, hHb, hR2, hsl, hSb, hgb⟩ := run_append_hv wa ty B B M rka 0 (rka b) a4 l4 p4 hS hA.1.1.1 (Nat.le_refl _) hA.1.1.base (by omega) (.int .i64 0) (.int .i64 0) (.slice none 0 0) (.slice none 0 0) (.slice none 0 0) (grp_leaf _ _ _ _ _ _ _) (by omega) ⟨wx.heap.size, 0, none⟩ 1 (news_five e0)
  have hB := (hA.append hR2 hHb hSb hgb (hS.row hA.1.1 row3_v) (hA.row_ne hS (.inr fun c hc e => by subst e; omega))).more (Nat.le_succ M)
  have hnew := hsl (M + 1) (by omega)
  have hr2 : rk2 b = rka b := hR2 b (by omega)
  obtain ⟨_, _, _, e, _, _, _, ⟨e', _⟩ | ⟨q, cur, fr, e', hBq, hp, hq, hc⟩⟩ := id hnew
  · simp only [Value.slice.injEq] at e; rw [← e.1] at e'; simp at e'
  · simp only [Value.slice.injEq] at e
    obtain ⟨rfl, rfl, rfl⟩ := e
    simp only [Option.some.injEq, Addr.mk.injEq, and_true] at e'
    subst e'
    obtain rfl : fr = (0, 0) := ((hHb g' hBq cur _ fr hq).2.2 rfl).1
    have hcap : l4 + 1 ≤ cap' := by obtain ⟨_, _, _, e, _, h2, _⟩ := hnew; simp only [Value.slice.injEq] at e; omega
    exact ⟨g', cap', wb, hrun, rk2, by rintro rfl; omega, hB, hBq, ⟨cur, hq, by omega⟩, hnew.base (Nat.le_refl _) fun q h => by rw [hr2]; exact h.2⟩

/-- .. the new place first, then the row; or the other way round. -/
theorem AppV.both {n g' cap' : Nat} (h : AppV B M rk ρ w g a cap cs b off n g' cap' wb) :
    (∃ rk2, BnS B M rk ρ w g a cap cs rk2 ((set5 wb g' (n * 5) (.int .i64 0) (.int .i64 0) (.slice none 0 0) (.slice none 0 0) (.slice none 0 0)).setCell ⟨b, off + 4, none⟩ (.slice (some ⟨g', 0, none⟩) (n + 1) cap'))) ∧
    (∃ rk2, BnS B M rk ρ w g a cap cs rk2 (set5 (wb.setCell ⟨b, off + 4, none⟩ (.slice (some ⟨g', 0, none⟩) (n + 1) cap')) g' (n * 5) (.int .i64 0) (.int .i64 0) (.slice none 0 0) (.slice none 0 0) (.slice none 0 0))) ∧
    g' ≠ b ∧ (∀ j, j < 5 → ∃ u, wb.cell? ⟨g', n * 5 + j, none⟩ = some u) ∧ (∀ j, wb.frozen? ⟨g', j, none⟩ = false) ∧ (∃ u, wb.cell? ⟨b, off + 4, none⟩ = some u) ∧ (∀ j, wb.frozen? ⟨b, j, none⟩ = false) := by
  obtain ⟨rk2, hne, hP, hB, ⟨cur, hg, hc⟩, hS⟩ := h
  have hPc := hP.cells
  obtain ⟨_, _, _, _, _, _, _, _, _, _, _, h5, _, hf⟩ := hPc
  have hs5 : Shp wb (set5 wb g' (n * 5) (.int .i64 0) (.int .i64 0) (.slice none 0 0) (.slice none 0 0) (.slice none 0 0)) := ((((Shp.setCell _ _ _ _).trans (Shp.setCell _ _ _ _)).trans (Shp.setCell _ _ _ _)).trans (Shp.setCell _ _ _ _)).trans (Shp.setCell _ _ _ _)
  have hz := bst_zero (i := n) hP.1 hB hg
  have hPz : PSt B M rk ρ w g a cap cs rk2 b off (set5 wb g' (n * 5) (.int .i64 0) (.int .i64 0) (.slice none 0 0) (.slice none 0 0) (.slice none 0 0)) := by
    obtain ⟨h1, h2, i, cur', h3, h4, h6⟩ := hP
    exact ⟨hz, h2, i, cur', h3, (set5_other wb g' _ _ _ _ _ _ b (Ne.symm hne)).trans h4, h6⟩
  refine ⟨⟨rk2, hPz.set rfl (by omega) fun c0 c1 c2 c3 c4 hG => ⟨hG.1, hG.2.1, hG.2.2.1, hG.2.2.2.1, hS.shp row3_v hs5 fun _ _ h => h⟩⟩, ⟨rk2, ?_⟩, hne, fun j hj => ?_, fun j => frozen_of_row wb g' j cur _ hg, ⟨_, h5.2.2.2.2⟩, hf⟩
  · have hl := hP.set (f := 4) (q := off + 4) rfl (by omega) fun c0 c1 c2 c3 c4 hG => ⟨hG.1, hG.2.1, hG.2.2.1, hG.2.2.2.1, hS⟩
    exact bst_zero hl hB ((Below.heap_setCell wb ⟨b, off + 4, none⟩ _ g' hne).trans hg)
  · rw [cell_of_row wb g' _ cur _ (0, 0) hg]
    exact ⟨_, Array.getElem?_eq_getElem (by omega)⟩

/-- The value as the one part of a list. -/
theorem bst_wrap {d0 d1 d2 d3 d4 : Value} {j : Nat} (h : BnS B M rk ρ w g a cap cs rkx wx) (hBw : B ≤ w.heap.size) (hV : wx.heap[w.heap.size]? = some (.cells #[d0, d1, d2, d3, d4] 26 (0, 0))) (hj : j ≤ 6) (hM : 64 ≤ M) (hG : Grp B M rkx (ρ + 1 + j) wx (d0, d1, d2, d3, d4)) :
    ∃ rk2, BnS B M rk ρ w g a cap cs rk2 (set5 (wx.alloc (.cells #[d0, d1, d2, d3, d4] 26)) w.heap.size 0 (.int .i64 4) (.int .i64 0) (.slice none 0 0) (.slice none 0 0) (.slice (some ⟨wx.heap.size, 0, none⟩) 1 1)) ∧
      Grp B M rk2 (ρ + 1 + (j + 1)) (set5 (wx.alloc (.cells #[d0, d1, d2, d3, d4] 26)) w.heap.size 0 (.int .i64 4) (.int .i64 0) (.slice none 0 0) (.slice none 0 0) (.slice (some ⟨wx.heap.size, 0, none⟩) 1 1)) (.int .i64 4, .int .i64 0, .slice none 0 0, .slice none 0 0, .slice (some ⟨wx.heap.size, 0, none⟩) 1 1) ∧
      (set5 (wx.alloc (.cells #[d0, d1, d2, d3, d4] 26)) w.heap.size 0 (.int .i64 4) (.int .i64 0) (.slice none 0 0) (.slice none 0 0) (.slice (some ⟨wx.heap.size, 0, none⟩) 1 1)).heap[w.heap.size]? = some (.cells #[.int .i64 4, .int .i64 0, .slice none 0 0, .slice none 0 0, .slice (some ⟨wx.heap.size, 0, none⟩) 1 1] 26 (0, 0)) := by
  have hVl := (Array.getElem?_eq_some_iff.1 hV).1
  have hRa : Rks rkx (rkUp rkx wx.heap.size (ρ + 1 + j)) wx.heap.size := rkUp_old _ _ _
  have hat := rkUp_at rkx wx.heap.size (ρ + 1 + j)
  have hA := bst_alloc h (.cells #[d0, d1, d2, d3, d4] 26) hRa (h.1.1.alloc_v _ _ _ _ _ _ hG)
  generalize rkUp rkx wx.heap.size (ρ + 1 + j) = rk2 at *
  have hVa := (Below.heap_alloc wx (.cells #[d0, d1, d2, d3, d4] 26) w.heap.size hVl).trans hV
  have hGa : Grp B M rk2 (ρ + 1 + (j + 1)) (wx.alloc (.cells #[d0, d1, d2, d3, d4] 26)) (.int .i64 4, .int .i64 0, .slice none 0 0, .slice none 0 0, .slice (some ⟨wx.heap.size, 0, none⟩) 1 1) :=
    ⟨⟨4, rfl⟩, ⟨0, rfl⟩, sli_nil _ _ _ _ _ _, sli_nil _ _ _ _ _ _, _, 1, 1, rfl, by omega, Nat.le_refl _, by unfold maxLen; omega, .inr ⟨wx.heap.size, _, (0, 0), rfl, h.1.base, by show rk2 wx.heap.size < _; omega, heap_alloc_new wx _, rfl⟩⟩
  have hkV : rk2 w.heap.size = ρ + 8 := hA.2.2.2.2.2.2.1
  obtain ⟨k1, k2⟩ := hA.1.1.set5 hVa (by rw [hkV]; exact hGa.shp (Shp.refl _) (Rks.refl _ _) (by omega))
  have hgV := hA.1.ne_row hVa row3_v
  have h9 := set5_heap (j := 0) (.int .i64 4) (.int .i64 0) (.slice none 0 0) (.slice none 0 0) (.slice (some ⟨wx.heap.size, 0, none⟩) 1 1) hVa
  rw [show arrSet5 #[d0, d1, d2, d3, d4] 0 (.int .i64 4) (.int .i64 0) (.slice none 0 0) (.slice none 0 0) (.slice (some ⟨wx.heap.size, 0, none⟩) 1 1) = #[.int .i64 4, .int .i64 0, .slice none 0 0, .slice none 0 0, .slice (some ⟨wx.heap.size, 0, none⟩) 1 1] from rfl] at h9
  have hoth : ∀ q, q ≠ w.heap.size → (set5 (wx.alloc (.cells #[d0, d1, d2, d3, d4] 26)) w.heap.size 0 (.int .i64 4) (.int .i64 0) (.slice none 0 0) (.slice none 0 0) (.slice (some ⟨wx.heap.size, 0, none⟩) 1 1)).heap[q]? = (wx.alloc (.cells #[d0, d1, d2, d3, d4] 26)).heap[q]? := fun q hq => set5_other (wx.alloc (.cells #[d0, d1, d2, d3, d4] 26)) w.heap.size 0 _ _ _ _ _ q hq
  have h8 := set5_grown (wx.alloc (.cells #[d0, d1, d2, d3, d4] 26)) w.heap.size 0 (.int .i64 4) (.int .i64 0) (.slice none 0 0) (.slice none 0 0) (.slice (some ⟨wx.heap.size, 0, none⟩) 1 1)
  generalize set5 (wx.alloc (.cells #[d0, d1, d2, d3, d4] 26)) w.heap.size 0 (.int .i64 4) (.int .i64 0) (.slice none 0 0) (.slice none 0 0) (.slice (some ⟨wx.heap.size, 0, none⟩) 1 1) = wf at *
  exact ⟨rk2, hA.on (hA.1.on k1 (hoth g (Ne.symm hgV)) (fun q hq => hoth q (by omega))) (Rks.refl _ _) k2 ⟨h8.os, h8.tape, h8.output, h8.size, fun q hq => hoth q (by omega)⟩, hGa.shp k2 (Rks.refl _ _) (Nat.le_refl _), h9⟩
end
end Go.Proofs.YthnkedbmfhokiaaGreatDoor
