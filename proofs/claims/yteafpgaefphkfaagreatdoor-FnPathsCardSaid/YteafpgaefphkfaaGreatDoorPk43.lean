/-
  Texts that a law leans on, one behind the other; no statement is proved here.
-/
import Derived.Test.YteafpgaefphkfaaGreatDoorPk42
/-
  While a drawn value is bent: what stands. No statement is proved here.
-/
namespace Go.Proofs.YteafpgaefphkfaaGreatDoor
open Go.RowKit
set_option linter.unusedVariables false
set_option linter.unusedSimpArgs false

/-- All ranks by one more. -/
def rkS (rk : Nat → Nat) : Nat → Nat := fun g => rk g + 1
theorem Grp.up {B M r : Nat} {rk : Nat → Nat} {w : World} {c : Value × Value × Value × Value × Value} (h : Grp B M rk r w c) : Grp B M (rkS rk) (r + 1) w c :=
  ⟨h.1, h.2.1, h.2.2.1, h.2.2.2.1, h.2.2.2.2.base (Nat.le_refl _) fun g h => by unfold rkS; omega⟩
theorem Hw.up {B M : Nat} {rk : Nat → Nat} {w : World} (h : Hw B M rk w) : Hw B M (rkS rk) w := fun g hg cur T fr hh =>
  ⟨(h g hg cur T fr hh).1, (h g hg cur T fr hh).2.1, fun hT => ⟨((h g hg cur T fr hh).2.2 hT).1, fun j c0 c1 c2 c3 c4 h0 h1 h2 h3 h4 => (((h g hg cur T fr hh).2.2 hT).2 j c0 c1 c2 c3 c4 h0 h1 h2 h3 h4).up⟩⟩

/-- Five cells at a place of a row of values. -/
theorem Hw.grp_at {B M : Nat} {rk : Nat → Nat} {w : World} {b i off : Nat} {cur : Array Value} {fr : Nat × Nat} (h : Hw B M rk w) (hB : B ≤ b) (hb : w.heap[b]? = some (.cells cur 29 fr)) (hi : i * 5 + 5 ≤ cur.size) (ho : off = i * 5) :
    ∃ (k n : Int) (a2 : Option Addr) (l2 p2 : Nat) (a3 : Option Addr) (l3 p3 : Nat) (a4 : Option Addr) (l4 p4 : Nat), Five w b off (.int .i64 k, .int .i64 n, .slice a2 l2 p2, .slice a3 l3 p3, .slice a4 l4 p4) ∧ Grp B M rk (rk b) w (.int .i64 k, .int .i64 n, .slice a2 l2 p2, .slice a3 l3 p3, .slice a4 l4 p4) ∧ (∀ j, w.frozen? ⟨b, j, none⟩ = false) ∧ fr = (0, 0) := by
  subst ho
  have hfr := ((h b hB cur _ fr hb).2.2 rfl).1
  have hz : ∀ q, q < 5 → i * 5 + q < cur.size := fun q hq => by omega
  have hG := ((h b hB cur _ fr hb).2.2 rfl).2 i _ _ _ _ _ (Array.getElem?_eq_getElem (hz 0 (by omega))) (Array.getElem?_eq_getElem (hz 1 (by omega))) (Array.getElem?_eq_getElem (hz 2 (by omega))) (Array.getElem?_eq_getElem (hz 3 (by omega))) (Array.getElem?_eq_getElem (hz 4 (by omega)))
  obtain ⟨k, n, a2, l2, p2, a3, l3, p3, a4, l4, p4, e0, e1, e2, e3, e4⟩ := hG.forms
  refine ⟨k, n, a2, l2, p2, a3, l3, p3, a4, l4, p4, ⟨?_, ?_, ?_, ?_, ?_⟩, by rw [← e0, ← e1, ← e2, ← e3, ← e4]; exact hG, fun j => by subst hfr; exact frozen_of_row w b j cur _ hb, hfr⟩
  · rw [cell_of_row w b _ cur _ fr hb, ← e0]; exact Array.getElem?_eq_getElem (hz 0 (by omega))
  · rw [cell_of_row w b _ cur _ fr hb, ← e1]; exact Array.getElem?_eq_getElem (hz 1 (by omega))
  · rw [cell_of_row w b _ cur _ fr hb, ← e2]; exact Array.getElem?_eq_getElem (hz 2 (by omega))
  · rw [cell_of_row w b _ cur _ fr hb, ← e3]; exact Array.getElem?_eq_getElem (hz 3 (by omega))
  · rw [cell_of_row w b _ cur _ fr hb, ← e4]; exact Array.getElem?_eq_getElem (hz 4 (by omega))

/-- A block of five cells. -/
def Bx5 (w : World) (V : Nat) : Prop := ∃ cur : Array Value, w.heap[V]? = some (.cells cur 29 (0, 0)) ∧ cur.size = 5
theorem Bx5.shp {w w' : World} {V : Nat} (h : Bx5 w V) (hs : Shp w w') : Bx5 w' V := by
  obtain ⟨cur, h1, h2⟩ := h
  obtain ⟨cur', g1, g2⟩ := hs V cur _ _ row3_v h1
  exact ⟨cur', g1, by omega⟩
theorem Bx5.form {B M : Nat} {rk : Nat → Nat} {w : World} {V : Nat} (h : Bx5 w V) (hw : Hw B M rk w) (hB : B ≤ V) : ∃ (k n : Int) (a2 : Option Addr) (l2 p2 : Nat) (a3 : Option Addr) (l3 p3 : Nat) (a4 : Option Addr) (l4 p4 : Nat), w.heap[V]? = some (.cells #[.int .i64 k, .int .i64 n, .slice a2 l2 p2, .slice a3 l3 p3, .slice a4 l4 p4] 29 (0, 0)) ∧ Grp B M rk (rk V) w (.int .i64 k, .int .i64 n, .slice a2 l2 p2, .slice a3 l3 p3, .slice a4 l4 p4) := by
  obtain ⟨cur, h1, h2⟩ := h
  obtain ⟨k, n, a2, l2, p2, a3, l3, p3, a4, l4, p4, h5, hG, _, _⟩ := hw.grp_at (i := 0) (off := 0) hB h1 (by omega) (by omega)
  refine ⟨k, n, a2, l2, p2, a3, l3, p3, a4, l4, p4, ?_, hG⟩
  obtain ⟨g0, g1, g2, g3, g4⟩ := h5
  rw [cell_of_row w V _ cur _ _ h1] at g0 g1 g2 g3 g4
  simp only [Nat.zero_add] at g0 g1 g2 g3 g4
  rw [h1]
  congr 1
  have : cur = #[.int .i64 k, .int .i64 n, .slice a2 l2 p2, .slice a3 l3 p3, .slice a4 l4 p4] := by
    apply Array.ext_getElem?
    intro j
    by_cases hj : j < 5
    · obtain rfl | rfl | rfl | rfl | rfl : j = 0 ∨ j = 1 ∨ j = 2 ∨ j = 3 ∨ j = 4 := by omega
      · rw [g0]; rfl
      · rw [g1]; rfl
      · rw [g2]; rfl
      · rw [g3]; rfl
      · rw [g4]; rfl
    · rw [Array.getElem?_eq_none (by omega), Array.getElem?_eq_none (by simp; omega)]
  rw [this]

/-- While a value is bent: its box at the old heap's end, the answer's box behind it. -/
def BnS (B M : Nat) (rk : Nat → Nat) (ρ : Nat) (w : World) (g : Nat) (a : Option Addr) (cap : Nat) (cs : List Int) (rkx : Nat → Nat) (wx : World) : Prop :=
  Hs B M rkx wx g a cap cs ∧ Bx5 wx w.heap.size ∧ Bx5 wx (w.heap.size + 1) ∧ Below B w wx ∧ Rks (rkS rk) rkx w.heap.size ∧ Shp w wx ∧ rkx w.heap.size = ρ + 8 ∧ rkx (w.heap.size + 1) = ρ + 8

/-- What bending leaves. -/
def BentEnd (B M : Nat) (rk : Nat → Nat) (ρ g : Nat) (a : Option Addr) (cap : Nat) (cs : List Int) (w : World) (e : Ending) (w' : World) : Prop :=
  ∃ (k n : Int) (a2 : Option Addr) (l2 p2 : Nat) (a3 : Option Addr) (l3 p3 : Nat) (a4 : Option Addr) (l4 p4 : Nat) (rk' : Nat → Nat), e = .returned (.agg #[.int .i64 k, .int .i64 n, .slice a2 l2 p2, .slice a3 l3 p3, .slice a4 l4 p4]) ∧
    Grp B (M + 1) rk' (ρ + 8) w' (.int .i64 k, .int .i64 n, .slice a2 l2 p2, .slice a3 l3 p3, .slice a4 l4 p4) ∧ Hs B (M + 1) rk' w' g a cap cs ∧ Below B w w' ∧ Rks (rkS rk) rk' w.heap.size ∧ Shp w w'

section
variable {B M ρ : Nat} {rk rkx rk2 : Nat → Nat} {w wx wy : World} {g : Nat} {a : Option Addr} {cap : Nat} {cs : List Int}

theorem Hs.more {M' : Nat} (h : Hs B M rk w g a cap cs) (hM : M ≤ M') : Hs B M' rk w g a cap cs := ⟨h.1.more hM, h.2⟩
theorem Hs.onM {M' : Nat} (h : Hs B M rk w g a cap cs) (hw : Hw B M' rk2 wy) (h1 : wy.heap[g]? = w.heap[g]?) (h2 : ∀ b, b < B → wy.heap[b]? = w.heap[b]?) : Hs B M' rk2 wy g a cap cs :=
  ⟨hw, h.2.1.keep h1 fun x hx he => h2 _ (h.2.2.2 x hx he), h.2.2⟩
theorem BnS.more {M' : Nat} (h : BnS B M rk ρ w g a cap cs rkx wx) (hM : M ≤ M') : BnS B M' rk ρ w g a cap cs rkx wx := ⟨h.1.more hM, h.2⟩

/-- On from there: the cursor stands, rows keep their shapes. -/
theorem BnS.on {M' : Nat} (h : BnS B M rk ρ w g a cap cs rkx wx) (hS : Hs B M' rk2 wy g a cap cs) (hk : Rks rkx rk2 wx.heap.size) (hs : Shp wx wy) (hb : Below B wx wy) : BnS B M' rk ρ w g a cap cs rk2 wy := by
  obtain ⟨h1, h2, h3, h4, h5, h6, h7, h8⟩ := h
  have hz := h4.size
  obtain ⟨c2, e2, s2⟩ := h2
  obtain ⟨c3, e3, s3⟩ := h3
  have l2 := (Array.getElem?_eq_some_iff.1 e2).1
  have l3 := (Array.getElem?_eq_some_iff.1 e3).1
  refine ⟨hS, Bx5.shp ⟨c2, e2, s2⟩ hs, Bx5.shp ⟨c3, e3, s3⟩ hs, h4.trans hb, fun b hb' => (hk b (by omega)).trans (h5 b hb'), h6.trans hs, (hk _ l2).trans h7, (hk _ l3).trans h8⟩

theorem BnS.cus (h : BnS B M rk ρ w g a cap cs rkx wx) (hS : Hs B M rkx wy g a cap cs) (hc : Cus g wx wy) : BnS B M rk ρ w g a cap cs rkx wy :=
  h.on hS (Rks.refl _ _) (hc.shp h.1.2.1) ⟨hc.1.os, hc.1.tape, hc.1.output, hc.1.size, fun b hb => hc.1.block b (by have := h.1.base; omega) (by have := h.1.2.2.1; simp; omega)⟩

theorem bent_end {d0 d1 d2 d3 d4 z0 z1 z2 z3 z4 : Value} (h : BnS B M rk ρ w g a cap cs rkx wx) (hBw : B ≤ w.heap.size) (hV : wx.heap[w.heap.size]? = some (.cells #[d0, d1, d2, d3, d4] 29 (0, 0))) (hG : Grp B M rkx (rkx w.heap.size) wx (d0, d1, d2, d3, d4)) (hR : wx.heap[w.heap.size + 1]? = some (.cells #[z0, z1, z2, z3, z4] 29 (0, 0))) :
    BentEnd B M rk ρ g a cap cs w (.returned (.agg #[d0, d1, d2, d3, d4])) (set5 wx (w.heap.size + 1) 0 d0 d1 d2 d3 d4) := by
  obtain ⟨h1, h2, h3, h4, h5, h6, h7, h8⟩ := h
  obtain ⟨k1, k2⟩ := h1.1.set5 hR (by rw [h8, ← h7]; exact hG)
  obtain ⟨k, n, a2, l2, p2, a3, l3, p3, a4, l4, p4, rfl, rfl, rfl, rfl, rfl⟩ := hG.forms
  have hgR := h1.ne_row hR row3_v
  have hoth : ∀ b, b ≠ w.heap.size + 1 → (set5 wx (w.heap.size + 1) 0 (.int .i64 k) (.int .i64 n) (.slice a2 l2 p2) (.slice a3 l3 p3) (.slice a4 l4 p4)).heap[b]? = wx.heap[b]? := fun b hb => set5_other wx (w.heap.size + 1) 0 _ _ _ _ _ b hb
  have h9 := set5_grown wx (w.heap.size + 1) 0 (.int .i64 k) (.int .i64 n) (.slice a2 l2 p2) (.slice a3 l3 p3) (.slice a4 l4 p4)
  generalize set5 wx (w.heap.size + 1) 0 (.int .i64 k) (.int .i64 n) (.slice a2 l2 p2) (.slice a3 l3 p3) (.slice a4 l4 p4) = wf at *
  rw [h7] at hG
  exact ⟨k, n, a2, l2, p2, a3, l3, p3, a4, l4, p4, rkx, rfl, (hG.shp k2 (Rks.refl _ _) (Nat.le_refl _)).more (by omega), (h1.on k1 (hoth g (Ne.symm hgR)) (fun b hb => hoth b (by omega))).more (by omega), h4.grown h9 (Nat.le_trans hBw h4.size) (by intro j hj; simp at hj; omega), h5, h6.trans k2⟩

/-- .. after a row was lengthened: one more than before. -/
theorem bent_end1 {d0 d1 d2 d3 d4 z0 z1 z2 z3 z4 : Value} (h : BnS B (M + 1) rk ρ w g a cap cs rkx wx) (hBw : B ≤ w.heap.size) (hV : wx.heap[w.heap.size]? = some (.cells #[d0, d1, d2, d3, d4] 29 (0, 0))) (hG : Grp B (M + 1) rkx (rkx w.heap.size) wx (d0, d1, d2, d3, d4)) (hR : wx.heap[w.heap.size + 1]? = some (.cells #[z0, z1, z2, z3, z4] 29 (0, 0))) :
    BentEnd B M rk ρ g a cap cs w (.returned (.agg #[d0, d1, d2, d3, d4])) (set5 wx (w.heap.size + 1) 0 d0 d1 d2 d3 d4) := by
  obtain ⟨h1, h2, h3, h4, h5, h6, h7, h8⟩ := h
  obtain ⟨k1, k2⟩ := h1.1.set5 hR (by rw [h8, ← h7]; exact hG)
  obtain ⟨k, n, a2, l2, p2, a3, l3, p3, a4, l4, p4, rfl, rfl, rfl, rfl, rfl⟩ := hG.forms
  have hgR := h1.ne_row hR row3_v
  have hoth : ∀ b, b ≠ w.heap.size + 1 → (set5 wx (w.heap.size + 1) 0 (.int .i64 k) (.int .i64 n) (.slice a2 l2 p2) (.slice a3 l3 p3) (.slice a4 l4 p4)).heap[b]? = wx.heap[b]? := fun b hb => set5_other wx (w.heap.size + 1) 0 _ _ _ _ _ b hb
  have h9 := set5_grown wx (w.heap.size + 1) 0 (.int .i64 k) (.int .i64 n) (.slice a2 l2 p2) (.slice a3 l3 p3) (.slice a4 l4 p4)
  generalize set5 wx (w.heap.size + 1) 0 (.int .i64 k) (.int .i64 n) (.slice a2 l2 p2) (.slice a3 l3 p3) (.slice a4 l4 p4) = wf at *
  rw [h7] at hG
  exact ⟨k, n, a2, l2, p2, a3, l3, p3, a4, l4, p4, rkx, rfl, hG.shp k2 (Rks.refl _ _) (Nat.le_refl _), h1.on k1 (hoth g (Ne.symm hgR)) (fun b hb => hoth b (by omega)), h4.grown h9 (Nat.le_trans hBw h4.size) (by intro j hj; simp at hj; omega), h5, h6.trans k2⟩

/-- One cell of a value is written: a good one. -/
theorem bst_set {M' b i f : Nat} {cur : Array Value} {v : Value} (h : BnS B M rk ρ w g a cap cs rkx wx) (hBb : B ≤ b) (hb : wx.heap[b]? = some (.cells cur 29 (0, 0))) (hf : f < 5)
    (hv : ∀ c0 c1 c2 c3 c4 : Value, Grp B M rkx (rkx b) wx (c0, c1, c2, c3, c4) → Grp B M rkx (rkx b) wx (if f = 0 then v else c0, if f = 1 then v else c1, if f = 2 then v else c2, if f = 3 then v else c3, if f = 4 then v else c4)) : BnS B M rk ρ w g a cap cs rkx (wx.setCell ⟨b, i * 5 + f, none⟩ v) := by
  have hgb := h.1.ne_row hb row3_v
  have hS := h.1.1.set_v hBb hb i f hf v hv
  have hoth : ∀ k, k ≠ b → (wx.setCell ⟨b, i * 5 + f, none⟩ v).heap[k]? = wx.heap[k]? := fun k hk => Below.heap_setCell wx ⟨b, i * 5 + f, none⟩ v k hk
  exact h.on (h.1.on hS (hoth g (Ne.symm hgb)) (fun k hk => hoth k (by omega))) (Rks.refl _ _) (Shp.setCell _ _ _ _) ⟨rfl, rfl, rfl, by simp [World.setCell], fun k hk => hoth k (by omega)⟩

/-- A new block. -/
theorem bst_alloc (h : BnS B M rk ρ w g a cap cs rkx wx) (o : Obj) (hk : Rks rkx rk2 wx.heap.size) (hw : Hw B M rk2 (wx.alloc o)) : BnS B M rk ρ w g a cap cs rk2 (wx.alloc o) := by
  have hb : Below wx.heap.size wx (wx.alloc o) := (Below.refl _ _).alloc (Nat.le_refl _) o
  exact h.on (h.1.below hw hb) hk (Shp.alloc _ _) (hb.mono h.1.base)

/-- An append to a row from B on. -/
theorem bst_append {M' : Nat} {row : Option Nat} (h : BnS B M rk ρ w g a cap cs rkx wx) (hk : Rks rkx rk2 wx.heap.size) (hw : Hw B M' rk2 wy) (hs : Shp wx wy) (hg : wx.grownBy wy row) (hr : ∀ k, row = some k → B ≤ k ∧ k ≠ g) : BnS B M' rk ρ w g a cap cs rk2 wy := by
  have hgl := h.1.lt
  exact h.on (h.1.onM hw (hg.block g hgl (fun e => (hr g e.symm).2 rfl)) (fun b hb => hg.block b (by have := h.1.base; omega) (fun e => by have := (hr b e.symm).1; omega))) hk hs ⟨hg.os, hg.tape, hg.output, hg.size, fun b hb => hg.block b (by have := h.1.base; omega) (fun e => by have := (hr b e.symm).1; omega)⟩

/-- The row of a slice is none of the cursor's. -/
theorem Sli.row {B M s : Nat} {T : TypeId} {p : Nat → Prop} {v : Value} (h : Sli B M T s p wx v) (hS : Hs B M rkx wx g a cap cs) (hT : Row3 T) : ∀ k, v.ownBlock = some k → B ≤ k ∧ k ≠ g := by
  obtain ⟨ad, n, c, rfl, _, _, _, ⟨rfl, _⟩ | ⟨b, cur, fr, rfl, hB, _, hb, _⟩⟩ := h
  · simp [Value.ownBlock]
  · intro k hk
    simp [Value.ownBlock] at hk
    subst hk
    exact ⟨hB, hS.ne_row hb hT⟩
end

/-- 'append(s, x)' of a byte. -/
theorem run_append_hb (w : World) (ty : TypeId) (B M : Nat) (rk : Nat → Nat) (a : Option Addr) (n cap : Nat) (hv : Sli B M 5 1 (fun _ => True) w (.slice a n cap)) (hH : Hw B M rk w) (hBw : B ≤ w.heap.size) (hn : n ≤ 1000000)
    (x : Int) (hx : Byt x) (ad : Addr) (c : Nat) (hnews : ∀ (j : Nat) (u : Value), [Value.int .u8 x][j]? = some u → w.cell? (ad.add j) = some u) :
    ∃ (g' cap' : Nat) (w' : World), (Builtin.append_ #[22, 22] ty #[.slice a n cap, .slice (some ad) 1 c]).run Tryz.prog w = .ok (.slice (some ⟨g', 0, none⟩) (n + 1) cap') w' ∧ Hw B M rk w' ∧
      (∀ M', n + 1 ≤ M' → Sli B M' 5 1 (fun _ => True) w' (.slice (some ⟨g', 0, none⟩) (n + 1) cap')) ∧ Shp w w' ∧ w.grownBy w' (Value.slice a n cap).ownBlock := by
  obtain ⟨i, hi, hz0, hz1, hz2⟩ := info_parts info5
  have hfr : ∀ (g : Nat) (cur : Array Value) (fr : Nat × Nat), B ≤ g → w.heap[g]? = some (.cells cur 5 fr) → fr.2 = 0 ∨ cur.size ≤ fr.1 := fun g cur fr hB hg => ((hH g hB cur _ fr hg).1 rfl).1
  obtain ⟨g', cap', w', hrun, k1, k2, hcase⟩ := run_append_sl w 22 ty 5 i (.int .u8 0) 1 1 Tryz.underlying22 hi hz0 hz1 hz2 (by omega) (by rfl) B M _ a n cap hv hfr hn ad 1 c [Value.int .u8 x] rfl hnews (fun u hu => by simp at hu; subst hu; rfl) (by omega) (by omega)
  rcases hcase with ⟨cur, fr, rfl, hB, hp, rfl, hg, hcz, hfit, rfl⟩ | ⟨rfl, old, hol, hold, rfl⟩
  · have hQ := ((hH g' hB cur _ _ hg).1 rfl).2
    have hf := ((hH g' hB cur _ _ hg).1 rfl).1
    have hsz : (cur.toList.take (n * 1) ++ [Value.int .u8 x] ++ cur.toList.drop (n * 1 + 1 * 1)).toArray.size = cur.size := by
      simp only [List.size_toArray, List.length_append, List.length_take, List.length_drop, Array.length_toList, List.length_cons, List.length_nil]
      omega
    have hS := Shp.setRow (new := (cur.toList.take (n * 1) ++ [Value.int .u8 x] ++ cur.toList.drop (n * 1 + 1 * 1)).toArray) hg hsz
    refine ⟨g', cap', _, hrun, hH.setRow hB hg hsz ⟨fun _ => ⟨by rw [hsz]; exact hf, fun j d e => ?_⟩, fun h => absurd h (by decide), fun h => absurd h (by decide)⟩, fun M' hM' => ⟨_, _, _, rfl, hM', k1, k2, .inr ⟨g', _, fr, rfl, hB, trivial, setRow_heap w g' cur _ _ _ hg, hsz.trans hcz⟩⟩, hS, grownBy_setRow _ _ _⟩
    simp only [List.getElem?_toArray] at e
    have hm := List.mem_of_getElem? e
    rcases List.mem_append.1 hm with hm | hm
    · rcases List.mem_append.1 hm with hm | hm
      · obtain ⟨q, hq⟩ := List.getElem?_of_mem (List.mem_of_mem_take hm)
        exact hQ q d (by rwa [Array.getElem?_toList] at hq)
      · simp at hm
        exact ⟨x, hx, hm⟩
    · obtain ⟨q, hq⟩ := List.getElem?_of_mem (List.mem_of_mem_drop hm)
      exact hQ q d (by rwa [Array.getElem?_toList] at hq)
  · have hQ : ∀ u ∈ old, ∃ x, Byt x ∧ u = .int .u8 x := by
      intro u hu
      rcases hold with ⟨_, rfl⟩ | ⟨g, cur, fr, _, hB, hp, hg, rfl⟩
      · simp at hu
      · obtain ⟨q, hq⟩ := List.getElem?_of_mem (List.mem_of_mem_take hu)
        exact ((hH g hB cur _ _ hg).1 rfl).2 q u (by rwa [Array.getElem?_toList] at hq)
    refine ⟨w.heap.size, cap', _, hrun, Hw.alloc_b (w := w.drew) (hH.heap rfl) _ (0, 0) (.inl rfl) fun j d e => ?_, fun M' hM' => ⟨_, _, _, rfl, hM', k1, k2, .inr ⟨w.heap.size, _, (0, 0), rfl, hBw, trivial, heap_alloc_new w.drew _, ?_⟩⟩, Shp.alloc (w := w.drew) _, grownBy_drewAlloc _ _ _⟩
    · rw [← Array.getElem?_toList] at e
      have e' : (old ++ [Value.int .u8 x] ++ (Builtin.zeroCells (Value.cells (.int .u8 0)) (cap' - (n + 1))).toList)[j]? = some d := by simpa using e
      have hm := List.mem_of_getElem? e'
      rcases List.mem_append.1 hm with hm | hm
      · rcases List.mem_append.1 hm with hm | hm
        · exact hQ d hm
        · simp at hm
          exact ⟨x, hx, hm⟩
      · obtain ⟨q, hq⟩ := List.getElem?_of_mem hm
        have := zeroCells_at hq
        have ez : (Value.cells (.int .u8 0)) = #[.int .u8 0] := by rfl
        rw [ez] at this
        simp [Nat.mod_one] at this
        exact ⟨0, by simp [Byt], this⟩
    · simp only [Array.size_append, List.size_toArray, size_zeroCells, hol]
      simp [Value.cells]
      omega
end Go.Proofs.YteafpgaefphkfaaGreatDoor
