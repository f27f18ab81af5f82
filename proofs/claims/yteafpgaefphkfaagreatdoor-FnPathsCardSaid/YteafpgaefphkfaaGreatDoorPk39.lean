/-
  Texts that a law leans on, one behind the other; no statement is proved here.
-/
import Derived.Test.YteafpgaefphkfaaGreatDoorPk38
import Derived.Test.YteafpgaefphkfaaGreatDoorPk4
/-
  What is drawn on such a heap: a name; what stands while a value is drawn. No statement is proved here.
-/
namespace Go.Proofs.YteafpgaefphkfaaGreatDoor
open Go.RowKit
set_option linter.unusedVariables false
set_option linter.unusedSimpArgs false

theorem Hs.heap {B M : Nat} {rk : Nat → Nat} {w w' : World} {g : Nat} {a : Option Addr} {cap : Nat} {cs : List Int} (h : Hs B M rk w g a cap cs) (e : w'.heap = w.heap) : Hs B M rk w' g a cap cs :=
  h.on (h.1.heap e) (by rw [e]) fun b _ => by rw [e]

/-- From one world on to another, but for the cursor's block. -/
def Hst (rk : Nat → Nat) (w : World) (rk' : Nat → Nat) (w' : World) (g : Nat) : Prop := Rks rk rk' w.heap.size ∧ w.grownBy w' (some g) ∧ Shp w w'

theorem Hst.trans {rk rk1 rk2 : Nat → Nat} {w w1 w2 : World} {g : Nat} (h : Hst rk w rk1 w1 g) (k : Hst rk1 w1 rk2 w2 g) : Hst rk w rk2 w2 g := ⟨h.1.trans k.1 h.2.1.size, grownBy_trans h.2.1 k.2.1, h.2.2.trans k.2.2⟩
theorem Hst.refl (rk : Nat → Nat) (w : World) (g : Nat) : Hst rk w rk w g := ⟨Rks.refl _ _, World.grownBy.refl _ _, Shp.refl _⟩
theorem Hst.cus {rk : Nat → Nat} {w w' : World} {g : Nat} (h : Cus g w w') (k : Shp w w') : Hst rk w rk w' g := ⟨Rks.refl _ _, h.1, k⟩
theorem Hst.below {rk rk' : Nat → Nat} {w w' : World} {g : Nat} (h : Below w.heap.size w w') (k : Rks rk rk' w.heap.size) : Hst rk w rk' w' g := ⟨k, ⟨h.os, h.tape, h.output, h.size, fun b hb _ => h.block b hb⟩, Shp.below h⟩
theorem Hst.block {rk rk' : Nat → Nat} {w w' : World} {g b : Nat} (h : Hst rk w rk' w' g) (hb : b < w.heap.size) (hne : b ≠ g) : w'.heap[b]? = w.heap[b]? := h.2.1.block b hb (by simpa using hne)
theorem Hst.heap {rk rk' : Nat → Nat} {w w' wx : World} {g : Nat} (h : Hst rk wx rk' w' g) (e : wx.heap = w.heap) (e1 : wx.os = w.os) (e2 : wx.tape = w.tape) (e3 : wx.output = w.output) : Hst rk w rk' w' g :=
  ⟨by rw [← e]; exact h.1, ⟨h.2.1.os.trans e1, h.2.1.tape.trans e2, h.2.1.output.trans e3, by rw [← e]; exact h.2.1.size, fun b hb hne => by rw [← e]; exact h.2.1.block b (by rw [e]; exact hb) hne⟩, (Shp.heap e).trans h.2.2⟩

theorem Hs.below {B M : Nat} {rk rk' : Nat → Nat} {w w' : World} {g : Nat} {a : Option Addr} {cap : Nat} {cs : List Int} (h : Hs B M rk w g a cap cs) (hw : Hw B M rk' w') (hb : Below w.heap.size w w') : Hs B M rk' w' g a cap cs :=
  h.on hw (hb.block g h.lt) fun b hb' => hb.block b (by have := h.base; omega)

/-- '[]byte(s)' of a string. -/
theorem conv_hw {B M : Nat} {rk : Nat → Nat} (xs : List Int) (hx : ∀ x ∈ xs, Byt x) (hl : xs.length ≤ 1000) (w : World) (hH : Hw B M rk w) (hBw : B ≤ w.heap.size) (hM : xs.length ≤ M) : ∃ cap wB, (convert 9 22 (.string (strOf xs))).run Tryz.prog w = .ok (.slice (some ⟨w.heap.size, 0, none⟩) xs.length cap) wB ∧
    Sli B M 5 1 (fun _ => True) wB (.slice (some ⟨w.heap.size, 0, none⟩) xs.length cap) ∧ Hw B M rk wB ∧ Below w.heap.size w wB := by
  have hsz := size_strOf xs
  have hrun := run_bytes_of_string (P := Tryz.prog) w 9 22 5 (strOf xs) Tryz.underlying9 Tryz.underlying22 Tryz.underlying5
  rw [hsz] at hrun
  have hge := grownCap_ge w xs.length 0 5
  have hle := grownCap_le_maxLen w xs.length 0 5 (by unfold maxLen; omega)
  generalize grownCap w xs.length 0 5 = cap at hrun hge hle
  have hrs : (bytesRow (strOf xs) cap).size = cap := by
    have h1 : (strOf xs).data.size = xs.length := hsz
    simp [bytesRow, h1, hsz]
    omega
  have hall : ∀ (j : Nat) (c : Value), (bytesRow (strOf xs) cap)[j]? = some c → ∃ x, Byt x ∧ c = .int .u8 x := by
    intro j c hc
    have hm := Array.mem_of_getElem? hc
    unfold bytesRow at hm
    rcases Array.mem_append.1 hm with hm | hm
    · simp only [Array.mem_map] at hm
      obtain ⟨b, _, rfl⟩ := hm
      exact ⟨_, ⟨by omega, by have := b.toNat_lt; omega⟩, rfl⟩
    · have := (Array.mem_replicate.1 hm).2
      exact ⟨0, by simp [Byt], this⟩
  generalize bytesRow (strOf xs) cap = br at *
  have hb : Below w.heap.size w (w.drew.alloc (.cells br 5 (br.size, br.size + 1))) := ((Below.refl _ w).drew).alloc (Nat.le_refl _) _
  refine ⟨cap, _, hrun, ⟨_, _, _, rfl, hM, hge, hle, .inr ⟨w.heap.size, br, (br.size, br.size + 1), rfl, hBw, trivial, heap_alloc_new w.drew _, by omega⟩⟩, ?_, hb⟩
  exact Hw.alloc_b (w := w.drew) (hH.heap rfl) br (br.size, br.size + 1) (.inr (Nat.le_refl _)) hall

/-- What a name that is drawn leaves. -/
def NamEnd (B M : Nat) (rk : Nat → Nat) (g : Nat) (a : Option Addr) (cap : Nat) (cs : List Int) (w : World) (e : Ending) (w' : World) : Prop :=
  ∃ (ad : Option Addr) (n c : Nat), e = .returned (.slice ad n c) ∧ Sli B M 5 1 (fun _ => True) w' (.slice ad n c) ∧ Hs B M rk w' g a cap cs ∧ Hst rk w rk w' g

set_option maxHeartbeats 800000 in
set_option maxRecDepth 100000 in
theorem l2drawName_hs (B M : Nat) (rk : Nat → Nat) (g : Nat) (a : Option Addr) (cap : Nat) (cs : List Int) (w : World) (h : Hs B M rk w g a cap cs) (hM : 8 ≤ M) :
    Calls Tryz.prog 32 #[.pointer (some ⟨g, 0, none⟩)] w (NamEnd B M rk g a cap cs w) := by
  have HA : Hid (∀ o : Obj, Below w.heap.size w (w.alloc o) ∧ (w.alloc o).heap[w.heap.size]? = some o) := fun o => ⟨(Below.refl _ _).alloc (Nat.le_refl _) o, heap_alloc_new w o⟩
  have hgl := h.lt
  have hB := h.base
  have HL : Hid (∀ cur : Array Value, Calls Tryz.prog 18 #[.pointer (some ⟨g, 0, none⟩), .int .i64 7] (w.alloc (.cells cur 9)) fun e w' => ∃ x : Int, e = .returned (.int .i64 x) ∧ 0 ≤ x ∧ (0 < (7 : Int) → x < 7) ∧ ((7 : Int) ≤ 0 → x = 0) ∧ Hs B M rk w' g a cap cs ∧ Cus g (w.alloc (.cells cur 9)) w' ∧ Shp (w.alloc (.cells cur 9)) w') := fun cur => l1Below_hs (h.below (h.1.alloc_other cur 9 (0, 0) (by decide)) (HA.out _).1) 7 (by omega)
  clear h
  go_enter Tryz.func32, Tryz.ntmps32
  go_wp2_with fail
  refine (HL.out _).mono ?_
  rintro e w2 ⟨x, rfl, hx0, hx7, _, hd, hg2, hsh⟩
  obtain ⟨k, rfl⟩ : ∃ k : Nat, x = k := ⟨x.toNat, by omega⟩
  have hk : k < 7 := by have := hx7 (by omega); omega
  have hS2 : Hst rk w rk w2 g := (Hst.below (HA.out _).1 (Rks.refl _ _)).trans (Hst.cus hg2 hsh)
  have hblk := (hg2.1.block w.heap.size (by simp) (by simp; omega)).trans (HA.out _).2
  have hcell : w2.cell? ⟨w.heap.size, k, none⟩ = some (.string (strOf (names7.getD k []))) := by
    rw [cell_of_row w2 w.heap.size k _ 9 (0, 0) hblk]
    obtain rfl | rfl | rfl | rfl | rfl | rfl | rfl : k = 0 ∨ k = 1 ∨ k = 2 ∨ k = 3 ∨ k = 4 ∨ k = 5 ∨ k = 6 := by omega
    all_goals rfl
  obtain ⟨hnb, hnl⟩ := names7_ok k hk
  obtain ⟨ck, wB, hconv, hT, hHB, hBB⟩ := conv_hw (names7.getD k []) (names_byt hnb) (by omega) w2 hd.1 hd.base (by omega)
  have hk' : (k : Int) < 7 := by omega
  have hk0 : (0 : Int) ≤ (k : Int) := by omega
  have HE : Hid (NamEnd B M rk g a cap cs w (.returned (.slice (some ⟨w2.heap.size, 0, none⟩) (names7.getD k []).length ck)) wB) := ⟨_, _, _, rfl, hT, hd.below hHB hBB, hS2.trans (Hst.below hBB (Rks.refl _ _))⟩
  generalize (names7.getD k []).length = nl at HE hconv
  generalize strOf (names7.getD k []) = sx at hcell hconv
  clear hT hHB hBB hd hg2 hsh hS2 hblk HL HA hnb hnl hx7 hx0
  go_wp2
  go_ret
  exact HE.out

/-- What a value that is drawn leaves. -/
def DrwEnd (B M : Nat) (rk : Nat → Nat) (ρ g : Nat) (a : Option Addr) (cap : Nat) (cs : List Int) (w : World) (e : Ending) (w' : World) : Prop :=
  ∃ (k n : Int) (a2 : Option Addr) (l2 p2 : Nat) (a3 : Option Addr) (l3 p3 : Nat) (a4 : Option Addr) (l4 p4 : Nat) (rk' : Nat → Nat), e = .returned (.agg #[.int .i64 k, .int .i64 n, .slice a2 l2 p2, .slice a3 l3 p3, .slice a4 l4 p4]) ∧
    Grp B M rk' ρ w' (.int .i64 k, .int .i64 n, .slice a2 l2 p2, .slice a3 l3 p3, .slice a4 l4 p4) ∧ Hs B M rk' w' g a cap cs ∧ Hst rk w rk' w' g

theorem Grp.forms {B M r : Nat} {rk : Nat → Nat} {w : World} {c0 c1 c2 c3 c4 : Value} (h : Grp B M rk r w (c0, c1, c2, c3, c4)) : ∃ (k n : Int) (a2 : Option Addr) (l2 p2 : Nat) (a3 : Option Addr) (l3 p3 : Nat) (a4 : Option Addr) (l4 p4 : Nat), c0 = .int .i64 k ∧ c1 = .int .i64 n ∧ c2 = .slice a2 l2 p2 ∧ c3 = .slice a3 l3 p3 ∧ c4 = .slice a4 l4 p4 := by
  obtain ⟨⟨k, h0⟩, ⟨n, h1⟩, h2, h3, h4⟩ := h
  obtain ⟨a2, l2, p2, e2⟩ := h2.form
  obtain ⟨a3, l3, p3, e3⟩ := h3.form
  obtain ⟨a4, l4, p4, e4⟩ := h4.form
  exact ⟨k, n, a2, l2, p2, a3, l3, p3, a4, l4, p4, h0, h1, e2, e3, e4⟩

/-- The answer's box is written. -/
theorem drw_end {B M : Nat} {rk rkz : Nat → Nat} {ρ g R : Nat} {a : Option Addr} {cap : Nat} {cs : List Int} {w wz : World} {z0 z1 z2 z3 z4 d0 d1 d2 d3 d4 : Value} (hS : Hs B M rkz wz g a cap cs) (hT : Hst rk w rkz wz g) (hR : wz.heap[R]? = some (.cells #[z0, z1, z2, z3, z4] 29 (0, 0))) (hRw : w.heap.size ≤ R) (hBR : B ≤ R) (hG : Grp B M rkz ρ wz (d0, d1, d2, d3, d4)) (hρ : ρ ≤ rkz R) :
    DrwEnd B M rk ρ g a cap cs w (.returned (.agg #[d0, d1, d2, d3, d4])) (set5 wz R 0 d0 d1 d2 d3 d4) := by
  obtain ⟨k1, k2⟩ := hS.1.set5 hR (hG.shp (Shp.refl _) (Rks.refl _ _) hρ)
  obtain ⟨k, n, a2, l2, p2, a3, l3, p3, a4, l4, p4, rfl, rfl, rfl, rfl, rfl⟩ := hG.forms
  have hgR : g ≠ R := by
    rintro rfl
    have := hS.2.1.2.2.1.type hR
    exact this row3_v
  have hoth : ∀ b, b ≠ R → (set5 wz R 0 (.int .i64 k) (.int .i64 n) (.slice a2 l2 p2) (.slice a3 l3 p3) (.slice a4 l4 p4)).heap[b]? = wz.heap[b]? := fun b hb => set5_other wz R 0 _ _ _ _ _ b hb
  have h5 := set5_grown wz R 0 (.int .i64 k) (.int .i64 n) (.slice a2 l2 p2) (.slice a3 l3 p3) (.slice a4 l4 p4)
  generalize set5 wz R 0 (.int .i64 k) (.int .i64 n) (.slice a2 l2 p2) (.slice a3 l3 p3) (.slice a4 l4 p4) = wf at *
  have hg : w.grownBy wf (some g) := hT.2.1.andThen h5 (fun j hj => .inl (by cases hj; exact hRw))
  exact ⟨k, n, a2, l2, p2, a3, l3, p3, a4, l4, p4, rkz, rfl, hG.shp k2 (Rks.refl _ _) (Nat.le_refl _), hS.on k1 (hoth g hgR) (fun b hb => hoth b (by omega)), hT.1, hg, hT.2.2.trans k2⟩

/-- While a map is being drawn: its box O, the answer's box R. -/
def MSt (B M : Nat) (rk : Nat → Nat) (n : Nat) (w : World) (g : Nat) (a : Option Addr) (cap : Nat) (cs : List Int) (R O m : Nat) (rkr : Nat → Nat) (wr : World) (a3 : Option Addr) (c3 : Nat) (a4 : Option Addr) (c4 : Nat) : Prop :=
  Hs B M rkr wr g a cap cs ∧ Hst rk w rkr wr g ∧ wr.heap[R]? = some (.cells #[.int .i64 0, .int .i64 0, .slice none 0 0, .slice none 0 0, .slice none 0 0] 29 (0, 0)) ∧ rkr R = n + 1 ∧ rkr O = n + 1 ∧
    wr.heap[O]? = some (.cells #[.int .i64 5, .int .i64 0, .slice none 0 0, .slice a3 m c3, .slice a4 m c4] 29 (0, 0)) ∧ Grp B M rkr (n + 1) wr (.int .i64 5, .int .i64 0, .slice none 0 0, .slice a3 m c3, .slice a4 m c4)

theorem Hs.ne_row {B M : Nat} {rk : Nat → Nat} {w : World} {g b : Nat} {a : Option Addr} {cap : Nat} {cs : List Int} {cur : Array Value} {T : TypeId} {fr : Nat × Nat} (h : Hs B M rk w g a cap cs) (hb : w.heap[b]? = some (.cells cur T fr)) (hT : Row3 T) : b ≠ g := by
  rintro rfl
  exact h.2.1.2.2.1.type hb hT

/-- A round: a name, a value, the map with both. -/
theorem mst_next {B M : Nat} {rk rkr rk3 rk4 : Nat → Nat} {n : Nat} {w wr w3 w4 : World} {g : Nat} {a : Option Addr} {cap : Nat} {cs : List Int} {R O m m' : Nat} {a3 : Option Addr} {c3 : Nat} {a4 : Option Addr} {c4 : Nat} {b3 : Option Addr} {d3 : Nat} {b4 : Option Addr} {d4 : Nat} (h : MSt B M rk n w g a cap cs R O m rkr wr a3 c3 a4 c4) (hRO : R < O) (hwR : w.heap.size ≤ R) (hBR : B ≤ R)
    (hT3 : Hst rkr wr rk3 w3 g) (hS3 : Hs B M rk3 w3 g a cap cs) (hG4 : Grp B M rk4 (n + 1) w4 (.int .i64 5, .int .i64 0, .slice none 0 0, .slice b3 m' d3, .slice b4 m' d4)) (hH4 : Hw B M rk4 w4) (hR4 : Rks rk3 rk4 w3.heap.size) (hB4 : Below w3.heap.size w3 w4) :
    w4.heap[O]? = some (.cells #[.int .i64 5, .int .i64 0, .slice none 0 0, .slice a3 m c3, .slice a4 m c4] 29 (0, 0)) ∧ MSt B M rk n w g a cap cs R O m' rk4 (set5 w4 O 0 (.int .i64 5) (.int .i64 0) (.slice none 0 0) (.slice b3 m' d3) (.slice b4 m' d4)) b3 d3 b4 d4 := by
  obtain ⟨h1, h2, h3, h4, h5, h6, h7⟩ := h
  have hS4 := hS3.below hH4 hB4
  have hT4 : Hst rkr wr rk4 w4 g := hT3.trans (Hst.below hB4 hR4)
  have hOl := (Array.getElem?_eq_some_iff.1 h6).1
  have hOg := h1.ne_row h6 row3_v
  have hRg := h1.ne_row h3 row3_v
  have hO4 := (hT4.block hOl hOg).trans h6
  have hR4' := (hT4.block (by omega) hRg).trans h3
  have hkO : rk4 O = n + 1 := (hT4.1 O hOl).trans h5
  have hkR : rk4 R = n + 1 := (hT4.1 R (by omega)).trans h4
  obtain ⟨k1, k2⟩ := hS4.1.set5 hO4 (by rw [hkO]; exact hG4)
  have hoth : ∀ b, b ≠ O → (set5 w4 O 0 (.int .i64 5) (.int .i64 0) (.slice none 0 0) (.slice b3 m' d3) (.slice b4 m' d4)).heap[b]? = w4.heap[b]? := fun b hb => set5_other w4 O 0 _ _ _ _ _ b hb
  have hT5 := h2.trans hT4
  have h9 := set5_heap (j := 0) (.int .i64 5) (.int .i64 0) (.slice none 0 0) (.slice b3 m' d3) (.slice b4 m' d4) hO4
  have hs5 := set5_grown w4 O 0 (.int .i64 5) (.int .i64 0) (.slice none 0 0) (.slice b3 m' d3) (.slice b4 m' d4)
  rw [show arrSet5 #[.int .i64 5, .int .i64 0, .slice none 0 0, .slice a3 m c3, .slice a4 m c4] 0 (.int .i64 5) (.int .i64 0) (.slice none 0 0) (.slice b3 m' d3) (.slice b4 m' d4) = #[.int .i64 5, .int .i64 0, .slice none 0 0, .slice b3 m' d3, .slice b4 m' d4] from rfl] at h9
  generalize set5 w4 O 0 (.int .i64 5) (.int .i64 0) (.slice none 0 0) (.slice b3 m' d3) (.slice b4 m' d4) = wf at *
  have hgf : w.grownBy wf (some g) := hT5.2.1.andThen hs5 (fun j hj => .inl (by cases hj; omega))
  exact ⟨hO4, hS4.on k1 (hoth g (Ne.symm hOg)) (fun b hb => hoth b (by omega)), ⟨hT5.1, hgf, hT5.2.2.trans k2⟩, (hoth R (by omega)).trans hR4', hkR, hkO, h9, hG4.shp k2 (Rks.refl _ _) (Nat.le_refl _)⟩
end Go.Proofs.YteafpgaefphkfaaGreatDoor
/-
  Paths that are drawn: a row of steps that grows on a heap on which values are drawn; whatever its keys are, they can be read. No statement is proved here.
-/
namespace Go.Proofs.YteafpgaefphkfaaGreatDoor
open Go.RowKit
set_option linter.unusedVariables false
set_option linter.unusedSimpArgs false

theorem infoSt : (Tryz.prog.info? 50).map (fun i => (i.zero, i.size, i.bytes)) = some (some (.agg #[.int .i64 0, .slice none 0 0, .int .i64 0]), 3, 40) := by kernel_rfl

/-- Three cells that are a step, its key on such a heap. -/
def Tri3 (B M : Nat) (w : World) (e : Value × Value × Value) : Prop := (∃ k, e.1 = .int .i64 k) ∧ Sli B M 5 1 (fun _ => True) w e.2.1 ∧ ∃ i, e.2.2 = .int .i64 i

theorem Tri3.shp {B M : Nat} {w w' : World} {e : Value × Value × Value} (h : Tri3 B M w e) (hs : Shp w w') : Tri3 B M w' e := ⟨h.1, h.2.1.shp row3_b hs fun _ _ h => h, h.2.2⟩

/-- The cells of steps, one behind the other. -/
def Trs (B M : Nat) (w : World) (xs : List Value) (n : Nat) : Prop := xs.length = n * 3 ∧ ∀ j, j < n → ∃ e0 e1 e2, xs[j * 3]? = some e0 ∧ xs[j * 3 + 1]? = some e1 ∧ xs[j * 3 + 2]? = some e2 ∧ Tri3 B M w (e0, e1, e2)

theorem Trs.shp {B M n : Nat} {w w' : World} {xs : List Value} (h : Trs B M w xs n) (hs : Shp w w') : Trs B M w' xs n :=
  ⟨h.1, fun j hj => by obtain ⟨e0, e1, e2, h0, h1, h2, h3⟩ := h.2 j hj; exact ⟨e0, e1, e2, h0, h1, h2, h3.shp hs⟩⟩
theorem Trs.app {B M n m : Nat} {w : World} {xs ys : List Value} (h : Trs B M w xs n) (k : Trs B M w ys m) : Trs B M w (xs ++ ys) (n + m) := by
  refine ⟨by rw [List.length_append, h.1, k.1]; omega, fun j hj => ?_⟩
  by_cases hlt : j < n
  · obtain ⟨e0, e1, e2, h0, h1, h2, h3⟩ := h.2 j hlt
    have hl := h.1
    refine ⟨e0, e1, e2, ?_, ?_, ?_, h3⟩ <;> (rw [List.getElem?_append_left (by omega)]; assumption)
  · obtain ⟨e0, e1, e2, h0, h1, h2, h3⟩ := k.2 (j - n) (by omega)
    have hl := h.1
    refine ⟨e0, e1, e2, ?_, ?_, ?_, h3⟩
    · rw [List.getElem?_append_right (by omega), ← h0]; congr 1; omega
    · rw [List.getElem?_append_right (by omega), ← h1]; congr 1; omega
    · rw [List.getElem?_append_right (by omega), ← h2]; congr 1; omega
theorem Trs.nil (B M : Nat) (w : World) : Trs B M w [] 0 := ⟨rfl, fun j hj => by omega⟩
theorem Trs.one {B M : Nat} {w : World} {e0 e1 e2 : Value} (h : Tri3 B M w (e0, e1, e2)) : Trs B M w [e0, e1, e2] 1 := by
  refine ⟨rfl, fun j hj => ?_⟩
  obtain rfl : j = 0 := by omega
  exact ⟨e0, e1, e2, rfl, rfl, rfl, h⟩
theorem Trs.take {B M n k : Nat} {w : World} {xs : List Value} (h : Trs B M w xs n) (hk : k ≤ n) : Trs B M w (xs.take (k * 3)) k := by
  refine ⟨by rw [List.length_take, h.1]; omega, fun j hj => ?_⟩
  obtain ⟨e0, e1, e2, h0, h1, h2, h3⟩ := h.2 j (by omega)
  refine ⟨e0, e1, e2, ?_, ?_, ?_, h3⟩ <;> (rw [List.getElem?_take, if_pos (by omega)]; assumption)
theorem Trs.cell {B M n : Nat} {w : World} {xs : List Value} (h : Trs B M w xs n) : ∀ u ∈ xs, u.oneCell' = true := by
  intro u hu
  obtain ⟨q, hq⟩ := List.getElem?_of_mem hu
  have hql := (List.getElem?_eq_some_iff.1 hq).1
  rw [h.1] at hql
  obtain ⟨e0, e1, e2, h0, h1, h2, ⟨k, rfl⟩, hs, ⟨i, rfl⟩⟩ := h.2 (q / 3) (by omega)
  simp only at hs
  have : q = q / 3 * 3 ∨ q = q / 3 * 3 + 1 ∨ q = q / 3 * 3 + 2 := by omega
  rcases this with e | e | e
  · rw [← e, hq] at h0; simp at h0; subst h0; rfl
  · rw [← e, hq] at h1; simp at h1; subst h1; exact hs.one
  · rw [← e, hq] at h2; simp at h2; subst h2; rfl

/-- A row of n steps, from L on, its keys from B on. -/
def SpS (B M L : Nat) (w : World) (a : Option Addr) (n cap : Nat) : Prop :=
  n ≤ cap ∧ cap ≤ maxLen ∧ ((a = none ∧ cap = 0) ∨ ∃ (g off : Nat) (cur : Array Value), a = some ⟨g, off, none⟩ ∧ L ≤ g ∧ w.heap[g]? = some (.cells cur 50 (0, 0)) ∧ cur.size = off + cap * 3 ∧ Trs B M w ((cur.toList.drop off).take (n * 3)) n)

theorem SpS.on {B M L : Nat} {w w' : World} {a : Option Addr} {n cap : Nat} (h : SpS B M L w a n cap) (hs : Shp w w') (hb : ∀ b, L ≤ b → b < w.heap.size → w'.heap[b]? = w.heap[b]?) : SpS B M L w' a n cap := by
  obtain ⟨h1, h2, h3⟩ := h
  refine ⟨h1, h2, ?_⟩
  rcases h3 with h3 | ⟨g, off, cur, ha, hL, hg, hc, ht⟩
  · exact .inl h3
  · exact .inr ⟨g, off, cur, ha, hL, (hb g hL (Array.getElem?_eq_some_iff.1 hg).1).trans hg, hc, ht.shp hs⟩
theorem SpS.nil (B M L : Nat) (w : World) : SpS B M L w none 0 0 := ⟨Nat.le_refl _, by simp [maxLen], .inl ⟨rfl, rfl⟩⟩
/-- Such a row reads as a path. -/
theorem SpS.path {B M L : Nat} {rk : Nat → Nat} {w : World} {a : Option Addr} {n cap : Nat} (h : SpS B M L w a n cap) (hH : Hw B M rk w) (hBL : B ≤ L) : ∃ l : List Stp, l.length = n ∧ PthSeg (From B w) w (.slice a n cap) l := by
  obtain ⟨h1, h2, h3⟩ := h
  rcases h3 with ⟨rfl, rfl⟩ | ⟨g, off, cur, rfl, hL, hg, hc, ht⟩
  · obtain rfl : n = 0 := by omega
    exact ⟨[], rfl, none, 0, rfl, Nat.le_refl _, h2, fun _ => rfl, .inl rfl⟩
  · have hlt := (Array.getElem?_eq_some_iff.1 hg).1
    obtain ⟨l, hl, hp⟩ := pick_list n (fun i (s : Stp) => ∃ e, Three w g (off + i * 3) e ∧ StSeg (From B w) w e s) fun i hi => by
      obtain ⟨e0, e1, e2, g0, g1, g2, ⟨k, rfl⟩, hk, ⟨z, rfl⟩⟩ := ht.2 i hi
      obtain ⟨xs, hx, _⟩ := hH.text hk
      have at_ : ∀ q u, ((cur.toList.drop off).take (n * 3))[q]? = some u → q < n * 3 → w.cell? ⟨g, off + q, none⟩ = some u := by
        intro q u hq hqn
        rw [cell_of_row w g _ cur _ (0, 0) hg, ← hq, List.getElem?_take, if_pos hqn, List.getElem?_drop, Array.getElem?_toList]
      exact ⟨(k, xs, z), _, ⟨at_ _ _ g0 (by omega), at_ _ _ g1 (by omega), at_ _ _ g2 (by omega)⟩, rfl, hx, rfl⟩
    subst hl
    exact ⟨l, rfl, some ⟨g, off, none⟩, cap, rfl, h1, h2, by simp, .inr ⟨g, off, rfl, ⟨by omega, hlt⟩, fun i hi => hp i hi⟩⟩

/-- What an append to such a row has turned: its own block, a new one. -/
def Grw (a : Option Addr) (w w' : World) : Prop :=
  Shp w w' ∧ w.grownBy w' (Value.slice a 0 0).ownBlock ∧ ∀ (B M : Nat) (rk : Nat → Nat), Hw B M rk w → Hw B M rk w'

theorem hw_other {B M : Nat} {rk : Nat → Nat} {w : World} {g : Nat} {cur new : Array Value} (h : Hw B M rk w) (hg : w.heap[g]? = some (.cells cur 50 (0, 0))) (hs : new.size = cur.size) : Hw B M rk (w.setRow g new) := by
  refine h.step (Shp.setRow hg hs) (Rks.refl _ _) fun b hb hbz => ?_
  by_cases he : b = g
  · subst he
    refine .inr fun c T fr hh => ?_
    rw [setRow_heap w b cur new _ _ hg] at hh
    simp only [Option.some.injEq, Obj.cells.injEq] at hh
    obtain ⟨rfl, rfl, rfl⟩ := hh
    exact ⟨fun h => absurd h (by decide), fun h => absurd h (by decide), fun h => absurd h (by decide)⟩
  · exact .inl ⟨by simpa using hbz, setRow_other w g b new he⟩

theorem take_drop_app {cur : List Value} {off n cap : Nat} {news : List Value} (hc : cur.length = off + cap * 3) (hn : n ≤ cap) (m : Nat) (hm : news.length = m * 3) (hnm : n + m ≤ cap) :
    ((cur.take (off + n * 3) ++ news ++ cur.drop (off + n * 3 + m * 3)).drop off).take ((n + m) * 3) = (cur.drop off).take (n * 3) ++ news := by
  have h1 : (cur.take (off + n * 3)).length = off + n * 3 := by rw [List.length_take]; omega
  rw [List.append_assoc, List.drop_append_of_le_length (by omega), ← List.append_assoc, List.take_append_of_le_length (by simp only [List.length_append, List.length_drop, h1, hm]; omega)]
  rw [List.drop_take, show off + n * 3 - off = n * 3 by omega]
  refine List.take_of_length_le ?_
  simp only [List.length_append, List.length_take, List.length_drop, hm]
  omega

theorem sps_app (w : World) (ty : TypeId) (B M L : Nat) (a : Option Addr) (n cap : Nat) (hv : SpS B M L w a n cap) (hn : n ≤ 1000000) (ad : Addr) (m c : Nat) (news : List Value) (hT : Trs B M w news m) (hnews : ∀ (j : Nat) (u : Value), news[j]? = some u → w.cell? (ad.add j) = some u) (hm : a = none → 0 < m) (hm2 : m ≤ 1000000) (hLw : L ≤ w.heap.size) :
    ∃ (g' off' cap' : Nat) (w' : World), (Builtin.append_ #[23, 23] ty #[.slice a n cap, .slice (some ad) m c]).run Tryz.prog w = .ok (.slice (some ⟨g', off', none⟩) (n + m) cap') w' ∧ SpS B M L w' (some ⟨g', off', none⟩) (n + m) cap' ∧ Grw a w w' := by
  obtain ⟨i, hi, hz0, hz1, hz2⟩ := info_parts infoSt
  obtain ⟨hnc, hcm, hcase⟩ := hv
  have ht : Tryz.prog.underlying 23 = some (.slice 50) := Tryz.underlying23
  have hbm : (n + m) * i.bytes ≤ 140737488355328 := by rw [hz2]; omega
  have hl : news.length = m * i.size := by rw [hz1]; exact hT.1
  have newrow : ∀ (old : List Value) (cap' : Nat), Trs B M w old n → n + m ≤ cap' → cap' ≤ maxLen → SpS B M L (w.drew.alloc (.cells (old.toArray ++ news.toArray ++ Builtin.zeroCells (Value.cells (.agg #[.int .i64 0, .slice none 0 0, .int .i64 0])) (cap' - (n + m))) 50)) (some ⟨w.heap.size, 0, none⟩) (n + m) cap' := by
    intro old cap' hold h1 h2
    refine ⟨h1, h2, .inr ⟨w.heap.size, 0, _, rfl, hLw, heap_alloc_new w.drew _, ?_, ?_⟩⟩
    · simp only [Array.size_append, List.size_toArray, size_zeroCells, hold.1, hT.1]
      simp [Value.cells]
      omega
    · have e : ((old.toArray ++ news.toArray ++ Builtin.zeroCells (Value.cells (.agg #[.int .i64 0, .slice none 0 0, .int .i64 0])) (cap' - (n + m))).toList.drop 0).take ((n + m) * 3) = old ++ news := by
        rw [List.drop_zero]
        simp only [Array.toList_append, List.toList_toArray]
        rw [List.take_append_of_le_length (by simp only [List.length_append, hold.1, hT.1]; omega)]
        refine List.take_of_length_le ?_
        simp only [List.length_append, hold.1, hT.1]
        omega
      rw [e]
      exact (hold.app hT).shp (Shp.alloc w.drew _)
  rcases hcase with ⟨rfl, rfl⟩ | ⟨g, off, cur, rfl, hB, hg, hcz, hT0⟩
  · obtain rfl : n = 0 := by omega
    have hr := run_append_nil (P := Tryz.prog) w 23 ty 50 i _ ht hi hz0 ad m c news hl hnews (hm rfl) (by omega) (by simp at hbm; omega)
    refine ⟨w.heap.size, 0, grownCap w m 0 50, _, by simpa using hr, ?_, ?_⟩
    · have := newrow [] (grownCap w m 0 50) (Trs.nil _ _ _) (by have := grownCap_ge w m 0 50; omega) (grownCap_le_maxLen w m 0 50 (by unfold maxLen; omega))
      simpa using this
    · exact ⟨Shp.alloc w.drew _, grownBy_drewAlloc _ _ _, fun B M rk h => Hw.alloc_other (w := w.drew) h _ _ _ (by decide)⟩
  · by_cases hroom : n + m ≤ cap
    · have hf := run_firstCells_some (P := Tryz.prog) w i.size m ad m c news hl hnews
      have hst := storeCells_hw Tryz.prog g (off + n * i.size) 50 (0, 0) news 0 cur w hg (by rw [hz1] at hl ⊢; omega) (.inl rfl) hT.cell
      simp only [Nat.add_zero] at hst
      have hr : (Builtin.append_ #[23, 23] ty #[.slice (some ⟨g, off, none⟩) n cap, .slice (some ad) m c]).run Tryz.prog w = .ok (.slice (some ⟨g, off, none⟩) (n + m) cap) (w.setRow g (cur.toList.take (off + n * i.size) ++ news ++ cur.toList.drop (off + n * i.size + news.length)).toArray) := by
        simp [Builtin.append_, run_underlying ht, sizeOf, typeInfo, hi, Builtin.lenOf, hroom, hf, Addr.add_lit, hst]
      rw [hl, hz1] at hr
      have hsz : (cur.toList.take (off + n * 3) ++ news ++ cur.toList.drop (off + n * 3 + m * 3)).toArray.size = cur.size := by
        rw [hz1] at hl
        simp only [List.size_toArray, List.length_append, List.length_take, List.length_drop, Array.length_toList, hl]
        omega
      refine ⟨g, off, cap, _, hr, ⟨hroom, hcm, .inr ⟨g, off, _, rfl, hB, setRow_heap w g cur _ _ _ hg, hsz.trans hcz, ?_⟩⟩, Shp.setRow hg hsz, grownBy_setRow _ _ _, fun B M rk h => hw_other h hg hsz⟩
      rw [List.toList_toArray, take_drop_app (by rw [Array.length_toList]; exact hcz) hnc m hT.1 hroom]
      exact (hT0.app hT).shp (Shp.setRow hg hsz)
    · have hlen : ((cur.toList.drop off).take (n * i.size)).length = n * i.size := by
        rw [hz1]; exact hT0.1
      have holds : ∀ (j : Nat) (u : Value), ((cur.toList.drop off).take (n * i.size))[j]? = some u → w.cell? ((⟨g, off, none⟩ : Addr).add j) = some u := by
        intro j u hu
        rw [Addr.add_lit, cell_of_row w g (off + j) cur 50 (0, 0) hg]
        rw [List.getElem?_take] at hu
        split at hu
        · rw [List.getElem?_drop] at hu; simpa using hu
        · cases hu
      have hr := run_append_grow (P := Tryz.prog) w 23 ty 50 i _ ht hi hz0 ⟨g, off, none⟩ n cap ((cur.toList.drop off).take (n * i.size)) hlen holds ad m c news hl hnews (by omega) (by omega) (growslice_fits (by omega) hbm)
      rw [hz1] at hr
      exact ⟨w.heap.size, 0, _, _, hr, newrow _ _ hT0 (grownCap_ge w (n + m) cap 50) (grownCap_le_maxLen w (n + m) cap 50 (by unfold maxLen; omega)), Shp.alloc w.drew _, grownBy_drewAlloc _ _ _, fun B M rk h => Hw.alloc_other (w := w.drew) h _ _ _ (by decide)⟩
end Go.Proofs.YteafpgaefphkfaaGreatDoor
