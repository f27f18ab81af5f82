/-
  Texts that a law leans on, one behind the other; no statement is proved here.
-/
import Derived.Test.YthnkedbmfhokiaaGreatDoorPk20
/-
  What is drawn on such a heap: a name; what stands while a value is drawn. No statement is proved here.
-/
namespace Go.Proofs.YthnkedbmfhokiaaGreatDoor
open Go.RowKit
set_option linter.unusedVariables false
set_option linter.unusedSimpArgs false

theorem Hs.heap {B M : Nat} {rk : Nat → Nat} {w w' : World} {g : Nat} {a : Option Addr} {cap : Nat} {cs : List Int} (h : Hs B M rk w g a cap cs) (e : w'.heap = w.heap) : Hs B M rk w' g a cap cs :=
  h.on (h.1.heap e) (by rw [e]) fun b _ => by rw [e]

/-- From one world on to another, but for the cursor's block. -/
def Stp (rk : Nat → Nat) (w : World) (rk' : Nat → Nat) (w' : World) (g : Nat) : Prop := Rks rk rk' w.heap.size ∧ w.grownBy w' (some g) ∧ Shp w w'

theorem Stp.trans {rk rk1 rk2 : Nat → Nat} {w w1 w2 : World} {g : Nat} (h : Stp rk w rk1 w1 g) (k : Stp rk1 w1 rk2 w2 g) : Stp rk w rk2 w2 g := ⟨h.1.trans k.1 h.2.1.size, grownBy_trans h.2.1 k.2.1, h.2.2.trans k.2.2⟩
theorem Stp.refl (rk : Nat → Nat) (w : World) (g : Nat) : Stp rk w rk w g := ⟨Rks.refl _ _, World.grownBy.refl _ _, Shp.refl _⟩
theorem Stp.cus {rk : Nat → Nat} {w w' : World} {g : Nat} (h : Cus g w w') (k : Shp w w') : Stp rk w rk w' g := ⟨Rks.refl _ _, h.1, k⟩
theorem Stp.below {rk rk' : Nat → Nat} {w w' : World} {g : Nat} (h : Below w.heap.size w w') (k : Rks rk rk' w.heap.size) : Stp rk w rk' w' g := ⟨k, ⟨h.os, h.tape, h.output, h.size, fun b hb _ => h.block b hb⟩, Shp.below h⟩
theorem Stp.block {rk rk' : Nat → Nat} {w w' : World} {g b : Nat} (h : Stp rk w rk' w' g) (hb : b < w.heap.size) (hne : b ≠ g) : w'.heap[b]? = w.heap[b]? := h.2.1.block b hb (by simpa using hne)
theorem Stp.heap {rk rk' : Nat → Nat} {w w' wx : World} {g : Nat} (h : Stp rk wx rk' w' g) (e : wx.heap = w.heap) (e1 : wx.os = w.os) (e2 : wx.tape = w.tape) (e3 : wx.output = w.output) : Stp rk w rk' w' g :=
  ⟨by rw [← e]; exact h.1, ⟨h.2.1.os.trans e1, h.2.1.tape.trans e2, h.2.1.output.trans e3, by rw [← e]; exact h.2.1.size, fun b hb hne => by rw [← e]; exact h.2.1.block b (by rw [e]; exact hb) hne⟩, (Shp.heap e).trans h.2.2⟩

theorem Hs.below {B M : Nat} {rk rk' : Nat → Nat} {w w' : World} {g : Nat} {a : Option Addr} {cap : Nat} {cs : List Int} (h : Hs B M rk w g a cap cs) (hw : Hw B M rk' w') (hb : Below w.heap.size w w') : Hs B M rk' w' g a cap cs :=
  h.on hw (hb.block g h.lt) fun b hb' => hb.block b (by have := h.base; omega)

/-- '[]byte(s)' of a string. -/
theorem conv_hw {B M : Nat} {rk : Nat → Nat} (xs : List Int) (hx : ∀ x ∈ xs, Byt x) (hl : xs.length ≤ 1000) (w : World) (hH : Hw B M rk w) (hBw : B ≤ w.heap.size) (hM : xs.length ≤ M) : ∃ cap wB, (convert 9 22 (.string (strOf xs))).run Tryz.prog w = .ok (.slice (some ⟨w.heap.size, 0, none⟩) xs.length cap) wB ∧
    Sli B M 5 1 (fun _ => True) wB (.slice (some ⟨w.heap.size, 0, none⟩) xs.length cap) ∧ Hw B M rk wB ∧ Below w.heap.size w wB := by
  have hsz := size_strOf xs
  have hrun := run_bytes_of_string (P := Tryz.prog) w 9 22 5 (strOf xs) Tryz.underlying9 Tryz.underlying22 Tryz.underlying5
  rw [hsz] at hrun
  have hge := grownCap_ge w xs.length 0 5
  have hle := grownCap_le_maxLen w xs.length 0 5 (by unfold maxLen; omega)
  generalize grownCap w xs.length 0 5 = cap at hrun hge hle
  have hrs : (bytesRow (strOf xs) cap).size = cap := by
    have h1 : (strOf xs).data.size = xs.length := hsz
    simp [bytesRow, h1, hsz]
    omega
  have hall : ∀ (j : Nat) (c : Value), (bytesRow (strOf xs) cap)[j]? = some c → ∃ x, Byt x ∧ c = .int .u8 x := by
    intro j c hc
    have hm := Array.mem_of_getElem? hc
    unfold bytesRow at hm
    rcases Array.mem_append.1 hm with hm | hm
    · simp only [Array.mem_map] at hm
      obtain ⟨b, _, rfl⟩ := hm
      exact ⟨_, ⟨by omega, by have := b.toNat_lt; omega⟩, rfl⟩
    · have := (Array.mem_replicate.1 hm).2
      exact ⟨0, by simp [Byt], this⟩
  generalize bytesRow (strOf xs) cap = br at *
  have hb : Below w.heap.size w (w.drew.alloc (.cells br 5 (br.size, br.size + 1))) := ((Below.refl _ w).drew).alloc (Nat.le_refl _) _
  refine ⟨cap, _, hrun, ⟨_, _, _, rfl, hM, hge, hle, .inr ⟨w.heap.size, br, (br.size, br.size + 1), rfl, hBw, trivial, heap_alloc_new w.drew _, by omega⟩⟩, ?_, hb⟩
  exact Hw.alloc_b (w := w.drew) (hH.heap rfl) br (br.size, br.size + 1) (.inr (Nat.le_refl _)) hall

/-- What a name that is drawn leaves. -/
def NamEnd (B M : Nat) (rk : Nat → Nat) (g : Nat) (a : Option Addr) (cap : Nat) (cs : List Int) (w : World) (e : Ending) (w' : World) : Prop :=
  ∃ (ad : Option Addr) (n c : Nat), e = .returned (.slice ad n c) ∧ Sli B M 5 1 (fun _ => True) w' (.slice ad n c) ∧ Hs B M rk w' g a cap cs ∧ Stp rk w rk w' g

set_option maxHeartbeats 800000 in
set_option maxRecDepth 100000 in
theorem l2drawName_hs (B M : Nat) (rk : Nat → Nat) (g : Nat) (a : Option Addr) (cap : Nat) (cs : List Int) (w : World) (h : Hs B M rk w g a cap cs) (hM : 8 ≤ M) :
    Calls Tryz.prog 54 #[.pointer (some ⟨g, 0, none⟩)] w (NamEnd B M rk g a cap cs w) := by
  have HA : Hid (∀ o : Obj, Below w.heap.size w (w.alloc o) ∧ (w.alloc o).heap[w.heap.size]? = some o) := fun o => ⟨(Below.refl _ _).alloc (Nat.le_refl _) o, heap_alloc_new w o⟩
  have hgl := h.lt
  have hB := h.base
  have HL : Hid (∀ cur : Array Value, Calls Tryz.prog 51 #[.pointer (some ⟨g, 0, none⟩), .int .i64 7] (w.alloc (.cells cur 9)) fun e w' => ∃ x : Int, e = .returned (.int .i64 x) ∧ 0 ≤ x ∧ (0 < (7 : Int) → x < 7) ∧ ((7 : Int) ≤ 0 → x = 0) ∧ Hs B M rk w' g a cap cs ∧ Cus g (w.alloc (.cells cur 9)) w' ∧ Shp (w.alloc (.cells cur 9)) w') := fun cur => l1Below_hs (h.below (h.1.alloc_other cur 9 (0, 0) (by decide)) (HA.out _).1) 7 (by omega)
  clear h
  go_enter Tryz.func54, Tryz.ntmps54
  go_wp2_with fail
  refine (HL.out _).mono ?_
  rintro e w2 ⟨x, rfl, hx0, hx7, _, hd, hg2, hsh⟩
  obtain ⟨k, rfl⟩ : ∃ k : Nat, x = k := ⟨x.toNat, by omega⟩
  have hk : k < 7 := by have := hx7 (by omega); omega
  have hS2 : Stp rk w rk w2 g := (Stp.below (HA.out _).1 (Rks.refl _ _)).trans (Stp.cus hg2 hsh)
  have hblk := (hg2.1.block w.heap.size (by simp) (by simp; omega)).trans (HA.out _).2
  have hcell : w2.cell? ⟨w.heap.size, k, none⟩ = some (.string (strOf (names7.getD k []))) := by
    rw [cell_of_row w2 w.heap.size k _ 9 (0, 0) hblk]
    obtain rfl | rfl | rfl | rfl | rfl | rfl | rfl : k = 0 ∨ k = 1 ∨ k = 2 ∨ k = 3 ∨ k = 4 ∨ k = 5 ∨ k = 6 := by omega
    all_goals rfl
  obtain ⟨hnb, hnl⟩ := names7_ok k hk
  obtain ⟨ck, wB, hconv, hT, hHB, hBB⟩ := conv_hw (names7.getD k []) (names_byt hnb) (by omega) w2 hd.1 hd.base (by omega)
  have hk' : (k : Int) < 7 := by omega
  have hk0 : (0 : Int) ≤ (k : Int) := by omega
  have HE : Hid (NamEnd B M rk g a cap cs w (.returned (.slice (some ⟨w2.heap.size, 0, none⟩) (names7.getD k []).length ck)) wB) := ⟨_, _, _, rfl, hT, hd.below hHB hBB, hS2.trans (Stp.below hBB (Rks.refl _ _))⟩
  generalize (names7.getD k []).length = nl at HE hconv
  generalize strOf (names7.getD k []) = sx at hcell hconv
  clear hT hHB hBB hd hg2 hsh hS2 hblk HL HA hnb hnl hx7 hx0
  go_wp2
  go_ret
  exact HE.out

/-- What a value that is drawn leaves. -/
def DrwEnd (B M : Nat) (rk : Nat → Nat) (ρ g : Nat) (a : Option Addr) (cap : Nat) (cs : List Int) (w : World) (e : Ending) (w' : World) : Prop :=
  ∃ (k n : Int) (a2 : Option Addr) (l2 p2 : Nat) (a3 : Option Addr) (l3 p3 : Nat) (a4 : Option Addr) (l4 p4 : Nat) (rk' : Nat → Nat), e = .returned (.agg #[.int .i64 k, .int .i64 n, .slice a2 l2 p2, .slice a3 l3 p3, .slice a4 l4 p4]) ∧
    Grp B M rk' ρ w' (.int .i64 k, .int .i64 n, .slice a2 l2 p2, .slice a3 l3 p3, .slice a4 l4 p4) ∧ Hs B M rk' w' g a cap cs ∧ Stp rk w rk' w' g

theorem Grp.forms {B M r : Nat} {rk : Nat → Nat} {w : World} {c0 c1 c2 c3 c4 : Value} (h : Grp B M rk r w (c0, c1, c2, c3, c4)) : ∃ (k n : Int) (a2 : Option Addr) (l2 p2 : Nat) (a3 : Option Addr) (l3 p3 : Nat) (a4 : Option Addr) (l4 p4 : Nat), c0 = .int .i64 k ∧ c1 = .int .i64 n ∧ c2 = .slice a2 l2 p2 ∧ c3 = .slice a3 l3 p3 ∧ c4 = .slice a4 l4 p4 := by
  obtain ⟨⟨k, h0⟩, ⟨n, h1⟩, h2, h3, h4⟩ := h
  obtain ⟨a2, l2, p2, e2⟩ := h2.form
  obtain ⟨a3, l3, p3, e3⟩ := h3.form
  obtain ⟨a4, l4, p4, e4⟩ := h4.form
  exact ⟨k, n, a2, l2, p2, a3, l3, p3, a4, l4, p4, h0, h1, e2, e3, e4⟩

/-- The answer's box is written. -/
theorem drw_end {B M : Nat} {rk rkz : Nat → Nat} {ρ g R : Nat} {a : Option Addr} {cap : Nat} {cs : List Int} {w wz : World} {z0 z1 z2 z3 z4 d0 d1 d2 d3 d4 : Value} (hS : Hs B M rkz wz g a cap cs) (hT : Stp rk w rkz wz g) (hR : wz.heap[R]? = some (.cells #[z0, z1, z2, z3, z4] 26 (0, 0))) (hRw : w.heap.size ≤ R) (hBR : B ≤ R) (hG : Grp B M rkz ρ wz (d0, d1, d2, d3, d4)) (hρ : ρ ≤ rkz R) :
    DrwEnd B M rk ρ g a cap cs w (.returned (.agg #[d0, d1, d2, d3, d4])) (set5 wz R 0 d0 d1 d2 d3 d4) := by
  obtain ⟨k1, k2⟩ := hS.1.set5 hR (hG.shp (Shp.refl _) (Rks.refl _ _) hρ)
  obtain ⟨k, n, a2, l2, p2, a3, l3, p3, a4, l4, p4, rfl, rfl, rfl, rfl, rfl⟩ := hG.forms
  have hgR : g ≠ R := by
    rintro rfl
    have := hS.2.1.2.2.1.type hR
    exact this row3_v
  have hoth : ∀ b, b ≠ R → (set5 wz R 0 (.int .i64 k) (.int .i64 n) (.slice a2 l2 p2) (.slice a3 l3 p3) (.slice a4 l4 p4)).heap[b]? = wz.heap[b]? := fun b hb => set5_other wz R 0 _ _ _ _ _ b hb
  have h5 := set5_grown wz R 0 (.int .i64 k) (.int .i64 n) (.slice a2 l2 p2) (.slice a3 l3 p3) (.slice a4 l4 p4)
  generalize set5 wz R 0 (.int .i64 k) (.int .i64 n) (.slice a2 l2 p2) (.slice a3 l3 p3) (.slice a4 l4 p4) = wf at *
  have hg : w.grownBy wf (some g) := hT.2.1.andThen h5 (fun j hj => .inl (by cases hj; exact hRw))
  exact ⟨k, n, a2, l2, p2, a3, l3, p3, a4, l4, p4, rkz, rfl, hG.shp k2 (Rks.refl _ _) (Nat.le_refl _), hS.on k1 (hoth g hgR) (fun b hb => hoth b (by omega)), hT.1, hg, hT.2.2.trans k2⟩

/-- While a map is being drawn: its box O, the answer's box R. -/
def MSt (B M : Nat) (rk : Nat → Nat) (n : Nat) (w : World) (g : Nat) (a : Option Addr) (cap : Nat) (cs : List Int) (R O m : Nat) (rkr : Nat → Nat) (wr : World) (a3 : Option Addr) (c3 : Nat) (a4 : Option Addr) (c4 : Nat) : Prop :=
  Hs B M rkr wr g a cap cs ∧ Stp rk w rkr wr g ∧ wr.heap[R]? = some (.cells #[.int .i64 0, .int .i64 0, .slice none 0 0, .slice none 0 0, .slice none 0 0] 26 (0, 0)) ∧ rkr R = n + 1 ∧ rkr O = n + 1 ∧
    wr.heap[O]? = some (.cells #[.int .i64 5, .int .i64 0, .slice none 0 0, .slice a3 m c3, .slice a4 m c4] 26 (0, 0)) ∧ Grp B M rkr (n + 1) wr (.int .i64 5, .int .i64 0, .slice none 0 0, .slice a3 m c3, .slice a4 m c4)

theorem Hs.ne_row {B M : Nat} {rk : Nat → Nat} {w : World} {g b : Nat} {a : Option Addr} {cap : Nat} {cs : List Int} {cur : Array Value} {T : TypeId} {fr : Nat × Nat} (h : Hs B M rk w g a cap cs) (hb : w.heap[b]? = some (.cells cur T fr)) (hT : Row3 T) : b ≠ g := by
  rintro rfl
  exact h.2.1.2.2.1.type hb hT

/-- A round: a name, a value, the map with both. -/
theorem mst_next {B M : Nat} {rk rkr rk3 rk4 : Nat → Nat} {n : Nat} {w wr w3 w4 : World} {g : Nat} {a : Option Addr} {cap : Nat} {cs : List Int} {R O m m' : Nat} {a3 : Option Addr} {c3 : Nat} {a4 : Option Addr} {c4 : Nat} {b3 : Option Addr} {d3 : Nat} {b4 : Option Addr} {d4 : Nat} (h : MSt B M rk n w g a cap cs R O m rkr wr a3 c3 a4 c4) (hRO : R < O) (hwR : w.heap.size ≤ R) (hBR : B ≤ R)
    (hT3 : Stp rkr wr rk3 w3 g) (hS3 : Hs B M rk3 w3 g a cap cs) (hG4 : Grp B M rk4 (n + 1) w4 (.int .i64 5, .int .i64 0, .slice none 0 0, .slice b3 m' d3, .slice b4 m' d4)) (hH4 : Hw B M rk4 w4) (hR4 : Rks rk3 rk4 w3.heap.size) (hB4 : Below w3.heap.size w3 w4) :
    w4.heap[O]? = some (.cells #[.int .i64 5, .int .i64 0, .slice none 0 0, .slice a3 m c3, .slice a4 m c4] 26 (0, 0)) ∧ MSt B M rk n w g a cap cs R O m' rk4 (set5 w4 O 0 (.int .i64 5) (.int .i64 0) (.slice none 0 0) (.slice b3 m' d3) (.slice b4 m' d4)) b3 d3 b4 d4 := by
  obtain ⟨h1, h2, h3, h4, h5, h6, h7⟩ := h
  have hS4 := hS3.below hH4 hB4
  have hT4 : Stp rkr wr rk4 w4 g := hT3.trans (Stp.below hB4 hR4)
  have hOl := (Array.getElem?_eq_some_iff.1 h6).1
  have hOg := h1.ne_row h6 row3_v
  have hRg := h1.ne_row h3 row3_v
  have hO4 := (hT4.block hOl hOg).trans h6
  have hR4' := (hT4.block (by omega) hRg).trans h3
  have hkO : rk4 O = n + 1 := (hT4.1 O hOl).trans h5
  have hkR : rk4 R = n + 1 := (hT4.1 R (by omega)).trans h4
  obtain ⟨k1, k2⟩ := hS4.1.set5 hO4 (by rw [hkO]; exact hG4)
  have hoth : ∀ b, b ≠ O → (set5 w4 O 0 (.int .i64 5) (.int .i64 0) (.slice none 0 0) (.slice b3 m' d3) (.slice b4 m' d4)).heap[b]? = w4.heap[b]? := fun b hb => set5_other w4 O 0 _ _ _ _ _ b hb
  have hT5 := h2.trans hT4
  have h9 := set5_heap (j := 0) (.int .i64 5) (.int .i64 0) (.slice none 0 0) (.slice b3 m' d3) (.slice b4 m' d4) hO4
  have hs5 := set5_grown w4 O 0 (.int .i64 5) (.int .i64 0) (.slice none 0 0) (.slice b3 m' d3) (.slice b4 m' d4)
  rw [show arrSet5 #[.int .i64 5, .int .i64 0, .slice none 0 0, .slice a3 m c3, .slice a4 m c4] 0 (.int .i64 5) (.int .i64 0) (.slice none 0 0) (.slice b3 m' d3) (.slice b4 m' d4) = #[.int .i64 5, .int .i64 0, .slice none 0 0, .slice b3 m' d3, .slice b4 m' d4] from rfl] at h9
  generalize set5 w4 O 0 (.int .i64 5) (.int .i64 0) (.slice none 0 0) (.slice b3 m' d3) (.slice b4 m' d4) = wf at *
  have hgf : w.grownBy wf (some g) := hT5.2.1.andThen hs5 (fun j hj => .inl (by cases hj; omega))
  exact ⟨hO4, hS4.on k1 (hoth g (Ne.symm hOg)) (fun b hb => hoth b (by omega)), ⟨hT5.1, hgf, hT5.2.2.trans k2⟩, (hoth R (by omega)).trans hR4', hkR, hkO, h9, hG4.shp k2 (Rks.refl _ _) (Nat.le_refl _)⟩
end Go.Proofs.YthnkedbmfhokiaaGreatDoor
/-
  l2draw of the specification on a heap on which values are drawn. No statement is proved here.
-/
namespace Go.Proofs.YthnkedbmfhokiaaGreatDoor
open Go.RowKit
set_option linter.unusedVariables false
set_option linter.unusedSimpArgs false

/-- The contract of l2draw: parts at most n deep. -/
def DrAt (n : Nat) : Prop := ∀ (B M : Nat) (rk : Nat → Nat) (g : Nat) (a : Option Addr) (cap : Nat) (cs : List Int) (deep : Int) (w : World), Hs B M rk w g a cap cs → deep ≤ n → -1000 ≤ deep → n ≤ 1000 → 64 ≤ M → M ≤ 1000000 → Calls Tryz.prog 28 #[.pointer (some ⟨g, 0, none⟩), .int .i64 deep] w (DrwEnd B M rk n g a cap cs w)

/-- While a list is being drawn: its box O, the answer's box R. -/
def LSt (B M : Nat) (rk : Nat → Nat) (n : Nat) (w : World) (g : Nat) (a : Option Addr) (cap : Nat) (cs : List Int) (R O : Nat) (w2 : World) (rk2 : Nat → Nat) (k : Nat) (rkr : Nat → Nat) (wr : World) (pL : Option Addr) (cL : Nat) : Prop :=
  SIy B M rk2 n w2 O 4 0 k rkr wr none 0 pL cL ∧ Hs B M rkr wr g a cap cs ∧ Stp rk w rkr wr g ∧ wr.heap[R]? = some (.cells #[.int .i64 0, .int .i64 0, .slice none 0 0, .slice none 0 0, .slice none 0 0] 26 (0, 0)) ∧ rkr R = n + 1

section
variable {B M : Nat} {rk rk2 rkr rk5 rk6 : Nat → Nat} {n : Nat} {w w2 wr w5 wf : World} {g : Nat} {a : Option Addr} {cap : Nat} {cs : List Int} {R O k : Nat} {pL pL' : Option Addr} {cL cL' : Nat}

theorem lst_call (h : LSt B M rk n w g a cap cs R O w2 rk2 k rkr wr pL cL) (hT : Stp rkr wr rk5 w5 g) (hS : Hs B M rk5 w5 g a cap cs) : LSt B M rk n w g a cap cs R O w2 rk2 k rk5 w5 pL cL := by
  obtain ⟨⟨h1, h2, h3, h4, h5, h6⟩, h7, h8, h9, h10⟩ := h
  have hO := h7.ne_row h5 row3_v
  have hR := h7.ne_row h9 row3_v
  have hRl := (Array.getElem?_eq_some_iff.1 h9).1
  have hOl := (Array.getElem?_eq_some_iff.1 h5).1
  have hz := hT.2.1.size
  exact ⟨⟨hS.1, fun b hb => (hT.1 b (by omega)).trans (h2 b hb), h3.shp row3_k hT.2.2 fun _ _ h => h, h4.shp row3_v hT.2.2 fun b hb h => by rw [hT.1 b hb]; exact h, (hT.block hOl hO).trans h5, by omega⟩, hS, h8.trans hT, (hT.block hRl hR).trans h9, (hT.1 R hRl).trans h10⟩

theorem lst_app (h : LSt B M rk n w g a cap cs R O w2 rk2 k rk5 w5 pL cL) (hs : SIy B M rk2 n w2 O 4 0 (k + 1) rk6 wf none 0 pL' cL') (hk : Rks rk5 rk6 w5.heap.size) (ho : Off w2.heap.size O w5 wf) (hg : g < w2.heap.size) (hRO : R < O) (hO : O < w2.heap.size) (hwR : w.heap.size ≤ R) (hBR : B ≤ R) : LSt B M rk n w g a cap cs R O w2 rk2 (k + 1) rk6 wf pL' cL' := by
  obtain ⟨h1, h7, h8, h9, h10⟩ := h
  have hOg := h7.ne_row h1.2.2.2.2.1 row3_v
  have hz5 := h1.2.2.2.2.2
  refine ⟨hs, h7.on hs.1 (ho.2.1 g hg (Ne.symm hOg)) (fun b hb => ho.2.1 b (by omega) (by omega)), ⟨fun b hb => (hk b (by omega)).trans (h8.1 b hb), ⟨ho.1.1.trans h8.2.1.os, ho.1.2.1.trans h8.2.1.tape, ho.1.2.2.1.trans h8.2.1.output, Nat.le_trans h8.2.1.size ho.1.2.2.2, fun b hb hne => (ho.2.1 b (by omega) (by omega)).trans (h8.2.1.block b hb hne)⟩, h8.2.2.trans ho.2.2⟩, (ho.2.1 R (by omega) (by omega)).trans h9, (hk R (by omega)).trans h10⟩
end

/-- What a call of l2draw leaves of a list's state. -/
def LCallD (B M : Nat) (rk : Nat → Nat) (n : Nat) (w : World) (g : Nat) (a : Option Addr) (cap : Nat) (cs : List Int) (R O : Nat) (w2 : World) (rk2 : Nat → Nat) (k : Nat) (pL : Option Addr) (cL : Nat) (e : Ending) (w5 : World) : Prop :=
  ∃ (xk xn : Int) (b2 : Option Addr) (m2 q2 : Nat) (b3 : Option Addr) (m3 q3 : Nat) (b4 : Option Addr) (m4 q4 : Nat) (rk5 : Nat → Nat), e = .returned (.agg #[.int .i64 xk, .int .i64 xn, .slice b2 m2 q2, .slice b3 m3 q3, .slice b4 m4 q4]) ∧
    Grp B M rk5 n w5 (.int .i64 xk, .int .i64 xn, .slice b2 m2 q2, .slice b3 m3 q3, .slice b4 m4 q4) ∧ LSt B M rk n w g a cap cs R O w2 rk2 k rk5 w5 pL cL ∧ w5.cell? ⟨O, 4, none⟩ = some (.slice pL k cL) ∧ ∀ o, (w5.alloc o).cell? ⟨O, 4, none⟩ = some (.slice pL k cL)

theorem lst_drawn {B M : Nat} {rk rk2 rkr : Nat → Nat} {n : Nat} {w w2 wr wy w5 : World} {g : Nat} {a : Option Addr} {cap : Nat} {cs : List Int} {R O k : Nat} {pL : Option Addr} {cL : Nat} {e : Ending} (h : LSt B M rk n w g a cap cs R O w2 rk2 k rkr wr pL cL) (e0 : wy.heap = wr.heap) (e1 : wy.os = wr.os) (e2 : wy.tape = wr.tape) (e3 : wy.output = wr.output) (hd : DrwEnd B M rkr n g a cap cs wy e w5) : LCallD B M rk n w g a cap cs R O w2 rk2 k pL cL e w5 := by
  obtain ⟨xk, xn, b2, m2, q2, b3, m3, q3, b4, m4, q4, rk5, rfl, hG, hS, hT⟩ := hd
  have hL := lst_call h (hT.heap e0 e1 e2 e3) hS
  exact ⟨xk, xn, b2, m2, q2, b3, m3, q3, b4, m4, q4, rk5, rfl, hG, hL, (row5 hL.1.2.2.2.2.1).2.2.2.2.1, (box_later hL.1.2.2.2.2.1).2.2.2.2.1⟩

/-- The texts that are drawn. -/
def texts6 : List (List Int) := [[], [120], [97, 32, 98], [34], [92], [101, 97, 115, 116]]
theorem texts6_ok : ∀ k, k < 6 → (texts6.getD k []).length ≤ 4 ∧ ∀ x ∈ texts6.getD k [], 0 ≤ x ∧ x ≤ 255 := by decide

theorem below_heap {w w' wx : World} (h : Below wx.heap.size wx w') (e : wx.heap = w.heap) (e1 : wx.os = w.os) (e2 : wx.tape = w.tape) (e3 : wx.output = w.output) : Below w.heap.size w w' := ⟨h.os.trans e1, h.tape.trans e2, h.output.trans e3, by rw [← e]; exact h.size, fun b hb => by rw [← e]; exact h.block b (by rw [e]; exact hb)⟩

set_option maxHeartbeats 12800000 in
set_option maxRecDepth 100000 in
theorem l2draw_flat_hs (ρ B M : Nat) (rk : Nat → Nat) (g : Nat) (a : Option Addr) (cap : Nat) (cs : List Int) (deep : Int) (w : World) (h : Hs B M rk w g a cap cs) (hdp : deep ≤ 0) (hM1 : 64 ≤ M) (hM2 : M ≤ 1000000) : Calls Tryz.prog 28 #[.pointer (some ⟨g, 0, none⟩), .int .i64 deep] w (DrwEnd B M rk ρ g a cap cs w) := by
  have hgl := h.lt
  have hB := h.base
  have HA : Hid (∀ o : Obj, Below w.heap.size w (w.alloc o) ∧ (w.alloc o).heap[w.heap.size]? = some o) := fun o => ⟨(Below.refl _ _).alloc (Nat.le_refl _) o, heap_alloc_new w o⟩
  have HL : Hid (∀ (n : Int) (rkx : Nat → Nat) (wx : World), n ≤ 9223372036854775807 → Hs B M rkx wx g a cap cs → _) := fun n rkx wx hn hd => l1Below_hs hd n hn
  have hH0 : Hw B M (rkUp rk w.heap.size ρ) (w.alloc (.cells #[.int .i64 0, .int .i64 0, .slice none 0 0, .slice none 0 0, .slice none 0 0] 26)) := h.1.alloc_v ρ _ _ _ _ _ (grp_leaf _ _ _ _ _ _ _)
  have HS0 : Hid (Hs B M (rkUp rk w.heap.size ρ) (w.alloc (.cells #[.int .i64 0, .int .i64 0, .slice none 0 0, .slice none 0 0, .slice none 0 0] 26)) g a cap cs) := h.below hH0 (HA.out _).1
  have HT0 : Hid (Stp rk w (rkUp rk w.heap.size ρ) (w.alloc (.cells #[.int .i64 0, .int .i64 0, .slice none 0 0, .slice none 0 0, .slice none 0 0] 26)) g) := Stp.below (HA.out _).1 (rkUp_old _ _ _)
  have HkR : Hid (rkUp rk w.heap.size ρ w.heap.size = ρ) := rkUp_at _ _ _
  generalize rkUp rk w.heap.size ρ = rk0 at *
  clear h hH0
  go_enter Tryz.func28, Tryz.ntmps28
  go_wp2_with fail
  refine (HL.out 9 rk0 _ (by omega) HS0.out).mono ?_
  rintro e w1 ⟨k, rfl, hk0, hk9, _, hd1, hg1, hsh1⟩
  have hk9' : k < 9 := hk9 (by omega)
  have HT1 : Hid (Stp rk w rk0 w1 g) := HT0.out.trans (Stp.cus hg1 hsh1)
  have hr1 := (hg1.1.block w.heap.size (by simp) (by simp; omega)).trans (HA.out _).2
  have hz1 : w.heap.size < w1.heap.size := (Array.getElem?_eq_some_iff.1 hr1).1
  have HR1 := hide' hr1
  have HS1 := hide' hd1
  clear hd1 hg1 hr1 hk9 HS0 hsh1 HT0
  by_cases k0 : k = 0
  · subst k0
    obtain ⟨r0, r1, r2, r3, r4, rf⟩ := row5 HR1.out
    have f0 := rf 0
    have f1 := rf 1
    have f2 := rf 2
    have f3 := rf 3
    have f4 := rf 4
    clear rf
    go_wp2_with fail
    have hfin := row5 (set5_heap (j := 0) (.int .i64 0) (.int .i64 0) (.slice none 0 0) (.slice none 0 0) (.slice none 0 0) HR1.out)
    simp only [set5, Nat.zero_add] at hfin
    obtain ⟨o0, o1, o2, o3, o4, _⟩ := hfin
    refine bodyPost_ret (v := .agg #[.int .i64 0, .int .i64 0, .slice none 0 0, .slice none 0 0, .slice none 0 0]) (by simp [results, Tryz.results28, go_sem, o0, o1, o2, o3, o4]) rfl ?_
    exact drw_end HS1.out HT1.out HR1.out (Nat.le_refl _) hB (grp_leaf _ _ _ _ _ _ _) (by rw [HkR.out]; exact Nat.le_refl _)
  · have k0' : (k == 0) = false := by simp [k0]
    by_cases k1 : k = 1
    · subst k1
      have HL1 := hide' (HL.out 2 rk0 w1 (by omega) HS1.out)
      go_wp2_with fail
      refine HL1.out.mono ?_
      rintro e w2 ⟨n2, rfl, hn0, hn2, _, hd2, hg2, hsh2⟩
      have HS2 := hide' hd2
      have HT2 := hide' (HT1.out.trans (Stp.cus hg2 hsh2))
      have HR2 := hide' ((hg2.1.block w.heap.size hz1 (by simp; omega)).trans HR1.out)
      have hz2 := Nat.le_of_eq hg2.2.symm
      clear hd2 hg2 hsh2 HL1
      clear hn2
      obtain ⟨r0, r1, r2, r3, r4, rf⟩ := row5 HR2.out
      have f0 := rf 0
      have f1 := rf 1
      have f2 := rf 2
      have f3 := rf 3
      have f4 := rf 4
      clear rf
      go_wp2_with fail
      have hfin := row5 (set5_heap (j := 0) (.int .i64 1) (.int .i64 n2) (.slice none 0 0) (.slice none 0 0) (.slice none 0 0) HR2.out)
      simp only [set5, Nat.zero_add] at hfin
      obtain ⟨o0, o1, o2, o3, o4, _⟩ := hfin
      refine bodyPost_ret (v := .agg #[.int .i64 1, .int .i64 n2, .slice none 0 0, .slice none 0 0, .slice none 0 0]) (by simp [results, Tryz.results28, go_sem, o0, o1, o2, o3, o4]) rfl ?_
      exact drw_end HS2.out HT2.out HR2.out (Nat.le_refl _) hB (grp_leaf _ _ _ _ _ _ _) (by rw [HkR.out]; exact Nat.le_refl _)
    · have k1' : (k == 1) = false := by simp [k1]
      have HL1 := hide' (HL.out 5000 rk0 w1 (by omega) HS1.out)
      have hdp' : ¬ (0 : Int) < deep := by omega
      go_wp2_with fail
      all_goals
        refine HL1.out.mono ?_
        rintro e w2 ⟨z, rfl, hz0, hzn, _, hd2, hg2, hsh2⟩
        have HS2 := hide' hd2
        have HT2 := hide' (HT1.out.trans (Stp.cus hg2 hsh2))
        have HR2 := hide' ((hg2.1.block w.heap.size hz1 (by simp; omega)).trans HR1.out)
        have hz2 := Nat.le_of_eq hg2.2.symm
        clear hd2 hg2 hsh2 HL1
        clear hzn
        have HA2 : Hid (∀ o : Obj, Below w2.heap.size w2 (w2.alloc o) ∧ (w2.alloc o).heap[w2.heap.size]? = some o) := fun o => ⟨(Below.refl _ _).alloc (Nat.le_refl _) o, heap_alloc_new w2 o⟩
        have HC : Hid (∀ k, k < 8 → ∃ y : Int, (w2.alloc (.cells #[.int .i64 0, .int .i64 1, .int .i64 (-1), .int .i64 7, .int .i64 42, .int .i64 1000000000000, .int .i64 (-1000000000000), .int .i64 z] 3)).cell? ⟨w2.heap.size, k, none⟩ = some (.int .i64 y)) := by
          intro k hk
          rw [cell_of_row _ w2.heap.size k _ 3 (0, 0) (HA2.out _).2]
          obtain rfl | rfl | rfl | rfl | rfl | rfl | rfl | rfl : k = 0 ∨ k = 1 ∨ k = 2 ∨ k = 3 ∨ k = 4 ∨ k = 5 ∨ k = 6 ∨ k = 7 := by omega
          all_goals exact ⟨_, rfl⟩
        have hHx := HS2.out.below (HS2.out.1.alloc_other #[.int .i64 0, .int .i64 1, .int .i64 (-1), .int .i64 7, .int .i64 42, .int .i64 1000000000000, .int .i64 (-1000000000000), .int .i64 z] 3 (0, 0) (by decide)) (HA2.out _).1
        have hgl2 := HS2.out.lt
        have HPk := hide' (l1PickInt_hs hHx w2.heap.size 8 8 (by omega) (by omega) (by omega) (by simp) HC.out)
        clear HC hHx
        go_wp2_with fail
        refine HPk.out.mono ?_
        rintro e w3 ⟨n3, rfl, hd3, hg3, hsh3⟩
        have HS3 := hide' hd3
        have HT3 := hide' (HT2.out.trans ((Stp.below (HA2.out _).1 (Rks.refl _ _)).trans (Stp.cus hg3 hsh3)))
        have HR3 := hide' ((hg3.1.block w.heap.size (by simp; omega) (by simp; omega)).trans (((HA2.out _).1.block w.heap.size (by omega)).trans HR2.out))
        clear hd3 hg3 HPk hsh3
        obtain ⟨r0, r1, r2, r3, r4, rf⟩ := row5 HR3.out
        have f0 := rf 0
        have f1 := rf 1
        have f2 := rf 2
        have f3 := rf 3
        have f4 := rf 4
        clear rf
        go_wp2_with fail
        have hfin := row5 (set5_heap (j := 0) (.int .i64 2) (.int .i64 n3) (.slice none 0 0) (.slice none 0 0) (.slice none 0 0) HR3.out)
        simp only [set5, Nat.zero_add] at hfin
        obtain ⟨o0, o1, o2, o3, o4, _⟩ := hfin
        refine bodyPost_ret (v := .agg #[.int .i64 2, .int .i64 n3, .slice none 0 0, .slice none 0 0, .slice none 0 0]) (by simp [results, Tryz.results28, go_sem, o0, o1, o2, o3, o4]) rfl ?_
        exact drw_end HS3.out HT3.out HR3.out (Nat.le_refl _) hB (grp_leaf _ _ _ _ _ _ _) (by rw [HkR.out]; exact Nat.le_refl _)
end Go.Proofs.YthnkedbmfhokiaaGreatDoor
