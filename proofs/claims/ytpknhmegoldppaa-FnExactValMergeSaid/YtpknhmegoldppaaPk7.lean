/-
  Texts that a law leans on, one behind the other; no statement is proved here.
-/
import Derived.Test.YtpknhmegoldppaaPk4
import Derived.Test.YtpknhmegoldppaaPk5
import Derived.Test.YtpknhmegoldppaaPk6
import Derived.Deep.RegionHeld3
import Derived.Deep.CutRange
/-
  FnExactValSet answers true, once both calls' ends are known; written by wip/gen/two.py; no statement is proved here.
-/
namespace Go.Proofs.Ytpknhmegoldppaa
open Go.RowKit
set_option linter.unusedVariables false
set_option linter.unusedSimpArgs false

theorem rows2_WSet {w wx : World} {o o' : Obj} (h : Below ((w.alloc o).alloc o').heap.size ((w.alloc o).alloc o') wx) : wx.heap[w.heap.size]? = some o ∧ wx.heap[w.heap.size + 1]? = some o' := by
  obtain ⟨h1, h2⟩ := two_boxes w o o'
  have hz := size2 w o o'
  exact ⟨(h.block _ (by omega)).trans h1, (h.block _ (by omega)).trans h2⟩

/-- A value of the call's own, its five cells in a box of its own. -/
def BoxV_WSet (w2 : World) (D : Nat) (a : Vl (D + 1)) (G : Nat) (c : Value × Value × Value × Value × Value) (wx : World) : Prop :=
  wx.heap[G]? = some (.cells #[c.1, c.2.1, c.2.2.1, c.2.2.2.1, c.2.2.2.2] 30 (0, 0)) ∧ (∃ B, VOwn wx (D + 1) c a B ∧ ∀ b ∈ B, w2.heap.size ≤ b ∧ b < wx.heap.size ∧ b ≠ G) ∧ w2.heap.size ≤ G ∧ Below w2.heap.size w2 wx

theorem box_new_WSet {w2 wy wg : World} {D : Nat} {a : Vl (D + 1)} {c : Value × Value × Value × Value × Value} (h : ∃ B, VOwn wg (D + 1) c a B ∧ ∀ b ∈ B, wy.heap.size ≤ b ∧ b < wg.heap.size) (hb : Below w2.heap.size w2 wy) (hg : Below wy.heap.size wy wg) : BoxV_WSet w2 D a wg.heap.size c (wg.alloc (.cells #[c.1, c.2.1, c.2.2.1, c.2.2.2.1, c.2.2.2.2] 30)) := by
  obtain ⟨B, hO, hB⟩ := h
  have hz := hb.size
  have hz2 := hg.size
  have bal : Below wg.heap.size wg (wg.alloc (.cells #[c.1, c.2.1, c.2.2.1, c.2.2.2.1, c.2.2.2.2] 30)) := (Below.refl _ _).alloc (Nat.le_refl _) _
  exact ⟨(MapKept.heap_alloc wg _).1, ⟨B, hO.on bal, fun b hb => by have := hB b hb; simp; omega⟩, by omega, Below.on (Below.on hb hg) bal⟩

theorem box_old_WSet {w2 wy wg : World} {D G : Nat} {a : Vl (D + 1)} {c0 c1 c2 c3 c4 z0 z1 z2 z3 z4 : Value} (h : ∃ B, VOwn wg (D + 1) (c0, c1, c2, c3, c4) a B ∧ ∀ b ∈ B, wy.heap.size ≤ b ∧ b < wg.heap.size) (hb : Below w2.heap.size w2 wy) (hg : Below wy.heap.size wy wg) (hG : wy.heap[G]? = some (.cells #[z0, z1, z2, z3, z4] 30 (0, 0))) (hG2 : w2.heap.size ≤ G) : BoxV_WSet w2 D a G (c0, c1, c2, c3, c4) (set5 wg G 0 c0 c1 c2 c3 c4) := by
  obtain ⟨B, hO, hB⟩ := h
  have hz := hb.size
  have hz2 := hg.size
  have hGl : G < wy.heap.size := (Array.getElem?_eq_some_iff.1 hG).1
  have hB5 := set5_grown wg G 0 c0 c1 c2 c3 c4
  have hsz := set5_size wg G 0 c0 c1 c2 c3 c4
  have hrow := set5_heap (j := 0) c0 c1 c2 c3 c4 ((hg.block G hGl).trans hG)
  have hbg := Below.on hb hg
  refine ⟨hrow, ⟨B, VOwn.agree (D + 1) hO fun b hb => hB5.block b (hB b hb).2 (by have := hB b hb; simp; omega), fun b hb => by have := hB b hb; omega⟩, hG2, hbg.grown hB5 hbg.size (by intro j hj; simp at hj; omega)⟩

theorem row_new_WSet {wz wy : World} {o : Obj} (h : Below (wz.alloc o).heap.size (wz.alloc o) wy) : wy.heap[wz.heap.size]? = some o := (h.block _ (by simp)).trans (MapKept.heap_alloc wz o).1

theorem row_newd_WSet {wz wy : World} {o : Obj} (h : Below (wz.alloc o).drew.heap.size (wz.alloc o).drew wy) : wy.heap[wz.heap.size]? = some o := (h.block _ (by show wz.heap.size < (wz.alloc o).heap.size; simp)).trans (MapKept.heap_alloc wz o).1

theorem keeps_WSet {w w2 wx w' : World} (hlt : w.heap.size + 1 < w2.heap.size) (h2 : Below w2.heap.size w2 w') (h : Below wx.heap.size wx w') : (∀ G, wx.cell? ⟨G, 0, none⟩ = some (.int .i64 0) → w'.cell? ⟨G, 0, none⟩ = some (.int .i64 0)) ∧ (∀ G, wx.cell? ⟨G, 1, none⟩ = some (.int .i64 0) → w'.cell? ⟨G, 1, none⟩ = some (.int .i64 0)) ∧ (∀ G, wx.cell? ⟨G, 2, none⟩ = some (.slice none 0 0) → w'.cell? ⟨G, 2, none⟩ = some (.slice none 0 0)) ∧ (∀ G, wx.cell? ⟨G, 3, none⟩ = some (.slice none 0 0) → w'.cell? ⟨G, 3, none⟩ = some (.slice none 0 0)) ∧ (∀ G, wx.cell? ⟨G, 4, none⟩ = some (.slice none 0 0) → w'.cell? ⟨G, 4, none⟩ = some (.slice none 0 0)) ∧ (∀ G i, wx.cell? ⟨G, 0, none⟩ = some (.int .i64 0) → wx.frozen? ⟨G, i, none⟩ = false → w'.frozen? ⟨G, i, none⟩ = false) ∧ ¬ w.heap.size = w'.heap.size ∧ ¬ w'.heap.size = w.heap.size ∧ ¬ w.heap.size + 1 = w'.heap.size ∧ ¬ w'.heap.size = w.heap.size + 1 := by
  have kc : ∀ (p : Addr) (v : Value), wx.cell? p = some v → w'.cell? p = some v := fun p v hc => (h.cell (World.block_lt_of_cell? wx _ hc)).trans hc
  have hz := h2.size
  refine ⟨fun G => kc _ _, fun G => kc _ _, fun G => kc _ _, fun G => kc _ _, fun G => kc _ _, fun G i hc hf => ?_, by omega, by omega, by omega, by omega⟩
  have hb := h.block G (World.block_lt_of_cell? wx ⟨G, 0, none⟩ hc)
  have e : w'.frozen? ⟨G, i, none⟩ = wx.frozen? ⟨G, i, none⟩ := by simp only [World.frozen?, hb]
  rw [e]
  exact hf

set_option maxHeartbeats 25600000 in
set_option maxRecDepth 100000 in
theorem walk_WSet (dA dX D : Nat) (va : Vl (dA + 1)) (vx : Vl (dX + 1)) (a : Vl (D + 1)) (bb : Bool) (key : List Int) (ka : Option Addr) (kc : Nat) (c0 c1 c2 c3 c4 e0 e1 e2 e3 e4 : Value) (w : World) (ha : VSeg (fun b => b < w.heap.size) w (dA + 1) (c0, c1, c2, c3, c4) va) (hx : VSeg (fun b => b < w.heap.size) w (dX + 1) (e0, e1, e2, e3, e4) vx) (hS : Seg w ka key) (hkl : key.length ≤ 1048576) (hz : szV (dA + 1) va + szV (dX + 1) vx ≤ 1048576) (hza : szV (D + 1) a ≤ 1048576)
    (HSp : Hid (∀ u0 u1 u2 u3 u4 BA y0 y1 y2 y3 y4 BX wx, VOwn wx (dA + 1) (u0, u1, u2, u3, u4) va BA → VOwn wx (dX + 1) (y0, y1, y2, y3, y4) vx BX → ∀ z zc base, Bts wx base (.slice z key.length zc) key → Calls Try.prog 7 #[.agg #[u0, u1, u2, u3, u4], .slice z key.length zc, .agg #[y0, y1, y2, y3, y4]] wx (Ans D a bb wx)))
    (HIm : Hid (∀ u0 u1 u2 u3 u4 BA y0 y1 y2 y3 y4 BX wx, VOwn wx (dA + 1) (u0, u1, u2, u3, u4) va BA → VOwn wx (dX + 1) (y0, y1, y2, y3, y4) vx BX → ∀ z zc base, Bts wx base (.slice z key.length zc) key → Calls Try.prog 10 #[.agg #[u0, u1, u2, u3, u4], .slice z key.length zc, .agg #[y0, y1, y2, y3, y4]] wx (Ans D a bb wx))) :
    Calls Try.prog 3 #[.agg #[c0, c1, c2, c3, c4], .slice ka key.length kc, .agg #[e0, e1, e2, e3, e4]] w fun e w' => e = .returned (.bool true) ∧ Below w.heap.size w w' := by
  have HVA : Hid (∀ wx, Below w.heap.size w wx → VSeg (fun b => b < w.heap.size) wx (dA + 1) (c0, c1, c2, c3, c4) va) := fun wx hb => VSeg.agree (agree_below hb) (dA + 1) ha
  have HVX : Hid (∀ wx, Below w.heap.size w wx → VSeg (fun b => b < w.heap.size) wx (dX + 1) (e0, e1, e2, e3, e4) vx) := fun wx hb => VSeg.agree (agree_below hb) (dX + 1) hx
  have Hb2 : Hid (∀ o o' : Obj, Below w.heap.size w ((w.alloc o).alloc o')) := fun o o' => ((Below.refl _ _).alloc (Nat.le_refl _) o).alloc (by simp) o'
  have Hr : Hid (∀ (o o' : Obj) (wx : World), Below ((w.alloc o).alloc o').heap.size ((w.alloc o).alloc o') wx → wx.heap[w.heap.size]? = some o ∧ wx.heap[w.heap.size + 1]? = some o') := fun o o' wx h => rows2_WSet h
  have hcva := cV_le dA va
  have hcvx := cV_le dX vx
  have hcva' := cV_le D a
  have hl1 : less 1048576 (szV (dA + 1) va) = 1048576 - szV (dA + 1) va := less_yes _ _ (by omega)
  have hl2 : less (1048576 - szV (dA + 1) va) (szV (dX + 1) vx) = 1048576 - szV (dA + 1) va - szV (dX + 1) vx := less_yes _ _ (by omega)
  have HS1 : Hid (∀ wx, Below w.heap.size w wx → Calls Try.prog 6 #[.agg #[c0, c1, c2, c3, c4], .int .i64 1048576] wx fun e w' => e = .returned (.int .i64 (1048576 - szV (dA + 1) va)) ∧ Below wx.heap.size wx w') := fun wx hb => by
    rw [← hl1]
    exact szValue_any (dA + 1) w.heap.size (c0, c1, c2, c3, c4) va 1048576 wx (HVA.out wx hb) hb.size (by omega) (by omega)
  have HS2 : Hid (∀ wx, Below w.heap.size w wx → Calls Try.prog 6 #[.agg #[e0, e1, e2, e3, e4], .int .i64 (1048576 - szV (dA + 1) va)] wx fun e w' => e = .returned (.int .i64 (1048576 - szV (dA + 1) va - szV (dX + 1) vx)) ∧ Below wx.heap.size wx w') := fun wx hb => by
    rw [← hl2]
    exact szValue_any (dX + 1) w.heap.size (e0, e1, e2, e3, e4) vx _ wx (HVX.out wx hb) hb.size (by omega) (by omega)
  have HTA0 : Hid (∀ wx, Below w.heap.size w wx → Calls Try.prog 8 #[.agg #[c0, c1, c2, c3, c4]] wx fun e w' => ∃ u0 u1 u2 u3 u4, e = .returned (.agg #[u0, u1, u2, u3, u4]) ∧ ∃ B, VOwn w' (dA + 1) (u0, u1, u2, u3, u4) va B ∧ (∀ b ∈ B, wx.heap.size ≤ b ∧ b < w'.heap.size) ∧ Below wx.heap.size wx w') := fun wx hb => toValue_any (dA + 1) w.heap.size (c0, c1, c2, c3, c4) va wx (HVA.out wx hb) hb.size (by omega)
  have HTX0 : Hid (∀ wx, Below w.heap.size w wx → Calls Try.prog 8 #[.agg #[e0, e1, e2, e3, e4]] wx fun e w' => ∃ u0 u1 u2 u3 u4, e = .returned (.agg #[u0, u1, u2, u3, u4]) ∧ ∃ B, VOwn w' (dX + 1) (u0, u1, u2, u3, u4) vx B ∧ (∀ b ∈ B, wx.heap.size ≤ b ∧ b < w'.heap.size) ∧ Below wx.heap.size wx w') := fun wx hb => toValue_any (dX + 1) w.heap.size (e0, e1, e2, e3, e4) vx wx (HVX.out wx hb) hb.size (by omega)
  have HTK0 : Hid (∀ wx, Below w.heap.size w wx → Calls Try.prog 9 #[.slice ka key.length kc] wx fun e w' => e = .returned (.slice (some ⟨wx.heap.size, 0, none⟩) key.length key.length) ∧ Bts w' wx.heap.size (.slice (some ⟨wx.heap.size, 0, none⟩) key.length key.length) key ∧ Below wx.heap.size wx w') := fun wx hb => toByteS_any ka kc key wx (hS.below hb hS.lt) (by omega)
  have HEK : Hid (∀ (xa ya : Option Addr) (xc yc : Nat) (wx : World), Seg wx xa key → Seg wx ya key → Calls Try.prog 12 #[.slice xa key.length xc, .slice ya key.length yc] wx fun e w' => e = .returned (.bool true) ∧ Below wx.heap.size wx w') := fun xa ya xc yc wx h h' => eqByteS_same xa ya xc yc key wx h h' (by omega)
  have HMK0 : Hid (∀ base xa (q : Nat) wx, q ≤ 2097153 → Bts wx base (.slice xa key.length key.length) key → Calls Try.prog 14 #[.slice xa key.length key.length, .int .i64 q] wx fun e w' => e = .returned (.int .i64 ((q + key.length : Nat) : Int)) ∧ wx.grownBy w' (Value.slice xa key.length key.length).ownBlock) := fun base xa q wx hq h => (markByteS_any base xa key.length key q wx h (by omega) (by omega)).mono fun e w' h => ⟨h.1, h.2.2⟩
  have HEA : Hid (∀ (u0 u1 u2 u3 u4 v0 v1 v2 v3 v4 : Value) (B B' : List Nat) (wx : World), VOwn wx (dA + 1) (u0, u1, u2, u3, u4) va B → VOwn wx (dA + 1) (v0, v1, v2, v3, v4) va B' → Calls Try.prog 11 #[.agg #[u0, u1, u2, u3, u4], .agg #[v0, v1, v2, v3, v4]] wx fun e w' => e = .returned (.bool true) ∧ Below wx.heap.size wx w') := fun u0 u1 u2 u3 u4 v0 v1 v2 v3 v4 B B' wx h h' => eqValue_any (dA + 1) wx.heap.size (u0, u1, u2, u3, u4) (v0, v1, v2, v3, v4) va wx h.read h'.read (Nat.le_refl _) (by omega)
  have HEX : Hid (∀ (u0 u1 u2 u3 u4 v0 v1 v2 v3 v4 : Value) (B B' : List Nat) (wx : World), VOwn wx (dX + 1) (u0, u1, u2, u3, u4) vx B → VOwn wx (dX + 1) (v0, v1, v2, v3, v4) vx B' → Calls Try.prog 11 #[.agg #[u0, u1, u2, u3, u4], .agg #[v0, v1, v2, v3, v4]] wx fun e w' => e = .returned (.bool true) ∧ Below wx.heap.size wx w') := fun u0 u1 u2 u3 u4 v0 v1 v2 v3 v4 B B' wx h h' => eqValue_any (dX + 1) wx.heap.size (u0, u1, u2, u3, u4) (v0, v1, v2, v3, v4) vx wx h.read h'.read (Nat.le_refl _) (by omega)
  have HER : Hid (∀ (u0 u1 u2 u3 u4 v0 v1 v2 v3 v4 : Value) (B B' : List Nat) (wx : World), VOwn wx (D + 1) (u0, u1, u2, u3, u4) a B → VOwn wx (D + 1) (v0, v1, v2, v3, v4) a B' → Calls Try.prog 11 #[.agg #[u0, u1, u2, u3, u4], .agg #[v0, v1, v2, v3, v4]] wx fun e w' => e = .returned (.bool true) ∧ Below wx.heap.size wx w') := fun u0 u1 u2 u3 u4 v0 v1 v2 v3 v4 B B' wx h h' => eqValue_any (D + 1) wx.heap.size (u0, u1, u2, u3, u4) (v0, v1, v2, v3, v4) a wx h.read h'.read (Nat.le_refl _) hza
  have HMA0 : Hid (∀ x0 x1 x2 x3 x4 B (q : Nat) wx, q ≤ 8388608 → VOwn wx (dA + 1) (x0, x1, x2, x3, x4) va B → Calls Try.prog 13 #[.agg #[x0, x1, x2, x3, x4], .int .i64 q] wx fun e w' => e = .returned (.int .i64 ((q + cV dA va : Nat) : Int)) ∧ VOwn w' (dA + 1) (x0, x1, x2, x3, x4) (mkV dA va q) B ∧ Turned B wx w') := fun x0 x1 x2 x3 x4 B q wx hq h => markValue_any dA x0 x1 x2 x3 x4 va B q wx h (by omega) (by omega)
  have HMX0 : Hid (∀ x0 x1 x2 x3 x4 B (q : Nat) wx, q ≤ 8388608 → VOwn wx (dX + 1) (x0, x1, x2, x3, x4) vx B → Calls Try.prog 13 #[.agg #[x0, x1, x2, x3, x4], .int .i64 q] wx fun e w' => e = .returned (.int .i64 ((q + cV dX vx : Nat) : Int)) ∧ VOwn w' (dX + 1) (x0, x1, x2, x3, x4) (mkV dX vx q) B ∧ Turned B wx w') := fun x0 x1 x2 x3 x4 B q wx hq h => markValue_any dX x0 x1 x2 x3 x4 vx B q wx h (by omega) (by omega)
  have HMR0 : Hid (∀ x0 x1 x2 x3 x4 B (q : Nat) wx, q ≤ 8388608 → VOwn wx (D + 1) (x0, x1, x2, x3, x4) a B → Calls Try.prog 13 #[.agg #[x0, x1, x2, x3, x4], .int .i64 q] wx fun e w' => e = .returned (.int .i64 ((q + cV D a : Nat) : Int)) ∧ VOwn w' (D + 1) (x0, x1, x2, x3, x4) (mkV D a q) B ∧ Turned B wx w') := fun x0 x1 x2 x3 x4 B q wx hq h => markValue_any D x0 x1 x2 x3 x4 a B q wx h hza (by omega)
  have HHR : Hid (∀ x0 x1 x2 x3 x4 B wx, VOwn wx (D + 1) (x0, x1, x2, x3, x4) (mkV D a 1) B → Calls Try.prog 15 #[.agg #[x0, x1, x2, x3, x4], .int .i64 1] wx fun e w' => e = .returned (.int .i64 ((1 + cV D a : Nat) : Int)) ∧ Below wx.heap.size wx w') := fun x0 x1 x2 x3 x4 B wx h => heldValue_any D wx.heap.size x0 x1 x2 x3 x4 a 1 wx h.read (Nat.le_refl _) hza (by omega)
  obtain ⟨ck, cn, a2, l2, p2, a3, l3, p3, a4, l4, p4, rfl, rfl, rfl, rfl, rfl⟩ := VSeg.form (dA + 1) ha
  obtain ⟨xk, xn, b2, m2, q2, b3, m3, q3, b4, m4, q4, rfl, rfl, rfl, rfl, rfl⟩ := VSeg.form (dX + 1) hx
  have hz0 : 0 ≤ (1048576 : Int) - szV (dA + 1) va := by omega
  have hz1 : (1048576 : Int) - szV (dA + 1) va ≤ 1048576 := by omega
  have hz2 : 0 ≤ (1048576 : Int) - szV (dA + 1) va - szV (dX + 1) vx := by omega
  have hz3 : (1048576 : Int) - szV (dA + 1) va - szV (dX + 1) vx ≤ 1048576 := by omega
  have hcA : cV dA va ≤ 2097152 := by omega
  have hcX : cV dX vx ≤ 2097152 := by omega
  have HMR := hide' (fun x0 x1 x2 x3 x4 B wx => HMR0.out x0 x1 x2 x3 x4 B 1 wx (by omega))
  have HMA := hide' (fun x0 x1 x2 x3 x4 B wx => HMA0.out x0 x1 x2 x3 x4 B 1 wx (by omega))
  have HMK := hide' (fun base xa wx => HMK0.out base xa (1 + cV dA va) wx (by omega))
  have HMX := hide' (fun x0 x1 x2 x3 x4 B wx => HMX0.out x0 x1 x2 x3 x4 B (1 + cV dA va + key.length) wx (by omega))
  have hkl' : ¬ (1048576 : Int) < (key.length : Int) := by omega
  generalize hkn : key.length = kn at *
  generalize hszA : szV (dA + 1) va = sza at *
  generalize hszX : szV (dX + 1) vx = szx at *
  generalize hq1 : 1 + cV dA va = q1 at *
  generalize hq2 : q1 + kn = q2' at *
  generalize hq3 : q2' + cV dX vx = q3' at *
  generalize hq4 : 1 + cV D a = q4' at *
  have hq3' : ¬ (q3' : Int) < 0 := by omega
  have hq4' : ¬ (q4' : Int) < 0 := by omega
  clear HMA0 HMX0 HMR0 HVA HVX ha hx hz hza hcva hcvx hcva' hl1 hl2 hszA hszX hcA hcX hq1 hq3 hq4 HMK0 hq2 hkn hS hkl
  go_enter Try.func3, Try.ntmps3
  go_wp2_with fail
  refine (HS1.out _ (Hb2.out _ _)).mono ?_
  rintro e w1 ⟨rfl, b1⟩
  have Hb1 := hide' b1
  have HB1 := hide' (Below.on (Hb2.out _ _) b1)
  obtain ⟨r1, r2⟩ := Hr.out _ _ _ b1
  obtain ⟨g0, g1, g2, g3, g4, _⟩ := row5 r2
  clear b1 r1 r2 HS1
  go_wp2_with fail
  refine (HS2.out _ HB1.out).mono ?_
  rintro e w2 ⟨rfl, b2'⟩
  have hrows := Hr.out _ _ _ (Below.on Hb1.out b2')
  have HA2 := hide' hrows.1
  have HX2 := hide' hrows.2
  have HBw := hide' (Below.on HB1.out b2')
  clear g0 g1 g2 g3 g4 b2' HS2 HB1 Hb1 hrows Hr Hb2
  have hlt2 : w.heap.size + 1 < w2.heap.size := (Array.getElem?_eq_some_iff.1 HX2.out).1
  have na0 : ¬ w.heap.size = w2.heap.size := by omega
  have nb0 : ¬ w2.heap.size = w.heap.size := by omega
  have nc0 : ¬ w.heap.size + 1 = w2.heap.size := by omega
  have nd0 : ¬ w2.heap.size = w.heap.size + 1 := by omega
  have HQ : Hid (∀ wx, Below w2.heap.size w2 wx → wx.cell? ⟨w.heap.size, 0, none⟩ = some (.int .i64 ck) ∧ wx.cell? ⟨w.heap.size, 1, none⟩ = some (.int .i64 cn) ∧ wx.cell? ⟨w.heap.size, 2, none⟩ = some (.slice a2 l2 p2) ∧ wx.cell? ⟨w.heap.size, 3, none⟩ = some (.slice a3 l3 p3) ∧ wx.cell? ⟨w.heap.size, 4, none⟩ = some (.slice a4 l4 p4) ∧ wx.cell? ⟨w.heap.size + 1, 0, none⟩ = some (.int .i64 xk) ∧ wx.cell? ⟨w.heap.size + 1, 1, none⟩ = some (.int .i64 xn) ∧ wx.cell? ⟨w.heap.size + 1, 2, none⟩ = some (.slice b2 m2 q2) ∧ wx.cell? ⟨w.heap.size + 1, 3, none⟩ = some (.slice b3 m3 q3) ∧ wx.cell? ⟨w.heap.size + 1, 4, none⟩ = some (.slice b4 m4 q4)) := by
    intro wx h
    obtain ⟨f0, f1, f2, f3, f4, _⟩ := row5 (row_on HA2.out h)
    obtain ⟨g0, g1, g2, g3, g4, _⟩ := row5 (row_on HX2.out h)
    exact ⟨f0, f1, f2, f3, f4, g0, g1, g2, g3, g4⟩
  have HTA : Hid (∀ wp wx, Below wp.heap.size wp wx → Below w2.heap.size w2 wp → Calls Try.prog 8 #[.agg #[.int .i64 ck, .int .i64 cn, .slice a2 l2 p2, .slice a3 l3 p3, .slice a4 l4 p4]] wx fun e w' => ∃ u0 u1 u2 u3 u4, e = .returned (.agg #[u0, u1, u2, u3, u4]) ∧ (w'.cell? ⟨w.heap.size, 0, none⟩ = some (.int .i64 ck) ∧ w'.cell? ⟨w.heap.size, 1, none⟩ = some (.int .i64 cn) ∧ w'.cell? ⟨w.heap.size, 2, none⟩ = some (.slice a2 l2 p2) ∧ w'.cell? ⟨w.heap.size, 3, none⟩ = some (.slice a3 l3 p3) ∧ w'.cell? ⟨w.heap.size, 4, none⟩ = some (.slice a4 l4 p4) ∧ w'.cell? ⟨w.heap.size + 1, 0, none⟩ = some (.int .i64 xk) ∧ w'.cell? ⟨w.heap.size + 1, 1, none⟩ = some (.int .i64 xn) ∧ w'.cell? ⟨w.heap.size + 1, 2, none⟩ = some (.slice b2 m2 q2) ∧ w'.cell? ⟨w.heap.size + 1, 3, none⟩ = some (.slice b3 m3 q3) ∧ w'.cell? ⟨w.heap.size + 1, 4, none⟩ = some (.slice b4 m4 q4)) ∧ Hid (∃ B, VOwn w' (dA + 1) (u0, u1, u2, u3, u4) va B ∧ ∀ b ∈ B, wp.heap.size ≤ b ∧ b < w'.heap.size) ∧ Hid (Below wx.heap.size wx w') ∧ Hid (Below wp.heap.size wp w') ∧ Hid (Below w2.heap.size w2 w') ∧ ¬ w.heap.size = w'.heap.size ∧ ¬ w'.heap.size = w.heap.size ∧ ¬ w.heap.size + 1 = w'.heap.size ∧ ¬ w'.heap.size = w.heap.size + 1) := by
    intro wp wx h h2
    refine (HTA0.out wx (Below.on HBw.out (Below.on h2 h))).mono ?_
    rintro e w' ⟨u0, u1, u2, u3, u4, rfl, B, hO, hB, hb⟩
    have hz := h.size
    exact ⟨u0, u1, u2, u3, u4, rfl, HQ.out w' (Below.on h2 (Below.on h hb)), ⟨B, hO, fun b hb => by have := hB b hb; omega⟩, hb, Below.on h hb, Below.on h2 (Below.on h hb), (keeps_WSet hlt2 (Below.on h2 (Below.on h hb)) hb).2.2.2.2.2.2⟩
  have HTX : Hid (∀ wp wx, Below wp.heap.size wp wx → Below w2.heap.size w2 wp → Calls Try.prog 8 #[.agg #[.int .i64 xk, .int .i64 xn, .slice b2 m2 q2, .slice b3 m3 q3, .slice b4 m4 q4]] wx fun e w' => ∃ u0 u1 u2 u3 u4, e = .returned (.agg #[u0, u1, u2, u3, u4]) ∧ (w'.cell? ⟨w.heap.size, 0, none⟩ = some (.int .i64 ck) ∧ w'.cell? ⟨w.heap.size, 1, none⟩ = some (.int .i64 cn) ∧ w'.cell? ⟨w.heap.size, 2, none⟩ = some (.slice a2 l2 p2) ∧ w'.cell? ⟨w.heap.size, 3, none⟩ = some (.slice a3 l3 p3) ∧ w'.cell? ⟨w.heap.size, 4, none⟩ = some (.slice a4 l4 p4) ∧ w'.cell? ⟨w.heap.size + 1, 0, none⟩ = some (.int .i64 xk) ∧ w'.cell? ⟨w.heap.size + 1, 1, none⟩ = some (.int .i64 xn) ∧ w'.cell? ⟨w.heap.size + 1, 2, none⟩ = some (.slice b2 m2 q2) ∧ w'.cell? ⟨w.heap.size + 1, 3, none⟩ = some (.slice b3 m3 q3) ∧ w'.cell? ⟨w.heap.size + 1, 4, none⟩ = some (.slice b4 m4 q4)) ∧ Hid (∃ B, VOwn w' (dX + 1) (u0, u1, u2, u3, u4) vx B ∧ ∀ b ∈ B, wp.heap.size ≤ b ∧ b < w'.heap.size) ∧ Hid (Below wx.heap.size wx w') ∧ Hid (Below wp.heap.size wp w') ∧ Hid (Below w2.heap.size w2 w') ∧ ¬ w.heap.size = w'.heap.size ∧ ¬ w'.heap.size = w.heap.size ∧ ¬ w.heap.size + 1 = w'.heap.size ∧ ¬ w'.heap.size = w.heap.size + 1) := by
    intro wp wx h h2
    refine (HTX0.out wx (Below.on HBw.out (Below.on h2 h))).mono ?_
    rintro e w' ⟨u0, u1, u2, u3, u4, rfl, B, hO, hB, hb⟩
    have hz := h.size
    exact ⟨u0, u1, u2, u3, u4, rfl, HQ.out w' (Below.on h2 (Below.on h hb)), ⟨B, hO, fun b hb => by have := hB b hb; omega⟩, hb, Below.on h hb, Below.on h2 (Below.on h hb), (keeps_WSet hlt2 (Below.on h2 (Below.on h hb)) hb).2.2.2.2.2.2⟩
  have HTK : Hid (∀ wp wx, Below wp.heap.size wp wx → Below w2.heap.size w2 wp → Calls Try.prog 9 #[.slice ka kn kc] wx fun e w' => ∃ z, e = .returned (.slice (some ⟨z, 0, none⟩) kn kn) ∧ (w'.cell? ⟨w.heap.size, 0, none⟩ = some (.int .i64 ck) ∧ w'.cell? ⟨w.heap.size, 1, none⟩ = some (.int .i64 cn) ∧ w'.cell? ⟨w.heap.size, 2, none⟩ = some (.slice a2 l2 p2) ∧ w'.cell? ⟨w.heap.size, 3, none⟩ = some (.slice a3 l3 p3) ∧ w'.cell? ⟨w.heap.size, 4, none⟩ = some (.slice a4 l4 p4) ∧ w'.cell? ⟨w.heap.size + 1, 0, none⟩ = some (.int .i64 xk) ∧ w'.cell? ⟨w.heap.size + 1, 1, none⟩ = some (.int .i64 xn) ∧ w'.cell? ⟨w.heap.size + 1, 2, none⟩ = some (.slice b2 m2 q2) ∧ w'.cell? ⟨w.heap.size + 1, 3, none⟩ = some (.slice b3 m3 q3) ∧ w'.cell? ⟨w.heap.size + 1, 4, none⟩ = some (.slice b4 m4 q4)) ∧ Hid (∃ base, Bts w' base (.slice (some ⟨z, 0, none⟩) kn kn) key) ∧ Hid (Below wx.heap.size wx w') ∧ Hid (Below wp.heap.size wp w') ∧ Hid (Below w2.heap.size w2 w') ∧ Hid (wp.heap.size ≤ z ∧ z < w'.heap.size) ∧ ¬ w.heap.size = w'.heap.size ∧ ¬ w'.heap.size = w.heap.size ∧ ¬ w.heap.size + 1 = w'.heap.size ∧ ¬ w'.heap.size = w.heap.size + 1) := by
    intro wp wx h h2
    refine (HTK0.out wx (Below.on HBw.out (Below.on h2 h))).mono ?_
    rintro e w' ⟨rfl, hK, hb⟩
    exact ⟨_, rfl, HQ.out w' (Below.on h2 (Below.on h hb)), ⟨_, hK⟩, hb, Below.on h hb, Below.on h2 (Below.on h hb), ⟨h.size, (hK.lt _ rfl).2⟩, (keeps_WSet hlt2 (Below.on h2 (Below.on h hb)) hb).2.2.2.2.2.2⟩
  have HSC : Hid (∀ (wv wk wx wy : World) (z : Nat) (u0 u1 u2 u3 u4 y0 y1 y2 y3 y4 : Value) (lo lo2 : Nat), Hid (∃ B, VOwn wv (dA + 1) (u0, u1, u2, u3, u4) va B ∧ ∀ b ∈ B, lo ≤ b ∧ b < wv.heap.size) → Hid (Below wv.heap.size wv wk) → Hid (∃ base, Bts wk base (.slice (some ⟨z, 0, none⟩) kn kn) key) → Hid (Below wk.heap.size wk wx) → Hid (∃ B, VOwn wx (dX + 1) (y0, y1, y2, y3, y4) vx B ∧ ∀ b ∈ B, lo2 ≤ b ∧ b < wx.heap.size) → Below wx.heap.size wx wy → Below w2.heap.size w2 wy → Calls Try.prog 7 #[.agg #[u0, u1, u2, u3, u4], .slice (some ⟨z, 0, none⟩) kn kn, .agg #[y0, y1, y2, y3, y4]] wy fun e w' => ∃ (gk gn : Int) (s2 : Option Addr) (n2 r2 : Nat) (s3 : Option Addr) (n3 r3 : Nat) (s4 : Option Addr) (n4 r4 : Nat), e = .returned (.tuple #[.agg #[.int .i64 gk, .int .i64 gn, .slice s2 n2 r2, .slice s3 n3 r3, .slice s4 n4 r4], .bool bb]) ∧ (w'.cell? ⟨w.heap.size, 0, none⟩ = some (.int .i64 ck) ∧ w'.cell? ⟨w.heap.size, 1, none⟩ = some (.int .i64 cn) ∧ w'.cell? ⟨w.heap.size, 2, none⟩ = some (.slice a2 l2 p2) ∧ w'.cell? ⟨w.heap.size, 3, none⟩ = some (.slice a3 l3 p3) ∧ w'.cell? ⟨w.heap.size, 4, none⟩ = some (.slice a4 l4 p4) ∧ w'.cell? ⟨w.heap.size + 1, 0, none⟩ = some (.int .i64 xk) ∧ w'.cell? ⟨w.heap.size + 1, 1, none⟩ = some (.int .i64 xn) ∧ w'.cell? ⟨w.heap.size + 1, 2, none⟩ = some (.slice b2 m2 q2) ∧ w'.cell? ⟨w.heap.size + 1, 3, none⟩ = some (.slice b3 m3 q3) ∧ w'.cell? ⟨w.heap.size + 1, 4, none⟩ = some (.slice b4 m4 q4)) ∧ (∀ o, (w'.alloc o).cell? ⟨w.heap.size, 0, none⟩ = some (.int .i64 ck) ∧ (w'.alloc o).cell? ⟨w.heap.size, 1, none⟩ = some (.int .i64 cn) ∧ (w'.alloc o).cell? ⟨w.heap.size, 2, none⟩ = some (.slice a2 l2 p2) ∧ (w'.alloc o).cell? ⟨w.heap.size, 3, none⟩ = some (.slice a3 l3 p3) ∧ (w'.alloc o).cell? ⟨w.heap.size, 4, none⟩ = some (.slice a4 l4 p4) ∧ (w'.alloc o).cell? ⟨w.heap.size + 1, 0, none⟩ = some (.int .i64 xk) ∧ (w'.alloc o).cell? ⟨w.heap.size + 1, 1, none⟩ = some (.int .i64 xn) ∧ (w'.alloc o).cell? ⟨w.heap.size + 1, 2, none⟩ = some (.slice b2 m2 q2) ∧ (w'.alloc o).cell? ⟨w.heap.size + 1, 3, none⟩ = some (.slice b3 m3 q3) ∧ (w'.alloc o).cell? ⟨w.heap.size + 1, 4, none⟩ = some (.slice b4 m4 q4)) ∧ Hid (∃ B, VOwn w' (D + 1) (.int .i64 gk, .int .i64 gn, .slice s2 n2 r2, .slice s3 n3 r3, .slice s4 n4 r4) a B ∧ ∀ b ∈ B, wy.heap.size ≤ b ∧ b < w'.heap.size) ∧ Hid (Below w2.heap.size w2 wy) ∧ Hid (Below wy.heap.size wy w') ∧ Hid (Below wx.heap.size wx w') ∧ Hid (Below w2.heap.size w2 w') ∧ Hid (Below wx.heap.size wx wy) ∧ ¬ w.heap.size = w'.heap.size ∧ ¬ w'.heap.size = w.heap.size ∧ ¬ w.heap.size + 1 = w'.heap.size ∧ ¬ w'.heap.size = w.heap.size + 1) := by
    intro wv wk wx wy z u0 u1 u2 u3 u4 y0 y1 y2 y3 y4 lo lo2 h1 h2 h3 h4 h5 h6 h7
    obtain ⟨BA, hA, _⟩ := h1.out
    obtain ⟨BX, hX, _⟩ := h5.out
    obtain ⟨base, hK⟩ := h3.out
    refine (HSp.out u0 u1 u2 u3 u4 BA y0 y1 y2 y3 y4 BX wy (hA.on (Below.on (Below.on h2.out h4.out) h6)) (hX.on h6) _ _ _ (hK.grow (Below.on h4.out h6))).mono ?_
    rintro e w' ⟨t0, t1, t2, t3, t4, rfl, B, hO, hB, hb⟩
    obtain ⟨gk, gn, s2, n2, r2, s3, n3, r3, s4, n4, r4, rfl, rfl, rfl, rfl, rfl⟩ := VOwn.form (D + 1) hO
    have hb' := Below.on h7 hb
    exact ⟨gk, gn, s2, n2, r2, s3, n3, r3, s4, n4, r4, rfl, HQ.out w' hb', fun o => HQ.out _ (hb'.alloc hb'.size o), ⟨B, hO, hB⟩, h7, hb, Below.on h6 hb, hb', h6, (keeps_WSet hlt2 hb' hb).2.2.2.2.2.2⟩
  have HIC : Hid (∀ (wv wk wx wy : World) (z : Nat) (u0 u1 u2 u3 u4 y0 y1 y2 y3 y4 : Value) (lo lo2 : Nat), Hid (∃ B, VOwn wv (dA + 1) (u0, u1, u2, u3, u4) va B ∧ ∀ b ∈ B, lo ≤ b ∧ b < wv.heap.size) → Hid (Below wv.heap.size wv wk) → Hid (∃ base, Bts wk base (.slice (some ⟨z, 0, none⟩) kn kn) key) → Hid (Below wk.heap.size wk wx) → Hid (∃ B, VOwn wx (dX + 1) (y0, y1, y2, y3, y4) vx B ∧ ∀ b ∈ B, lo2 ≤ b ∧ b < wx.heap.size) → Below wx.heap.size wx wy → Below w2.heap.size w2 wy → Calls Try.prog 10 #[.agg #[u0, u1, u2, u3, u4], .slice (some ⟨z, 0, none⟩) kn kn, .agg #[y0, y1, y2, y3, y4]] wy fun e w' => ∃ (gk gn : Int) (s2 : Option Addr) (n2 r2 : Nat) (s3 : Option Addr) (n3 r3 : Nat) (s4 : Option Addr) (n4 r4 : Nat), e = .returned (.tuple #[.agg #[.int .i64 gk, .int .i64 gn, .slice s2 n2 r2, .slice s3 n3 r3, .slice s4 n4 r4], .bool bb]) ∧ (w'.cell? ⟨w.heap.size, 0, none⟩ = some (.int .i64 ck) ∧ w'.cell? ⟨w.heap.size, 1, none⟩ = some (.int .i64 cn) ∧ w'.cell? ⟨w.heap.size, 2, none⟩ = some (.slice a2 l2 p2) ∧ w'.cell? ⟨w.heap.size, 3, none⟩ = some (.slice a3 l3 p3) ∧ w'.cell? ⟨w.heap.size, 4, none⟩ = some (.slice a4 l4 p4) ∧ w'.cell? ⟨w.heap.size + 1, 0, none⟩ = some (.int .i64 xk) ∧ w'.cell? ⟨w.heap.size + 1, 1, none⟩ = some (.int .i64 xn) ∧ w'.cell? ⟨w.heap.size + 1, 2, none⟩ = some (.slice b2 m2 q2) ∧ w'.cell? ⟨w.heap.size + 1, 3, none⟩ = some (.slice b3 m3 q3) ∧ w'.cell? ⟨w.heap.size + 1, 4, none⟩ = some (.slice b4 m4 q4)) ∧ (∀ o, (w'.alloc o).cell? ⟨w.heap.size, 0, none⟩ = some (.int .i64 ck) ∧ (w'.alloc o).cell? ⟨w.heap.size, 1, none⟩ = some (.int .i64 cn) ∧ (w'.alloc o).cell? ⟨w.heap.size, 2, none⟩ = some (.slice a2 l2 p2) ∧ (w'.alloc o).cell? ⟨w.heap.size, 3, none⟩ = some (.slice a3 l3 p3) ∧ (w'.alloc o).cell? ⟨w.heap.size, 4, none⟩ = some (.slice a4 l4 p4) ∧ (w'.alloc o).cell? ⟨w.heap.size + 1, 0, none⟩ = some (.int .i64 xk) ∧ (w'.alloc o).cell? ⟨w.heap.size + 1, 1, none⟩ = some (.int .i64 xn) ∧ (w'.alloc o).cell? ⟨w.heap.size + 1, 2, none⟩ = some (.slice b2 m2 q2) ∧ (w'.alloc o).cell? ⟨w.heap.size + 1, 3, none⟩ = some (.slice b3 m3 q3) ∧ (w'.alloc o).cell? ⟨w.heap.size + 1, 4, none⟩ = some (.slice b4 m4 q4)) ∧ Hid (∃ B, VOwn w' (D + 1) (.int .i64 gk, .int .i64 gn, .slice s2 n2 r2, .slice s3 n3 r3, .slice s4 n4 r4) a B ∧ ∀ b ∈ B, wy.heap.size ≤ b ∧ b < w'.heap.size) ∧ Hid (Below w2.heap.size w2 wy) ∧ Hid (Below wy.heap.size wy w') ∧ Hid (Below wx.heap.size wx w') ∧ Hid (Below w2.heap.size w2 w') ∧ Hid (Below wx.heap.size wx wy) ∧ ¬ w.heap.size = w'.heap.size ∧ ¬ w'.heap.size = w.heap.size ∧ ¬ w.heap.size + 1 = w'.heap.size ∧ ¬ w'.heap.size = w.heap.size + 1) := by
    intro wv wk wx wy z u0 u1 u2 u3 u4 y0 y1 y2 y3 y4 lo lo2 h1 h2 h3 h4 h5 h6 h7
    obtain ⟨BA, hA, _⟩ := h1.out
    obtain ⟨BX, hX, _⟩ := h5.out
    obtain ⟨base, hK⟩ := h3.out
    refine (HIm.out u0 u1 u2 u3 u4 BA y0 y1 y2 y3 y4 BX wy (hA.on (Below.on (Below.on h2.out h4.out) h6)) (hX.on h6) _ _ _ (hK.grow (Below.on h4.out h6))).mono ?_
    rintro e w' ⟨t0, t1, t2, t3, t4, rfl, B, hO, hB, hb⟩
    obtain ⟨gk, gn, s2, n2, r2, s3, n3, r3, s4, n4, r4, rfl, rfl, rfl, rfl, rfl⟩ := VOwn.form (D + 1) hO
    have hb' := Below.on h7 hb
    exact ⟨gk, gn, s2, n2, r2, s3, n3, r3, s4, n4, r4, rfl, HQ.out w' hb', fun o => HQ.out _ (hb'.alloc hb'.size o), ⟨B, hO, hB⟩, h7, hb, Below.on h6 hb, hb', h6, (keeps_WSet hlt2 hb' hb).2.2.2.2.2.2⟩
  obtain ⟨f0, f1, f2, f3, f4, f5, f6, f7, f8, f9⟩ := HQ.out w2 (Below.refl _ _)
  have HIm0 := hide' HIm.out
  clear HSp HIm
  go_wp2_with fail
  go_cut [8, 9] from 33 to 42 (fun sp sb wx => sb = .bool bb ∧ ∃ (G : Nat) (gk gn : Int) (s2 : Option Addr) (n2 r2 : Nat) (s3 : Option Addr) (n3 r3 : Nat) (s4 : Option Addr) (n4 r4 : Nat), sp = .pointer (some ⟨G, 0, none⟩) ∧ Hid (BoxV_WSet w2 D a G (.int .i64 gk, .int .i64 gn, .slice s2 n2 r2, .slice s3 n3 r3, .slice s4 n4 r4) wx))
  case first =>
    go_region_held3 (fun wx => wx.cell? ⟨w.heap.size, 0, none⟩ = some (.int .i64 ck) ∧ wx.cell? ⟨w.heap.size, 1, none⟩ = some (.int .i64 cn) ∧ wx.cell? ⟨w.heap.size, 2, none⟩ = some (.slice a2 l2 p2) ∧ wx.cell? ⟨w.heap.size, 3, none⟩ = some (.slice a3 l3 p3) ∧ wx.cell? ⟨w.heap.size, 4, none⟩ = some (.slice a4 l4 p4) ∧ wx.cell? ⟨w.heap.size + 1, 0, none⟩ = some (.int .i64 xk) ∧ wx.cell? ⟨w.heap.size + 1, 1, none⟩ = some (.int .i64 xn) ∧ wx.cell? ⟨w.heap.size + 1, 2, none⟩ = some (.slice b2 m2 q2) ∧ wx.cell? ⟨w.heap.size + 1, 3, none⟩ = some (.slice b3 m3 q3) ∧ wx.cell? ⟨w.heap.size + 1, 4, none⟩ = some (.slice b4 m4 q4)) (go_keep) (first
      | (go_at_call_of 8 ck; refine (HTA.out w2 _ (by first | exact (Below.refl w2.heap.size w2) | exact (Below.refl w2.heap.size w2).drew | exact (Below.refl w2.heap.size w2).alloc (Below.refl w2.heap.size w2).size _ | exact ((Below.refl w2.heap.size w2).alloc (Below.refl w2.heap.size w2).size _).drew | exact ((Below.refl w2.heap.size w2).drew).alloc ((Below.refl w2.heap.size w2).drew).size _) (Below.refl _ _)).mono ?_; rintro e w3a ⟨ua0, ua1, ua2, ua3, ua4, rfl, ⟨ia0, ia1, ia2, ia3, ia4, ia5, ia6, ia7, ia8, ia9⟩, hOa3, hca3, hba3, hBa3, naa, nba, nca, nda⟩)
      | (go_at_call 9; refine (HTK.out w3a _ (by first | exact (Below.refl w3a.heap.size w3a) | exact (Below.refl w3a.heap.size w3a).drew | exact (Below.refl w3a.heap.size w3a).alloc (Below.refl w3a.heap.size w3a).size _ | exact ((Below.refl w3a.heap.size w3a).alloc (Below.refl w3a.heap.size w3a).size _).drew | exact ((Below.refl w3a.heap.size w3a).drew).alloc ((Below.refl w3a.heap.size w3a).drew).size _) hBa3.out).mono ?_; rintro e w3k ⟨zk3, rfl, ⟨ik0, ik1, ik2, ik3, ik4, ik5, ik6, ik7, ik8, ik9⟩, hKk3, hck3, hbk3, hBk3, hzk3, nak, nbk, nck, ndk⟩)
      | (go_at_call_of 8 xk; refine (HTX.out w3k _ (by first | exact (Below.refl w3k.heap.size w3k) | exact (Below.refl w3k.heap.size w3k).drew | exact (Below.refl w3k.heap.size w3k).alloc (Below.refl w3k.heap.size w3k).size _ | exact ((Below.refl w3k.heap.size w3k).alloc (Below.refl w3k.heap.size w3k).size _).drew | exact ((Below.refl w3k.heap.size w3k).drew).alloc ((Below.refl w3k.heap.size w3k).drew).size _) hBk3.out).mono ?_; rintro e w3x ⟨ux0, ux1, ux2, ux3, ux4, rfl, ⟨ix0, ix1, ix2, ix3, ix4, ix5, ix6, ix7, ix8, ix9⟩, hOx3, hcx3, hbx3, hBx3, nax, nbx, ncx, ndx⟩)
      | (go_at_call 7; refine (HSC.out w3a w3k w3x _ zk3 ua0 ua1 ua2 ua3 ua4 ux0 ux1 ux2 ux3 ux4 _ _ hOa3 hbk3 hKk3 hbx3 hOx3 (by first | exact (Below.refl w3x.heap.size w3x) | exact (Below.refl w3x.heap.size w3x).drew | exact (Below.refl w3x.heap.size w3x).alloc (Below.refl w3x.heap.size w3x).size _ | exact ((Below.refl w3x.heap.size w3x).alloc (Below.refl w3x.heap.size w3x).size _).drew | exact ((Below.refl w3x.heap.size w3x).drew).alloc ((Below.refl w3x.heap.size w3x).drew).size _) (by first | exact hBx3.out | exact hBx3.out.drew | exact hBx3.out.alloc hBx3.out.size _ | exact (hBx3.out.alloc hBx3.out.size _).drew | exact (hBx3.out.drew).alloc (hBx3.out.drew).size _)).mono ?_; rintro e w3g ⟨gk3, gn3, s23, n23, r23, s33, n33, r33, s43, n43, r43, rfl, ⟨ig0, ig1, ig2, ig3, ig4, ig5, ig6, ig7, ig8, ig9⟩, hQo3, hOg3, hBg3, hcg3, hxg3, hBw3, hxy3, nag, nbg, ncg, ndg⟩; obtain ⟨k0g, k1g, k2g, k3g, k4g, kfg, -⟩ := keeps_WSet hlt2 hBw3.out hcg3.out; obtain ⟨k0x, k1x, k2x, k3x, k4x, kfx, -⟩ := keeps_WSet hlt2 hBw3.out (Below.on hcx3.out hxg3.out); obtain ⟨k0k, k1k, k2k, k3k, k4k, kfk, -⟩ := keeps_WSet hlt2 hBw3.out (Below.on hck3.out (Below.on hbx3.out hxg3.out)); obtain ⟨k0a, k1a, k2a, k3a, k4a, kfa, -⟩ := keeps_WSet hlt2 hBw3.out (Below.on hca3.out (Below.on hbk3.out (Below.on hbx3.out hxg3.out)))))
    · go_wp2_with fail
      go_meet
      exact ⟨rfl, w3g.heap.size, gk3, gn3, s23, n23, r23, s33, n33, r33, s43, n43, r43, rfl, box_new_WSet hOg3.out (Below.on (Below.on (Below.on hba3.out hbk3.out) hbx3.out) hxy3.out) hcg3.out⟩
    · go_wp2_with fail
      go_meet
      exact ⟨rfl, w3x.heap.size, gk3, gn3, s23, n23, r23, s33, n33, r33, s43, n43, r43, rfl, box_old_WSet (G := w3x.heap.size) hOg3.out (Below.on (Below.on (Below.on hba3.out hbk3.out) hbx3.out) hxy3.out) hcg3.out (MapKept.heap_alloc w3x _).1 (Below.on (Below.on hba3.out hbk3.out) hbx3.out).size⟩
    · go_wp2_with fail
      go_meet
      exact ⟨rfl, w3k.heap.size, gk3, gn3, s23, n23, r23, s33, n33, r33, s43, n43, r43, rfl, box_old_WSet (G := w3k.heap.size) hOg3.out (Below.on (Below.on (Below.on hba3.out hbk3.out) hbx3.out) hxy3.out) hcg3.out (row_new_WSet hcx3.out) (Below.on hba3.out hbk3.out).size⟩
    · go_wp2_with fail
      go_meet
      exact ⟨rfl, w3a.heap.size, gk3, gn3, s23, n23, r23, s33, n33, r33, s43, n43, r43, rfl, box_old_WSet (G := w3a.heap.size) hOg3.out (Below.on (Below.on (Below.on hba3.out hbk3.out) hbx3.out) hxy3.out) hcg3.out (row_on (row_new_WSet hck3.out) hbx3.out) hba3.out.size⟩
    · go_wp2_with fail
      go_meet
      exact ⟨rfl, w2.heap.size, gk3, gn3, s23, n23, r23, s33, n33, r33, s43, n43, r43, rfl, box_old_WSet (G := w2.heap.size) hOg3.out (Below.on (Below.on (Below.on hba3.out hbk3.out) hbx3.out) hxy3.out) hcg3.out (row_on (row_on (row_newd_WSet hca3.out) hbk3.out) hbx3.out) (Nat.le_refl w2.heap.size)⟩
  case rest =>
  obtain ⟨rfl, Gw, tk, tn, t2, t2n, t2c, t3, t3n, t3c, t4, t4n, t4c, rfl, hWc⟩ := hcut
  obtain ⟨hWr, ⟨Bw, hWo, hWb⟩, hWg, hWB⟩ := hWc.out
  have HRw := hide' hWr
  have HVw := hide' hWo
  have HB_w := hide' hWb
  have HBz := hide' hWB
  have zc := hWB.size
  have zG : Gw < wc.heap.size := (Array.getElem?_eq_some_iff.1 hWr).1
  have HTc := hide' (HTA0.out wc (Below.on HBw.out hWB))
  obtain ⟨f0, f1, f2, f3, f4, f5, f6, f7, f8, f9⟩ := HQ.out wc hWB
  clear hWc hWr hWo hWb hWB HSC
  simp only at HRw
  go_wp2_with fail
  refine HTc.out.mono ?_
  rintro e w4 ⟨u0, u1, u2, u3, u4, rfl, B4, hO4, hB4, b4⟩
  obtain ⟨yk, yn, y2, y2n, y2c, y3, y3n, y3c, y4, y4n, y4c, rfl, rfl, rfl, rfl, rfl⟩ := VOwn.form (dA + 1) hO4
  have bal4 : Below w4.heap.size w4 (w4.alloc (.cells #[.int .i64 yk, .int .i64 yn, .slice y2 y2n y2c, .slice y3 y3n y3c, .slice y4 y4n y4c] 30)) := (Below.refl _ _).alloc (Nat.le_refl _) _
  have z4 := b4.size
  have HB_a := hide' hB4
  have HVa := hide' (hO4.on bal4)
  have HRa : Hid ((w4.alloc (.cells #[.int .i64 yk, .int .i64 yn, .slice y2 y2n y2c, .slice y3 y3n y3c, .slice y4 y4n y4c] 30)).heap[w4.heap.size]? = some (.cells #[.int .i64 yk, .int .i64 yn, .slice y2 y2n y2c, .slice y3 y3n y3c, .slice y4 y4n y4c] 30)) := (MapKept.heap_alloc w4 _).1
  have b4' := Below.on b4 bal4
  have HVw' := hide' (HVw.out.on b4')
  clear HVw
  have HRw' := hide' (row_on HRw.out b4')
  clear HRw
  have HBz' := hide' (Below.on HBz.out b4')
  clear HBz
  clear hO4 hB4 b4 b4' bal4 HTc f0 f1 f2 f3 f4 f5 f6 f7 f8 f9
  have HTk5 := hide' (HTK0.out _ (Below.on HBw.out HBz'.out))
  go_wp2_with fail
  refine HTk5.out.mono ?_
  rintro e w5 ⟨rfl, hK5, b5⟩
  simp only [World.size_alloc] at hK5
  have z5 : w4.heap.size + 1 < w5.heap.size := (hK5.lt _ rfl).2
  have HVk := hide' hK5
  have HVw'' := hide' (HVw'.out.on b5)
  clear HVw'
  have HRw'' := hide' (row_on HRw'.out b5)
  clear HRw'
  have HBz'' := hide' (Below.on HBz'.out b5)
  clear HBz'
  have HVa' := hide' (HVa.out.on b5)
  clear HVa
  have HRa' := hide' (row_on HRa.out b5)
  clear HRa
  obtain ⟨f0, f1, f2, f3, f4, f5, f6, f7, f8, f9⟩ := HQ.out w5 HBz''.out
  have HTx6 := hide' (HTX0.out w5 (Below.on HBw.out HBz''.out))
  clear hK5 b5 HTk5
  go_wp2_with fail
  refine HTx6.out.mono ?_
  rintro e w6 ⟨u0, u1, u2, u3, u4, rfl, B6, hO6, hB6, b6⟩
  obtain ⟨jk, jn, j2, j2n, j2c, j3, j3n, j3c, j4, j4n, j4c, rfl, rfl, rfl, rfl, rfl⟩ := VOwn.form (dX + 1) hO6
  have bal6 : Below w6.heap.size w6 (w6.alloc (.cells #[.int .i64 jk, .int .i64 jn, .slice j2 j2n j2c, .slice j3 j3n j3c, .slice j4 j4n j4c] 30)) := (Below.refl _ _).alloc (Nat.le_refl _) _
  have z6 : w5.heap.size ≤ w6.heap.size := by have h := b6.size; exact h
  have HB_x := hide' hB6
  have HVx := hide' (hO6.on bal6)
  have HRx : Hid ((w6.alloc (.cells #[.int .i64 jk, .int .i64 jn, .slice j2 j2n j2c, .slice j3 j3n j3c, .slice j4 j4n j4c] 30)).heap[w6.heap.size]? = some (.cells #[.int .i64 jk, .int .i64 jn, .slice j2 j2n j2c, .slice j3 j3n j3c, .slice j4 j4n j4c] 30)) := (MapKept.heap_alloc w6 _).1
  have b6' := Below.on b6 bal6
  have HVw''' := hide' (HVw''.out.on b6')
  clear HVw''
  have HRw''' := hide' (row_on HRw''.out b6')
  clear HRw''
  have HBz''' := hide' (Below.on HBz''.out b6')
  clear HBz''
  have HVa'' := hide' (HVa'.out.on b6')
  clear HVa'
  have HRa'' := hide' (row_on HRa'.out b6')
  clear HRa'
  have HVk' := hide' (HVk.out.grow b6')
  clear HVk
  clear hO6 hB6 b6 b6' bal6 HTx6 f0 f1 f2 f3 f4 f5 f6 f7 f8 f9
  have HI7 := hide' (HIm0.out _ _ _ _ _ _ _ _ _ _ _ _ _ HVa''.out HVx.out _ _ _ HVk'.out)
  obtain ⟨p0', p1', p2', p3', p4', _⟩ := row5 HRa''.out
  obtain ⟨q0', q1', q2', q3', q4', _⟩ := row5 HRx.out
  go_wp2_with fail
  refine HI7.out.mono ?_
  rintro e w7 ⟨u0, u1, u2, u3, u4, rfl, Bg, hG7, hBg, b7⟩
  simp only [World.size_alloc] at hBg
  obtain ⟨gk, gn, g2, g2n, g2c, g3, g3n, g3c, g4, g4n, g4c, rfl, rfl, rfl, rfl, rfl⟩ := VOwn.form (D + 1) hG7
  have bal7 : Below w7.heap.size w7 (w7.alloc (.cells #[.int .i64 gk, .int .i64 gn, .slice g2 g2n g2c, .slice g3 g3n g3c, .slice g4 g4n g4c] 30)) := (Below.refl _ _).alloc (Nat.le_refl _) _
  have z7 : w6.heap.size + 1 ≤ w7.heap.size := by have h := b7.size; simpa using h
  have HB_g := hide' hBg
  have HVg := hide' (hG7.on bal7)
  have HRg : Hid ((w7.alloc (.cells #[.int .i64 gk, .int .i64 gn, .slice g2 g2n g2c, .slice g3 g3n g3c, .slice g4 g4n g4c] 30)).heap[w7.heap.size]? = some (.cells #[.int .i64 gk, .int .i64 gn, .slice g2 g2n g2c, .slice g3 g3n g3c, .slice g4 g4n g4c] 30)) := (MapKept.heap_alloc w7 _).1
  have b7' := Below.on b7 bal7
  clear p0' p1' p2' p3' p4' q0' q1' q2' q3' q4'
  have HVw'''' := hide' (HVw'''.out.on b7')
  clear HVw'''
  have HRw'''' := hide' (row_on HRw'''.out b7')
  clear HRw'''
  have HBz'''' := hide' (Below.on HBz'''.out b7')
  clear HBz'''
  have HVa''' := hide' (HVa''.out.on b7')
  clear HVa''
  have HRa''' := hide' (row_on HRa''.out b7')
  clear HRa''
  have HVk'' := hide' (HVk'.out.grow b7')
  clear HVk'
  have HVx' := hide' (HVx.out.on b7')
  clear HVx
  have HRx' := hide' (row_on HRx.out b7')
  clear HRx
  clear hG7 hBg b7 b7' bal7 HI7
  have HEq := hide' (HER.out _ _ _ _ _ _ _ _ _ _ _ _ _ HVg.out HVw''''.out)
  obtain ⟨p0', p1', p2', p3', p4', _⟩ := row5 HRg.out
  obtain ⟨q0', q1', q2', q3', q4', _⟩ := row5 HRw''''.out
  go_wp2_with fail
  refine HEq.out.mono ?_
  rintro e w8 ⟨rfl, be⟩
  clear HEq
  clear p0' p1' p2' p3' p4' q0' q1' q2' q3' q4'
  have HVw''''' := hide' (HVw''''.out.on be)
  clear HVw''''
  have HRw''''' := hide' (row_on HRw''''.out be)
  clear HRw''''
  have HBz''''' := hide' (Below.on HBz''''.out be)
  clear HBz''''
  have HVa'''' := hide' (HVa'''.out.on be)
  clear HVa'''
  have HRa'''' := hide' (row_on HRa'''.out be)
  clear HRa'''
  have HVk''' := hide' (HVk''.out.grow be)
  clear HVk''
  have HVx'' := hide' (HVx'.out.on be)
  clear HVx'
  have HRx'' := hide' (row_on HRx'.out be)
  clear HRx'
  have HVg' := hide' (HVg.out.on be)
  clear HVg
  have HRg' := hide' (row_on HRg.out be)
  clear HRg
  clear be
  have HSS : Hid (∀ wx, Below w8.heap.size w8 wx → wx.cell? ⟨w.heap.size, 0, none⟩ = some (.int .i64 ck) ∧ wx.cell? ⟨w.heap.size, 1, none⟩ = some (.int .i64 cn) ∧ wx.cell? ⟨w.heap.size, 2, none⟩ = some (.slice a2 l2 p2) ∧ wx.cell? ⟨w.heap.size, 3, none⟩ = some (.slice a3 l3 p3) ∧ wx.cell? ⟨w.heap.size, 4, none⟩ = some (.slice a4 l4 p4) ∧ wx.cell? ⟨w4.heap.size, 0, none⟩ = some (.int .i64 yk) ∧ wx.cell? ⟨w4.heap.size, 1, none⟩ = some (.int .i64 yn) ∧ wx.cell? ⟨w4.heap.size, 2, none⟩ = some (.slice y2 y2n y2c) ∧ wx.cell? ⟨w4.heap.size, 3, none⟩ = some (.slice y3 y3n y3c) ∧ wx.cell? ⟨w4.heap.size, 4, none⟩ = some (.slice y4 y4n y4c)) := by
    intro wx h
    obtain ⟨f0, f1, f2, f3, f4, f5, f6, f7, f8, f9⟩ := HQ.out wx (Below.on HBz'''''.out h)
    obtain ⟨p0', p1', p2', p3', p4', _⟩ := row5 (row_on HRa''''.out h)
    exact ⟨f0, f1, f2, f3, f4, p0', p1', p2', p3', p4'⟩
  have HTd : Hid (Calls Try.prog 8 #[.agg #[.int .i64 ck, .int .i64 cn, .slice a2 l2 p2, .slice a3 l3 p3, .slice a4 l4 p4]] w8.drew fun e w' => ∃ z0 z1 z2 z3 z4, e = .returned (.agg #[z0, z1, z2, z3, z4]) ∧ (w'.cell? ⟨w.heap.size, 0, none⟩ = some (.int .i64 ck) ∧ w'.cell? ⟨w.heap.size, 1, none⟩ = some (.int .i64 cn) ∧ w'.cell? ⟨w.heap.size, 2, none⟩ = some (.slice a2 l2 p2) ∧ w'.cell? ⟨w.heap.size, 3, none⟩ = some (.slice a3 l3 p3) ∧ w'.cell? ⟨w.heap.size, 4, none⟩ = some (.slice a4 l4 p4) ∧ w'.cell? ⟨w4.heap.size, 0, none⟩ = some (.int .i64 yk) ∧ w'.cell? ⟨w4.heap.size, 1, none⟩ = some (.int .i64 yn) ∧ w'.cell? ⟨w4.heap.size, 2, none⟩ = some (.slice y2 y2n y2c) ∧ w'.cell? ⟨w4.heap.size, 3, none⟩ = some (.slice y3 y3n y3c) ∧ w'.cell? ⟨w4.heap.size, 4, none⟩ = some (.slice y4 y4n y4c)) ∧ Hid (Calls Try.prog 11 #[.agg #[.int .i64 yk, .int .i64 yn, .slice y2 y2n y2c, .slice y3 y3n y3c, .slice y4 y4n y4c], .agg #[z0, z1, z2, z3, z4]] w' fun e w9 => e = .returned (.bool true) ∧ (w9.cell? ⟨w.heap.size, 0, none⟩ = some (.int .i64 ck) ∧ w9.cell? ⟨w.heap.size, 1, none⟩ = some (.int .i64 cn) ∧ w9.cell? ⟨w.heap.size, 2, none⟩ = some (.slice a2 l2 p2) ∧ w9.cell? ⟨w.heap.size, 3, none⟩ = some (.slice a3 l3 p3) ∧ w9.cell? ⟨w.heap.size, 4, none⟩ = some (.slice a4 l4 p4) ∧ w9.cell? ⟨w4.heap.size, 0, none⟩ = some (.int .i64 yk) ∧ w9.cell? ⟨w4.heap.size, 1, none⟩ = some (.int .i64 yn) ∧ w9.cell? ⟨w4.heap.size, 2, none⟩ = some (.slice y2 y2n y2c) ∧ w9.cell? ⟨w4.heap.size, 3, none⟩ = some (.slice y3 y3n y3c) ∧ w9.cell? ⟨w4.heap.size, 4, none⟩ = some (.slice y4 y4n y4c)) ∧ Hid (Below w8.heap.size w8 w9))) := by
    refine (HTA0.out w8.drew (Below.on HBw.out HBz'''''.out).drew).mono ?_
    rintro e w' ⟨z0, z1, z2, z3, z4, rfl, Bz, hOz, hBz, bz⟩
    have baz : Below w8.heap.size w8 w' := Below.on (Below.refl _ w8).drew bz
    refine ⟨z0, z1, z2, z3, z4, rfl, HSS.out _ baz, ?_⟩
    exact (HEA.out _ _ _ _ _ _ _ _ _ _ _ _ w' (HVa''''.out.on baz) hOz).mono fun e w9 h => ⟨h.1, HSS.out _ (Below.on baz h.2), Below.on baz h.2⟩
  obtain ⟨f0, f1, f2, f3, f4, f5, f6, f7, f8, f9⟩ := HSS.out w8 (Below.refl _ _)
  go_wp2_with fail
  go_region_held3 (fun wx => wx.cell? ⟨w.heap.size, 0, none⟩ = some (.int .i64 ck) ∧ wx.cell? ⟨w.heap.size, 1, none⟩ = some (.int .i64 cn) ∧ wx.cell? ⟨w.heap.size, 2, none⟩ = some (.slice a2 l2 p2) ∧ wx.cell? ⟨w.heap.size, 3, none⟩ = some (.slice a3 l3 p3) ∧ wx.cell? ⟨w.heap.size, 4, none⟩ = some (.slice a4 l4 p4) ∧ wx.cell? ⟨w4.heap.size, 0, none⟩ = some (.int .i64 yk) ∧ wx.cell? ⟨w4.heap.size, 1, none⟩ = some (.int .i64 yn) ∧ wx.cell? ⟨w4.heap.size, 2, none⟩ = some (.slice y2 y2n y2c) ∧ wx.cell? ⟨w4.heap.size, 3, none⟩ = some (.slice y3 y3n y3c) ∧ wx.cell? ⟨w4.heap.size, 4, none⟩ = some (.slice y4 y4n y4c)) (go_keep) (first
    | (go_at_call 8; refine HTd.out.mono ?_; rintro e w9 ⟨z0, z1, z2, z3, z4, rfl, ⟨i0, i1, i2, i3, i4, i5, i6, i7, i8, i9⟩, hEz⟩)
    | (go_at_call 11; refine hEz.out.mono ?_; rintro e w10 ⟨rfl, ⟨j0, j1, j2, j3, j4, j5, j6, j7, j8, j9⟩, bzz⟩))
  clear HSS HTd hEz f0 f1 f2 f3 f4 f5 f6 f7 f8 f9 i0 i1 i2 i3 i4 i5 i6 i7 i8 i9 j0 j1 j2 j3 j4 j5 j6 j7 j8 j9
  have be := bzz.out
  clear bzz
  have HVw'''''' := hide' (HVw'''''.out.on be)
  clear HVw'''''
  have HRw'''''' := hide' (row_on HRw'''''.out be)
  clear HRw'''''
  have HBz'''''' := hide' (Below.on HBz'''''.out be)
  clear HBz'''''
  have HVa''''' := hide' (HVa''''.out.on be)
  clear HVa''''
  have HRa''''' := hide' (row_on HRa''''.out be)
  clear HRa''''
  have HVk'''' := hide' (HVk'''.out.grow be)
  clear HVk'''
  have HVx''' := hide' (HVx''.out.on be)
  clear HVx''
  have HRx''' := hide' (row_on HRx''.out be)
  clear HRx''
  have HVg'' := hide' (HVg'.out.on be)
  clear HVg'
  have HRg'' := hide' (row_on HRg'.out be)
  clear HRg'
  clear be
  have HTk11 := hide' (HTK0.out w10 (Below.on HBw.out HBz''''''.out))
  go_wp2_with fail
  refine HTk11.out.mono ?_
  rintro e w11 ⟨rfl, hK11, b11⟩
  clear HTk11
  have HVw''''''' := hide' (HVw''''''.out.on b11)
  clear HVw''''''
  have HRw''''''' := hide' (row_on HRw''''''.out b11)
  clear HRw''''''
  have HBz''''''' := hide' (Below.on HBz''''''.out b11)
  clear HBz''''''
  have HVa'''''' := hide' (HVa'''''.out.on b11)
  clear HVa'''''
  have HRa'''''' := hide' (row_on HRa'''''.out b11)
  clear HRa'''''
  have HVk''''' := hide' (HVk''''.out.grow b11)
  clear HVk''''
  have HVx'''' := hide' (HVx'''.out.on b11)
  clear HVx'''
  have HRx'''' := hide' (row_on HRx'''.out b11)
  clear HRx'''
  have HVg''' := hide' (HVg''.out.on b11)
  clear HVg''
  have HRg''' := hide' (row_on HRg''.out b11)
  clear HRg''
  have HEk := hide' (HEK.out _ _ kn kn w11 HVk'''''.out.seg hK11.seg)
  clear hK11 b11
  go_wp2_with fail
  refine HEk.out.mono ?_
  rintro e w12 ⟨rfl, be⟩
  clear HEk
  have HVw'''''''' := hide' (HVw'''''''.out.on be)
  clear HVw'''''''
  have HRw'''''''' := hide' (row_on HRw'''''''.out be)
  clear HRw'''''''
  have HBz'''''''' := hide' (Below.on HBz'''''''.out be)
  clear HBz'''''''
  have HVa''''''' := hide' (HVa''''''.out.on be)
  clear HVa''''''
  have HRa''''''' := hide' (row_on HRa''''''.out be)
  clear HRa''''''
  have HVk'''''' := hide' (HVk'''''.out.grow be)
  clear HVk'''''
  have HVx''''' := hide' (HVx''''.out.on be)
  clear HVx''''
  have HRx''''' := hide' (row_on HRx''''.out be)
  clear HRx''''
  have HVg'''' := hide' (HVg'''.out.on be)
  clear HVg'''
  have HRg'''' := hide' (row_on HRg'''.out be)
  clear HRg'''
  clear be
  have HSS : Hid (∀ wx, Below w12.heap.size w12 wx → wx.cell? ⟨w.heap.size + 1, 0, none⟩ = some (.int .i64 xk) ∧ wx.cell? ⟨w.heap.size + 1, 1, none⟩ = some (.int .i64 xn) ∧ wx.cell? ⟨w.heap.size + 1, 2, none⟩ = some (.slice b2 m2 q2) ∧ wx.cell? ⟨w.heap.size + 1, 3, none⟩ = some (.slice b3 m3 q3) ∧ wx.cell? ⟨w.heap.size + 1, 4, none⟩ = some (.slice b4 m4 q4) ∧ wx.cell? ⟨w6.heap.size, 0, none⟩ = some (.int .i64 jk) ∧ wx.cell? ⟨w6.heap.size, 1, none⟩ = some (.int .i64 jn) ∧ wx.cell? ⟨w6.heap.size, 2, none⟩ = some (.slice j2 j2n j2c) ∧ wx.cell? ⟨w6.heap.size, 3, none⟩ = some (.slice j3 j3n j3c) ∧ wx.cell? ⟨w6.heap.size, 4, none⟩ = some (.slice j4 j4n j4c)) := by
    intro wx h
    obtain ⟨f0, f1, f2, f3, f4, f5, f6, f7, f8, f9⟩ := HQ.out wx (Below.on HBz''''''''.out h)
    obtain ⟨p0', p1', p2', p3', p4', _⟩ := row5 (row_on HRx'''''.out h)
    exact ⟨f5, f6, f7, f8, f9, p0', p1', p2', p3', p4'⟩
  have HTd : Hid (Calls Try.prog 8 #[.agg #[.int .i64 xk, .int .i64 xn, .slice b2 m2 q2, .slice b3 m3 q3, .slice b4 m4 q4]] w12.drew fun e w' => ∃ z0 z1 z2 z3 z4, e = .returned (.agg #[z0, z1, z2, z3, z4]) ∧ (w'.cell? ⟨w.heap.size + 1, 0, none⟩ = some (.int .i64 xk) ∧ w'.cell? ⟨w.heap.size + 1, 1, none⟩ = some (.int .i64 xn) ∧ w'.cell? ⟨w.heap.size + 1, 2, none⟩ = some (.slice b2 m2 q2) ∧ w'.cell? ⟨w.heap.size + 1, 3, none⟩ = some (.slice b3 m3 q3) ∧ w'.cell? ⟨w.heap.size + 1, 4, none⟩ = some (.slice b4 m4 q4) ∧ w'.cell? ⟨w6.heap.size, 0, none⟩ = some (.int .i64 jk) ∧ w'.cell? ⟨w6.heap.size, 1, none⟩ = some (.int .i64 jn) ∧ w'.cell? ⟨w6.heap.size, 2, none⟩ = some (.slice j2 j2n j2c) ∧ w'.cell? ⟨w6.heap.size, 3, none⟩ = some (.slice j3 j3n j3c) ∧ w'.cell? ⟨w6.heap.size, 4, none⟩ = some (.slice j4 j4n j4c)) ∧ Hid (Calls Try.prog 11 #[.agg #[.int .i64 jk, .int .i64 jn, .slice j2 j2n j2c, .slice j3 j3n j3c, .slice j4 j4n j4c], .agg #[z0, z1, z2, z3, z4]] w' fun e w9 => e = .returned (.bool true) ∧ (w9.cell? ⟨w.heap.size + 1, 0, none⟩ = some (.int .i64 xk) ∧ w9.cell? ⟨w.heap.size + 1, 1, none⟩ = some (.int .i64 xn) ∧ w9.cell? ⟨w.heap.size + 1, 2, none⟩ = some (.slice b2 m2 q2) ∧ w9.cell? ⟨w.heap.size + 1, 3, none⟩ = some (.slice b3 m3 q3) ∧ w9.cell? ⟨w.heap.size + 1, 4, none⟩ = some (.slice b4 m4 q4) ∧ w9.cell? ⟨w6.heap.size, 0, none⟩ = some (.int .i64 jk) ∧ w9.cell? ⟨w6.heap.size, 1, none⟩ = some (.int .i64 jn) ∧ w9.cell? ⟨w6.heap.size, 2, none⟩ = some (.slice j2 j2n j2c) ∧ w9.cell? ⟨w6.heap.size, 3, none⟩ = some (.slice j3 j3n j3c) ∧ w9.cell? ⟨w6.heap.size, 4, none⟩ = some (.slice j4 j4n j4c)) ∧ Hid (Below w12.heap.size w12 w9))) := by
    refine (HTX0.out w12.drew (Below.on HBw.out HBz''''''''.out).drew).mono ?_
    rintro e w' ⟨z0, z1, z2, z3, z4, rfl, Bz, hOz, hBz, bz⟩
    have baz : Below w12.heap.size w12 w' := Below.on (Below.refl _ w12).drew bz
    refine ⟨z0, z1, z2, z3, z4, rfl, HSS.out _ baz, ?_⟩
    exact (HEX.out _ _ _ _ _ _ _ _ _ _ _ _ w' (HVx'''''.out.on baz) hOz).mono fun e w9 h => ⟨h.1, HSS.out _ (Below.on baz h.2), Below.on baz h.2⟩
  obtain ⟨f0, f1, f2, f3, f4, f5, f6, f7, f8, f9⟩ := HSS.out w12 (Below.refl _ _)
  go_wp2_with fail
  go_region_held3 (fun wx => wx.cell? ⟨w.heap.size + 1, 0, none⟩ = some (.int .i64 xk) ∧ wx.cell? ⟨w.heap.size + 1, 1, none⟩ = some (.int .i64 xn) ∧ wx.cell? ⟨w.heap.size + 1, 2, none⟩ = some (.slice b2 m2 q2) ∧ wx.cell? ⟨w.heap.size + 1, 3, none⟩ = some (.slice b3 m3 q3) ∧ wx.cell? ⟨w.heap.size + 1, 4, none⟩ = some (.slice b4 m4 q4) ∧ wx.cell? ⟨w6.heap.size, 0, none⟩ = some (.int .i64 jk) ∧ wx.cell? ⟨w6.heap.size, 1, none⟩ = some (.int .i64 jn) ∧ wx.cell? ⟨w6.heap.size, 2, none⟩ = some (.slice j2 j2n j2c) ∧ wx.cell? ⟨w6.heap.size, 3, none⟩ = some (.slice j3 j3n j3c) ∧ wx.cell? ⟨w6.heap.size, 4, none⟩ = some (.slice j4 j4n j4c)) (go_keep) (first
    | (go_at_call 8; refine HTd.out.mono ?_; rintro e w13 ⟨z0, z1, z2, z3, z4, rfl, ⟨i0, i1, i2, i3, i4, i5, i6, i7, i8, i9⟩, hEz⟩)
    | (go_at_call 11; refine hEz.out.mono ?_; rintro e w14 ⟨rfl, ⟨j0, j1, j2, j3, j4, j5, j6, j7, j8, j9⟩, bzz⟩))
  clear HSS HTd hEz f0 f1 f2 f3 f4 f5 f6 f7 f8 f9 i0 i1 i2 i3 i4 i5 i6 i7 i8 i9 j0 j1 j2 j3 j4 j5 j6 j7 j8 j9
  have be := bzz.out
  clear bzz
  have HVw''''''''' := hide' (HVw''''''''.out.on be)
  clear HVw''''''''
  have HRw''''''''' := hide' (row_on HRw''''''''.out be)
  clear HRw''''''''
  have HBz''''''''' := hide' (Below.on HBz''''''''.out be)
  clear HBz''''''''
  have HVa'''''''' := hide' (HVa'''''''.out.on be)
  clear HVa'''''''
  have HRa'''''''' := hide' (row_on HRa'''''''.out be)
  clear HRa'''''''
  have HVk''''''' := hide' (HVk''''''.out.grow be)
  clear HVk''''''
  have HVx'''''' := hide' (HVx'''''.out.on be)
  clear HVx'''''
  have HRx'''''' := hide' (row_on HRx'''''.out be)
  clear HRx'''''
  have HVg''''' := hide' (HVg''''.out.on be)
  clear HVg''''
  have HRg''''' := hide' (row_on HRg''''.out be)
  clear HRg''''
  clear be
  have HMa := hide' (HMA.out _ _ _ _ _ _ _ HVa''''''''.out)
  obtain ⟨p0', p1', p2', p3', p4', _⟩ := row5 HRa''''''''.out
  go_wp2_with fail
  refine HMa.out.mono ?_
  rintro e w15 ⟨rfl, -, hT⟩
  clear HMa
  clear p0' p1' p2' p3' p4'
  have HVw'''''''''' := hide' (HVw'''''''''.out.far hT (fun b hb hm => by have h1 := HB_w.out b hb; have h2 := HB_a.out b hm; omega))
  clear HVw'''''''''
  have HRw'''''''''' := hide' (row_far HRw'''''''''.out hT (fun hm => by have h2 := HB_a.out _ hm; omega))
  clear HRw'''''''''
  have HBz'''''''''' := hide' (Turned.below HBz'''''''''.out hT (Nat.le_refl _) (fun b hb => by have h2 := HB_a.out b hb; omega))
  clear HBz'''''''''
  have HVk'''''''' := hide' (HVk'''''''.out.far hT (by intro k hk hm; have h2 := HB_a.out _ hm; simp [Value.ownBlock] at hk; omega))
  clear HVk'''''''
  have HVx''''''' := hide' (HVx''''''.out.far hT (fun b hb hm => by have h1 := HB_x.out b hb; have h2 := HB_a.out b hm; omega))
  clear HVx''''''
  have HRx''''''' := hide' (row_far HRx''''''.out hT (fun hm => by have h2 := HB_a.out _ hm; omega))
  clear HRx''''''
  have HVg'''''' := hide' (HVg'''''.out.far hT (fun b hb hm => by have h1 := HB_g.out b hb; have h2 := HB_a.out b hm; omega))
  clear HVg'''''
  have HRg'''''' := hide' (row_far HRg'''''.out hT (fun hm => by have h2 := HB_a.out _ hm; omega))
  clear HRg'''''
  clear hT
  have HMk := hide' (HMK.out _ _ _ HVk''''''''.out)
  go_wp2_with fail
  refine HMk.out.mono ?_
  rintro e w16 ⟨rfl, g16⟩
  have hT : Turned [w4.heap.size + 1] w15 w16 := Turned.of_grown g16 (fun g hg => by simp [Value.ownBlock] at hg; simp [hg])
  have HB_k : Hid (∀ b ∈ [w4.heap.size + 1], w4.heap.size + 1 ≤ b ∧ b < w4.heap.size + 2) := fun b hb => by simp at hb; omega
  clear HMk g16
  have HVw''''''''''' := hide' (HVw''''''''''.out.far hT (fun b hb hm => by have h1 := HB_w.out b hb; have h2 := HB_k.out b hm; omega))
  clear HVw''''''''''
  have HRw''''''''''' := hide' (row_far HRw''''''''''.out hT (fun hm => by have h2 := HB_k.out _ hm; omega))
  clear HRw''''''''''
  have HBz''''''''''' := hide' (Turned.below HBz''''''''''.out hT (Nat.le_refl _) (fun b hb => by have h2 := HB_k.out b hb; omega))
  clear HBz''''''''''
  have HVx'''''''' := hide' (HVx'''''''.out.far hT (fun b hb hm => by have h1 := HB_x.out b hb; have h2 := HB_k.out b hm; omega))
  clear HVx'''''''
  have HRx'''''''' := hide' (row_far HRx'''''''.out hT (fun hm => by have h2 := HB_k.out _ hm; omega))
  clear HRx'''''''
  have HVg''''''' := hide' (HVg''''''.out.far hT (fun b hb hm => by have h1 := HB_g.out b hb; have h2 := HB_k.out b hm; omega))
  clear HVg''''''
  have HRg''''''' := hide' (row_far HRg''''''.out hT (fun hm => by have h2 := HB_k.out _ hm; omega))
  clear HRg''''''
  clear hT
  have HMx := hide' (HMX.out _ _ _ _ _ _ _ HVx''''''''.out)
  obtain ⟨p0', p1', p2', p3', p4', _⟩ := row5 HRx''''''''.out
  go_wp2_with fail
  refine HMx.out.mono ?_
  rintro e w17 ⟨rfl, -, hT⟩
  clear HMx
  clear p0' p1' p2' p3' p4'
  have HVw'''''''''''' := hide' (HVw'''''''''''.out.far hT (fun b hb hm => by have h1 := HB_w.out b hb; have h2 := HB_x.out b hm; omega))
  clear HVw'''''''''''
  have HRw'''''''''''' := hide' (row_far HRw'''''''''''.out hT (fun hm => by have h2 := HB_x.out _ hm; omega))
  clear HRw'''''''''''
  have HBz'''''''''''' := hide' (Turned.below HBz'''''''''''.out hT (Nat.le_refl _) (fun b hb => by have h2 := HB_x.out b hb; omega))
  clear HBz'''''''''''
  have HVg'''''''' := hide' (HVg'''''''.out.far hT (fun b hb hm => by have h1 := HB_g.out b hb; have h2 := HB_x.out b hm; omega))
  clear HVg'''''''
  have HRg'''''''' := hide' (row_far HRg'''''''.out hT (fun hm => by have h2 := HB_x.out _ hm; omega))
  clear HRg'''''''
  clear hT
  have HEq := hide' (HER.out _ _ _ _ _ _ _ _ _ _ _ _ _ HVg''''''''.out HVw''''''''''''.out)
  obtain ⟨p0', p1', p2', p3', p4', _⟩ := row5 HRg''''''''.out
  obtain ⟨q0', q1', q2', q3', q4', _⟩ := row5 HRw''''''''''''.out
  go_wp2_with fail
  refine HEq.out.mono ?_
  rintro e w18 ⟨rfl, be⟩
  clear HEq
  clear p0' p1' p2' p3' p4' q0' q1' q2' q3' q4'
  have HVw''''''''''''' := hide' (HVw''''''''''''.out.on be)
  clear HVw''''''''''''
  have HRw''''''''''''' := hide' (row_on HRw''''''''''''.out be)
  clear HRw''''''''''''
  have HBz''''''''''''' := hide' (Below.on HBz''''''''''''.out be)
  clear HBz''''''''''''
  have HVg''''''''' := hide' (HVg''''''''.out.on be)
  clear HVg''''''''
  have HRg''''''''' := hide' (row_on HRg''''''''.out be)
  clear HRg''''''''
  clear be
  have HMg := hide' (HMR.out _ _ _ _ _ _ _ HVg'''''''''.out)
  obtain ⟨p0', p1', p2', p3', p4', _⟩ := row5 HRg'''''''''.out
  go_wp2_with fail
  refine HMg.out.mono ?_
  rintro e w19 ⟨rfl, hG19, hT⟩
  clear HMg
  clear p0' p1' p2' p3' p4'
  have hrg19 := row_far HRg'''''''''.out hT (fun hm => by have h2 := HB_g.out _ hm; omega)
  have HVw'''''''''''''' := hide' (HVw'''''''''''''.out.far hT (fun b hb hm => by have h1 := HB_w.out b hb; have h2 := HB_g.out b hm; omega))
  clear HVw'''''''''''''
  have HRw'''''''''''''' := hide' (row_far HRw'''''''''''''.out hT (fun hm => by have h2 := HB_g.out _ hm; omega))
  clear HRw'''''''''''''
  have HBz'''''''''''''' := hide' (Turned.below HBz'''''''''''''.out hT (Nat.le_refl _) (fun b hb => by have h2 := HB_g.out b hb; omega))
  clear HBz'''''''''''''
  have HVg9 := hide' hG19
  have HRg9 := hide' hrg19
  clear hT hG19 hrg19
  have HHg := hide' (HHR.out _ _ _ _ _ _ _ HVg9.out)
  obtain ⟨p0', p1', p2', p3', p4', _⟩ := row5 HRg9.out
  go_wp2_with fail
  refine HHg.out.mono ?_
  rintro e w20 ⟨rfl, be⟩
  clear HHg
  clear p0' p1' p2' p3' p4'
  have HVw''''''''''''''' := hide' (HVw''''''''''''''.out.on be)
  clear HVw''''''''''''''
  have HRw''''''''''''''' := hide' (row_on HRw''''''''''''''.out be)
  clear HRw''''''''''''''
  have HBz''''''''''''''' := hide' (Below.on HBz''''''''''''''.out be)
  clear HBz''''''''''''''
  have HVg9' := hide' (HVg9.out.on be)
  clear HVg9
  have HRg9' := hide' (row_on HRg9.out be)
  clear HRg9
  clear be
  obtain ⟨f0, f1, f2, f3, f4, f5, f6, f7, f8, f9⟩ := HQ.out w20 HBz'''''''''''''''.out
  have nz20 := HBz'''''''''''''''.out.size
  have na20 : ¬ w.heap.size = w20.heap.size := by omega
  have nb20 : ¬ w20.heap.size = w.heap.size := by omega
  have nc20 : ¬ w.heap.size + 1 = w20.heap.size := by omega
  have nd20 : ¬ w20.heap.size = w.heap.size + 1 := by omega
  go_wp2_with fail
  go_cut [18, 19] from 113 to 122 (fun sp sb wx => sb = .bool bb ∧ ∃ (G : Nat) (gk gn : Int) (s2 : Option Addr) (n2 r2 : Nat) (s3 : Option Addr) (n3 r3 : Nat) (s4 : Option Addr) (n4 r4 : Nat), sp = .pointer (some ⟨G, 0, none⟩) ∧ Hid (BoxV_WSet w20 D a G (.int .i64 gk, .int .i64 gn, .slice s2 n2 r2, .slice s3 n3 r3, .slice s4 n4 r4) wx))
  case first =>
    go_region_held3 (fun wx => wx.cell? ⟨w.heap.size, 0, none⟩ = some (.int .i64 ck) ∧ wx.cell? ⟨w.heap.size, 1, none⟩ = some (.int .i64 cn) ∧ wx.cell? ⟨w.heap.size, 2, none⟩ = some (.slice a2 l2 p2) ∧ wx.cell? ⟨w.heap.size, 3, none⟩ = some (.slice a3 l3 p3) ∧ wx.cell? ⟨w.heap.size, 4, none⟩ = some (.slice a4 l4 p4) ∧ wx.cell? ⟨w.heap.size + 1, 0, none⟩ = some (.int .i64 xk) ∧ wx.cell? ⟨w.heap.size + 1, 1, none⟩ = some (.int .i64 xn) ∧ wx.cell? ⟨w.heap.size + 1, 2, none⟩ = some (.slice b2 m2 q2) ∧ wx.cell? ⟨w.heap.size + 1, 3, none⟩ = some (.slice b3 m3 q3) ∧ wx.cell? ⟨w.heap.size + 1, 4, none⟩ = some (.slice b4 m4 q4)) (go_keep) (first
      | (go_at_call_of 8 ck; refine (HTA.out w20 _ (by first | exact (Below.refl w20.heap.size w20) | exact (Below.refl w20.heap.size w20).drew | exact (Below.refl w20.heap.size w20).alloc (Below.refl w20.heap.size w20).size _ | exact ((Below.refl w20.heap.size w20).alloc (Below.refl w20.heap.size w20).size _).drew | exact ((Below.refl w20.heap.size w20).drew).alloc ((Below.refl w20.heap.size w20).drew).size _) HBz'''''''''''''''.out).mono ?_; rintro e w21a ⟨ua0, ua1, ua2, ua3, ua4, rfl, ⟨ia0, ia1, ia2, ia3, ia4, ia5, ia6, ia7, ia8, ia9⟩, hOa21, hca21, hba21, hBa21, naa, nba, nca, nda⟩)
      | (go_at_call 9; refine (HTK.out w21a _ (by first | exact (Below.refl w21a.heap.size w21a) | exact (Below.refl w21a.heap.size w21a).drew | exact (Below.refl w21a.heap.size w21a).alloc (Below.refl w21a.heap.size w21a).size _ | exact ((Below.refl w21a.heap.size w21a).alloc (Below.refl w21a.heap.size w21a).size _).drew | exact ((Below.refl w21a.heap.size w21a).drew).alloc ((Below.refl w21a.heap.size w21a).drew).size _) hBa21.out).mono ?_; rintro e w21k ⟨zk21, rfl, ⟨ik0, ik1, ik2, ik3, ik4, ik5, ik6, ik7, ik8, ik9⟩, hKk21, hck21, hbk21, hBk21, hzk21, nak, nbk, nck, ndk⟩)
      | (go_at_call_of 8 xk; refine (HTX.out w21k _ (by first | exact (Below.refl w21k.heap.size w21k) | exact (Below.refl w21k.heap.size w21k).drew | exact (Below.refl w21k.heap.size w21k).alloc (Below.refl w21k.heap.size w21k).size _ | exact ((Below.refl w21k.heap.size w21k).alloc (Below.refl w21k.heap.size w21k).size _).drew | exact ((Below.refl w21k.heap.size w21k).drew).alloc ((Below.refl w21k.heap.size w21k).drew).size _) hBk21.out).mono ?_; rintro e w21x ⟨ux0, ux1, ux2, ux3, ux4, rfl, ⟨ix0, ix1, ix2, ix3, ix4, ix5, ix6, ix7, ix8, ix9⟩, hOx21, hcx21, hbx21, hBx21, nax, nbx, ncx, ndx⟩)
      | (go_at_call 10; refine (HIC.out w21a w21k w21x _ zk21 ua0 ua1 ua2 ua3 ua4 ux0 ux1 ux2 ux3 ux4 _ _ hOa21 hbk21 hKk21 hbx21 hOx21 (by first | exact (Below.refl w21x.heap.size w21x) | exact (Below.refl w21x.heap.size w21x).drew | exact (Below.refl w21x.heap.size w21x).alloc (Below.refl w21x.heap.size w21x).size _ | exact ((Below.refl w21x.heap.size w21x).alloc (Below.refl w21x.heap.size w21x).size _).drew | exact ((Below.refl w21x.heap.size w21x).drew).alloc ((Below.refl w21x.heap.size w21x).drew).size _) (by first | exact hBx21.out | exact hBx21.out.drew | exact hBx21.out.alloc hBx21.out.size _ | exact (hBx21.out.alloc hBx21.out.size _).drew | exact (hBx21.out.drew).alloc (hBx21.out.drew).size _)).mono ?_; rintro e w21g ⟨gk21, gn21, s221, n221, r221, s321, n321, r321, s421, n421, r421, rfl, ⟨ig0, ig1, ig2, ig3, ig4, ig5, ig6, ig7, ig8, ig9⟩, hQo21, hOg21, hBg21, hcg21, hxg21, hBw21, hxy21, nag, nbg, ncg, ndg⟩; obtain ⟨k0g, k1g, k2g, k3g, k4g, kfg, -⟩ := keeps_WSet hlt2 hBw21.out hcg21.out; obtain ⟨k0x, k1x, k2x, k3x, k4x, kfx, -⟩ := keeps_WSet hlt2 hBw21.out (Below.on hcx21.out hxg21.out); obtain ⟨k0k, k1k, k2k, k3k, k4k, kfk, -⟩ := keeps_WSet hlt2 hBw21.out (Below.on hck21.out (Below.on hbx21.out hxg21.out)); obtain ⟨k0a, k1a, k2a, k3a, k4a, kfa, -⟩ := keeps_WSet hlt2 hBw21.out (Below.on hca21.out (Below.on hbk21.out (Below.on hbx21.out hxg21.out)))))
    · go_wp2_with fail
      go_meet
      exact ⟨rfl, w21g.heap.size, gk21, gn21, s221, n221, r221, s321, n321, r321, s421, n421, r421, rfl, box_new_WSet hOg21.out (Below.on (Below.on (Below.on hba21.out hbk21.out) hbx21.out) hxy21.out) hcg21.out⟩
    · go_wp2_with fail
      go_meet
      exact ⟨rfl, w21x.heap.size, gk21, gn21, s221, n221, r221, s321, n321, r321, s421, n421, r421, rfl, box_old_WSet (G := w21x.heap.size) hOg21.out (Below.on (Below.on (Below.on hba21.out hbk21.out) hbx21.out) hxy21.out) hcg21.out (MapKept.heap_alloc w21x _).1 (Below.on (Below.on hba21.out hbk21.out) hbx21.out).size⟩
    · go_wp2_with fail
      go_meet
      exact ⟨rfl, w21k.heap.size, gk21, gn21, s221, n221, r221, s321, n321, r321, s421, n421, r421, rfl, box_old_WSet (G := w21k.heap.size) hOg21.out (Below.on (Below.on (Below.on hba21.out hbk21.out) hbx21.out) hxy21.out) hcg21.out (row_new_WSet hcx21.out) (Below.on hba21.out hbk21.out).size⟩
    · go_wp2_with fail
      go_meet
      exact ⟨rfl, w21a.heap.size, gk21, gn21, s221, n221, r221, s321, n321, r321, s421, n421, r421, rfl, box_old_WSet (G := w21a.heap.size) hOg21.out (Below.on (Below.on (Below.on hba21.out hbk21.out) hbx21.out) hxy21.out) hcg21.out (row_on (row_new_WSet hck21.out) hbx21.out) hba21.out.size⟩
    · go_wp2_with fail
      go_meet
      exact ⟨rfl, w20.heap.size, gk21, gn21, s221, n221, r221, s321, n321, r321, s421, n421, r421, rfl, box_old_WSet (G := w20.heap.size) hOg21.out (Below.on (Below.on (Below.on hba21.out hbk21.out) hbx21.out) hxy21.out) hcg21.out (row_on (row_on (row_newd_WSet hca21.out) hbk21.out) hbx21.out) (Nat.le_refl w20.heap.size)⟩
  case rest =>
  obtain ⟨rfl, Gh, hk, hn, h2, h2n, h2c, h3, h3n, h3c, h4, h4n, h4c, rfl, hHc⟩ := hcut
  obtain ⟨hHr, ⟨Bh, hHo, hHb⟩, hHg, be⟩ := hHc.out
  simp only at hHr
  have HVw'''''''''''''''' := hide' (HVw'''''''''''''''.out.on be)
  clear HVw'''''''''''''''
  have HRw'''''''''''''''' := hide' (row_on HRw'''''''''''''''.out be)
  clear HRw'''''''''''''''
  have HBz'''''''''''''''' := hide' (Below.on HBz'''''''''''''''.out be)
  clear HBz'''''''''''''''
  have HVg9'' := hide' (HVg9'.out.on be)
  clear HVg9'
  have HRg9'' := hide' (row_on HRg9'.out be)
  clear HRg9'
  have HVh := hide' hHo
  have HRh := hide' hHr
  clear hHc hHr hHo hHb hHg be HIC f0 f1 f2 f3 f4 f5 f6 f7 f8 f9
  have HEq := hide' (HER.out _ _ _ _ _ _ _ _ _ _ _ _ _ HVh.out HVw''''''''''''''''.out)
  obtain ⟨p0', p1', p2', p3', p4', _⟩ := row5 HRh.out
  obtain ⟨q0', q1', q2', q3', q4', _⟩ := row5 HRw''''''''''''''''.out
  go_wp2_with fail
  refine HEq.out.mono ?_
  rintro e w22 ⟨rfl, be⟩
  clear HEq
  clear p0' p1' p2' p3' p4' q0' q1' q2' q3' q4'
  have HVw''''''''''''''''' := hide' (HVw''''''''''''''''.out.on be)
  clear HVw''''''''''''''''
  have HRw''''''''''''''''' := hide' (row_on HRw''''''''''''''''.out be)
  clear HRw''''''''''''''''
  have HBz''''''''''''''''' := hide' (Below.on HBz''''''''''''''''.out be)
  clear HBz''''''''''''''''
  have HVg9''' := hide' (HVg9''.out.on be)
  clear HVg9''
  have HRg9''' := hide' (row_on HRg9''.out be)
  clear HRg9''
  have HVh' := hide' (HVh.out.on be)
  clear HVh
  have HRh' := hide' (row_on HRh.out be)
  clear HRh
  clear be
  have HHg := hide' (HHR.out _ _ _ _ _ _ _ HVg9'''.out)
  obtain ⟨p0', p1', p2', p3', p4', _⟩ := row5 HRg9'''.out
  go_wp2_with fail
  refine HHg.out.mono ?_
  rintro e w23 ⟨rfl, be⟩
  clear HHg
  clear p0' p1' p2' p3' p4'
  have HVw'''''''''''''''''' := hide' (HVw'''''''''''''''''.out.on be)
  clear HVw'''''''''''''''''
  have HRw'''''''''''''''''' := hide' (row_on HRw'''''''''''''''''.out be)
  clear HRw'''''''''''''''''
  have HBz'''''''''''''''''' := hide' (Below.on HBz'''''''''''''''''.out be)
  clear HBz'''''''''''''''''
  have HVg9'''' := hide' (HVg9'''.out.on be)
  clear HVg9'''
  have HRg9'''' := hide' (row_on HRg9'''.out be)
  clear HRg9'''
  have HVh'' := hide' (HVh'.out.on be)
  clear HVh'
  have HRh'' := hide' (row_on HRh'.out be)
  clear HRh'
  clear be
  have HFin := hide' (Below.on HBw.out HBz''''''''''''''''''.out)
  go_wp2
  go_ret
  exact ⟨rfl, HFin.out⟩
end Go.Proofs.Ytpknhmegoldppaa
