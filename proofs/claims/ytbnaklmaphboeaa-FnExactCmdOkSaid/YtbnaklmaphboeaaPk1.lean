/-
  Texts that a law leans on, one behind the other; no statement is proved here.
-/
import Derived.Test.YtbnaklmaphboeaaPk0
/-
  Commands: their size, copied, held against one another (szCmd, toCmd, eqCmd of the laws).
-/
namespace Go.Proofs.Ytbnaklmaphboeaa
open Go.RowKit
set_option linter.unusedVariables false
set_option linter.unusedSimpArgs false

theorem NmS.away {w w' : World} {x : Value} {l : List Int} {g : Nat} (h : NmS w x l) (hg : w.grownBy w' (some g)) (hne : ∀ b off n c, x = .slice (some ⟨b, off, none⟩) n c → b ≠ g) : NmS w' x l := by
  obtain ⟨a, cap, g1, g2, g3, g4, g5⟩ := h
  refine ⟨a, cap, g1, g2, g3, g4, ?_⟩
  rcases g5 with e | ⟨b, off, hb', hR, hc⟩
  · exact .inl e
  · refine .inr ⟨b, off, hb', Nat.lt_of_lt_of_le hR hg.size, fun i hi => hg.cell (hc i hi) (fun e => ?_)⟩
    subst hb'
    simp at e
    exact hne b off _ _ g1 e

theorem row4 {w : World} {g : Nat} {T : TypeId} {c0 c1 c2 c3 : Value} (h : w.heap[g]? = some (.cells #[c0, c1, c2, c3] T (0, 0))) : w.cell? ⟨g, 0, none⟩ = some c0 ∧ w.cell? ⟨g, 1, none⟩ = some c1 ∧ w.cell? ⟨g, 2, none⟩ = some c2 ∧ w.cell? ⟨g, 3, none⟩ = some c3 ∧ ∀ j, w.frozen? ⟨g, j, none⟩ = false :=
  ⟨by rw [cell_of_row w g 0 _ _ _ h]; rfl, by rw [cell_of_row w g 1 _ _ _ h]; rfl, by rw [cell_of_row w g 2 _ _ _ h]; rfl, by rw [cell_of_row w g 3 _ _ _ h]; rfl, fun j => frozen_of_row w g j _ _ h⟩

/-- Four cells set in a row. -/
def set4 (w : World) (g : Nat) (a b c d : Value) : World := (((w.setCell ⟨g, 0, none⟩ a).setCell ⟨g, 1, none⟩ b).setCell ⟨g, 2, none⟩ c).setCell ⟨g, 3, none⟩ d
theorem set4_grown (w : World) (g : Nat) (a b c d : Value) : w.grownBy (set4 w g a b c d) (some g) :=
  grownBy_trans (grownBy_trans (grownBy_trans (grown1n w g 0 a) (grown1n _ g 1 b)) (grown1n _ g 2 c)) (grown1n _ g 3 d)
theorem set4_heap {w : World} {g : Nat} {T : TypeId} {c0 c1 c2 c3 : Value} (a b c d : Value) (h : w.heap[g]? = some (.cells #[c0, c1, c2, c3] T (0, 0))) : (set4 w g a b c d).heap[g]? = some (.cells #[a, b, c, d] T (0, 0)) := by
  have h1 := heap_setCell_same w g 0 _ _ a h
  have h2 := heap_setCell_same _ g 1 _ _ b h1
  have h3 := heap_setCell_same _ g 2 _ _ c h2
  have h4 := heap_setCell_same _ g 3 _ _ d h3
  exact h4

theorem boxes3 (w : World) (o1 o2 o3 : Obj) : (((w.alloc o1).alloc o2).alloc o3).heap[w.heap.size]? = some o1 ∧ (((w.alloc o1).alloc o2).alloc o3).heap[w.heap.size + 1]? = some o2 ∧ (((w.alloc o1).alloc o2).alloc o3).heap[w.heap.size + 1 + 1]? = some o3 ∧ (((w.alloc o1).alloc o2).alloc o3).heap.size = w.heap.size + 3 ∧ Below w.heap.size w (((w.alloc o1).alloc o2).alloc o3) := by
  have z1 : (w.alloc o1).heap.size = w.heap.size + 1 := by simp
  have z2 : ((w.alloc o1).alloc o2).heap.size = w.heap.size + 2 := by simp
  have b1 : Below (w.alloc o1).heap.size (w.alloc o1) ((w.alloc o1).alloc o2) := (Below.refl _ _).alloc (Nat.le_refl _) o2
  have b2 : Below ((w.alloc o1).alloc o2).heap.size ((w.alloc o1).alloc o2) (((w.alloc o1).alloc o2).alloc o3) := (Below.refl _ _).alloc (Nat.le_refl _) o3
  have h1 := (MapKept.heap_alloc w o1).1
  have h2 := (MapKept.heap_alloc (w.alloc o1) o2).1
  have h3 := (MapKept.heap_alloc ((w.alloc o1).alloc o2) o3).1
  rw [z1] at h2
  rw [z2] at h3
  exact ⟨(b2.block _ (by omega)).trans ((b1.block _ (by omega)).trans h1), (b2.block _ (by omega)).trans h2, h3, by simp, Below.on (Below.on ((Below.refl _ _).alloc (Nat.le_refl _) o1) b1) b2⟩

set_option maxHeartbeats 1600000 in
theorem szCmd_any (k n : Int) (a : Option Addr) (m c : Nat) (x : Value) (l : List Int) (w : World) (hm : m ≤ maxLen) (hx : NmS w x l) :
    Calls Try.prog 4 #[.agg #[.int .i64 k, .slice a m c, .int .i64 n, x], .int .i64 1048576] w fun e w' => e = .returned (.int .i64 (lessM 1048576 (m + l.length))) ∧ Below w.heap.size w w' := by
  have Hb : Hid (∀ o : Obj, Below w.heap.size w (w.alloc o)) := fun o => (Below.refl _ _).alloc (Nat.le_refl _) o
  have H1 : Hid (∀ wx, Calls Try.prog 9 #[.slice a m c, .int .i64 1048576] wx fun e w' => e = .returned (.int .i64 (lessM 1048576 m)) ∧ wx = w') := fun wx => laws_szByteS_left a m c 1048576 wx hm (by omega) (by omega)
  obtain ⟨ax, cx, rfl, hl1, hl2, -, -⟩ := hx
  have H2 : Hid (∀ q : Int, 0 ≤ q → q ≤ 1048576 → ∀ wx, Calls Try.prog 10 #[.slice ax l.length cx, .int .i64 q] wx fun e w' => e = .returned (.int .i64 (lessM q l.length)) ∧ wx = w') := fun q h0 h1 wx => laws_szIntS_left ax l.length cx q wx (by omega) h0 h1
  clear hl1 hl2
  generalize l.length = ll at *
  by_cases h : (1048576 : Int) < (m : Int)
  · have e1 : lessM 1048576 m = -1 := if_pos h
    have e2 : lessM 1048576 (m + ll) = -1 := if_pos (by omega)
    rw [e1] at H1
    rw [e2]
    clear e1 e2
    go_enter Try.func4, Try.ntmps4
    go_wp2_with fail
    refine (H1.out _).mono ?_
    rintro e w1 ⟨rfl, hw1⟩
    obtain rfl := hw1
    go_wp2
    go_ret
    exact ⟨rfl, Hb.out _⟩
  · have e1 : lessM 1048576 m = 1048576 - m := if_neg h
    have H2' := hide' (H2.out (1048576 - m) (by omega) (by omega))
    have e3 : lessM (1048576 - m) ll = lessM 1048576 (m + ll) := by
      unfold lessM
      by_cases h2 : (1048576 : Int) - m < ll
      · rw [if_pos h2, if_pos (by omega)]
      · rw [if_neg h2, if_neg (by omega)]; omega
    rw [e3] at H2'
    rw [e1] at H1
    have q0 : (0 : Int) ≤ 1048576 - (m : Int) := by omega
    have q1 : (1048576 : Int) - (m : Int) ≤ 1048576 := by omega
    clear e1 H2 e3
    by_cases h3 : (1048576 : Int) < ((m + ll : Nat) : Int)
    · have e4 : lessM 1048576 (m + ll) = -1 := if_pos h3
      rw [e4] at H2'
      rw [e4]
      clear e4 h3 h
      generalize (1048576 : Int) - (m : Int) = q at *
      go_enter Try.func4, Try.ntmps4
      go_wp2_with fail
      refine (H1.out _).mono ?_
      rintro e w1 ⟨rfl, hw1⟩
      obtain rfl := hw1
      go_wp2_with fail
      refine (H2'.out _).mono ?_
      rintro e w1 ⟨rfl, hw1⟩
      obtain rfl := hw1
      go_wp2
      go_ret
      exact ⟨rfl, Hb.out _⟩
    · have e4 : lessM 1048576 (m + ll) = 1048576 - ((m + ll : Nat) : Int) := if_neg h3
      rw [e4] at H2'
      rw [e4]
      have r0 : (0 : Int) ≤ 1048576 - ((m + ll : Nat) : Int) := by omega
      clear e4 h3 h
      generalize (1048576 : Int) - ((m + ll : Nat) : Int) = r at *
      generalize (1048576 : Int) - (m : Int) = q at *
      go_enter Try.func4, Try.ntmps4
      go_wp2_with fail
      refine (H1.out _).mono ?_
      rintro e w1 ⟨rfl, hw1⟩
      obtain rfl := hw1
      go_wp2_with fail
      refine (H2'.out _).mono ?_
      rintro e w1 ⟨rfl, hw1⟩
      obtain rfl := hw1
      go_wp2
      go_ret
      exact ⟨rfl, Hb.out _⟩

set_option maxHeartbeats 1600000 in
theorem eqCmd_same (k n : Int) (a b : Option Addr) (t : List Int) (c d : Nat) (x y : Value) (l : List Int) (w : World) (ha : Seg w a t) (hb : Seg w b t) (ht : t.length ≤ 2097152) (hx : NmS w x l) (hy : NmS w y l) :
    Calls Try.prog 8 #[.agg #[.int .i64 k, .slice a t.length c, .int .i64 n, x], .agg #[.int .i64 k, .slice b t.length d, .int .i64 n, y]] w fun e w' => e = .returned (.bool true) ∧ Below w.heap.size w w' := by
  have Hb : Hid (∀ o o' : Obj, Below w.heap.size w ((w.alloc o).alloc o')) := fun o o' => ((Below.refl _ _).alloc (Nat.le_refl _) o).alloc (by simp) o'
  have H1 : Hid (∀ wx, Below w.heap.size w wx → Calls Try.prog 16 #[.slice a t.length c, .slice b t.length d] wx fun e w' => e = .returned (.bool true) ∧ Below wx.heap.size wx w') := fun wx h => eqByteS_same a b c d t wx (ha.grow h) (hb.grow h) ht
  have H2 : Hid (∀ wx, Below w.heap.size w wx → Calls Try.prog 17 #[x, y] wx fun e w' => e = .returned (.bool true) ∧ Below wx.heap.size wx w') := fun wx h => eqIntS_read x y l wx (hx.grow h) (hy.grow h)
  obtain ⟨ax, cx, rfl, -⟩ := hx
  obtain ⟨ay, cy, rfl, -⟩ := hy
  clear ha hb
  generalize l.length = ll at *
  generalize t.length = tl at *
  have HR : Hid (∀ wx, Below ((w.alloc (.cells #[.int .i64 k, .slice a tl c, .int .i64 n, .slice ax ll cx] 28)).alloc (.cells #[.int .i64 k, .slice b tl d, .int .i64 n, .slice ay ll cy] 28)).heap.size ((w.alloc (.cells #[.int .i64 k, .slice a tl c, .int .i64 n, .slice ax ll cx] 28)).alloc (.cells #[.int .i64 k, .slice b tl d, .int .i64 n, .slice ay ll cy] 28)) wx →
      wx.heap[w.heap.size]? = some (.cells #[.int .i64 k, .slice a tl c, .int .i64 n, .slice ax ll cx] 28 (0, 0)) ∧ wx.heap[w.heap.size + 1]? = some (.cells #[.int .i64 k, .slice b tl d, .int .i64 n, .slice ay ll cy] 28 (0, 0))) := by
    intro wx h
    have h1 := (MapKept.heap_alloc w (.cells #[.int .i64 k, .slice a tl c, .int .i64 n, .slice ax ll cx] 28)).1
    have h2 := (MapKept.heap_alloc (w.alloc (.cells #[.int .i64 k, .slice a tl c, .int .i64 n, .slice ax ll cx] 28)) (.cells #[.int .i64 k, .slice b tl d, .int .i64 n, .slice ay ll cy] 28)).1
    have z1 : (w.alloc (.cells #[.int .i64 k, .slice a tl c, .int .i64 n, .slice ax ll cx] 28)).heap.size = w.heap.size + 1 := by simp
    have b1 : Below (w.alloc (.cells #[.int .i64 k, .slice a tl c, .int .i64 n, .slice ax ll cx] 28)).heap.size (w.alloc (.cells #[.int .i64 k, .slice a tl c, .int .i64 n, .slice ax ll cx] 28)) ((w.alloc (.cells #[.int .i64 k, .slice a tl c, .int .i64 n, .slice ax ll cx] 28)).alloc (.cells #[.int .i64 k, .slice b tl d, .int .i64 n, .slice ay ll cy] 28)) := (Below.refl _ _).alloc (Nat.le_refl _) _
    rw [z1] at h2
    refine ⟨(h.block _ (by simp <;> omega)).trans ((b1.block _ (by omega)).trans h1), (h.block _ (by simp <;> omega)).trans h2⟩
  go_enter Try.func8, Try.ntmps8
  go_wp2_with fail
  refine (H1.out _ (Hb.out _ _)).mono ?_
  rintro e w1 ⟨rfl, b1⟩
  obtain ⟨r1, r2⟩ := HR.out _ b1
  obtain ⟨y0, y1, y2, y3, -⟩ := row4 r1
  obtain ⟨z0, z1, z2, z3, -⟩ := row4 r2
  have B1 := hide' (Below.on (Hb.out _ _) b1)
  clear b1 HR r1 r2 H1
  go_wp2_with fail
  refine (H2.out _ B1.out).mono ?_
  rintro e w2 ⟨rfl, b2⟩
  have B2 := hide' (Below.on B1.out b2)
  clear b2 B1 y0 y1 y2 y3 z0 z1 z2 z3
  go_wp2
  go_ret
  exact ⟨rfl, B2.out⟩

/-- What toCmd answers. -/
def CmTo (k n : Int) (t l : List Int) (w : World) (e : Ending) (w' : World) : Prop := ∃ u c ax cx, e = .returned (.agg #[.int .i64 k, .slice u t.length c, .int .i64 n, .slice ax l.length cx]) ∧ Seg w' u t ∧ NmS w' (.slice ax l.length cx) l ∧ t.length ≤ c ∧ c ≤ maxLen ∧ Below w.heap.size w w'

set_option maxHeartbeats 1600000 in
theorem toCmd_any (k n : Int) (a : Option Addr) (t : List Int) (c : Nat) (x : Value) (l : List Int) (w : World) (ha : Seg w a t) (ht : t.length ≤ 1048576) (hx : NmS w x l) (hl : l.length ≤ 1048576) :
    Calls Try.prog 6 #[.agg #[.int .i64 k, .slice a t.length c, .int .i64 n, x]] w (CmTo k n t l w) := by
  have H1 : Hid (∀ wx, Below w.heap.size w wx → Calls Try.prog 12 #[.slice a t.length c] wx fun e w' => e = .returned (.slice (some ⟨wx.heap.size, 0, none⟩) t.length t.length) ∧ Bts w' wx.heap.size (.slice (some ⟨wx.heap.size, 0, none⟩) t.length t.length) t ∧ Below wx.heap.size wx w') := fun wx h => toByteS_any a c t wx (ha.grow h) (by omega)
  have H2 : Hid (∀ wx, Below w.heap.size w wx → Calls Try.prog 13 #[x] wx fun e w' => e = .returned (.slice (some ⟨wx.heap.size, 0, none⟩) l.length l.length) ∧ NmS w' (.slice (some ⟨wx.heap.size, 0, none⟩) l.length l.length) l ∧ Below wx.heap.size wx w') := fun wx h => toIntS_read x l wx (hx.grow h) hl
  obtain ⟨ax, cx, rfl, -⟩ := hx
  have H3 := hide' (boxes3 w (.cells #[.int .i64 k, .slice a t.length c, .int .i64 n, .slice ax l.length cx] 25) (.cells #[.int .i64 0, .slice none 0 0, .int .i64 0, .slice none 0 0] 28) (.cells #[.int .i64 k, .slice none 0 0, .int .i64 0, .slice none 0 0] 28))
  clear ha
  generalize htl : t.length = tl at *
  generalize hll : l.length = ll at *
  go_enter Try.func6, Try.ntmps6
  go_wp2_with fail
  obtain ⟨hr1, hr2, hr3, hsz, hb0⟩ := H3.out
  refine (H1.out _ hb0).mono ?_
  rintro e w1 ⟨rfl, hO, b1⟩
  generalize ((w.alloc (.cells #[.int .i64 k, .slice a tl c, .int .i64 n, .slice ax ll cx] 25)).alloc (.cells #[.int .i64 0, .slice none 0 0, .int .i64 0, .slice none 0 0] 28)).alloc (.cells #[.int .i64 k, .slice none 0 0, .int .i64 0, .slice none 0 0] 28) = w0 at *
  have hr1' := (b1.block _ (by omega)).trans hr1
  have hr2' := (b1.block _ (by omega)).trans hr2
  have hr3' := (b1.block _ (by omega)).trans hr3
  obtain ⟨y0, y1, y2, y3, yf⟩ := row4 hr1'
  obtain ⟨z0, z1, z2, z3, zf⟩ := row4 hr3'
  have zf1 := zf 1
  have zf2 := zf 2
  have hS : Seg w1 (some ⟨w0.heap.size, 0, none⟩) t := by rw [← htl] at hO; exact hO.seg
  have B1 := Below.on hb0 b1
  have gA := grown1n w1 (w.heap.size + 1 + 1) 1 (.slice (some ⟨w0.heap.size, 0, none⟩) tl tl)
  have gB := grown1n (w1.setCell ⟨w.heap.size + 1 + 1, 1, none⟩ (.slice (some ⟨w0.heap.size, 0, none⟩) tl tl)) (w.heap.size + 1 + 1) 2 (.int .i64 n)
  have hz1 := b1.size
  have hS2 := hide' ((hS.away gA (by intro q hq _; simp at hq; subst hq; simp; omega)).away gB (by intro q hq _; simp at hq; subst hq; simp; omega))
  have B2 := hide' ((B1.grown gA B1.size (by intro j hj; simp at hj; omega)).grown gB (by have := gA.size; have := B1.size; omega) (by intro j hj; simp at hj; omega))
  have hR3 := hide' (heap_setCell_same _ _ 2 _ _ (.int .i64 n) (heap_setCell_same w1 _ 1 _ _ (.slice (some ⟨w0.heap.size, 0, none⟩) tl tl) hr3'))
  have hR2 : Hid (((w1.setCell ⟨w.heap.size + 1 + 1, 1, none⟩ (.slice (some ⟨w0.heap.size, 0, none⟩) tl tl)).setCell ⟨w.heap.size + 1 + 1, 2, none⟩ (.int .i64 n)).heap[w.heap.size + 1]? = some (.cells #[.int .i64 0, .slice none 0 0, .int .i64 0, .slice none 0 0] 28 (0, 0))) :=
    ((Below.heap_setCell _ _ _ _ (by show w.heap.size + 1 ≠ w.heap.size + 1 + 1; omega)).trans (Below.heap_setCell w1 _ _ _ (by show w.heap.size + 1 ≠ w.heap.size + 1 + 1; omega))).trans hr2'
  have hWs : Hid (w.heap.size + 3 ≤ ((w1.setCell ⟨w.heap.size + 1 + 1, 1, none⟩ (.slice (some ⟨w0.heap.size, 0, none⟩) tl tl)).setCell ⟨w.heap.size + 1 + 1, 2, none⟩ (.int .i64 n)).heap.size) := by show _ ≤ _; simp [World.setCell]; omega
  have hw0 : Hid (w.heap.size + 3 ≤ w0.heap.size ∧ w0.heap.size ≤ ((w1.setCell ⟨w.heap.size + 1 + 1, 1, none⟩ (.slice (some ⟨w0.heap.size, 0, none⟩) tl tl)).setCell ⟨w.heap.size + 1 + 1, 2, none⟩ (.int .i64 n)).heap.size) := by
    refine ⟨by omega, ?_⟩
    have := gB.size
    have := gA.size
    omega
  clear hO b1 hS gA gB hr1 hr2 hr3 hr1' hr2' hr3' yf zf B1 H3 hsz hb0 hz1 H1
  generalize w0.heap.size = ub at *
  go_wp2_with fail
  refine (H2.out _ B2.out).mono ?_
  rintro e w2 ⟨rfl, hN, b2⟩
  generalize (w1.setCell ⟨w.heap.size + 1 + 1, 1, none⟩ (.slice (some ⟨ub, 0, none⟩) tl tl)).setCell ⟨w.heap.size + 1 + 1, 2, none⟩ (.int .i64 n) = wb at *
  have hws := hWs.out
  have hub := hw0.out
  have q3 := (b2.block _ (by omega)).trans hR3.out
  have q2 := (b2.block _ (by omega)).trans hR2.out
  have q3' : w2.heap[w.heap.size + 1 + 1]? = some (.cells #[.int .i64 k, .slice (some ⟨ub, 0, none⟩) tl tl, .int .i64 n, .slice none 0 0] 28 (0, 0)) := q3
  clear q3
  obtain ⟨v0, v1, v2, v3, vf⟩ := row4 q3'
  obtain ⟨u0, u1, u2, u3, uf⟩ := row4 q2
  have vf3 := vf 3
  have uf0 := uf 0
  have uf1 := uf 1
  have uf2 := uf 2
  have uf3 := uf 3
  have hSg := hS2.out.grow b2
  have B3 := Below.on B2.out b2
  have hz2 := b2.size
  have gA := grown1n w2 (w.heap.size + 1 + 1) 3 (.slice (some ⟨wb.heap.size, 0, none⟩) ll ll)
  have gB := set4_grown (w2.setCell ⟨w.heap.size + 1 + 1, 3, none⟩ (.slice (some ⟨wb.heap.size, 0, none⟩) ll ll)) (w.heap.size + 1) (.int .i64 k) (.slice (some ⟨ub, 0, none⟩) tl tl) (.int .i64 n) (.slice (some ⟨wb.heap.size, 0, none⟩) ll ll)
  have hfin := row4 (set4_heap (.int .i64 k) (.slice (some ⟨ub, 0, none⟩) tl tl) (.int .i64 n) (.slice (some ⟨wb.heap.size, 0, none⟩) ll ll) ((Below.heap_setCell w2 ⟨w.heap.size + 1 + 1, 3, none⟩ (.slice (some ⟨wb.heap.size, 0, none⟩) ll ll) (w.heap.size + 1) (by show w.heap.size + 1 ≠ w.heap.size + 1 + 1; omega)).trans q2))
  have HSF := hide' ((hSg.away gA (by intro q hq _; simp at hq; subst hq; simp; omega)).away gB (by intro q hq _; simp at hq; subst hq; simp; omega))
  have HNF := hide' ((hN.away gA (by intro b off n c h; simp at h; omega)).away gB (by intro b off n c h; simp at h; omega))
  have HBF := hide' ((B3.grown gA B3.size (by intro j hj; simp at hj; omega)).grown gB (by have := gA.size; have := B3.size; omega) (by intro j hj; simp at hj; omega))
  simp only [set4] at hfin HSF HNF HBF
  have Hf := hide' hfin
  clear hfin gA gB hSg B3 q2 q3' uf vf hS2 B2 hR3 hR2 hN b2 hz2 H2
  go_wp2_with fail
  obtain ⟨f0, f1, f2, f3, _⟩ := Hf.out
  refine bodyPost_ret (v := .agg #[.int .i64 k, .slice (some ⟨ub, 0, none⟩) tl tl, .int .i64 n, .slice (some ⟨wb.heap.size, 0, none⟩) ll ll]) (by simp [results, Try.results6, go_sem, f0, f1, f2, f3]) rfl ?_
  subst htl hll
  exact ⟨_, _, _, _, rfl, HSF.out, HNF.out, Nat.le_refl _, by unfold maxLen; omega, HBF.out⟩
end Go.Proofs.Ytbnaklmaphboeaa
/-
  CmdOk of the specification and of the program: whether a command has just what its kind has.
-/
namespace Go.Proofs.Ytbnaklmaphboeaa
open Go.RowKit
set_option linter.unusedVariables false
set_option linter.unusedSimpArgs false

/-- A command that may be: kind, number, how many bytes, answers. -/
def cmdB (k n : Int) (tl : Nat) (l : List Int) : Bool :=
  decide (0 ≤ k) && decide (k ≤ 4) && ansB l && decide (0 ≤ n) && decide (n ≤ 1000000) &&
    (if k = 0 then decide (tl ≤ 1200) && decide (n = 0) else decide (tl = 0) && (decide (k = 3) || decide (l.length = 0)) && (decide (k ≠ 4) || decide (n = 0)))

theorem ansB_nil {l : List Int} (h : l.length = 0) : ansB l = true := by
  obtain rfl := List.length_eq_zero_iff.1 h
  rfl

section
variable (k n : Int) (a : Option Addr) (tl c : Nat) (x : Value) (l : List Int) (w : World)

set_option maxHeartbeats 3200000 in
theorem spec_CmdOk_any (htl : tl ≤ maxLen) (hx : NmS w x l) :
    Calls Try.prog 5 #[.agg #[.int .i64 k, .slice a tl c, .int .i64 n, x]] w fun e w' => e = .returned (.bool (cmdB k n tl l)) ∧ Below w.heap.size w w' := by
  have Hb : Hid (∀ o : Obj, Below w.heap.size w (w.alloc o)) := fun o => (Below.refl _ _).alloc (Nat.le_refl _) o
  have HA : Hid (∀ o : Obj, Calls Try.prog 11 #[x] (w.alloc o) fun e w' => e = .returned (.bool (ansB l)) ∧ w.alloc o = w') := fun o => l11answers_any x l _ (hx.grow ((Below.refl _ _).alloc (Nat.le_refl _) o))
  obtain ⟨ax, cx, rfl, hlc, hcm, -, -⟩ := hx
  unfold maxLen at htl hcm
  by_cases h1 : k < 0
  · have hF : Hid (cmdB k n tl l = false) := by show cmdB k n tl l = false; simp [cmdB]; omega
    generalize l.length = ll at *
    go_enter Try.func5, Try.ntmps5
    go_wp2_with fail
    go_ret
    exact ⟨retB hF.out.symm, Hb.out _⟩
  by_cases h2 : k > 4
  · have hF : Hid (cmdB k n tl l = false) := by show cmdB k n tl l = false; simp [cmdB]; omega
    generalize l.length = ll at *
    go_enter Try.func5, Try.ntmps5
    go_wp2_with fail
    go_ret
    exact ⟨retB hF.out.symm, Hb.out _⟩
  cases hA : ansB l with
  | false =>
    have hF : Hid (cmdB k n tl l = false) := by show cmdB k n tl l = false; simp [cmdB, hA]
    rw [hA] at HA
    clear hA
    generalize l.length = ll at *
    go_enter Try.func5, Try.ntmps5
    go_wp2_with fail
    refine (HA.out _).mono ?_
    rintro e w1 ⟨rfl, hw1⟩
    obtain rfl := hw1
    go_wp2_with fail
    go_ret
    exact ⟨retB hF.out.symm, Hb.out _⟩
  | true =>
    rw [hA] at HA
    by_cases h3 : n < 0
    · have hF : Hid (cmdB k n tl l = false) := by show cmdB k n tl l = false; simp [cmdB]; omega
      clear hA
      generalize l.length = ll at *
      go_enter Try.func5, Try.ntmps5
      go_wp2_with fail
      refine (HA.out _).mono ?_
      rintro e w1 ⟨rfl, hw1⟩
      obtain rfl := hw1
      go_wp2_with fail
      go_ret
      exact ⟨retB hF.out.symm, Hb.out _⟩
    by_cases h4 : n > 1000000
    · have hF : Hid (cmdB k n tl l = false) := by show cmdB k n tl l = false; simp [cmdB]; omega
      clear hA
      generalize l.length = ll at *
      go_enter Try.func5, Try.ntmps5
      go_wp2_with fail
      refine (HA.out _).mono ?_
      rintro e w1 ⟨rfl, hw1⟩
      obtain rfl := hw1
      go_wp2_with fail
      go_ret
      exact ⟨retB hF.out.symm, Hb.out _⟩
    have hk : k = 0 ∨ k = 1 ∨ k = 2 ∨ k = 3 ∨ k = 4 := by omega
    have e1 : ¬ (n : Int) < 0 := h3
    have hC : cmdB k n tl l = (if k = 0 then decide (tl ≤ 1200) && decide (n = 0) else decide (tl = 0) && (decide (k = 3) || decide (l.length = 0)) && (decide (k ≠ 4) || decide (n = 0))) := by
      have q1 : 0 ≤ k := by omega
      have q2 : k ≤ 4 := by omega
      have q3 : 0 ≤ n := by omega
      have q4 : n ≤ 1000000 := by omega
      simp [cmdB, hA, q1, q2, q3, q4]
    have HC := hide' hC
    clear hC hA h1 h2
    generalize l.length = ll at *
    rcases hk with rfl | rfl | rfl | rfl | rfl
    · by_cases h5 : tl ≤ 1200
      · have h5' : (tl : Int) ≤ 1200 := by omega
        by_cases h6 : n = 0
        · subst h6
          go_enter Try.func5, Try.ntmps5
          go_wp2_with fail
          refine (HA.out _).mono ?_
          rintro e w1 ⟨rfl, hw1⟩
          obtain rfl := hw1
          go_wp2_with fail
          go_ret
          exact ⟨retB (by rw [HC.out]; simp [h5]), Hb.out _⟩
        · have h6' : (n == 0) = false := by simpa using h6
          go_enter Try.func5, Try.ntmps5
          go_wp2_with fail
          refine (HA.out _).mono ?_
          rintro e w1 ⟨rfl, hw1⟩
          obtain rfl := hw1
          go_wp2_with fail
          go_ret
          exact ⟨retB (by rw [HC.out]; simp [h6]), Hb.out _⟩
      · have h5' : ¬ (tl : Int) ≤ 1200 := by omega
        go_enter Try.func5, Try.ntmps5
        go_wp2_with fail
        refine (HA.out _).mono ?_
        rintro e w1 ⟨rfl, hw1⟩
        obtain rfl := hw1
        go_wp2_with fail
        go_ret
        exact ⟨retB (by rw [HC.out]; simp [h5]), Hb.out _⟩
    all_goals
      by_cases h5 : tl = 0
      · subst h5
        by_cases h7 : ll = 0
        · subst h7
          by_cases h6 : n = 0
          · subst h6
            go_enter Try.func5, Try.ntmps5
            go_wp2_with fail
            refine (HA.out _).mono ?_
            rintro e w1 ⟨rfl, hw1⟩
            obtain rfl := hw1
            go_wp2_with fail
            go_ret
            exact ⟨retB (by rw [HC.out]; simp), Hb.out _⟩
          · have h6' : (n == 0) = false := by simpa using h6
            go_enter Try.func5, Try.ntmps5
            go_wp2_with fail
            refine (HA.out _).mono ?_
            rintro e w1 ⟨rfl, hw1⟩
            obtain rfl := hw1
            go_wp2_with fail
            go_ret
            exact ⟨retB (by rw [HC.out]; simp [h6]), Hb.out _⟩
        · have h7' : (ll : Int) > 0 := by omega
          go_enter Try.func5, Try.ntmps5
          go_wp2_with fail
          refine (HA.out _).mono ?_
          rintro e w1 ⟨rfl, hw1⟩
          obtain rfl := hw1
          go_wp2_with fail
          go_ret
          exact ⟨retB (by rw [HC.out]; simp [h7]), Hb.out _⟩
      · have h5' : (tl : Int) > 0 := by omega
        go_enter Try.func5, Try.ntmps5
        go_wp2_with fail
        refine (HA.out _).mono ?_
        rintro e w1 ⟨rfl, hw1⟩
        obtain rfl := hw1
        go_wp2_with fail
        go_ret
        exact ⟨retB (by rw [HC.out]; simp [h5]), Hb.out _⟩
end
end Go.Proofs.Ytbnaklmaphboeaa
/-
  CmdOk of the program.
-/
namespace Go.Proofs.Ytbnaklmaphboeaa
open Go.RowKit
set_option linter.unusedVariables false
set_option linter.unusedSimpArgs false

theorem quietSame {P : Program} {f : FuncId} {args : Array Value} {w : World} {n : Nat} {v : Value}
    (h : Calls P f args (w.drewN n) fun e w' => e = .returned v ∧ w.drewN n = w') : Calls P f args (w.drewN n) fun e w'' => e = .returned v ∧ ∃ m, w'' = w.drewN m :=
  Calls.quiet_of_same (h.mono fun _ _ ⟨he, hm⟩ => ⟨he, hm.symm⟩)

/-- A number that a command may have. -/
def numB (n : Int) : Bool := decide (0 ≤ n) && decide (n ≤ 1000000)

set_option maxHeartbeats 800000 in
theorem cmdNumOk_any (n : Int) (w : World) : Calls Try.prog 15 #[.int .i64 n] w fun e w' => e = .returned (.bool (numB n)) ∧ w = w' := by
  by_cases h2 : 0 ≤ n
  · by_cases h3 : n ≤ 1000000
    · have hF : Hid (numB n = true) := by show numB n = true; simp [numB, h2, h3]
      go_enter Try.func15, Try.ntmps15
      go_wp2
      go_ret
      exact ⟨retB hF.out.symm, rfl⟩
    · have hF : Hid (numB n = false) := by show numB n = false; simp [numB]; omega
      go_enter Try.func15, Try.ntmps15
      go_wp2
      go_ret
      exact ⟨retB hF.out.symm, rfl⟩
  · have hF : Hid (numB n = false) := by show numB n = false; simp [numB]; omega
    go_enter Try.func15, Try.ntmps15
    go_wp2
    go_ret
    exact ⟨retB hF.out.symm, rfl⟩

section
variable (k n : Int) (a : Option Addr) (tl c : Nat) (x : Value) (l : List Int) (w : World)

/-- What the program asks of a command, by its kind. -/
def cmdP (k n : Int) (tl ll : Nat) (A : Bool) : Bool :=
  if k = 0 then decide (tl ≤ 1200) && decide (n = 0) && A else if k = 1 ∨ k = 2 then decide (tl = 0) && numB n && decide (ll = 0) else if k = 3 then decide (tl = 0) && numB n && A else if k = 4 then decide (tl = 0) && decide (n = 0) && decide (ll = 0) else false

theorem cmdP_eq (k n : Int) (tl : Nat) (l : List Int) : cmdP k n tl l.length (ansB l) = cmdB k n tl l := by
  have hn : ∀ m : Nat, l.length = m → m = 0 → ansB l = true := fun m h1 h2 => ansB_nil (by omega)
  by_cases h0 : k = 0
  · subst h0
    by_cases hz : n = 0
    · subst hz
      cases hA : ansB l <;> simp [cmdP, cmdB, hA]
    · simp [cmdP, cmdB, hz]
  · by_cases h12 : k = 1 ∨ k = 2
    · have e1 : 0 ≤ k := by omega
      have e2 : k ≤ 4 := by omega
      have e3 : ¬ k = 3 := by omega
      have e4 : ¬ k = 4 := by omega
      by_cases hl : l.length = 0
      · have hA := ansB_nil hl
        simp [cmdP, cmdB, h0, h12, e1, e2, e3, e4, hl, hA, numB]
        cases decide (tl = 0) <;> cases decide (0 ≤ n) <;> cases decide (n ≤ 1000000) <;> rfl
      · simp [cmdP, cmdB, h0, h12, e3, hl]
    · by_cases h3 : k = 3
      · subst h3
        cases hA : ansB l <;> cases ht : decide (tl = 0) <;> cases q1 : decide (0 ≤ n) <;> cases q2 : decide (n ≤ 1000000) <;> simp [cmdP, cmdB, hA, numB, ht, q1, q2]
      · by_cases h4 : k = 4
        · subst h4
          by_cases hl : l.length = 0
          · have hA := ansB_nil hl
            by_cases hz : n = 0
            · subst hz
              cases ht : decide (tl = 0) <;> simp [cmdP, cmdB, hA, hl, ht]
            · simp [cmdP, cmdB, hz]
          · simp [cmdP, cmdB, hl]
        · have : ¬ (0 ≤ k ∧ k ≤ 4) := by omega
          have hb : (decide (0 ≤ k) && decide (k ≤ 4)) = false := by simp; omega
          simp only [cmdP, h0, h12, h3, h4, if_false, cmdB, hb, Bool.false_and]

set_option maxHeartbeats 3200000 in
theorem impl_CmdOk_any (htl : tl ≤ maxLen) (hx : NmS w x l) :
    Calls Try.prog 7 #[.agg #[.int .i64 k, .slice a tl c, .int .i64 n, x]] w fun e w' => e = .returned (.bool (cmdB k n tl l)) ∧ Below w.heap.size w w' := by
  have Hb : Hid (∀ o : Obj, Below w.heap.size w (w.alloc o)) := fun o => (Below.refl _ _).alloc (Nat.le_refl _) o
  have Hb' : Hid (∀ (o : Obj) m, Below w.heap.size w ((w.alloc o).drewN m)) := fun o m => below_drewN (Hb.out o) m
  have HA : Hid (∀ wx, Below w.heap.size w wx → Calls Try.prog 14 #[x] wx fun e w' => e = .returned (.bool (ansB l)) ∧ wx = w') := fun wx h => answersOk_any x l _ (hx.grow h)
  have HN : Hid (∀ wx, Calls Try.prog 15 #[.int .i64 n] wx fun e w' => e = .returned (.bool (numB n)) ∧ wx = w') := fun wx => cmdNumOk_any n wx
  have HP := hide' (cmdP_eq k n tl l)
  obtain ⟨ax, cx, rfl, hlc, hcm, -, -⟩ := hx
  have HWW : Hid (∀ m, ∃ W, (w.alloc (.cells #[.int .i64 k, .slice a tl c, .int .i64 n, .slice ax l.length cx] 28)).drewN m = W ∧ W.cell? ⟨w.heap.size, 0, none⟩ = some (.int .i64 k) ∧ W.cell? ⟨w.heap.size, 1, none⟩ = some (.slice a tl c) ∧ W.cell? ⟨w.heap.size, 2, none⟩ = some (.int .i64 n) ∧ W.cell? ⟨w.heap.size, 3, none⟩ = some (.slice ax l.length cx) ∧ Below w.heap.size w W ∧ Hid (∀ q, Calls Try.prog 14 #[.slice ax l.length cx] (W.drewN q) fun e w' => e = .returned (.bool (ansB l)) ∧ W.drewN q = w')) := by
    intro m
    have hb := Hb'.out (.cells #[.int .i64 k, .slice a tl c, .int .i64 n, .slice ax l.length cx] 28) m
    have b1 := below_drewN (Below.refl (w.alloc (.cells #[.int .i64 k, .slice a tl c, .int .i64 n, .slice ax l.length cx] 28)).heap.size (w.alloc (.cells #[.int .i64 k, .slice a tl c, .int .i64 n, .slice ax l.length cx] 28))) m
    obtain ⟨y0, y1, y2, y3, -⟩ := row4 ((b1.block w.heap.size (by simp)).trans (MapKept.heap_alloc w _).1)
    exact ⟨_, rfl, y0, y1, y2, y3, hb, fun q => HA.out _ (below_drewN hb q)⟩
  unfold maxLen at htl hcm
  have hz : ∀ m : Nat, (m : Int) = 0 ∨ 0 < (m : Int) := by intro m; omega
  generalize cmdB k n tl l = R at *
  generalize ansB l = A at *
  generalize hM : numB n = M at *
  have HM := hide' hM
  clear hM
  generalize l.length = ll at *
  have hk : k = 0 ∨ k = 1 ∨ k = 2 ∨ k = 3 ∨ k = 4 ∨ (k ≠ 0 ∧ k ≠ 1 ∧ k ≠ 2 ∧ k ≠ 3 ∧ k ≠ 4) := by omega
  rcases hk with rfl | rfl | rfl | rfl | rfl | ⟨k0, k1, k2, k3, k4⟩
  · by_cases h5 : tl ≤ 1200
    · have h5' : (tl : Int) ≤ 1200 := by omega
      by_cases h6 : n = 0
      · subst h6
        cases A with
        | true =>
          go_enter Try.func7, Try.ntmps7
          go_wp2_with fail
          go_quiet (fail)
          obtain ⟨W, hW, y0, y1, y2, y3, hB, HAW⟩ := HWW.out nq
          rw [hW]
          have HBW := hide' hB
          clear hW hB
          go_wp2_with fail
          go_quiet ((go_at_call 14; exact quietSame (HAW.out _)))
          go_wp2_with fail
          go_ret
          exact ⟨retB (by rw [← HP.out]; simp [cmdP, h5]), by first | exact HBW.out | exact below_drewN HBW.out _⟩
        | false =>
          go_enter Try.func7, Try.ntmps7
          go_wp2_with fail
          go_quiet (fail)
          obtain ⟨W, hW, y0, y1, y2, y3, hB, HAW⟩ := HWW.out nq
          rw [hW]
          have HBW := hide' hB
          clear hW hB
          go_wp2_with fail
          go_quiet ((go_at_call 14; exact quietSame (HAW.out _)))
          go_wp2_with fail
          go_ret
          exact ⟨retB (by rw [← HP.out]; simp [cmdP, h5]), by first | exact HBW.out | exact below_drewN HBW.out _⟩
      · have h6' : (n == 0) = false := by simpa using h6
        go_enter Try.func7, Try.ntmps7
        go_wp2_with fail
        go_quiet (fail)
        obtain ⟨W, hW, y0, y1, y2, y3, hB, HAW⟩ := HWW.out nq
        rw [hW]
        have HBW := hide' hB
        clear hW hB
        go_wp2_with fail
        go_quiet ((go_at_call 14; exact quietSame (HAW.out _)))
        go_wp2_with fail
        go_ret
        exact ⟨retB (by rw [← HP.out]; simp [cmdP, h5, h6]), by first | exact HBW.out | exact below_drewN HBW.out _⟩
    · have h5' : ¬ (tl : Int) ≤ 1200 := by omega
      go_enter Try.func7, Try.ntmps7
      go_wp2_with fail
      go_quiet (fail)
      obtain ⟨W, hW, y0, y1, y2, y3, hB, HAW⟩ := HWW.out nq
      rw [hW]
      have HBW := hide' hB
      clear hW hB
      go_wp2_with fail
      go_quiet ((go_at_call 14; exact quietSame (HAW.out _)))
      go_wp2_with fail
      go_ret
      exact ⟨retB (by rw [← HP.out]; simp [cmdP, h5]), by first | exact HBW.out | exact below_drewN HBW.out _⟩
  · by_cases h5 : tl = 0
    · subst h5
      cases M with
      | true =>
        by_cases h7 : ll = 0
        · subst h7
          go_enter Try.func7, Try.ntmps7
          go_wp2_with fail
          go_quiet (fail)
          obtain ⟨W, hW, y0, y1, y2, y3, hB, HAW⟩ := HWW.out nq
          rw [hW]
          have HBW := hide' hB
          clear hW hB
          go_wp2_with fail
          refine (HN.out _).mono ?_
          rintro e w1 ⟨rfl, hw1⟩
          obtain rfl := hw1
          go_wp2_with fail
          go_ret
          exact ⟨retB (by rw [← HP.out]; simp [cmdP, HM.out]), by first | exact HBW.out | exact below_drewN HBW.out _⟩
        · have h7' : ((ll : Int) == 0) = false := by simp; omega
          go_enter Try.func7, Try.ntmps7
          go_wp2_with fail
          go_quiet (fail)
          obtain ⟨W, hW, y0, y1, y2, y3, hB, HAW⟩ := HWW.out nq
          rw [hW]
          have HBW := hide' hB
          clear hW hB
          go_wp2_with fail
          refine (HN.out _).mono ?_
          rintro e w1 ⟨rfl, hw1⟩
          obtain rfl := hw1
          go_wp2_with fail
          go_ret
          exact ⟨retB (by rw [← HP.out]; simp [cmdP, h7, HM.out]), by first | exact HBW.out | exact below_drewN HBW.out _⟩
      | false =>
        go_enter Try.func7, Try.ntmps7
        go_wp2_with fail
        go_quiet (fail)
        obtain ⟨W, hW, y0, y1, y2, y3, hB, HAW⟩ := HWW.out nq
        rw [hW]
        have HBW := hide' hB
        clear hW hB
        go_wp2_with fail
        refine (HN.out _).mono ?_
        rintro e w1 ⟨rfl, hw1⟩
        obtain rfl := hw1
        go_wp2_with fail
        go_ret
        exact ⟨retB (by rw [← HP.out]; simp [cmdP, HM.out]), by first | exact HBW.out | exact below_drewN HBW.out _⟩
    · have h5' : ((tl : Int) == 0) = false := by simp; omega
      go_enter Try.func7, Try.ntmps7
      go_wp2_with fail
      go_quiet (fail)
      obtain ⟨W, hW, y0, y1, y2, y3, hB, HAW⟩ := HWW.out nq
      rw [hW]
      have HBW := hide' hB
      clear hW hB
      go_wp2_with fail
      refine (HN.out _).mono ?_
      rintro e w1 ⟨rfl, hw1⟩
      obtain rfl := hw1
      go_wp2_with fail
      go_ret
      exact ⟨retB (by rw [← HP.out]; simp [cmdP, h5, HM.out]), by first | exact HBW.out | exact below_drewN HBW.out _⟩
  · by_cases h5 : tl = 0
    · subst h5
      cases M with
      | true =>
        by_cases h7 : ll = 0
        · subst h7
          go_enter Try.func7, Try.ntmps7
          go_wp2_with fail
          go_quiet (fail)
          obtain ⟨W, hW, y0, y1, y2, y3, hB, HAW⟩ := HWW.out nq
          rw [hW]
          have HBW := hide' hB
          clear hW hB
          go_wp2_with fail
          refine (HN.out _).mono ?_
          rintro e w1 ⟨rfl, hw1⟩
          obtain rfl := hw1
          go_wp2_with fail
          go_ret
          exact ⟨retB (by rw [← HP.out]; simp [cmdP, HM.out]), by first | exact HBW.out | exact below_drewN HBW.out _⟩
        · have h7' : ((ll : Int) == 0) = false := by simp; omega
          go_enter Try.func7, Try.ntmps7
          go_wp2_with fail
          go_quiet (fail)
          obtain ⟨W, hW, y0, y1, y2, y3, hB, HAW⟩ := HWW.out nq
          rw [hW]
          have HBW := hide' hB
          clear hW hB
          go_wp2_with fail
          refine (HN.out _).mono ?_
          rintro e w1 ⟨rfl, hw1⟩
          obtain rfl := hw1
          go_wp2_with fail
          go_ret
          exact ⟨retB (by rw [← HP.out]; simp [cmdP, h7, HM.out]), by first | exact HBW.out | exact below_drewN HBW.out _⟩
      | false =>
        go_enter Try.func7, Try.ntmps7
        go_wp2_with fail
        go_quiet (fail)
        obtain ⟨W, hW, y0, y1, y2, y3, hB, HAW⟩ := HWW.out nq
        rw [hW]
        have HBW := hide' hB
        clear hW hB
        go_wp2_with fail
        refine (HN.out _).mono ?_
        rintro e w1 ⟨rfl, hw1⟩
        obtain rfl := hw1
        go_wp2_with fail
        go_ret
        exact ⟨retB (by rw [← HP.out]; simp [cmdP, HM.out]), by first | exact HBW.out | exact below_drewN HBW.out _⟩
    · have h5' : ((tl : Int) == 0) = false := by simp; omega
      go_enter Try.func7, Try.ntmps7
      go_wp2_with fail
      go_quiet (fail)
      obtain ⟨W, hW, y0, y1, y2, y3, hB, HAW⟩ := HWW.out nq
      rw [hW]
      have HBW := hide' hB
      clear hW hB
      go_wp2_with fail
      refine (HN.out _).mono ?_
      rintro e w1 ⟨rfl, hw1⟩
      obtain rfl := hw1
      go_wp2_with fail
      go_ret
      exact ⟨retB (by rw [← HP.out]; simp [cmdP, h5, HM.out]), by first | exact HBW.out | exact below_drewN HBW.out _⟩
  · by_cases h5 : tl = 0
    · subst h5
      cases M with
      | true =>
        cases A with
        | true =>
          go_enter Try.func7, Try.ntmps7
          go_wp2_with fail
          go_quiet (fail)
          obtain ⟨W, hW, y0, y1, y2, y3, hB, HAW⟩ := HWW.out nq
          rw [hW]
          have HBW := hide' hB
          clear hW hB
          go_wp2_with fail
          go_quiet (first | (go_at_call 14; exact quietSame (HAW.out _)) | (go_at_call 15; exact quietSame (HN.out _)))
          go_wp2_with fail
          go_ret
          exact ⟨retB (by rw [← HP.out]; simp [cmdP, HM.out]), by first | exact HBW.out | exact below_drewN HBW.out _⟩
        | false =>
          go_enter Try.func7, Try.ntmps7
          go_wp2_with fail
          go_quiet (fail)
          obtain ⟨W, hW, y0, y1, y2, y3, hB, HAW⟩ := HWW.out nq
          rw [hW]
          have HBW := hide' hB
          clear hW hB
          go_wp2_with fail
          go_quiet (first | (go_at_call 14; exact quietSame (HAW.out _)) | (go_at_call 15; exact quietSame (HN.out _)))
          go_wp2_with fail
          go_ret
          exact ⟨retB (by rw [← HP.out]; simp [cmdP, HM.out]), by first | exact HBW.out | exact below_drewN HBW.out _⟩
      | false =>
        go_enter Try.func7, Try.ntmps7
        go_wp2_with fail
        go_quiet (fail)
        obtain ⟨W, hW, y0, y1, y2, y3, hB, HAW⟩ := HWW.out nq
        rw [hW]
        have HBW := hide' hB
        clear hW hB
        go_wp2_with fail
        go_quiet (first | (go_at_call 14; exact quietSame (HAW.out _)) | (go_at_call 15; exact quietSame (HN.out _)))
        go_wp2_with fail
        go_ret
        exact ⟨retB (by rw [← HP.out]; simp [cmdP, HM.out]), by first | exact HBW.out | exact below_drewN HBW.out _⟩
    · have h5' : ((tl : Int) == 0) = false := by simp; omega
      go_enter Try.func7, Try.ntmps7
      go_wp2_with fail
      go_quiet (fail)
      obtain ⟨W, hW, y0, y1, y2, y3, hB, HAW⟩ := HWW.out nq
      rw [hW]
      have HBW := hide' hB
      clear hW hB
      go_wp2_with fail
      go_quiet (first | (go_at_call 14; exact quietSame (HAW.out _)) | (go_at_call 15; exact quietSame (HN.out _)))
      go_wp2_with fail
      go_ret
      exact ⟨retB (by rw [← HP.out]; simp [cmdP, h5, HM.out]), by first | exact HBW.out | exact below_drewN HBW.out _⟩
  · by_cases h5 : tl = 0
    · subst h5
      by_cases h6 : n = 0
      · subst h6
        by_cases h7 : ll = 0
        · subst h7
          go_enter Try.func7, Try.ntmps7
          go_wp2_with fail
          go_quiet (fail)
          obtain ⟨W, hW, y0, y1, y2, y3, hB, HAW⟩ := HWW.out nq
          rw [hW]
          have HBW := hide' hB
          clear hW hB
          go_wp2_with fail
          go_ret
          exact ⟨retB (by rw [← HP.out]; simp [cmdP]), by first | exact HBW.out | exact below_drewN HBW.out _⟩
        · have h7' : ((ll : Int) == 0) = false := by simp; omega
          go_enter Try.func7, Try.ntmps7
          go_wp2_with fail
          go_quiet (fail)
          obtain ⟨W, hW, y0, y1, y2, y3, hB, HAW⟩ := HWW.out nq
          rw [hW]
          have HBW := hide' hB
          clear hW hB
          go_wp2_with fail
          go_ret
          exact ⟨retB (by rw [← HP.out]; simp [cmdP, h7]), by first | exact HBW.out | exact below_drewN HBW.out _⟩
      · have h6' : (n == 0) = false := by simpa using h6
        go_enter Try.func7, Try.ntmps7
        go_wp2_with fail
        go_quiet (fail)
        obtain ⟨W, hW, y0, y1, y2, y3, hB, HAW⟩ := HWW.out nq
        rw [hW]
        have HBW := hide' hB
        clear hW hB
        go_wp2_with fail
        go_ret
        exact ⟨retB (by rw [← HP.out]; simp [cmdP, h6]), by first | exact HBW.out | exact below_drewN HBW.out _⟩
    · have h5' : ((tl : Int) == 0) = false := by simp; omega
      go_enter Try.func7, Try.ntmps7
      go_wp2_with fail
      go_quiet (fail)
      obtain ⟨W, hW, y0, y1, y2, y3, hB, HAW⟩ := HWW.out nq
      rw [hW]
      have HBW := hide' hB
      clear hW hB
      go_wp2_with fail
      go_ret
      exact ⟨retB (by rw [← HP.out]; simp [cmdP, h5]), by first | exact HBW.out | exact below_drewN HBW.out _⟩
  · have q0 : (k == 0) = false := by simpa using k0
    have q1 : (k == 1) = false := by simpa using k1
    have q2 : (k == 2) = false := by simpa using k2
    have q3 : (k == 3) = false := by simpa using k3
    have q4 : (k == 4) = false := by simpa using k4
    go_enter Try.func7, Try.ntmps7
    go_wp2_with fail
    go_quiet (fail)
    go_wp2_with fail
    go_ret
    exact ⟨retB (by rw [← HP.out]; simp [cmdP, k0, k1, k2, k3, k4]), Hb'.out _ _⟩
end
end Go.Proofs.Ytbnaklmaphboeaa
