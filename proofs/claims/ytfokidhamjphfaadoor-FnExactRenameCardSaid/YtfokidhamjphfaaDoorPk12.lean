/-
  Texts that a law leans on, one behind the other; no statement is proved here.
-/
import Derived.Test.YtfokidhamjphfaaDoorPk11
/-
  toValueS and toValue of the laws: they make a value of their own that holds what their argument holds, at every depth.
-/
namespace Go.Proofs.YtfokidhamjphfaaDoor
open Go.RowKit
set_option linter.unusedVariables false

theorem infoV : (Tryd.prog.info? 26).map (fun i => (i.zero, i.size, i.bytes)) = some (some (.agg #[.int .i64 0, .int .i64 0, .slice none 0 0, .slice none 0 0, .slice none 0 0]), 5, 88) := by kernel_rfl

/-- After k rounds of toValueS. -/
def LPart (w : World) (g n d : Nat) (l : List (Vl d)) (k : Nat) (N : Nat) : Prop :=
  ∃ (cur : Array Value) (Bi : List (List Nat)), w.heap[g]? = some (.cells cur 26 (0, 0)) ∧ cur.size = n * 5 ∧ Bi.length = k ∧
    (∀ i (h : i < l.length), i < k → ∃ e, Cells5 cur (i * 5) e ∧ VOwn w d e l[i] (Bi.getD i [])) ∧ (∀ b ∈ Bi.flatten, N ≤ b ∧ b < w.heap.size) ∧ Bi.flatten.Nodup

/-- The contract of toValue at depth d. -/
def ToAt (d : Nat) : Prop := ∀ (N : Nat) (c : Value × Value × Value × Value × Value) (v : Vl d) (w : World), VSeg (fun b => b < N) w d c v → N ≤ w.heap.size → szV d v ≤ 1048576 →
  Calls Tryd.prog 15 #[.agg #[c.1, c.2.1, c.2.2.1, c.2.2.2.1, c.2.2.2.2]] w fun e w' => ∃ c0 c1 c2 c3 c4, e = .returned (.agg #[c0, c1, c2, c3, c4]) ∧ ∃ B, VOwn w' d (c0, c1, c2, c3, c4) v B ∧ (∀ b ∈ B, w.heap.size ≤ b ∧ b < w'.heap.size) ∧ Below w.heap.size w w'

theorem sz_elem {d : Nat} {l : List (Vl d)} {i : Nat} (hi : i < l.length) : szV d l[i] ≤ szL d l := by
  have h1 := pre_succ (szV d) l i hi
  have h2 := pre_le (szV d) l (i + 1)
  unfold szL
  omega

/-- Five cells stored one behind the other. -/
def set5 (w : World) (g j : Nat) (c0 c1 c2 c3 c4 : Value) : World :=
  ((((w.setCell ⟨g, j, none⟩ c0).setCell ⟨g, j + 1, none⟩ c1).setCell ⟨g, j + 2, none⟩ c2).setCell ⟨g, j + 3, none⟩ c3).setCell ⟨g, j + 4, none⟩ c4

/-- The array behind it. -/
def arrSet5 (cur : Array Value) (j : Nat) (c0 c1 c2 c3 c4 : Value) : Array Value :=
  ((((cur.setIfInBounds j c0).setIfInBounds (j + 1) c1).setIfInBounds (j + 2) c2).setIfInBounds (j + 3) c3).setIfInBounds (j + 4) c4

theorem set5_heap {w : World} {g j : Nat} {cur : Array Value} {T : TypeId} (c0 c1 c2 c3 c4 : Value) (h : w.heap[g]? = some (.cells cur T (0, 0))) :
    (set5 w g j c0 c1 c2 c3 c4).heap[g]? = some (.cells (arrSet5 cur j c0 c1 c2 c3 c4) T (0, 0)) :=
  heap_setCell_same _ g (j + 4) _ T c4 (heap_setCell_same _ g (j + 3) _ T c3 (heap_setCell_same _ g (j + 2) _ T c2 (heap_setCell_same _ g (j + 1) _ T c1 (heap_setCell_same w g j cur T c0 h))))

theorem set5_other (w : World) (g j : Nat) (c0 c1 c2 c3 c4 : Value) (b : Nat) (hb : b ≠ g) : (set5 w g j c0 c1 c2 c3 c4).heap[b]? = w.heap[b]? := by
  unfold set5
  rw [Below.heap_setCell _ _ _ b hb, Below.heap_setCell _ _ _ b hb, Below.heap_setCell _ _ _ b hb, Below.heap_setCell _ _ _ b hb, Below.heap_setCell _ _ _ b hb]

theorem set5_size (w : World) (g j : Nat) (c0 c1 c2 c3 c4 : Value) : (set5 w g j c0 c1 c2 c3 c4).heap.size = w.heap.size := by simp [set5, World.setCell]

theorem set5_grown (w : World) (g j : Nat) (c0 c1 c2 c3 c4 : Value) : w.grownBy (set5 w g j c0 c1 c2 c3 c4) (some g) :=
  grownBy_trans (grownBy_trans (grownBy_trans (grownBy_trans (grown1 _ _ _ _) (grown1 _ _ _ _)) (grown1 _ _ _ _)) (grown1 _ _ _ _)) (grown1 _ _ _ _)

theorem arrSet5_size (cur : Array Value) (j : Nat) (c0 c1 c2 c3 c4 : Value) : (arrSet5 cur j c0 c1 c2 c3 c4).size = cur.size := by simp [arrSet5]

theorem arrSet5_at (cur : Array Value) (j : Nat) (c0 c1 c2 c3 c4 : Value) (h : j + 4 < cur.size) : Cells5 (arrSet5 cur j c0 c1 c2 c3 c4) j (c0, c1, c2, c3, c4) := by
  unfold arrSet5 Cells5
  refine ⟨?_, ?_, ?_, ?_, ?_⟩ <;> simp [Array.getElem?_setIfInBounds] <;> omega

theorem arrSet5_ne (cur : Array Value) (j i : Nat) (c0 c1 c2 c3 c4 : Value) (h : i < j ∨ j + 4 < i) : (arrSet5 cur j c0 c1 c2 c3 c4)[i]? = cur[i]? := by
  unfold arrSet5
  rw [Array.getElem?_setIfInBounds_ne (by omega), Array.getElem?_setIfInBounds_ne (by omega), Array.getElem?_setIfInBounds_ne (by omega), Array.getElem?_setIfInBounds_ne (by omega), Array.getElem?_setIfInBounds_ne (by omega)]

theorem lPart_next {w w1 : World} {g n d : Nat} {l : List (Vl d)} {k N : Nat} (h : LPart w g n d l k N) (hgN : g < N) (hk : k < l.length) (hkn : k < n) (b1 : Below w.heap.size w w1) (hN : N ≤ w.heap.size) (c0 c1 c2 c3 c4 : Value) (B : List Nat) (hu : VOwn w1 d (c0, c1, c2, c3, c4) l[k] B) (hB : ∀ b ∈ B, w.heap.size ≤ b ∧ b < w1.heap.size) (hBn : B.Nodup) :
    LPart (set5 w1 g (k * 5) c0 c1 c2 c3 c4) g n d l (k + 1) N := by
  obtain ⟨cur, Bi, h1, h2, h3, h4, h5, h6⟩ := h
  have hgw : g < w.heap.size := (Array.getElem?_eq_some_iff.1 h1).1
  have h1' : w1.heap[g]? = some (.cells cur 26 (0, 0)) := (b1.block g hgw).trans h1
  refine ⟨arrSet5 cur (k * 5) c0 c1 c2 c3 c4, Bi ++ [B], set5_heap c0 c1 c2 c3 c4 h1', by rw [arrSet5_size]; exact h2, by simp [h3], fun i hi hik => ?_, ?_, ?_⟩
  · by_cases he : i = k
    · subst he
      have e : (Bi ++ [B]).getD i [] = B := by simp [List.getD_eq_getElem?_getD, ← h3]
      rw [e]
      exact ⟨_, arrSet5_at cur (i * 5) c0 c1 c2 c3 c4 (by omega), VOwn.agree d hu fun b hb => set5_other w1 g _ _ _ _ _ _ b (by have := hB b hb; omega)⟩
    · have hi' : i < k := by omega
      obtain ⟨e5, hc5, hv⟩ := h4 i hi hi'
      have e : (Bi ++ [B]).getD i [] = Bi.getD i [] := by
        simp only [List.getD_eq_getElem?_getD]
        rw [List.getElem?_append_left (by omega)]
      rw [e]
      refine ⟨e5, ?_, VOwn.agree d (VOwn.agree d hv fun b hb => b1.block b (VOwn.lt d hv b hb)) fun b hb => set5_other w1 g _ _ _ _ _ _ b ?_⟩
      · obtain ⟨q0, q1, q2, q3, q4⟩ := hc5
        refine ⟨?_, ?_, ?_, ?_, ?_⟩ <;> rw [arrSet5_ne _ _ _ _ _ _ _ _ (by omega)] <;> assumption
      · have := h5 b (flatten_mem_getD (by omega) hb)
        omega
  · intro b hb
    rw [List.flatten_append, List.mem_append] at hb
    rw [set5_size]
    rcases hb with hb | hb
    · have := h5 b hb
      have := b1.size
      omega
    · have hb' : b ∈ B := by simpa using hb
      have := hB b hb'
      omega
  · rw [List.flatten_append, List.nodup_append]
    refine ⟨h6, by simpa using hBn, fun b hb c hc => ?_⟩
    have hc' : c ∈ B := by simpa using hc
    have := h5 b hb
    have := hB c hc'
    omega

theorem VOwn.nodup {w : World} (d : Nat) {c : Value × Value × Value × Value × Value} {v : Vl d} {B : List Nat} (h : VOwn w d c v B) : B.Nodup := by
  cases d with
  | zero => exact h.elim
  | succ d =>
    obtain ⟨_, _, _, _, _, _, _, _, _, hn⟩ := h
    exact hn

/-- Of what shape the cells of a value are. -/
theorem VOwn.form {w : World} (d : Nat) {c0 c1 c2 c3 c4 : Value} {v : Vl d} {B : List Nat} (h : VOwn w d (c0, c1, c2, c3, c4) v B) :
    ∃ (k n : Int) (a2 : Option Addr) (l2 p2 : Nat) (a3 : Option Addr) (l3 p3 : Nat) (a4 : Option Addr) (l4 p4 : Nat), c0 = .int .i64 k ∧ c1 = .int .i64 n ∧ c2 = .slice a2 l2 p2 ∧ c3 = .slice a3 l3 p3 ∧ c4 = .slice a4 l4 p4 := by
  cases d with
  | zero => exact h.elim
  | succ d =>
    obtain ⟨e0, e1, Bs, Bk, Bl, ht, hk, hl, _, _⟩ := h
    obtain ⟨a2, p2, e2, _⟩ := ht.1.shape
    have e3 : ∃ (a3 : Option Addr) (l3 p3 : Nat), c3 = .slice a3 l3 p3 := by
      rcases hk with ⟨h1, _⟩ | ⟨g, cap, cur, Bs, h1, _⟩
      · exact ⟨_, _, _, h1⟩
      · exact ⟨_, _, _, h1⟩
    have e4 : ∃ (a4 : Option Addr) (l4 p4 : Nat), c4 = .slice a4 l4 p4 := by
      rcases hl with ⟨h1, _⟩ | ⟨g, cap, cur, Bs, h1, _⟩
      · exact ⟨_, _, _, h1⟩
      · exact ⟨_, _, _, h1⟩
    obtain ⟨a3, l3, p3, e3⟩ := e3
    obtain ⟨a4, l4, p4, e4⟩ := e4
    exact ⟨_, _, _, _, _, _, _, _, _, _, _, e0, e1, e2, e3, e4⟩

set_option maxHeartbeats 1600000 in
theorem toValueS_of (d : Nat) (ih : ToAt d) (N : Nat) (x : Value) (l : List (Vl d)) (w : World) (hx : LSeg (fun b => b < N) w d x l) (hN : N ≤ w.heap.size) (hz : szL d l ≤ 1048576) :
    Calls Tryd.prog 39 #[x] w fun e w' => ∃ u, e = .returned u ∧ ∃ B, LOwn w' d u l B ∧ (∀ b ∈ B, w.heap.size ≤ b ∧ b < w'.heap.size) ∧ Below w.heap.size w w' := by
  obtain ⟨a, cap, rfl, hlc, hcm, ka, hc⟩ := hx
  unfold maxLen at hcm
  obtain ⟨i0, hi, hz0, hz1, hz2⟩ := info_parts infoV
  have hn : l.length ≤ 1048576 := by unfold szL at hz; omega
  have HC : Hid (l = [] ∨ ∃ b off, a = some ⟨b, off, none⟩ ∧ b < N ∧ ∀ i (h : i < l.length), ∃ e, Five w b (off + i * 5) e ∧ VSeg (fun b => b < N) w d e (l[i])) := hc
  have HI : Hid (ToAt d) := ih
  have HZ : Hid (szL d l ≤ 1048576) := hz
  clear hc ih hz
  go_enter Tryd.func39, Tryd.ntmps39
  go_wp2_with (refine wpList_make_full _ rfl _ _ 24 rfl w.heap.size 26 i0 (.agg #[.int .i64 0, .int .i64 0, .slice none 0 0, .slice none 0 0, .slice none 0 0]) 5 Tryd.underlying24 hi hz0 hz1 .i64 .i64 _ _ l.length rfl rfl rfl rfl (by rw [hz2]; omega) (by unfold maxLen; omega) (Nat.le_refl _) ?_; intro w1 hown hgrow)
  have hK0 : LPart w1 w.heap.size l.length d l 0 (w.heap.size + 1) := by
    rcases hown.2 with ⟨h1, _⟩ | ⟨g, cp, cur, h1, _, h3, _, _, h6, _⟩
    · simp at h1
    · simp only [Value.slice.injEq, Option.some.injEq, Addr.mk.injEq, and_true, true_and] at h1
      obtain ⟨e1, e2⟩ := h1
      subst e1
      exact ⟨cur, [], h3, by omega, rfl, by intro i _ h; omega, by simp, by simp⟩
  have hb1 : Below w.heap.size w w1 := (Below.refl _ _).grown hgrow (Nat.le_refl _) (by simp)
  clear hown hgrow
  go_loopw [4] (fun i wr => ∃ k : Nat, k ≤ l.length ∧ i = .int .i64 k ∧ LPart wr w.heap.size l.length d l k (w.heap.size + 1) ∧ Below w.heap.size w wr) (fun i _ => l.length - (intOf i).toNat)
  case atStart => exact ⟨0, Nat.zero_le _, rfl, hK0, hb1⟩
  case round =>
    obtain ⟨k, hk, rfl, hK, hbel⟩ := hrel
    clear hK0 hb1
    by_cases hlt : k < l.length
    · have hlt' : (k : Int) < (l.length : Int) := by omega
      have hcell : ∃ b off e, a = some ⟨b, off, none⟩ ∧ Five wr b (off + k * 5) e ∧ VSeg (fun b => b < N) wr d e (l[k]) := by
        rcases HC.out with e | ⟨b, off, e, hb, hc⟩
        · rw [e] at hlt; simp at hlt
        · obtain ⟨c, h5, hv⟩ := hc k hlt
          have ag : Agree (fun b => b < N) w wr := agree_below (hbel.mono hN)
          exact ⟨b, off, c, e, h5.agree ag hb, VSeg.agree ag d hv⟩
      obtain ⟨b, off, c, rfl, h5, hv⟩ := hcell
      obtain ⟨e0, e1, e2, e3, e4⟩ := c
      obtain ⟨q0, q1, q2, q3, q4⟩ := h5
      simp only at q0 q1 q2 q3 q4
      have HV : Hid (VSeg (fun b => b < N) wr d (e0, e1, e2, e3, e4) l[k]) := hv
      clear hv
      have hzk : Hid (szV d l[k] ≤ 1048576) := Nat.le_trans (sz_elem hlt) HZ.out
      have hgw : w.heap.size < wr.heap.size := by
        obtain ⟨cur, Bs, h1, _⟩ := hK
        exact (Array.getElem?_eq_some_iff.1 h1).1
      go_wp2_with fail
      refine (HI.out N (e0, e1, e2, e3, e4) l[k] wr HV.out (by omega) hzk.out).mono ?_
      rintro e w2 ⟨c0, c1, c2, c3, c4, rfl, B, hB2, hBb, b2⟩
      clear q0 q1 q2 q3 q4 HV
      obtain ⟨ck, cn, s2, l2, p2, s3, l3, p3, s4, l4, p4, rfl, rfl, rfl, rfl, rfl⟩ := VOwn.form d hB2
      have hcells : ∃ cur : Array Value, w2.heap[w.heap.size]? = some (.cells cur 26 (0, 0)) ∧ cur.size = l.length * 5 := by
        obtain ⟨cur, Bs, h1, h2, _⟩ := hK
        exact ⟨cur, (b2.block _ hgw).trans h1, h2⟩
      obtain ⟨cur, hcur, hcs⟩ := hcells
      have hx : ∀ j, j < l.length * 5 → ∃ x, w2.cell? ⟨w.heap.size, j, none⟩ = some x := by
        intro j hj
        rw [cell_of_row w2 _ j cur _ (0, 0) hcur]
        exact ⟨_, Array.getElem?_eq_getElem (by omega)⟩
      have hf : ∀ j, w2.frozen? ⟨w.heap.size, j, none⟩ = false := fun j => frozen_of_row w2 _ j cur _ hcur
      obtain ⟨x0, hx0⟩ := hx (k * 5) (by omega)
      obtain ⟨x1, hx1⟩ := hx (k * 5 + 1) (by omega)
      obtain ⟨x2, hx2⟩ := hx (k * 5 + 2) (by omega)
      obtain ⟨x3, hx3⟩ := hx (k * 5 + 3) (by omega)
      obtain ⟨x4, hx4⟩ := hx (k * 5 + 4) (by omega)
      have f0 := hf (k * 5)
      have f1 := hf (k * 5 + 1)
      have f2 := hf (k * 5 + 2)
      have f3 := hf (k * 5 + 3)
      have f4 := hf (k * 5 + 4)
      have hL := lPart_next hK (by omega) hlt hlt b2 (by omega) _ _ _ _ _ B hB2 hBb (VOwn.nodup d hB2)
      have hb2 := Below.on hbel b2
      have hb3 := hb2.grown (set5_grown w2 w.heap.size (k * 5) (.int .i64 ck) (.int .i64 cn) (.slice s2 l2 p2) (.slice s3 l3 p3) (.slice s4 l4 p4)) hb2.size (by intro j hj; simp at hj; omega)
      have HL : Hid (LPart (set5 w2 w.heap.size (k * 5) (.int .i64 ck) (.int .i64 cn) (.slice s2 l2 p2) (.slice s3 l3 p3) (.slice s4 l4 p4)) w.heap.size l.length d l (k + 1) (w.heap.size + 1)) := hL
      have HB : Hid (Below w.heap.size w (set5 w2 w.heap.size (k * 5) (.int .i64 ck) (.int .i64 cn) (.slice s2 l2 p2) (.slice s3 l3 p3) (.slice s4 l4 p4))) := hb3
      clear hx hf hcur hL hb2 hb3 hK hB2
      go_wp2
      go_roundw
      case rel => exact ⟨k + 1, by omega, by go_num, HL.out, HB.out⟩
      case measure => simp [intOf]; omega
    · have hkn : k = l.length := by omega
      have hkn' : ¬ (k : Int) < (l.length : Int) := by omega
      rw [hkn] at hK
      clear hkn
      go_wp2
      go_ret
      obtain ⟨cur, Bi, h1, h2, h3, h4, h5, h6⟩ := hK
      have hgw := (Array.getElem?_eq_some_iff.1 h1).1
      refine ⟨_, rfl, w.heap.size :: Bi.flatten, .inr ⟨w.heap.size, l.length, cur, Bi, rfl, h1, Nat.le_refl _, by unfold maxLen; omega, h2, h3, fun i h => h4 i h h, rfl, ?_⟩, ?_, hbel⟩
      · rw [List.nodup_cons]
        exact ⟨fun hm => by have := h5 _ hm; omega, h6⟩
      · intro b hb
        rcases List.mem_cons.1 hb with rfl | hb
        · exact ⟨Nat.le_refl _, hgw⟩
        · have := h5 b hb
          omega

/-- The cells of a block of five that is known. -/
theorem row5 {w : World} {g : Nat} {T : TypeId} {c0 c1 c2 c3 c4 : Value} (h : w.heap[g]? = some (.cells #[c0, c1, c2, c3, c4] T (0, 0))) :
    w.cell? ⟨g, 0, none⟩ = some c0 ∧ w.cell? ⟨g, 1, none⟩ = some c1 ∧ w.cell? ⟨g, 2, none⟩ = some c2 ∧ w.cell? ⟨g, 3, none⟩ = some c3 ∧ w.cell? ⟨g, 4, none⟩ = some c4 ∧ ∀ j, w.frozen? ⟨g, j, none⟩ = false := by
  refine ⟨?_, ?_, ?_, ?_, ?_, fun j => frozen_of_row w g j _ T h⟩ <;> rw [cell_of_row w g _ _ T (0, 0) h] <;> rfl

/-- What toValue's three blocks hold while it goes. -/
def St (w : World) (X : Array Value) (vk vn : Int) (wx : World) (cS cK cL : Value) : Prop :=
  Below w.heap.size w wx ∧ wx.heap[w.heap.size]? = some (.cells X 39 (0, 0)) ∧ wx.heap[w.heap.size + 1]? = some (.cells #[.int .i64 0, .int .i64 0, .slice none 0 0, .slice none 0 0, .slice none 0 0] 26 (0, 0)) ∧
    wx.heap[w.heap.size + 1 + 1]? = some (.cells #[.int .i64 vk, .int .i64 vn, cS, cK, cL] 26 (0, 0)) ∧ w.heap.size + 3 ≤ wx.heap.size

theorem st_below {w : World} {X : Array Value} {vk vn : Int} {wx wy : World} {cS cK cL : Value} (h : St w X vk vn wx cS cK cL) (hb : Below wx.heap.size wx wy) : St w X vk vn wy cS cK cL := by
  obtain ⟨h0, h1, h2, h3, h4⟩ := h
  have := hb.size
  exact ⟨Below.on h0 hb, (hb.block _ (by omega)).trans h1, (hb.block _ (by omega)).trans h2, (hb.block _ (by omega)).trans h3, by omega⟩

theorem st_set {w : World} {X : Array Value} {vk vn : Int} {wx : World} {cS cK cL : Value} (h : St w X vk vn wx cS cK cL) (j : Nat) (u dS dK dL : Value) (hj : (#[.int .i64 vk, .int .i64 vn, cS, cK, cL] : Array Value).setIfInBounds j u = #[.int .i64 vk, .int .i64 vn, dS, dK, dL]) : St w X vk vn (wx.setCell ⟨w.heap.size + 1 + 1, j, none⟩ u) dS dK dL := by
  obtain ⟨h0, h1, h2, h3, h4⟩ := h
  refine ⟨h0.setCell (p := ⟨w.heap.size + 1 + 1, j, none⟩) (by show w.heap.size ≤ w.heap.size + 1 + 1; omega) u, (Below.heap_setCell wx _ u _ (by show w.heap.size ≠ w.heap.size + 1 + 1; omega)).trans h1, (Below.heap_setCell wx _ u _ (by show w.heap.size + 1 ≠ w.heap.size + 1 + 1; omega)).trans h2, ?_, by simp [World.setCell]; omega⟩
  rw [← hj]
  exact heap_setCell_same wx _ j _ _ u h3

theorem st_start (w : World) (X : Array Value) (vk vn : Int) (Z Y : Array Value) (hZ : Z = #[.int .i64 0, .int .i64 0, .slice none 0 0, .slice none 0 0, .slice none 0 0]) (hY : Y = #[.int .i64 vk, .int .i64 vn, .slice none 0 0, .slice none 0 0, .slice none 0 0]) :
    St w X vk vn (((w.alloc (.cells X 39)).alloc (.cells Z 26)).alloc (.cells Y 26)) (.slice none 0 0) (.slice none 0 0) (.slice none 0 0) := by
  subst hZ
  subst hY
  have z1 : (w.alloc (.cells X 39)).heap.size = w.heap.size + 1 := by simp
  have z2 : ((w.alloc (.cells X 39)).alloc (.cells #[.int .i64 0, .int .i64 0, .slice none 0 0, .slice none 0 0, .slice none 0 0] 26)).heap.size = w.heap.size + 1 + 1 := by simp
  refine ⟨(((Below.refl _ _).alloc (Nat.le_refl _) _).alloc (by simp) _).alloc (by simp; omega) _, ?_, ?_, ?_, by simp⟩
  · rw [Below.heap_alloc _ _ _ (by rw [z2]; omega), Below.heap_alloc _ _ _ (by rw [z1]; omega)]
    exact heap_alloc_new w _
  · rw [Below.heap_alloc _ _ _ (by rw [z2]; omega), ← z1]
    exact heap_alloc_new _ _
  · rw [← z2]
    exact heap_alloc_new _ _

end Go.Proofs.YtfokidhamjphfaaDoor
