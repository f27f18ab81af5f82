/-
  Texts that a law leans on, one behind the other; no statement is proved here.
-/
import Derived.Test.YteiahjknlcmloaaPk5
import Derived.Deep.RegionWith
import Derived.Test.YteiahjknlcmloaaPk4
/-
  toStep, toStepS of the laws: they make a path of their own that holds what their argument holds.
-/
namespace Go.Proofs.Yteiahjknlcmloaa
open Go.RowKit
set_option linter.unusedVariables false

theorem infoP : (Try.prog.info? 97).map (fun i => (i.zero, i.size, i.bytes)) = some (some (.agg #[.int .i64 0, .slice none 0 0, .int .i64 0]), 3, 40) := by kernel_rfl

/-- The cells of a block of three that is known. -/
theorem row3 {w : World} {g : Nat} {T : TypeId} {c0 c1 c2 : Value} (h : w.heap[g]? = some (.cells #[c0, c1, c2] T (0, 0))) :
    w.cell? ⟨g, 0, none⟩ = some c0 ∧ w.cell? ⟨g, 1, none⟩ = some c1 ∧ w.cell? ⟨g, 2, none⟩ = some c2 ∧ ∀ j, w.frozen? ⟨g, j, none⟩ = false := by
  refine ⟨?_, ?_, ?_, fun j => frozen_of_row w g j _ T h⟩ <;> rw [cell_of_row w g _ _ T (0, 0) h] <;> rfl

/-- Three blocks, one behind the other. -/
theorem three_boxes (w : World) (o1 o2 o3 : Obj) : (((w.alloc o1).alloc o2).alloc o3).heap[w.heap.size]? = some o1 ∧ (((w.alloc o1).alloc o2).alloc o3).heap[w.heap.size + 1]? = some o2 ∧ (((w.alloc o1).alloc o2).alloc o3).heap[w.heap.size + 1 + 1]? = some o3 ∧ (((w.alloc o1).alloc o2).alloc o3).heap.size = w.heap.size + 3 ∧ Below w.heap.size w (((w.alloc o1).alloc o2).alloc o3) := by
  obtain ⟨h1, h2⟩ := two_boxes w o1 o2
  have z2 := size2 w o1 o2
  have hb : Below ((w.alloc o1).alloc o2).heap.size ((w.alloc o1).alloc o2) (((w.alloc o1).alloc o2).alloc o3) := (Below.refl _ _).alloc (Nat.le_refl _) o3
  refine ⟨(hb.block _ (by omega)).trans h1, (hb.block _ (by omega)).trans h2, ?_, by simp, ((((Below.refl _ _).alloc (Nat.le_refl _) o1).alloc (by simp) o2).alloc (by simp; omega) o3)⟩
  have h := (MapKept.heap_alloc ((w.alloc o1).alloc o2) o3).1
  rw [z2] at h
  exact h

set_option maxHeartbeats 1600000 in
theorem toStep_any (N : Nat) (c0 c1 c2 : Value) (s : Stp) (w : World) (hs : StSeg (fun b => b < N) w (c0, c1, c2) s) (hN : N ≤ w.heap.size) (hz : s.2.1.length ≤ 1048576) :
    Calls Try.prog 72 #[.agg #[c0, c1, c2]] w fun e w' => ∃ d0 d1 d2, e = .returned (.agg #[d0, d1, d2]) ∧ ∃ B, StOwn w' (d0, d1, d2) s B ∧ (∀ b ∈ B, w.heap.size ≤ b ∧ b < w'.heap.size) ∧ B.Nodup ∧ Below w.heap.size w w' := by
  obtain ⟨sk, ss, si⟩ := s
  obtain ⟨e0, ht, e2⟩ := hs
  simp only at e0 ht e2 hz
  subst e0
  subst e2
  have Ht : Hid (∀ w' : World, Below w.heap.size w w' → TSeg (fun b => b < N) w' c1 ss) := fun w' h => ht.agree (agree_below (h.mono hN))
  obtain ⟨a2, cp2, rfl, s2, hl2, hm2, _, _⟩ := ht
  have H3 := hide' (three_boxes w (.cells #[.int .i64 sk, .slice a2 ss.length cp2, .int .i64 si] 94) (.cells #[.int .i64 0, .slice none 0 0, .int .i64 0] 97) (.cells #[.int .i64 sk, .slice none 0 0, .int .i64 0] 97))
  clear s2
  go_enter Try.func72, Try.ntmps72
  go_wp2_with fail
  obtain ⟨hr1, hr2, hr3, hsz, hb0⟩ := H3.out
  generalize ((w.alloc (.cells #[.int .i64 sk, .slice a2 ss.length cp2, .int .i64 si] 94)).alloc (.cells #[.int .i64 0, .slice none 0 0, .int .i64 0] 97)).alloc (.cells #[.int .i64 sk, .slice none 0 0, .int .i64 0] 97) = w0 at *
  obtain ⟨a2', cp2', e2, sT, _⟩ := Ht.out _ hb0
  simp only [Value.slice.injEq, true_and] at e2
  obtain ⟨rfl, rfl⟩ := e2
  refine (toByteS_any _ _ ss _ sT (by omega)).mono ?_
  rintro e w1 ⟨rfl, hB1, b1⟩
  have hT1 := tOwn_new hB1
  have hz1 := b1.size
  obtain ⟨x0, x1, x2, _⟩ := row3 ((b1.block _ (by omega)).trans hr1)
  have hr2' := (b1.block _ (by omega)).trans hr2
  have hr3' := (b1.block _ (by omega)).trans hr3
  obtain ⟨y0, y1, y2, yf⟩ := row3 hr2'
  obtain ⟨z0, z1, z2, zf⟩ := row3 hr3'
  have zf1 := zf 1
  have zf2 := zf 2
  have yf0 := yf 0
  have yf1 := yf 1
  have yf2 := yf 2
  have hlt1 := hT1.lt w0.heap.size (by simp)
  have B1 := Below.on hb0 b1
  have hgS : w.heap.size + 3 ≤ w0.heap.size := by omega
  clear hsz b1 hB1 sT
  generalize w0.heap.size = gS at *
  have hrow : (set3 ((w1.setCell ⟨w.heap.size + 1 + 1, 1, none⟩ (.slice (some ⟨gS, 0, none⟩) ss.length ss.length)).setCell ⟨w.heap.size + 1 + 1, 2, none⟩ (.int .i64 si)) (w.heap.size + 1) 0 (.int .i64 sk) (.slice (some ⟨gS, 0, none⟩) ss.length ss.length) (.int .i64 si)).heap[w.heap.size + 1]? = some (.cells #[.int .i64 sk, .slice (some ⟨gS, 0, none⟩) ss.length ss.length, .int .i64 si] 97 (0, 0)) :=
    set3_heap _ _ _ ((Below.heap_setCell _ _ _ _ (by show w.heap.size + 1 ≠ w.heap.size + 1 + 1; omega)).trans ((Below.heap_setCell w1 _ _ _ (by show w.heap.size + 1 ≠ w.heap.size + 1 + 1; omega)).trans hr2'))
  have hk3 := row3 hrow
  simp only [set3, Nat.zero_add] at hk3
  have Hk3 := hide' hk3
  have HT1 := hide' hT1
  clear hrow hk3 hT1 hr1 hr2 hr3 hr2' hr3' zf yf H3
  go_wp2_with fail
  obtain ⟨u0, u1, u2, _⟩ := Hk3.out
  refine bodyPost_ret (v := .agg #[.int .i64 sk, .slice (some ⟨gS, 0, none⟩) ss.length ss.length, .int .i64 si]) (by simp [results, Try.results72, go_sem, u0, u1, u2]) rfl ?_
  have g1 := grown1 w1 (w.heap.size + 1 + 1) 1 (.slice (some ⟨gS, 0, none⟩) ss.length ss.length)
  have g2 := grown1 (w1.setCell ⟨w.heap.size + 1 + 1, 1, none⟩ (.slice (some ⟨gS, 0, none⟩) ss.length ss.length)) (w.heap.size + 1 + 1) 2 (.int .i64 si)
  have gA := grownBy_trans g1 g2
  have gB := set3_grown ((w1.setCell ⟨w.heap.size + 1 + 1, 1, none⟩ (.slice (some ⟨gS, 0, none⟩) ss.length ss.length)).setCell ⟨w.heap.size + 1 + 1, 2, none⟩ (.int .i64 si)) (w.heap.size + 1) 0 (.int .i64 sk) (.slice (some ⟨gS, 0, none⟩) ss.length ss.length) (.int .i64 si)
  have hs2 : ((w1.setCell ⟨w.heap.size + 1 + 1, 1, none⟩ (.slice (some ⟨gS, 0, none⟩) ss.length ss.length)).setCell ⟨w.heap.size + 1 + 1, 2, none⟩ (.int .i64 si)).heap.size = w1.heap.size := by simp [World.setCell]
  have hs3 := set3_size ((w1.setCell ⟨w.heap.size + 1 + 1, 1, none⟩ (.slice (some ⟨gS, 0, none⟩) ss.length ss.length)).setCell ⟨w.heap.size + 1 + 1, 2, none⟩ (.int .i64 si)) (w.heap.size + 1) 0 (.int .i64 sk) (.slice (some ⟨gS, 0, none⟩) ss.length ss.length) (.int .i64 si)
  have hBf : Below w.heap.size w (set3 ((w1.setCell ⟨w.heap.size + 1 + 1, 1, none⟩ (.slice (some ⟨gS, 0, none⟩) ss.length ss.length)).setCell ⟨w.heap.size + 1 + 1, 2, none⟩ (.int .i64 si)) (w.heap.size + 1) 0 (.int .i64 sk) (.slice (some ⟨gS, 0, none⟩) ss.length ss.length) (.int .i64 si)) :=
    (B1.grown gA B1.size (by intro j hj; simp at hj; omega)).grown gB (by omega) (by intro j hj; simp at hj; omega)
  refine ⟨_, _, _, rfl, [gS], ⟨rfl, HT1.out.agree fun b hb => ?_, rfl⟩, ?_, by simp, hBf⟩
  · simp at hb
    subst hb
    refine (gB.block _ (by omega) (by simp; omega)).trans (gA.block _ hlt1 (by simp; omega))
  · intro b hb
    rw [List.mem_singleton] at hb
    rw [hb]
    show _ ∧ _ < (set3 ((w1.setCell ⟨w.heap.size + 1 + 1, 1, none⟩ (.slice (some ⟨gS, 0, none⟩) ss.length ss.length)).setCell ⟨w.heap.size + 1 + 1, 2, none⟩ (.int .i64 si)) (w.heap.size + 1) 0 (.int .i64 sk) (.slice (some ⟨gS, 0, none⟩) ss.length ss.length) (.int .i64 si)).heap.size
    rw [hs3, hs2]
    omega

theorem StOwn.form {w : World} {c0 c1 c2 : Value} {s : Stp} {B : List Nat} (h : StOwn w (c0, c1, c2) s B) : ∃ (k i : Int) (a : Option Addr) (n p : Nat), c0 = .int .i64 k ∧ c1 = .slice a n p ∧ c2 = .int .i64 i := by
  obtain ⟨e0, ht, e2⟩ := h
  obtain ⟨a2, p2, e1, _⟩ := ht.1.shape
  exact ⟨_, _, _, _, _, e0, e1, e2⟩

set_option maxHeartbeats 1600000 in
theorem toStepS_any (N : Nat) (x : Value) (l : List Stp) (w : World) (hx : PthSeg (fun b => b < N) w x l) (hN : N ≤ w.heap.size) (hz : szP l ≤ 1048576) :
    Calls Try.prog 37 #[x] w fun e w' => ∃ u, e = .returned u ∧ ∃ B, PthOwn w' u l B ∧ (∀ b ∈ B, w.heap.size ≤ b ∧ b < w'.heap.size) ∧ Below w.heap.size w w' := by
  have HC := hide' hx
  obtain ⟨a, cap, rfl, hlc, hcm, ka, hc⟩ := hx
  unfold maxLen at hcm
  obtain ⟨i0, hi, hz0, hz1, hz2⟩ := info_parts infoP
  have hn : l.length ≤ 1048576 := by unfold szP at hz; omega
  have HZ := hide' hz
  clear hc hz
  go_enter Try.func37, Try.ntmps37
  go_wp2_with (refine wpList_make_full _ rfl _ _ 56 rfl w.heap.size 97 i0 (.agg #[.int .i64 0, .slice none 0 0, .int .i64 0]) 3 Try.underlying56 hi hz0 hz1 .i64 .i64 _ _ l.length rfl rfl rfl rfl (by rw [hz2]; omega) (by unfold maxLen; omega) (Nat.le_refl _) ?_; intro w1 hown hgrow)
  have hK0 : PPart w1 w.heap.size l.length l 0 (w.heap.size + 1) := by
    rcases hown.2 with ⟨h1, _⟩ | ⟨g, cp, cur, h1, _, h3, _, _, h6, _⟩
    · simp at h1
    · simp only [Value.slice.injEq, Option.some.injEq, Addr.mk.injEq, and_true, true_and] at h1
      obtain ⟨e1, e2⟩ := h1
      subst e1
      exact ⟨cur, [], h3, by omega, rfl, by intro i _ h; omega, by simp, by simp⟩
  have hb1 : Below w.heap.size w w1 := (Below.refl _ _).grown hgrow (Nat.le_refl _) (by simp)
  clear hown hgrow
  go_loopw [4] (fun i wr => ∃ k : Nat, k ≤ l.length ∧ i = .int .i64 k ∧ PPart wr w.heap.size l.length l k (w.heap.size + 1) ∧ Below w.heap.size w wr) (fun i _ => l.length - (intOf i).toNat)
  case atStart => exact ⟨0, Nat.zero_le _, rfl, hK0, hb1⟩
  case round =>
    obtain ⟨k, hk, rfl, hK, hbel⟩ := hrel
    clear hK0 hb1
    by_cases hlt : k < l.length
    · have hlt' : (k : Int) < (l.length : Int) := by omega
      obtain ⟨b, off, e0, e1, e2, rfl, _, h3, hv⟩ := (HC.out.agree (agree_below (hbel.mono hN))).at hlt
      obtain ⟨q0, q1, q2⟩ := h3
      simp only at q0 q1 q2
      have HV := hide' hv
      clear hv
      have hzk := hide' (Nat.le_trans (szP_elem hlt) HZ.out)
      have hgw : w.heap.size < wr.heap.size := by
        obtain ⟨cur, Bs, h1, _⟩ := hK
        exact (Array.getElem?_eq_some_iff.1 h1).1
      go_wp2_with fail
      refine (toStep_any N e0 e1 e2 l[k] wr HV.out (by omega) hzk.out).mono ?_
      rintro e w2 ⟨c0, c1, c2, rfl, B, hB2, hBb, hBn, b2⟩
      clear q0 q1 q2 HV
      obtain ⟨ck, ci, s2, l2, p2, rfl, rfl, rfl⟩ := hB2.form
      have hcells : ∃ cur : Array Value, w2.heap[w.heap.size]? = some (.cells cur 97 (0, 0)) ∧ cur.size = l.length * 3 := by
        obtain ⟨cur, Bs, h1, h2, _⟩ := hK
        exact ⟨cur, (b2.block _ hgw).trans h1, h2⟩
      obtain ⟨cur, hcur, hcs⟩ := hcells
      have hx : ∀ j, j < l.length * 3 → ∃ x, w2.cell? ⟨w.heap.size, j, none⟩ = some x := by
        intro j hj
        rw [cell_of_row w2 _ j cur _ (0, 0) hcur]
        exact ⟨_, Array.getElem?_eq_getElem (by omega)⟩
      have hf : ∀ j, w2.frozen? ⟨w.heap.size, j, none⟩ = false := fun j => frozen_of_row w2 _ j cur _ hcur
      obtain ⟨x0, hx0⟩ := hx (k * 3) (by omega)
      obtain ⟨x1, hx1⟩ := hx (k * 3 + 1) (by omega)
      obtain ⟨x2, hx2⟩ := hx (k * 3 + 2) (by omega)
      have f0 := hf (k * 3)
      have f1 := hf (k * 3 + 1)
      have f2 := hf (k * 3 + 2)
      have hL := pPart_next hK (by omega) hlt hlt b2 (by omega) _ _ _ B hB2 hBb hBn
      have hb2 := Below.on hbel b2
      have hb3 := hb2.grown (set3_grown w2 w.heap.size (k * 3) (.int .i64 ck) (.slice s2 l2 p2) (.int .i64 ci)) hb2.size (by intro j hj; simp at hj; omega)
      have HL := hide' hL
      have HB := hide' hb3
      clear hx hf hcur hL hb2 hb3 hK hB2
      go_wp2
      go_roundw
      case rel => exact ⟨k + 1, by omega, by go_num, HL.out, HB.out⟩
      case measure => simp [intOf]; omega
    · have hkn : k = l.length := by omega
      have hkn' : ¬ (k : Int) < (l.length : Int) := by omega
      rw [hkn] at hK
      clear hkn
      go_wp2
      go_ret
      obtain ⟨cur, Bi, h1, h2, h3, h4, h5, h6⟩ := hK
      have hgw := (Array.getElem?_eq_some_iff.1 h1).1
      refine ⟨_, rfl, w.heap.size :: Bi.flatten, ⟨w.heap.size, l.length, cur, Bi, rfl, h1, Nat.le_refl _, by unfold maxLen; omega, h2, h3, fun i h => h4 i h h, rfl, ?_⟩, ?_, hbel⟩
      · rw [List.nodup_cons]
        exact ⟨fun hm => by have := h5 _ hm; omega, h6⟩
      · intro b hb
        rcases List.mem_cons.1 hb with rfl | hb
        · exact ⟨Nat.le_refl _, hgw⟩
        · have := h5 b hb
          omega
end Go.Proofs.Yteiahjknlcmloaa
/-
  eqStep, eqStepS of the laws: of two readings of the same path they answer true, and turn nothing old.
-/
namespace Go.Proofs.Yteiahjknlcmloaa
open Go.RowKit
set_option linter.unusedVariables false

set_option maxHeartbeats 1600000 in
theorem eqStep_same (N : Nat) (c0 c1 c2 e0 e1 e2 : Value) (s : Stp) (w : World) (h : StSeg (fun b => b < N) w (c0, c1, c2) s) (h' : StSeg (fun b => b < N) w (e0, e1, e2) s) (hN : N ≤ w.heap.size) (hz : s.2.1.length ≤ 1048576) :
    Calls Try.prog 75 #[.agg #[c0, c1, c2], .agg #[e0, e1, e2]] w fun e w' => e = .returned (.bool true) ∧ Below w.heap.size w w' := by
  obtain ⟨sk, ss, si⟩ := s
  obtain ⟨g0, ht, g2⟩ := h
  obtain ⟨f0, ht', f2⟩ := h'
  simp only at g0 ht g2 f0 ht' f2 hz
  subst g0
  subst g2
  subst f0
  subst f2
  have Ht : Hid (∀ wx, Below w.heap.size w wx → TSeg (fun b => b < N) wx c1 ss ∧ TSeg (fun b => b < N) wx e1 ss) := fun wx hb => ⟨ht.agree (agree_below (hb.mono hN)), ht'.agree (agree_below (hb.mono hN))⟩
  have Hb : Hid (∀ o o' : Obj, Below w.heap.size w ((w.alloc o).alloc o')) := fun o o' => ((Below.refl _ _).alloc (Nat.le_refl _) o).alloc (by simp) o'
  obtain ⟨a2, cp2, rfl, s2, hl2, hm2, _, _⟩ := ht
  obtain ⟨a2', cp2', rfl, s2', hl2', hm2', _, _⟩ := ht'
  have Hs : Hid (∀ wx, Below w.heap.size w wx → Seg wx a2 ss ∧ Seg wx a2' ss) := by
    intro wx hb
    obtain ⟨x1, x2⟩ := Ht.out wx hb
    obtain ⟨_, _, y1, y2, _⟩ := x1
    obtain ⟨_, _, z1, z2, _⟩ := x2
    simp at y1 z1
    exact ⟨y1.1 ▸ y2, z1.1 ▸ z2⟩
  clear Ht s2 s2'
  have R1 := hide' (two_boxes w (.cells #[.int .i64 sk, .slice a2 ss.length cp2, .int .i64 si] 97) (.cells #[.int .i64 sk, .slice a2' ss.length cp2', .int .i64 si] 97))
  go_enter Try.func75, Try.ntmps75
  go_wp2_with fail
  have q1 := Hb.out (.cells #[.int .i64 sk, .slice a2 ss.length cp2, .int .i64 si] 97) (.cells #[.int .i64 sk, .slice a2' ss.length cp2', .int .i64 si] 97)
  refine (eqByteS_same _ _ _ _ ss _ (Hs.out _ q1).1 (Hs.out _ q1).2 (by omega)).mono ?_
  rintro e w1 ⟨rfl, b1⟩
  have B1 := Below.on q1 b1
  obtain ⟨_, _, x2, _⟩ := row3 ((b1.block _ (by rw [size2]; omega)).trans R1.out.1)
  obtain ⟨_, _, y2, _⟩ := row3 ((b1.block _ (by rw [size2]; omega)).trans R1.out.2)
  clear q1 b1 Hs
  go_wp2
  go_ret
  exact ⟨rfl, B1⟩

set_option maxHeartbeats 1600000 in
theorem eqStepS_same (N : Nat) (x y : Value) (l : List Stp) (w : World) (hx : PthSeg (fun b => b < N) w x l) (hy : PthSeg (fun b => b < N) w y l) (hN : N ≤ w.heap.size) (hz : szP l ≤ 1048576) :
    Calls Try.prog 39 #[x, y] w fun e w' => e = .returned (.bool true) ∧ Below w.heap.size w w' := by
  have HC := hide' hx
  have HC' := hide' hy
  obtain ⟨a, cap, rfl, hlc, hcm, ka, hc⟩ := hx
  obtain ⟨a', cap', rfl, hlc', hcm', ka', hc'⟩ := hy
  have hn : l.length ≤ 1048576 := by unfold szP at hz; omega
  have HZ := hide' hz
  clear hc hc' hz
  unfold maxLen at hcm hcm'
  go_enter Try.func39, Try.ntmps39
  go_wp2
  go_loopw [5] (fun i wr => ∃ k : Nat, k ≤ l.length ∧ i = .int .i64 k ∧ Below w.heap.size w wr) (fun i _ => l.length - (intOf i).toNat)
  case atStart => exact ⟨0, Nat.zero_le _, rfl, Below.refl _ _⟩
  case round =>
    obtain ⟨k, hk, rfl, hbel⟩ := hrel
    have hsz2 := hbel.size
    by_cases hlt : k < l.length
    · obtain ⟨b, off, c0, c1, c2, rfl, _, h3, hv⟩ := (HC.out.agree (agree_below (hbel.mono hN))).at hlt
      obtain ⟨b', off', e0, e1, e2, rfl, _, h3', hv'⟩ := (HC'.out.agree (agree_below (hbel.mono hN))).at hlt
      obtain ⟨q0, q1, q2⟩ := h3
      obtain ⟨r0, r1, r2⟩ := h3'
      simp only at q0 q1 q2 r0 r1 r2
      have hlt' : (k : Int) < (l.length : Int) := by omega
      have hzk := Nat.le_trans (szP_elem hlt) HZ.out
      have hE := hide' (eqStep_same N c0 c1 c2 e0 e1 e2 l[k] wr.drew (hv.agree (w' := wr.drew) (fun b _ => rfl)) (hv'.agree (w' := wr.drew) (fun b _ => rfl)) (by show N ≤ wr.heap.size; omega) hzk)
      clear hv hv' hzk
      go_wp2_with fail
      go_region_with (go_at_call 75; refine hE.out.mono ?_; rintro e w1 ⟨rfl, b1⟩)
      all_goals
        have B1 : Below w.heap.size w w1 := Below.on hbel.drew b1
        clear q0 q1 q2 r0 r1 r2
        go_wp2
        go_roundw
        case rel => exact ⟨k + 1, by omega, by go_num, B1⟩
        case measure => simp [intOf]; omega
    · have hlt' : ¬ (k : Int) < (l.length : Int) := by omega
      go_wp2
      go_ret
      exact ⟨rfl, hbel⟩
end Go.Proofs.Yteiahjknlcmloaa
/-
  bare of the program: it tells whether all fields are nought that a kind does not have.
-/
namespace Go.Proofs.Yteiahjknlcmloaa
open Go.RowKit
set_option linter.unusedVariables false
set_option linter.unusedSimpArgs false

/-- All fields are nought that the kind does not have. -/
def bareB (vk vn : Int) (n2 n3 n4 : Nat) : Bool := (decide (vk = 1) || decide (vk = 2) || decide (vn = 0)) && (decide (vk = 3) || decide (n2 = 0)) && (decide (vk = 5) || decide (n3 = 0)) && (decide (vk = 4) || decide (vk = 5) || decide (n4 = 0))

set_option maxHeartbeats 4000000 in
theorem impl_bare_any (vk vn : Int) (a2 a3 a4 : Option Addr) (n2 n3 n4 p2 p3 p4 : Nat) (w : World) :
    Calls Try.prog 96 #[.agg #[.int .i64 vk, .int .i64 vn, .slice a2 n2 p2, .slice a3 n3 p3, .slice a4 n4 p4]] w fun e w' => e = .returned (.bool (bareB vk vn n2 n3 n4)) ∧ Below w.heap.size w w' := by
  have Hb : Hid (∀ o : Obj, Below w.heap.size w (w.alloc o)) := fun o => (Below.refl _ _).alloc (Nat.le_refl _) o
  by_cases k1 : vk = 1
  · subst k1
    by_cases an2 : n2 = 0
    · subst an2
      by_cases an3 : n3 = 0
      · subst an3
        by_cases an4 : n4 = 0
        · subst an4
          go_enter Try.func96, Try.ntmps96
          go_wp2
          go_ret
          exact ⟨ret_bool (by simp [bareB, *]), Hb.out _⟩
        · have bn4 : ¬ (n4 : Int) = 0 := by omega
          go_enter Try.func96, Try.ntmps96
          go_wp2
          go_ret
          exact ⟨ret_bool (by simp [bareB, *]), Hb.out _⟩
      · have bn3 : ¬ (n3 : Int) = 0 := by omega
        go_enter Try.func96, Try.ntmps96
        go_wp2
        go_ret
        exact ⟨ret_bool (by simp [bareB, *]), Hb.out _⟩
    · have bn2 : ¬ (n2 : Int) = 0 := by omega
      go_enter Try.func96, Try.ntmps96
      go_wp2
      go_ret
      exact ⟨ret_bool (by simp [bareB, *]), Hb.out _⟩
  by_cases k2 : vk = 2
  · subst k2
    by_cases an2 : n2 = 0
    · subst an2
      by_cases an3 : n3 = 0
      · subst an3
        by_cases an4 : n4 = 0
        · subst an4
          go_enter Try.func96, Try.ntmps96
          go_wp2
          go_ret
          exact ⟨ret_bool (by simp [bareB, *]), Hb.out _⟩
        · have bn4 : ¬ (n4 : Int) = 0 := by omega
          go_enter Try.func96, Try.ntmps96
          go_wp2
          go_ret
          exact ⟨ret_bool (by simp [bareB, *]), Hb.out _⟩
      · have bn3 : ¬ (n3 : Int) = 0 := by omega
        go_enter Try.func96, Try.ntmps96
        go_wp2
        go_ret
        exact ⟨ret_bool (by simp [bareB, *]), Hb.out _⟩
    · have bn2 : ¬ (n2 : Int) = 0 := by omega
      go_enter Try.func96, Try.ntmps96
      go_wp2
      go_ret
      exact ⟨ret_bool (by simp [bareB, *]), Hb.out _⟩
  by_cases k3 : vk = 3
  · subst k3
    by_cases an : vn = 0
    · subst an
      by_cases an3 : n3 = 0
      · subst an3
        by_cases an4 : n4 = 0
        · subst an4
          go_enter Try.func96, Try.ntmps96
          go_wp2
          go_ret
          exact ⟨ret_bool (by simp [bareB, *]), Hb.out _⟩
        · have bn4 : ¬ (n4 : Int) = 0 := by omega
          go_enter Try.func96, Try.ntmps96
          go_wp2
          go_ret
          exact ⟨ret_bool (by simp [bareB, *]), Hb.out _⟩
      · have bn3 : ¬ (n3 : Int) = 0 := by omega
        go_enter Try.func96, Try.ntmps96
        go_wp2
        go_ret
        exact ⟨ret_bool (by simp [bareB, *]), Hb.out _⟩
    · go_enter Try.func96, Try.ntmps96
      go_wp2
      go_ret
      exact ⟨ret_bool (by simp [bareB, *]), Hb.out _⟩
  by_cases k4 : vk = 4
  · subst k4
    by_cases an : vn = 0
    · subst an
      by_cases an2 : n2 = 0
      · subst an2
        by_cases an3 : n3 = 0
        · subst an3
          go_enter Try.func96, Try.ntmps96
          go_wp2
          go_ret
          exact ⟨ret_bool (by simp [bareB, *]), Hb.out _⟩
        · have bn3 : ¬ (n3 : Int) = 0 := by omega
          go_enter Try.func96, Try.ntmps96
          go_wp2
          go_ret
          exact ⟨ret_bool (by simp [bareB, *]), Hb.out _⟩
      · have bn2 : ¬ (n2 : Int) = 0 := by omega
        go_enter Try.func96, Try.ntmps96
        go_wp2
        go_ret
        exact ⟨ret_bool (by simp [bareB, *]), Hb.out _⟩
    · go_enter Try.func96, Try.ntmps96
      go_wp2
      go_ret
      exact ⟨ret_bool (by simp [bareB, *]), Hb.out _⟩
  by_cases k5 : vk = 5
  · subst k5
    by_cases an : vn = 0
    · subst an
      by_cases an2 : n2 = 0
      · subst an2
        go_enter Try.func96, Try.ntmps96
        go_wp2
        go_ret
        exact ⟨ret_bool (by simp [bareB, *]), Hb.out _⟩
      · have bn2 : ¬ (n2 : Int) = 0 := by omega
        go_enter Try.func96, Try.ntmps96
        go_wp2
        go_ret
        exact ⟨ret_bool (by simp [bareB, *]), Hb.out _⟩
    · go_enter Try.func96, Try.ntmps96
      go_wp2
      go_ret
      exact ⟨ret_bool (by simp [bareB, *]), Hb.out _⟩
  by_cases an : vn = 0
  · subst an
    by_cases an2 : n2 = 0
    · subst an2
      by_cases an3 : n3 = 0
      · subst an3
        by_cases an4 : n4 = 0
        · subst an4
          go_enter Try.func96, Try.ntmps96
          go_wp2
          go_ret
          exact ⟨ret_bool (by simp [bareB, *]), Hb.out _⟩
        · have bn4 : ¬ (n4 : Int) = 0 := by omega
          go_enter Try.func96, Try.ntmps96
          go_wp2
          go_ret
          exact ⟨ret_bool (by simp [bareB, *]), Hb.out _⟩
      · have bn3 : ¬ (n3 : Int) = 0 := by omega
        go_enter Try.func96, Try.ntmps96
        go_wp2
        go_ret
        exact ⟨ret_bool (by simp [bareB, *]), Hb.out _⟩
    · have bn2 : ¬ (n2 : Int) = 0 := by omega
      go_enter Try.func96, Try.ntmps96
      go_wp2
      go_ret
      exact ⟨ret_bool (by simp [bareB, *]), Hb.out _⟩
  · go_enter Try.func96, Try.ntmps96
    go_wp2
    go_ret
    exact ⟨ret_bool (by simp [bareB, *]), Hb.out _⟩
end Go.Proofs.Yteiahjknlcmloaa
/-
  What a value that may be is, by its depth: 'goodB'; how many parts it has: 'partsV'; what the specification's l2ok answers: 'okI'. Plain mathematics.
-/
namespace Go.Proofs.Yteiahjknlcmloaa
open Go.RowKit
set_option linter.unusedVariables false
set_option linter.unusedSimpArgs false

/-- The rules of one part by itself. -/
def shapeB (vk vn : Int) (vs : List Int) (vK : List (List Int)) (nL : Nat) : Bool :=
  bareB vk vn vs.length vK.length nL && (decide (vk = 0) || decide (vk = 6) || (decide (vk = 1) && (decide (vn = 0) || decide (vn = 1))) || (decide (vk = 2) && intB vn) || (decide (vk = 3) && textB vs) || decide (vk = 4) || (decide (vk = 5) && (decide (vK.length = nL) && ascB vK)))

/-- The rules of all parts, and of the depth. -/
def goodB : (d : Nat) → Vl d → Nat → Bool
  | 0, _, _ => false
  | d + 1, v, deep => decide (deep ≤ 5) && (shapeB v.1 v.2.1 v.2.2.1 v.2.2.2.1 v.2.2.2.2.length && v.2.2.2.2.all fun x => goodB d x (deep + 1))

/-- How many parts. -/
def partsV : (d : Nat) → Vl d → Nat
  | 0, _ => 0
  | d + 1, v => 1 + (v.2.2.2.2.map (partsV d)).sum

/-- What l2ok answers. -/
def okI (d : Nat) (v : Vl d) (deep : Nat) (left : Int) : Int := if goodB d v deep = true ∧ (partsV d v : Int) ≤ left then left - partsV d v else -1

theorem okI_yes {d : Nat} {v : Vl d} {deep : Nat} {left : Int} (h : goodB d v deep = true) (h2 : (partsV d v : Int) ≤ left) : okI d v deep left = left - partsV d v := by simp [okI, h, h2]
theorem okI_no {d : Nat} {v : Vl d} {deep : Nat} {left : Int} (h : ¬ (goodB d v deep = true ∧ (partsV d v : Int) ≤ left)) : okI d v deep left = -1 := by simp only [okI, h, if_false]

theorem good_succ (d : Nat) (vk vn : Int) (vs : List Int) (vK : List (List Int)) (vL : List (Vl d)) (deep : Nat) :
    goodB (d + 1) (vk, vn, vs, vK, vL) deep = true ↔ deep ≤ 5 ∧ shapeB vk vn vs vK vL.length = true ∧ ∀ j (h : j < vL.length), goodB d vL[j] (deep + 1) = true := by
  show (decide (deep ≤ 5) && (shapeB vk vn vs vK vL.length && vL.all fun x => goodB d x (deep + 1))) = true ↔ _
  simp only [Bool.and_eq_true, decide_eq_true_eq, List.all_eq_true]
  constructor
  · rintro ⟨h1, h2, h3⟩
    exact ⟨h1, h2, fun j h => h3 _ (List.getElem_mem h)⟩
  · rintro ⟨h1, h2, h3⟩
    refine ⟨h1, h2, fun x hx => ?_⟩
    obtain ⟨j, h, rfl⟩ := List.getElem_of_mem hx
    exact h3 j h

theorem parts_succ (d : Nat) (vk vn : Int) (vs : List Int) (vK : List (List Int)) (vL : List (Vl d)) : partsV (d + 1) (vk, vn, vs, vK, vL) = 1 + pre (partsV d) vL vL.length := by
  rw [pre_all]
  rfl

theorem parts_pos (d : Nat) (v : Vl (d + 1)) : 1 ≤ partsV (d + 1) v := by
  obtain ⟨vk, vn, vs, vK, vL⟩ := v
  rw [parts_succ]
  omega

theorem okI_left {d : Nat} (v : Vl (d + 1)) (deep : Nat) {left : Int} (h : left < 1) : okI (d + 1) v deep left = -1 :=
  okI_no fun ⟨_, h2⟩ => by have := parts_pos d v; omega

theorem okI_deep {d : Nat} (v : Vl (d + 1)) {deep : Nat} (left : Int) (h : 5 < deep) : okI (d + 1) v deep left = -1 := by
  obtain ⟨vk, vn, vs, vK, vL⟩ := v
  exact okI_no fun ⟨h1, _⟩ => by have := ((good_succ _ _ _ _ _ _ _).1 h1).1; omega

theorem okI_shape {d : Nat} {vk vn : Int} {vs : List Int} {vK : List (List Int)} {vL : List (Vl d)} (deep : Nat) (left : Int) (h : shapeB vk vn vs vK vL.length = false) : okI (d + 1) (vk, vn, vs, vK, vL) deep left = -1 :=
  okI_no fun ⟨h1, _⟩ => by have := ((good_succ _ _ _ _ _ _ _).1 h1).2.1; rw [h] at this; simp at this

theorem okI_bare {d : Nat} {vk vn : Int} {vs : List Int} {vK : List (List Int)} {vL : List (Vl d)} (deep : Nat) (left : Int) (h : bareB vk vn vs.length vK.length vL.length = false) : okI (d + 1) (vk, vn, vs, vK, vL) deep left = -1 :=
  okI_shape deep left (by simp [shapeB, h])

theorem okI_kid {d : Nat} {vk vn : Int} {vs : List Int} {vK : List (List Int)} {vL : List (Vl d)} {deep : Nat} {left : Int} {k : Nat} (hk : k < vL.length)
    (h : ¬ (goodB d vL[k] (deep + 1) = true ∧ (partsV d vL[k] : Int) ≤ left - 1 - pre (partsV d) vL k)) : okI (d + 1) (vk, vn, vs, vK, vL) deep left = -1 := by
  refine okI_no fun ⟨h1, h2⟩ => h ⟨((good_succ _ _ _ _ _ _ _).1 h1).2.2 k hk, ?_⟩
  rw [parts_succ] at h2
  have h3 := pre_succ (partsV d) vL k hk
  have h4 := pre_le (partsV d) vL (k + 1)
  have h5 := pre_all (partsV d) vL
  omega

theorem okI_all {d : Nat} {vk vn : Int} {vs : List Int} {vK : List (List Int)} {vL : List (Vl d)} {deep : Nat} {left : Int} (h1 : deep ≤ 5) (h2 : shapeB vk vn vs vK vL.length = true)
    (h3 : ∀ j (h : j < vL.length), goodB d vL[j] (deep + 1) = true) (h4 : (pre (partsV d) vL vL.length : Int) ≤ left - 1) : okI (d + 1) (vk, vn, vs, vK, vL) deep left = left - 1 - pre (partsV d) vL vL.length := by
  rw [okI_yes ((good_succ _ _ _ _ _ _ _).2 ⟨h1, h2, h3⟩) (by rw [parts_succ]; omega), parts_succ]
  omega

theorem okI_leaf {d : Nat} {vk vn : Int} {vs : List Int} {vK : List (List Int)} {deep : Nat} {left : Int} (h1 : deep ≤ 5) (h2 : shapeB vk vn vs vK 0 = true) (h4 : 1 ≤ left) : okI (d + 1) (vk, vn, vs, vK, []) deep left = left - 1 := by
  have := okI_all (d := d) (vL := []) (deep := deep) (left := left) h1 (by simpa using h2) (by intro j h; simp at h) (by simp [pre]; omega)
  simpa [pre] using this
end Go.Proofs.Yteiahjknlcmloaa
/-
  l2ok of the specification, its ways out ahead of the kinds: too many parts, too deep, a field that the kind does not have.
-/
namespace Go.Proofs.Yteiahjknlcmloaa
open Go.RowKit
set_option linter.unusedVariables false
set_option linter.unusedSimpArgs false

set_option maxHeartbeats 4000000 in
set_option maxRecDepth 100000 in
theorem l2ok_left (vk vn : Int) (a2 a3 a4 : Option Addr) (n2 n3 n4 p2 p3 p4 : Nat) (deep : Nat) (left : Int) (w : World) (h1 : left < 1) (h2 : 0 ≤ left) :
    Calls Try.prog 47 #[.agg #[.int .i64 vk, .int .i64 vn, .slice a2 n2 p2, .slice a3 n3 p3, .slice a4 n4 p4], .int .i64 deep, .int .i64 left] w fun e w' => e = .returned (.int .i64 (-1)) ∧ Below w.heap.size w w' := by
  have Hb : Hid (∀ o : Obj, Below w.heap.size w (w.alloc o)) := fun o => (Below.refl _ _).alloc (Nat.le_refl _) o
  have h3 : left - 1 < 0 := by omega
  go_enter Try.func47, Try.ntmps47
  go_wp2
  go_ret
  exact ⟨rfl, Hb.out _⟩

set_option maxHeartbeats 4000000 in
set_option maxRecDepth 100000 in
theorem l2ok_deep (vk vn : Int) (a2 a3 a4 : Option Addr) (n2 n3 n4 p2 p3 p4 : Nat) (deep : Nat) (left : Int) (w : World) (h1 : 1 ≤ left) (h2 : left ≤ 40) (h3 : 5 < deep) :
    Calls Try.prog 47 #[.agg #[.int .i64 vk, .int .i64 vn, .slice a2 n2 p2, .slice a3 n3 p3, .slice a4 n4 p4], .int .i64 deep, .int .i64 left] w fun e w' => e = .returned (.int .i64 (-1)) ∧ Below w.heap.size w w' := by
  have Hb : Hid (∀ o : Obj, Below w.heap.size w (w.alloc o)) := fun o => (Below.refl _ _).alloc (Nat.le_refl _) o
  have h4 : ¬ left - 1 < 0 := by omega
  have h5 : (5 : Int) < (deep : Int) := by omega
  go_enter Try.func47, Try.ntmps47
  go_wp2
  go_ret
  exact ⟨rfl, Hb.out _⟩

set_option maxHeartbeats 8000000 in
set_option maxRecDepth 100000 in
theorem l2ok_bare (vk vn : Int) (a2 a3 a4 : Option Addr) (n2 n3 n4 p2 p3 p4 : Nat) (deep : Nat) (left : Int) (w : World) (h1 : 1 ≤ left) (h2 : left ≤ 40) (h3 : deep ≤ 5) (hbare : bareB vk vn n2 n3 n4 = false) :
    Calls Try.prog 47 #[.agg #[.int .i64 vk, .int .i64 vn, .slice a2 n2 p2, .slice a3 n3 p3, .slice a4 n4 p4], .int .i64 deep, .int .i64 left] w fun e w' => e = .returned (.int .i64 (-1)) ∧ Below w.heap.size w w' := by
  have Hb : Hid (∀ o : Obj, Below w.heap.size w (w.alloc o)) := fun o => (Below.refl _ _).alloc (Nat.le_refl _) o
  have h4 : ¬ left - 1 < 0 := by omega
  have h5 : ¬ (5 : Int) < (deep : Int) := by omega
  by_cases k1 : vk = 1
  · subst k1
    by_cases an2 : n2 = 0
    · subst an2
      by_cases an3 : n3 = 0
      · subst an3
        by_cases an4 : n4 = 0
        · subst an4
          simp [bareB, *] at hbare
        · have bn4 : (0 : Int) < (n4 : Int) := by omega
          clear hbare
          go_enter Try.func47, Try.ntmps47
          go_wp2
          go_ret
          exact ⟨rfl, Hb.out _⟩
      · have bn3 : (0 : Int) < (n3 : Int) := by omega
        clear hbare
        go_enter Try.func47, Try.ntmps47
        go_wp2
        go_ret
        exact ⟨rfl, Hb.out _⟩
    · have bn2 : (0 : Int) < (n2 : Int) := by omega
      clear hbare
      go_enter Try.func47, Try.ntmps47
      go_wp2
      go_ret
      exact ⟨rfl, Hb.out _⟩
  by_cases k2 : vk = 2
  · subst k2
    by_cases an2 : n2 = 0
    · subst an2
      by_cases an3 : n3 = 0
      · subst an3
        by_cases an4 : n4 = 0
        · subst an4
          simp [bareB, *] at hbare
        · have bn4 : (0 : Int) < (n4 : Int) := by omega
          clear hbare
          go_enter Try.func47, Try.ntmps47
          go_wp2
          go_ret
          exact ⟨rfl, Hb.out _⟩
      · have bn3 : (0 : Int) < (n3 : Int) := by omega
        clear hbare
        go_enter Try.func47, Try.ntmps47
        go_wp2
        go_ret
        exact ⟨rfl, Hb.out _⟩
    · have bn2 : (0 : Int) < (n2 : Int) := by omega
      clear hbare
      go_enter Try.func47, Try.ntmps47
      go_wp2
      go_ret
      exact ⟨rfl, Hb.out _⟩
  by_cases k3 : vk = 3
  · subst k3
    by_cases an3 : n3 = 0
    · subst an3
      by_cases an : vn = 0
      · subst an
        by_cases an4 : n4 = 0
        · subst an4
          simp [bareB, *] at hbare
        · have bn4 : (0 : Int) < (n4 : Int) := by omega
          clear hbare
          go_enter Try.func47, Try.ntmps47
          go_wp2
          go_ret
          exact ⟨rfl, Hb.out _⟩
      · clear hbare
        go_enter Try.func47, Try.ntmps47
        go_wp2
        go_ret
        exact ⟨rfl, Hb.out _⟩
    · have bn3 : (0 : Int) < (n3 : Int) := by omega
      clear hbare
      go_enter Try.func47, Try.ntmps47
      go_wp2
      go_ret
      exact ⟨rfl, Hb.out _⟩
  by_cases k4 : vk = 4
  · subst k4
    by_cases an2 : n2 = 0
    · subst an2
      by_cases an3 : n3 = 0
      · subst an3
        by_cases an : vn = 0
        · subst an
          simp [bareB, *] at hbare
        · clear hbare
          go_enter Try.func47, Try.ntmps47
          go_wp2
          go_ret
          exact ⟨rfl, Hb.out _⟩
      · have bn3 : (0 : Int) < (n3 : Int) := by omega
        clear hbare
        go_enter Try.func47, Try.ntmps47
        go_wp2
        go_ret
        exact ⟨rfl, Hb.out _⟩
    · have bn2 : (0 : Int) < (n2 : Int) := by omega
      clear hbare
      go_enter Try.func47, Try.ntmps47
      go_wp2
      go_ret
      exact ⟨rfl, Hb.out _⟩
  by_cases k5 : vk = 5
  · subst k5
    by_cases an2 : n2 = 0
    · subst an2
      by_cases an : vn = 0
      · subst an
        simp [bareB, *] at hbare
      · clear hbare
        go_enter Try.func47, Try.ntmps47
        go_wp2
        go_ret
        exact ⟨rfl, Hb.out _⟩
    · have bn2 : (0 : Int) < (n2 : Int) := by omega
      clear hbare
      go_enter Try.func47, Try.ntmps47
      go_wp2
      go_ret
      exact ⟨rfl, Hb.out _⟩
  have q1 : (vk != 1) = true := by simp [k1]
  have q2 : (vk != 2) = true := by simp [k2]
  have q3 : (vk != 3) = true := by simp [k3]
  have q4 : (vk != 4) = true := by simp [k4]
  have q5 : (vk != 5) = true := by simp [k5]
  by_cases an2 : n2 = 0
  · subst an2
    by_cases an3 : n3 = 0
    · subst an3
      by_cases an : vn = 0
      · subst an
        by_cases an4 : n4 = 0
        · subst an4
          simp [bareB, *] at hbare
        · have bn4 : (0 : Int) < (n4 : Int) := by omega
          clear hbare
          go_enter Try.func47, Try.ntmps47
          go_wp2
          go_ret
          exact ⟨rfl, Hb.out _⟩
      · clear hbare
        go_enter Try.func47, Try.ntmps47
        go_wp2
        go_ret
        exact ⟨rfl, Hb.out _⟩
    · have bn3 : (0 : Int) < (n3 : Int) := by omega
      clear hbare
      go_enter Try.func47, Try.ntmps47
      go_wp2
      go_ret
      exact ⟨rfl, Hb.out _⟩
  · have bn2 : (0 : Int) < (n2 : Int) := by omega
    clear hbare
    go_enter Try.func47, Try.ntmps47
    go_wp2
    go_ret
    exact ⟨rfl, Hb.out _⟩
end Go.Proofs.Yteiahjknlcmloaa
/-
  l2ok of the specification, at every depth: 'okI'.
-/
namespace Go.Proofs.Yteiahjknlcmloaa
open Go.RowKit
set_option linter.unusedVariables false
set_option linter.unusedSimpArgs false

/-- The contract of l2ok at depth d. -/
def OkAt (d : Nat) : Prop := ∀ (N : Nat) (c : Value × Value × Value × Value × Value) (v : Vl d) (deep : Nat) (left : Int) (w : World), VSeg (fun b => b < N) w d c v → N ≤ w.heap.size → deep ≤ 6 → 0 ≤ left → left ≤ 40 →
  Calls Try.prog 47 #[.agg #[c.1, c.2.1, c.2.2.1, c.2.2.2.1, c.2.2.2.2], .int .i64 deep, .int .i64 left] w fun e w' => e = .returned (.int .i64 (okI d v deep left)) ∧ Below w.heap.size w w'

/-- One of two answers. -/
def sel (p : Bool) (x : Int) : Int := cond p x (-1)
theorem sel_yes {p : Bool} (x : Int) (h : p = true) : sel p x = x := by rw [h]; rfl
theorem sel_no {p : Bool} (x : Int) (h : p = false) : sel p x = -1 := by rw [h]; rfl

set_option maxHeartbeats 4000000 in
set_option maxRecDepth 100000 in
theorem l2ok_null (vk : Int) (hvk : vk = 0 ∨ vk = 6) (a2 a3 a4 : Option Addr) (p2 p3 p4 : Nat) (deep : Nat) (left : Int) (w : World) (h1 : 1 ≤ left) (h2 : left ≤ 40) (h3 : deep ≤ 5) :
    Calls Try.prog 47 #[.agg #[.int .i64 vk, .int .i64 0, .slice a2 0 p2, .slice a3 0 p3, .slice a4 0 p4], .int .i64 deep, .int .i64 left] w fun e w' => e = .returned (.int .i64 (left - 1)) ∧ Below w.heap.size w w' := by
  have Hb : Hid (∀ o : Obj, Below w.heap.size w (w.alloc o)) := fun o => (Below.refl _ _).alloc (Nat.le_refl _) o
  have h4 : ¬ left - 1 < 0 := by omega
  have h5 : ¬ (5 : Int) < (deep : Int) := by omega
  rcases hvk with rfl | rfl <;>
  · go_enter Try.func47, Try.ntmps47
    go_wp2
    go_ret
    exact ⟨rfl, Hb.out _⟩

set_option maxHeartbeats 4000000 in
set_option maxRecDepth 100000 in
theorem l2ok_none (vk : Int) (k0 : ¬ vk = 0) (k1 : ¬ vk = 1) (k2 : ¬ vk = 2) (k3 : ¬ vk = 3) (k4 : ¬ vk = 4) (k5 : ¬ vk = 5) (k6 : ¬ vk = 6) (a2 a3 a4 : Option Addr) (p2 p3 p4 : Nat) (deep : Nat) (left : Int) (w : World) (h1 : 1 ≤ left) (h2 : left ≤ 40) (h3 : deep ≤ 5) :
    Calls Try.prog 47 #[.agg #[.int .i64 vk, .int .i64 0, .slice a2 0 p2, .slice a3 0 p3, .slice a4 0 p4], .int .i64 deep, .int .i64 left] w fun e w' => e = .returned (.int .i64 (-1)) ∧ Below w.heap.size w w' := by
  have Hb : Hid (∀ o : Obj, Below w.heap.size w (w.alloc o)) := fun o => (Below.refl _ _).alloc (Nat.le_refl _) o
  have h4 : ¬ left - 1 < 0 := by omega
  have h5 : ¬ (5 : Int) < (deep : Int) := by omega
  go_enter Try.func47, Try.ntmps47
  go_wp2
  go_ret
  exact ⟨rfl, Hb.out _⟩

set_option maxHeartbeats 4000000 in
set_option maxRecDepth 100000 in
theorem l2ok_bool (vn : Int) (a2 a3 a4 : Option Addr) (p2 p3 p4 : Nat) (deep : Nat) (left : Int) (w : World) (h1 : 1 ≤ left) (h2 : left ≤ 40) (h3 : deep ≤ 5) :
    Calls Try.prog 47 #[.agg #[.int .i64 1, .int .i64 vn, .slice a2 0 p2, .slice a3 0 p3, .slice a4 0 p4], .int .i64 deep, .int .i64 left] w fun e w' => e = .returned (.int .i64 (sel (decide (vn = 0) || decide (vn = 1)) (left - 1))) ∧ Below w.heap.size w w' := by
  have Hb : Hid (∀ o : Obj, Below w.heap.size w (w.alloc o)) := fun o => (Below.refl _ _).alloc (Nat.le_refl _) o
  have h4 : ¬ left - 1 < 0 := by omega
  have h5 : ¬ (5 : Int) < (deep : Int) := by omega
  by_cases hn : vn < 0
  · have HO : Hid ((sel (decide (vn = 0) || decide (vn = 1)) (left - 1)) = -1) := sel_no _ (by simp; omega)
    go_enter Try.func47, Try.ntmps47
    go_wp2
    go_ret
    exact ⟨ret_i64 (by rw [HO.out]), Hb.out _⟩
  by_cases hm : 1 < vn
  · have HO : Hid ((sel (decide (vn = 0) || decide (vn = 1)) (left - 1)) = -1) := sel_no _ (by simp; omega)
    go_enter Try.func47, Try.ntmps47
    go_wp2
    go_ret
    exact ⟨ret_i64 (by rw [HO.out]), Hb.out _⟩
  have HO : Hid ((sel (decide (vn = 0) || decide (vn = 1)) (left - 1)) = left - 1) := sel_yes _ (by simp; omega)
  go_enter Try.func47, Try.ntmps47
  go_wp2
  go_ret
  exact ⟨ret_i64 (by rw [HO.out]), Hb.out _⟩

set_option maxHeartbeats 4000000 in
set_option maxRecDepth 100000 in
theorem l2ok_int (vn : Int) (a2 a3 a4 : Option Addr) (p2 p3 p4 : Nat) (deep : Nat) (left : Int) (w : World) (h1 : 1 ≤ left) (h2 : left ≤ 40) (h3 : deep ≤ 5) :
    Calls Try.prog 47 #[.agg #[.int .i64 2, .int .i64 vn, .slice a2 0 p2, .slice a3 0 p3, .slice a4 0 p4], .int .i64 deep, .int .i64 left] w fun e w' => e = .returned (.int .i64 (sel (intB vn) (left - 1))) ∧ Below w.heap.size w w' := by
  have Hb : Hid (∀ o : Obj, Below w.heap.size w (w.alloc o)) := fun o => (Below.refl _ _).alloc (Nat.le_refl _) o
  have h4 : ¬ left - 1 < 0 := by omega
  have h5 : ¬ (5 : Int) < (deep : Int) := by omega
  have HI : Hid (∀ wx, Calls Try.prog 85 #[.int .i64 vn] wx fun e w' => e = .returned (.bool (intB vn)) ∧ wx = w') := fun wx => spec_l2int_any vn wx
  by_cases hi : intB vn = true
  · have HO : Hid ((sel (intB vn) (left - 1)) = left - 1) := sel_yes _ hi
    rw [hi] at HI
    clear hi
    go_enter Try.func47, Try.ntmps47
    go_wp2_with fail
    refine (HI.out _).mono ?_
    rintro e w1 ⟨rfl, e1⟩
    obtain rfl := e1
    go_wp2
    go_ret
    exact ⟨ret_i64 (by rw [HO.out]), Hb.out _⟩
  · have HO : Hid ((sel (intB vn) (left - 1)) = -1) := sel_no _ (by simpa using hi)
    have hi' : intB vn = false := by simpa using hi
    rw [hi'] at HI
    clear hi hi'
    go_enter Try.func47, Try.ntmps47
    go_wp2_with fail
    refine (HI.out _).mono ?_
    rintro e w1 ⟨rfl, e1⟩
    obtain rfl := e1
    go_wp2
    go_ret
    exact ⟨ret_i64 (by rw [HO.out]), Hb.out _⟩

set_option maxHeartbeats 4000000 in
set_option maxRecDepth 100000 in
theorem l2ok_text (vs : List Int) (a2 a3 a4 : Option Addr) (p2 p3 p4 : Nat) (deep : Nat) (left : Int) (w : World) (hs : Seg w a2 vs) (hm : vs.length ≤ maxLen) (h1 : 1 ≤ left) (h2 : left ≤ 40) (h3 : deep ≤ 5) :
    Calls Try.prog 47 #[.agg #[.int .i64 3, .int .i64 0, .slice a2 vs.length p2, .slice a3 0 p3, .slice a4 0 p4], .int .i64 deep, .int .i64 left] w fun e w' => e = .returned (.int .i64 (sel (textB vs) (left - 1))) ∧ Below w.heap.size w w' := by
  have b0 : ∀ o : Obj, Below w.heap.size w (w.alloc o) := fun o => (Below.refl _ _).alloc (Nat.le_refl _) o
  have Hb : Hid (∀ o : Obj, Below w.heap.size w (w.alloc o)) := b0
  have h4 : ¬ left - 1 < 0 := by omega
  have h5 : ¬ (5 : Int) < (deep : Int) := by omega
  have HI : Hid (∀ o : Obj, Calls Try.prog 86 #[.slice a2 vs.length p2] (w.alloc o) fun e w' => e = .returned (.bool (textB vs)) ∧ (w.alloc o) = w') := fun o => spec_l2text_any a2 p2 vs _ (hs.grow (b0 o)) hm
  by_cases hi : textB vs = true
  · have HO : Hid ((sel (textB vs) (left - 1)) = left - 1) := sel_yes _ hi
    rw [hi] at HI
    clear hi b0 hs
    go_enter Try.func47, Try.ntmps47
    go_wp2_with fail
    refine (HI.out _).mono ?_
    rintro e w1 ⟨rfl, e1⟩
    obtain rfl := e1
    go_wp2
    go_ret
    exact ⟨ret_i64 (by rw [HO.out]), Hb.out _⟩
  · have HO : Hid ((sel (textB vs) (left - 1)) = -1) := sel_no _ (by simpa using hi)
    have hi' : textB vs = false := by simpa using hi
    rw [hi'] at HI
    clear hi hi' b0 hs
    go_enter Try.func47, Try.ntmps47
    go_wp2_with fail
    refine (HI.out _).mono ?_
    rintro e w1 ⟨rfl, e1⟩
    obtain rfl := e1
    go_wp2
    go_ret
    exact ⟨ret_i64 (by rw [HO.out]), Hb.out _⟩
end Go.Proofs.Yteiahjknlcmloaa
