/-
  toStep, toStepS of the laws: they make a path of their own that holds what their argument holds.
-/
import Derived.Test.YtliheeiooppnbaaStpSz
namespace Go.Proofs.Ytliheeiooppnbaa
open Go.RowKit
set_option linter.unusedVariables false

theorem infoP : (Try.prog.info? 35).map (fun i => (i.zero, i.size, i.bytes)) = some (some (.agg #[.int .i64 0, .slice none 0 0, .int .i64 0]), 3, 40) := by kernel_rfl

/-- The cells of a block of three that is known. -/
theorem row3 {w : World} {g : Nat} {T : TypeId} {c0 c1 c2 : Value} (h : w.heap[g]? = some (.cells #[c0, c1, c2] T (0, 0))) :
    w.cell? ⟨g, 0, none⟩ = some c0 ∧ w.cell? ⟨g, 1, none⟩ = some c1 ∧ w.cell? ⟨g, 2, none⟩ = some c2 ∧ ∀ j, w.frozen? ⟨g, j, none⟩ = false := by
  refine ⟨?_, ?_, ?_, fun j => frozen_of_row w g j _ T h⟩ <;> rw [cell_of_row w g _ _ T (0, 0) h] <;> rfl

/-- Three blocks, one behind the other. -/
theorem three_boxes (w : World) (o1 o2 o3 : Obj) : (((w.alloc o1).alloc o2).alloc o3).heap[w.heap.size]? = some o1 ∧ (((w.alloc o1).alloc o2).alloc o3).heap[w.heap.size + 1]? = some o2 ∧ (((w.alloc o1).alloc o2).alloc o3).heap[w.heap.size + 1 + 1]? = some o3 ∧ (((w.alloc o1).alloc o2).alloc o3).heap.size = w.heap.size + 3 ∧ Below w.heap.size w (((w.alloc o1).alloc o2).alloc o3) := by
  obtain ⟨h1, h2⟩ := two_boxes w o1 o2
  have z2 := size2 w o1 o2
  have hb : Below ((w.alloc o1).alloc o2).heap.size ((w.alloc o1).alloc o2) (((w.alloc o1).alloc o2).alloc o3) := (Below.refl _ _).alloc (Nat.le_refl _) o3
  refine ⟨(hb.block _ (by omega)).trans h1, (hb.block _ (by omega)).trans h2, ?_, by simp, ((((Below.refl _ _).alloc (Nat.le_refl _) o1).alloc (by simp) o2).alloc (by simp; omega) o3)⟩
  have h := (MapKept.heap_alloc ((w.alloc o1).alloc o2) o3).1
  rw [z2] at h
  exact h

set_option maxHeartbeats 1600000 in
theorem toStep_any (N : Nat) (c0 c1 c2 : Value) (s : Stp) (w : World) (hs : StSeg (fun b => b < N) w (c0, c1, c2) s) (hN : N ≤ w.heap.size) (hz : s.2.1.length ≤ 1048576) :
    Calls Try.prog 14 #[.agg #[c0, c1, c2]] w fun e w' => ∃ d0 d1 d2, e = .returned (.agg #[d0, d1, d2]) ∧ ∃ B, StOwn w' (d0, d1, d2) s B ∧ (∀ b ∈ B, w.heap.size ≤ b ∧ b < w'.heap.size) ∧ B.Nodup ∧ Below w.heap.size w w' := by
  obtain ⟨sk, ss, si⟩ := s
  obtain ⟨e0, ht, e2⟩ := hs
  simp only at e0 ht e2 hz
  subst e0
  subst e2
  have Ht : Hid (∀ w' : World, Below w.heap.size w w' → TSeg (fun b => b < N) w' c1 ss) := fun w' h => ht.agree (agree_below (h.mono hN))
  obtain ⟨a2, cp2, rfl, s2, hl2, hm2, _, _⟩ := ht
  have H3 := hide' (three_boxes w (.cells #[.int .i64 sk, .slice a2 ss.length cp2, .int .i64 si] 34) (.cells #[.int .i64 0, .slice none 0 0, .int .i64 0] 35) (.cells #[.int .i64 sk, .slice none 0 0, .int .i64 0] 35))
  clear s2
  go_enter Try.func14, Try.ntmps14
  go_wp2_with fail
  obtain ⟨hr1, hr2, hr3, hsz, hb0⟩ := H3.out
  generalize ((w.alloc (.cells #[.int .i64 sk, .slice a2 ss.length cp2, .int .i64 si] 34)).alloc (.cells #[.int .i64 0, .slice none 0 0, .int .i64 0] 35)).alloc (.cells #[.int .i64 sk, .slice none 0 0, .int .i64 0] 35) = w0 at *
  obtain ⟨a2', cp2', e2, sT, _⟩ := Ht.out _ hb0
  simp only [Value.slice.injEq, true_and] at e2
  obtain ⟨rfl, rfl⟩ := e2
  refine (toByteS_any _ _ ss _ sT (by omega)).mono ?_
  rintro e w1 ⟨rfl, hB1, b1⟩
  have hT1 := tOwn_new hB1
  have hz1 := b1.size
  obtain ⟨x0, x1, x2, _⟩ := row3 ((b1.block _ (by omega)).trans hr1)
  have hr2' := (b1.block _ (by omega)).trans hr2
  have hr3' := (b1.block _ (by omega)).trans hr3
  obtain ⟨y0, y1, y2, yf⟩ := row3 hr2'
  obtain ⟨z0, z1, z2, zf⟩ := row3 hr3'
  have zf1 := zf 1
  have zf2 := zf 2
  have yf0 := yf 0
  have yf1 := yf 1
  have yf2 := yf 2
  have hlt1 := hT1.lt w0.heap.size (by simp)
  have B1 := Below.on hb0 b1
  have hgS : w.heap.size + 3 ≤ w0.heap.size := by omega
  clear hsz b1 hB1 sT
  generalize w0.heap.size = gS at *
  have hrow : (set3 ((w1.setCell ⟨w.heap.size + 1 + 1, 1, none⟩ (.slice (some ⟨gS, 0, none⟩) ss.length ss.length)).setCell ⟨w.heap.size + 1 + 1, 2, none⟩ (.int .i64 si)) (w.heap.size + 1) 0 (.int .i64 sk) (.slice (some ⟨gS, 0, none⟩) ss.length ss.length) (.int .i64 si)).heap[w.heap.size + 1]? = some (.cells #[.int .i64 sk, .slice (some ⟨gS, 0, none⟩) ss.length ss.length, .int .i64 si] 35 (0, 0)) :=
    set3_heap _ _ _ ((Below.heap_setCell _ _ _ _ (by show w.heap.size + 1 ≠ w.heap.size + 1 + 1; omega)).trans ((Below.heap_setCell w1 _ _ _ (by show w.heap.size + 1 ≠ w.heap.size + 1 + 1; omega)).trans hr2'))
  have hk3 := row3 hrow
  simp only [set3, Nat.zero_add] at hk3
  have Hk3 := hide' hk3
  have HT1 := hide' hT1
  clear hrow hk3 hT1 hr1 hr2 hr3 hr2' hr3' zf yf H3
  go_wp2_with fail
  obtain ⟨u0, u1, u2, _⟩ := Hk3.out
  refine bodyPost_ret (v := .agg #[.int .i64 sk, .slice (some ⟨gS, 0, none⟩) ss.length ss.length, .int .i64 si]) (by simp [results, Try.results14, go_sem, u0, u1, u2]) rfl ?_
  have g1 := grown1 w1 (w.heap.size + 1 + 1) 1 (.slice (some ⟨gS, 0, none⟩) ss.length ss.length)
  have g2 := grown1 (w1.setCell ⟨w.heap.size + 1 + 1, 1, none⟩ (.slice (some ⟨gS, 0, none⟩) ss.length ss.length)) (w.heap.size + 1 + 1) 2 (.int .i64 si)
  have gA := grownBy_trans g1 g2
  have gB := set3_grown ((w1.setCell ⟨w.heap.size + 1 + 1, 1, none⟩ (.slice (some ⟨gS, 0, none⟩) ss.length ss.length)).setCell ⟨w.heap.size + 1 + 1, 2, none⟩ (.int .i64 si)) (w.heap.size + 1) 0 (.int .i64 sk) (.slice (some ⟨gS, 0, none⟩) ss.length ss.length) (.int .i64 si)
  have hs2 : ((w1.setCell ⟨w.heap.size + 1 + 1, 1, none⟩ (.slice (some ⟨gS, 0, none⟩) ss.length ss.length)).setCell ⟨w.heap.size + 1 + 1, 2, none⟩ (.int .i64 si)).heap.size = w1.heap.size := by simp [World.setCell]
  have hs3 := set3_size ((w1.setCell ⟨w.heap.size + 1 + 1, 1, none⟩ (.slice (some ⟨gS, 0, none⟩) ss.length ss.length)).setCell ⟨w.heap.size + 1 + 1, 2, none⟩ (.int .i64 si)) (w.heap.size + 1) 0 (.int .i64 sk) (.slice (some ⟨gS, 0, none⟩) ss.length ss.length) (.int .i64 si)
  have hBf : Below w.heap.size w (set3 ((w1.setCell ⟨w.heap.size + 1 + 1, 1, none⟩ (.slice (some ⟨gS, 0, none⟩) ss.length ss.length)).setCell ⟨w.heap.size + 1 + 1, 2, none⟩ (.int .i64 si)) (w.heap.size + 1) 0 (.int .i64 sk) (.slice (some ⟨gS, 0, none⟩) ss.length ss.length) (.int .i64 si)) :=
    (B1.grown gA B1.size (by intro j hj; simp at hj; omega)).grown gB (by omega) (by intro j hj; simp at hj; omega)
  refine ⟨_, _, _, rfl, [gS], ⟨rfl, HT1.out.agree fun b hb => ?_, rfl⟩, ?_, by simp, hBf⟩
  · simp at hb
    subst hb
    refine (gB.block _ (by omega) (by simp; omega)).trans (gA.block _ hlt1 (by simp; omega))
  · intro b hb
    rw [List.mem_singleton] at hb
    rw [hb]
    show _ ∧ _ < (set3 ((w1.setCell ⟨w.heap.size + 1 + 1, 1, none⟩ (.slice (some ⟨gS, 0, none⟩) ss.length ss.length)).setCell ⟨w.heap.size + 1 + 1, 2, none⟩ (.int .i64 si)) (w.heap.size + 1) 0 (.int .i64 sk) (.slice (some ⟨gS, 0, none⟩) ss.length ss.length) (.int .i64 si)).heap.size
    rw [hs3, hs2]
    omega

theorem StOwn.form {w : World} {c0 c1 c2 : Value} {s : Stp} {B : List Nat} (h : StOwn w (c0, c1, c2) s B) : ∃ (k i : Int) (a : Option Addr) (n p : Nat), c0 = .int .i64 k ∧ c1 = .slice a n p ∧ c2 = .int .i64 i := by
  obtain ⟨e0, ht, e2⟩ := h
  obtain ⟨a2, p2, e1, _⟩ := ht.1.shape
  exact ⟨_, _, _, _, _, e0, e1, e2⟩

set_option maxHeartbeats 1600000 in
theorem toStepS_any (N : Nat) (x : Value) (l : List Stp) (w : World) (hx : PthSeg (fun b => b < N) w x l) (hN : N ≤ w.heap.size) (hz : szP l ≤ 1048576) :
    Calls Try.prog 7 #[x] w fun e w' => ∃ u, e = .returned u ∧ ∃ B, PthOwn w' u l B ∧ (∀ b ∈ B, w.heap.size ≤ b ∧ b < w'.heap.size) ∧ Below w.heap.size w w' := by
  have HC := hide' hx
  obtain ⟨a, cap, rfl, hlc, hcm, ka, hc⟩ := hx
  unfold maxLen at hcm
  obtain ⟨i0, hi, hz0, hz1, hz2⟩ := info_parts infoP
  have hn : l.length ≤ 1048576 := by unfold szP at hz; omega
  have HZ := hide' hz
  clear hc hz
  go_enter Try.func7, Try.ntmps7
  go_wp2_with (refine wpList_make_full _ rfl _ _ 25 rfl w.heap.size 35 i0 (.agg #[.int .i64 0, .slice none 0 0, .int .i64 0]) 3 Try.underlying25 hi hz0 hz1 .i64 .i64 _ _ l.length rfl rfl rfl rfl (by rw [hz2]; omega) (by unfold maxLen; omega) (Nat.le_refl _) ?_; intro w1 hown hgrow)
  have hK0 : PPart w1 w.heap.size l.length l 0 (w.heap.size + 1) := by
    rcases hown.2 with ⟨h1, _⟩ | ⟨g, cp, cur, h1, _, h3, _, _, h6, _⟩
    · simp at h1
    · simp only [Value.slice.injEq, Option.some.injEq, Addr.mk.injEq, and_true, true_and] at h1
      obtain ⟨e1, e2⟩ := h1
      subst e1
      exact ⟨cur, [], h3, by omega, rfl, by intro i _ h; omega, by simp, by simp⟩
  have hb1 : Below w.heap.size w w1 := (Below.refl _ _).grown hgrow (Nat.le_refl _) (by simp)
  clear hown hgrow
  go_loopw [4] (fun i wr => ∃ k : Nat, k ≤ l.length ∧ i = .int .i64 k ∧ PPart wr w.heap.size l.length l k (w.heap.size + 1) ∧ Below w.heap.size w wr) (fun i _ => l.length - (intOf i).toNat)
  case atStart => exact ⟨0, Nat.zero_le _, rfl, hK0, hb1⟩
  case round =>
    obtain ⟨k, hk, rfl, hK, hbel⟩ := hrel
    clear hK0 hb1
    by_cases hlt : k < l.length
    · have hlt' : (k : Int) < (l.length : Int) := by omega
      obtain ⟨b, off, e0, e1, e2, rfl, _, h3, hv⟩ := (HC.out.agree (agree_below (hbel.mono hN))).at hlt
      obtain ⟨q0, q1, q2⟩ := h3
      simp only at q0 q1 q2
      have HV := hide' hv
      clear hv
      have hzk := hide' (Nat.le_trans (szP_elem hlt) HZ.out)
      have hgw : w.heap.size < wr.heap.size := by
        obtain ⟨cur, Bs, h1, _⟩ := hK
        exact (Array.getElem?_eq_some_iff.1 h1).1
      go_wp2_with fail
      refine (toStep_any N e0 e1 e2 l[k] wr HV.out (by omega) hzk.out).mono ?_
      rintro e w2 ⟨c0, c1, c2, rfl, B, hB2, hBb, hBn, b2⟩
      clear q0 q1 q2 HV
      obtain ⟨ck, ci, s2, l2, p2, rfl, rfl, rfl⟩ := hB2.form
      have hcells : ∃ cur : Array Value, w2.heap[w.heap.size]? = some (.cells cur 35 (0, 0)) ∧ cur.size = l.length * 3 := by
        obtain ⟨cur, Bs, h1, h2, _⟩ := hK
        exact ⟨cur, (b2.block _ hgw).trans h1, h2⟩
      obtain ⟨cur, hcur, hcs⟩ := hcells
      have hx : ∀ j, j < l.length * 3 → ∃ x, w2.cell? ⟨w.heap.size, j, none⟩ = some x := by
        intro j hj
        rw [cell_of_row w2 _ j cur _ (0, 0) hcur]
        exact ⟨_, Array.getElem?_eq_getElem (by omega)⟩
      have hf : ∀ j, w2.frozen? ⟨w.heap.size, j, none⟩ = false := fun j => frozen_of_row w2 _ j cur _ hcur
      obtain ⟨x0, hx0⟩ := hx (k * 3) (by omega)
      obtain ⟨x1, hx1⟩ := hx (k * 3 + 1) (by omega)
      obtain ⟨x2, hx2⟩ := hx (k * 3 + 2) (by omega)
      have f0 := hf (k * 3)
      have f1 := hf (k * 3 + 1)
      have f2 := hf (k * 3 + 2)
      have hL := pPart_next hK (by omega) hlt hlt b2 (by omega) _ _ _ B hB2 hBb hBn
      have hb2 := Below.on hbel b2
      have hb3 := hb2.grown (set3_grown w2 w.heap.size (k * 3) (.int .i64 ck) (.slice s2 l2 p2) (.int .i64 ci)) hb2.size (by intro j hj; simp at hj; omega)
      have HL := hide' hL
      have HB := hide' hb3
      clear hx hf hcur hL hb2 hb3 hK hB2
      go_wp2
      go_roundw
      case rel => exact ⟨k + 1, by omega, by go_num, HL.out, HB.out⟩
      case measure => simp [intOf]; omega
    · have hkn : k = l.length := by omega
      have hkn' : ¬ (k : Int) < (l.length : Int) := by omega
      rw [hkn] at hK
      clear hkn
      go_wp2
      go_ret
      obtain ⟨cur, Bi, h1, h2, h3, h4, h5, h6⟩ := hK
      have hgw := (Array.getElem?_eq_some_iff.1 h1).1
      refine ⟨_, rfl, w.heap.size :: Bi.flatten, ⟨w.heap.size, l.length, cur, Bi, rfl, h1, Nat.le_refl _, by unfold maxLen; omega, h2, h3, fun i h => h4 i h h, rfl, ?_⟩, ?_, hbel⟩
      · rw [List.nodup_cons]
        exact ⟨fun hm => by have := h5 _ hm; omega, h6⟩
      · intro b hb
        rcases List.mem_cons.1 hb with rfl | hb
        · exact ⟨Nat.le_refl _, hgw⟩
        · have := h5 b hb
          omega
end Go.Proofs.Ytliheeiooppnbaa
