/-
  Texts that a law leans on, one behind the other; no statement is proved here.
-/
import Derived.Test.YtfokidhamjphfaaDoorPk19
import Derived.Test.YtfokidhamjphfaaDoorPk11
import Derived.Test.YtfokidhamjphfaaDoorPk14
/-
  The laws' own helper markValueS: running numbers written into a list of values of the call's own, at every depth; markValue.
-/
namespace Go.Proofs.YtfokidhamjphfaaDoor
open Go.RowKit
set_option linter.unusedVariables false
set_option linter.unusedSimpArgs false

/-- How many numbers a value of a list takes. -/
def cE : (d : Nat) → Vl d → Nat
  | 0, _ => 0
  | d + 1, v => 2 + (v.2.2.1.length + ((v.2.2.2.1.map List.length).sum + (v.2.2.2.2.map (cE d)).sum))

/-- A value of a list after it was marked, from k on. -/
def mkE : (d : Nat) → Vl d → Nat → Vl d
  | 0, v, _ => v
  | d + 1, v, k => ((k : Int), ((k + 1 : Nat) : Int), marks (k + 2) v.2.2.1.length, mkKs v.2.2.2.1 (k + 2 + v.2.2.1.length), mkLs (mkE d) (cE d) v.2.2.2.2 (k + 2 + v.2.2.1.length + (v.2.2.2.1.map List.length).sum))

/-- One value of a list of the call's own is written anew, in its own blocks. -/
theorem LOwn.turn {w w' : World} {d : Nat} {x : Value} {l : List (Vl d)} {B : List Nat} {g cap : Nat} {cur cur' : Array Value} {Bi : List (List Nat)} (hx : x = .slice (some ⟨g, 0, none⟩) l.length cap) (h3 : l.length ≤ cap) (h4 : cap ≤ maxLen) (h5 : cur.size = cap * 5) (h6 : Bi.length = l.length)
    (h7 : ∀ i (h : i < l.length), ∃ e, Cells5 cur (i * 5) e ∧ VOwn w d e (l[i]) (Bi.getD i [])) (hB : B = g :: Bi.flatten) (hN : B.Nodup) {k : Nat} (hk : k < l.length) (hh' : w'.heap[g]? = some (.cells cur' 26 (0, 0))) (hsz : cur'.size = cur.size) (hoth : ∀ j, j < k * 5 ∨ k * 5 + 5 ≤ j → cur'[j]? = cur[j]?)
    {e' : Value × Value × Value × Value × Value} (he' : Cells5 cur' (k * 5) e') {v' : Vl d} (hv' : VOwn w' d e' v' (Bi.getD k [])) (ht : Turned (g :: Bi.getD k []) w w') : LOwn w' d x (l.set k v') B := by
  subst hB
  have hg : g ∉ Bi.flatten := (List.nodup_cons.1 hN).1
  refine .inr ⟨g, cap, cur', Bi, by simpa using hx, hh', by simpa using h3, h4, by omega, by simpa using h6, fun i hi => ?_, rfl, hN⟩
  have hi' : i < l.length := by simpa using hi
  by_cases e : i = k
  · subst e
    exact ⟨e', he', by simpa using hv'⟩
  · obtain ⟨u, hc, hv⟩ := h7 i hi'
    refine ⟨u, ?_, ?_⟩
    · obtain ⟨q0, q1, q2, q3, q4⟩ := hc
      refine ⟨?_, ?_, ?_, ?_, ?_⟩ <;> rw [hoth _ (by omega)] <;> assumption
    · rw [List.getElem_set_ne (fun h => e h.symm)]
      refine VOwn.agree d hv fun b hb => ht.block b (VOwn.lt d hv b hb) fun hm => ?_
      rcases List.mem_cons.1 hm with rfl | hm
      · exact hg (flatten_mem_getD (by omega) hb)
      · exact disj_flatten (List.nodup_cons.1 hN).2 (by omega : i < Bi.length) (by omega : k < Bi.length) e hb hm

/-- The contract of markValueS at depth d. -/
def MkAt (d : Nat) : Prop := ∀ (x : Value) (l : List (Vl d)) (B : List Nat) (m : Nat) (w : World), LOwn w d x l B → szL d l ≤ 1048576 → m + (l.map (cE d)).sum ≤ 1125899906842624 →
  Calls Tryd.prog 43 #[x, .int .i64 m] w fun e w' => e = .returned (.int .i64 ((m + (l.map (cE d)).sum : Nat) : Int)) ∧ LOwn w' d x (mkLs (mkE d) (cE d) l m) B ∧ Turned B w w'

/-- The row of a list while one value of it is marked: its first two cells. -/
theorem set2_cells {cur : Array Value} {j : Nat} {c0 c1 c2 c3 c4 a b : Value} (h : Cells5 cur j (c0, c1, c2, c3, c4)) : Cells5 ((cur.setIfInBounds j a).setIfInBounds (j + 1) b) j (a, b, c2, c3, c4) := by
  obtain ⟨h0, h1, h2, h3, h4⟩ := h
  have l1 := (Array.getElem?_eq_some_iff.1 h1).1
  simp only at h0 h1 h2 h3 h4
  refine ⟨?_, ?_, ?_, ?_, ?_⟩
  · simp only
    rw [Array.getElem?_setIfInBounds_ne (by omega), Array.getElem?_setIfInBounds_self]
    simp; omega
  · simp only
    rw [Array.getElem?_setIfInBounds_self]
    simp; omega
  · simp only
    rw [Array.getElem?_setIfInBounds_ne (by omega), Array.getElem?_setIfInBounds_ne (by omega)]
    exact h2
  · simp only
    rw [Array.getElem?_setIfInBounds_ne (by omega), Array.getElem?_setIfInBounds_ne (by omega)]
    exact h3
  · simp only
    rw [Array.getElem?_setIfInBounds_ne (by omega), Array.getElem?_setIfInBounds_ne (by omega)]
    exact h4

/-- The two first stores. -/
def set2 (w : World) (g j : Nat) (a b : Value) : World := (w.setCell ⟨g, j, none⟩ a).setCell ⟨g, j + 1, none⟩ b
theorem set2_heap {w : World} {g j : Nat} {cur : Array Value} {T : TypeId} (a b : Value) (h : w.heap[g]? = some (.cells cur T (0, 0))) : (set2 w g j a b).heap[g]? = some (.cells ((cur.setIfInBounds j a).setIfInBounds (j + 1) b) T (0, 0)) :=
  heap_setCell_same _ g (j + 1) _ T b (heap_setCell_same w g j cur T a h)
theorem set2_turned (w : World) (g j : Nat) (a b : Value) : Turned [g] w (set2 w g j a b) :=
  Turned.of_grown (grownBy_trans (grown1 w g j a) (grown1 _ g (j + 1) b)) fun k e => by simp at e; simp [e]

theorem LOwn.lt {w : World} {d : Nat} {x : Value} {l : List (Vl d)} {B : List Nat} (h : LOwn w d x l B) : ∀ b ∈ B, b < w.heap.size := by
  intro b hb
  rcases h with ⟨_, _, rfl⟩ | ⟨g, cap, cur, Bi, _, h2, _, _, _, h6, h7, rfl, _⟩
  · simp at hb
  · rcases List.mem_cons.1 hb with rfl | hb
    · exact (Array.getElem?_eq_some_iff.1 h2).1
    · obtain ⟨q, hq, hbq⟩ := List.mem_flatten.1 hb
      obtain ⟨i, hi, rfl⟩ := List.getElem_of_mem hq
      obtain ⟨e, _, hv⟩ := h7 i (by omega)
      exact VOwn.lt d hv b (by simpa [List.getD_eq_getElem?_getD, hi] using hbq)

/-- One value of a list while it is marked. -/
def MkSt (wr : World) (g : Nat) (cur : Array Value) (d : Nat) (c2 c3 c4 : Value) (S : List Int) (K : List (List Int)) (L : List (Vl d)) (Bs Bk Bl : List Nat) (wx : World) : Prop :=
  TOwn wx c2 S Bs ∧ KOwn wx c3 K Bk ∧ LOwn wx d c4 L Bl ∧ wx.heap[g]? = some (.cells cur 26 (0, 0)) ∧ Turned (g :: (Bs ++ (Bk ++ Bl))) wr wx

section
variable {wr : World} {g : Nat} {cur : Array Value} {d : Nat} {c2 c3 c4 : Value} {S S2 : List Int} {K K2 : List (List Int)} {L L2 : List (Vl d)} {Bs Bk Bl : List Nat} {wx wy : World}

theorem nd_parts (h : (g :: (Bs ++ (Bk ++ Bl))).Nodup) : g ∉ Bs ∧ g ∉ Bk ∧ g ∉ Bl ∧ (∀ b ∈ Bk, b ∉ Bs) ∧ (∀ b ∈ Bl, b ∉ Bs) ∧ (∀ b ∈ Bl, b ∉ Bk) := by
  rw [List.nodup_cons, List.nodup_append, List.nodup_append] at h
  obtain ⟨h1, _, ⟨_, _, h4⟩, h5⟩ := h
  simp only [List.mem_append, not_or] at h1
  refine ⟨h1.1, h1.2.1, h1.2.2, fun b hb hs => h5 b hs b (List.mem_append_left _ hb) rfl, fun b hb hs => h5 b hs b (List.mem_append_right _ hb) rfl, fun b hb hk => h4 b hk b hb rfl⟩

theorem MkSt.text (h : MkSt wr g cur d c2 c3 c4 S K L Bs Bk Bl wx) (hnd : (g :: (Bs ++ (Bk ++ Bl))).Nodup) (ht : TOwn wy c2 S2 Bs) (hT : Turned Bs wx wy) : MkSt wr g cur d c2 c3 c4 S2 K L Bs Bk Bl wy := by
  obtain ⟨n1, n2, n3, n4, n5, n6⟩ := nd_parts hnd
  obtain ⟨h1, h2, h3, h4, h5⟩ := h
  exact ⟨ht, h2.agree fun b hb => hT.block b (h2.lt b hb) (n4 b hb), LOwn.agree h3 fun b hb => hT.block b (h3.lt b hb) (n5 b hb), (hT.block g (Array.getElem?_eq_some_iff.1 h4).1 n1).trans h4, h5.trans (hT.mono fun b hb => List.mem_cons_of_mem _ (List.mem_append_left _ hb))⟩

theorem MkSt.keys (h : MkSt wr g cur d c2 c3 c4 S K L Bs Bk Bl wx) (hnd : (g :: (Bs ++ (Bk ++ Bl))).Nodup) (ht : KOwn wy c3 K2 Bk) (hT : Turned Bk wx wy) : MkSt wr g cur d c2 c3 c4 S K2 L Bs Bk Bl wy := by
  obtain ⟨n1, n2, n3, n4, n5, n6⟩ := nd_parts hnd
  obtain ⟨h1, h2, h3, h4, h5⟩ := h
  exact ⟨h1.agree fun b hb => hT.block b (h1.lt b hb) (fun hm => n4 b hm hb), ht, LOwn.agree h3 fun b hb => hT.block b (h3.lt b hb) (n6 b hb), (hT.block g (Array.getElem?_eq_some_iff.1 h4).1 n2).trans h4, h5.trans (hT.mono fun b hb => List.mem_cons_of_mem _ (List.mem_append_right _ (List.mem_append_left _ hb)))⟩

theorem MkSt.list (h : MkSt wr g cur d c2 c3 c4 S K L Bs Bk Bl wx) (hnd : (g :: (Bs ++ (Bk ++ Bl))).Nodup) (ht : LOwn wy d c4 L2 Bl) (hT : Turned Bl wx wy) : MkSt wr g cur d c2 c3 c4 S K L2 Bs Bk Bl wy := by
  obtain ⟨n1, n2, n3, n4, n5, n6⟩ := nd_parts hnd
  obtain ⟨h1, h2, h3, h4, h5⟩ := h
  exact ⟨h1.agree fun b hb => hT.block b (h1.lt b hb) (fun hm => n5 b hm hb), h2.agree fun b hb => hT.block b (h2.lt b hb) (fun hm => n6 b hm hb), ht, (hT.block g (Array.getElem?_eq_some_iff.1 h4).1 n3).trans h4, h5.trans (hT.mono fun b hb => List.mem_cons_of_mem _ (List.mem_append_right _ (List.mem_append_right _ hb)))⟩

theorem MkSt.start {cur0 : Array Value} {j : Nat} {a b : Value} (h1 : TOwn wr c2 S Bs) (h2 : KOwn wr c3 K Bk) (h3 : LOwn wr d c4 L Bl) (hh : wr.heap[g]? = some (.cells cur0 26 (0, 0))) (hnd : (g :: (Bs ++ (Bk ++ Bl))).Nodup) :
    MkSt wr g ((cur0.setIfInBounds j a).setIfInBounds (j + 1) b) d c2 c3 c4 S K L Bs Bk Bl (set2 wr g j a b) := by
  obtain ⟨n1, n2, n3, n4, n5, n6⟩ := nd_parts hnd
  have hT := set2_turned wr g j a b
  exact ⟨h1.agree fun b hb => hT.block b (h1.lt b hb) (by simp; intro e; exact n1 (e ▸ hb)), h2.agree fun b hb => hT.block b (h2.lt b hb) (by simp; intro e; exact n2 (e ▸ hb)), LOwn.agree h3 fun b hb => hT.block b (h3.lt b hb) (by simp; intro e; exact n3 (e ▸ hb)), set2_heap a b hh, hT.mono (by simp)⟩
end

set_option maxHeartbeats 6400000 in
theorem markValueS_succ (d : Nat) (ih : MkAt d) : MkAt (d + 1) := by
  intro x l B m w h hs hm
  have hform : ∃ a c, x = .slice a l.length c := by
    rcases h with ⟨rfl, rfl, _⟩ | ⟨g, cap, cur, Bi, rfl, _⟩
    · exact ⟨none, 0, rfl⟩
    · exact ⟨_, _, rfl⟩
  obtain ⟨a, c, rfl⟩ := hform
  have hsl : szL (d + 1) l = l.length + (l.map (szV (d + 1))).sum := rfl
  have HP : Hid (∀ k (hk : k < l.length), pre (cE (d + 1)) l (k + 1) = pre (cE (d + 1)) l k + cE (d + 1) l[k]) := fun k hk => pre_succ (cE (d + 1)) l k hk
  have HL : Hid (∀ k, pre (cE (d + 1)) l k ≤ (l.map (cE (d + 1))).sum) := pre_le (cE (d + 1)) l
  have HA : Hid (pre (cE (d + 1)) l l.length = (l.map (cE (d + 1))).sum) := pre_all _ _
  have HZ : Hid (∀ k (hk : k < l.length), szV (d + 1) l[k] ≤ 1048576) := fun k hk => Nat.le_trans (sz_elem hk) hs
  have H0 := hide' h
  have HI := hide' ih
  have hn : l.length ≤ 1048576 := by omega
  generalize hS : (l.map (cE (d + 1))).sum = S at *
  clear h hs hsl ih hS
  go_enter Tryd.func43, Tryd.ntmps43
  go_wp2
  go_loopw [1, 5] (fun m' i wr => ∃ k : Nat, k ≤ l.length ∧ i = .int .i64 k ∧ m' = .int .i64 ((m + pre (cE (d + 1)) l k : Nat) : Int) ∧ Hid (LOwn wr (d + 1) (.slice a l.length c) (mixL (mkE (d + 1)) (cE (d + 1)) l m k) B) ∧ Hid (Turned B w wr)) (fun _ i _ => l.length - (intOf i).toNat)
  case atStart => exact ⟨0, Nat.zero_le _, rfl, by rw [pre_zero]; simp, by rw [mixL_zero]; exact H0, Turned.refl _ _⟩
  case round =>
    obtain ⟨k, hk, rfl, rfl, hK, hT⟩ := hrel
    have hpk := HL.out k
    by_cases hlt : k < l.length
    · have hlt' : (k : Int) < (l.length : Int) := by omega
      have hps := HP.out k hlt
      have hpk1 := HL.out (k + 1)
      have hml := length_mixL (mkE (d + 1)) (cE (d + 1)) l m k hk
      rcases hK.out with ⟨_, h0, _⟩ | ⟨g, cap, cur, Bi, hv, hh, h3, h4, h5, h6, h7, hB, hN⟩
      · rw [h0] at hml
        simp at hml
        omega
      · obtain ⟨⟨c0, c1, c2, c3, c4⟩, hcs, hVO⟩ := h7 k (by omega)
        rw [mixL_at (mkE (d + 1)) (cE (d + 1)) l m k hlt] at hVO
        have hlk : ∃ (vk vn : Int) (vS : List Int) (vK : List (List Int)) (vL : List (Vl d)), l[k] = (vk, vn, vS, vK, vL) := ⟨_, _, _, _, _, rfl⟩
        obtain ⟨vk, vn, vS, vK, vL, hlk⟩ := hlk
        rw [hlk] at hVO
        obtain ⟨e0, e1, Bs, Bk, Bl, ht, hkk, hll, hBk, hnk⟩ := (VOwn_succ _ _ _ _ _).1 hVO
        simp only at e0 e1 ht hkk hll
        have hz := HZ.out k hlt
        rw [hlk] at hz hps
        have hz' : szV (d + 1) (vk, vn, vS, vK, vL) = vS.length + szK vK + szL d vL := rfl
        have hc' : cE (d + 1) (vk, vn, vS, vK, vL) = 2 + (vS.length + ((vK.map List.length).sum + (vL.map (cE d)).sum)) := rfl
        have hkz : szK vK = vK.length + (vK.map List.length).sum := rfl
        have hgk : k < Bi.length := by omega
        have hnd : (g :: (Bs ++ (Bk ++ Bl))).Nodup := by
          rw [List.nodup_cons]
          refine ⟨fun hm => ?_, hBk ▸ hnk⟩
          rw [hB, List.nodup_cons] at hN
          exact hN.1 (flatten_mem_getD hgk (by rw [hBk]; exact hm))
        have hva : a = some ⟨g, 0, none⟩ := by simp at hv; exact hv.1
        subst hva
        generalize hq : pre (cE (d + 1)) l k = q at *
        have hst := MkSt.start (j := k * 5) (a := .int .i64 ((m : Int) + q)) (b := .int .i64 ((m : Int) + q + 1)) ht hkk hll hh hnd
        have hcs' := set2_cells (a := .int .i64 ((m : Int) + q)) (b := .int .i64 ((m : Int) + q + 1)) hcs
        have hcl : ∀ wx, MkSt wr g ((cur.setIfInBounds (k * 5) (.int .i64 ((m : Int) + q))).setIfInBounds (k * 5 + 1) (.int .i64 ((m : Int) + q + 1))) d c2 c3 c4 vS vK vL Bs Bk Bl wx → True := fun _ _ => trivial
        obtain ⟨x0, hx0⟩ : ∃ y, wr.cell? ⟨g, k * 5, none⟩ = some y := ⟨_, by rw [cell_of_row wr g _ cur _ (0, 0) hh]; exact hcs.1⟩
        obtain ⟨x1, hx1⟩ : ∃ y, wr.cell? ⟨g, k * 5 + 1, none⟩ = some y := ⟨_, by rw [cell_of_row wr g _ cur _ (0, 0) hh]; exact hcs.2.1⟩
        have f0 := frozen_of_row wr g (k * 5) cur _ hh
        have f1 := frozen_of_row wr g (k * 5 + 1) cur _ hh
        obtain ⟨sa, sc, rfl, _⟩ := ht.1.shape
        have hkf : ∃ ka kc, c3 = .slice ka vK.length kc := by
          rcases hkk with ⟨e, e', _⟩ | ⟨_, _, _, _, e, _⟩
          · exact ⟨none, 0, by rw [e, e']; rfl⟩
          · exact ⟨_, _, e⟩
        obtain ⟨ka, kc, rfl⟩ := hkf
        have hlf : ∃ la lc, c4 = .slice la vL.length lc := by
          rcases hll with ⟨e, e', _⟩ | ⟨_, _, _, _, e, _⟩
          · exact ⟨none, 0, by rw [e, e']; rfl⟩
          · exact ⟨_, _, e⟩
        obtain ⟨la, lc, rfl⟩ := hlf
        have y2 : wr.cell? ⟨g, k * 5 + 2, none⟩ = some (.slice sa vS.length sc) := by rw [cell_of_row wr g _ cur _ (0, 0) hh]; exact hcs.2.2.1
        have HM1 : Hid (Calls Tryd.prog 20 #[.slice sa vS.length sc, .int .i64 ((m : Int) + q + 1 + 1)] (set2 wr g (k * 5) (.int .i64 ((m : Int) + q)) (.int .i64 ((m : Int) + q + 1))) fun e w' => e = .returned (.int .i64 ((m : Int) + q + 1 + 1 + vS.length)) ∧ w'.cell? ⟨g, k * 5 + 3, none⟩ = some (.slice ka vK.length kc) ∧ Hid (MkSt wr g ((cur.setIfInBounds (k * 5) (.int .i64 ((m : Int) + q))).setIfInBounds (k * 5 + 1) (.int .i64 ((m : Int) + q + 1))) d (.slice sa vS.length sc) (.slice ka vK.length kc) (.slice la vL.length lc) (marks (m + q + 1 + 1) vS.length) vK vL Bs Bk Bl w')) := by
          refine arg_eq (x := ((m + q + 1 + 1 : Nat) : Int)) (by push_cast; rfl) ((markByteS_F sa sc vS (m + q + 1 + 1) _ hst.1.1 (by omega) (by omega)).mono ?_)
          rintro e w' ⟨rfl, hb, hg⟩
          have h' := hst.text hnd (hst.1.marked hb) (hst.1.turned hg)
          exact ⟨ret_i64 (by push_cast; rfl), by rw [cell_of_row w' g _ _ _ (0, 0) h'.2.2.2.1]; exact hcs'.2.2.2.1, h'⟩
        have HM2 : Hid (∀ w1, Hid (MkSt wr g ((cur.setIfInBounds (k * 5) (.int .i64 ((m : Int) + q))).setIfInBounds (k * 5 + 1) (.int .i64 ((m : Int) + q + 1))) d (.slice sa vS.length sc) (.slice ka vK.length kc) (.slice la vL.length lc) (marks (m + q + 1 + 1) vS.length) vK vL Bs Bk Bl w1) → Calls Tryd.prog 42 #[.slice ka vK.length kc, .int .i64 ((m : Int) + q + 1 + 1 + vS.length)] w1 fun e w' => e = .returned (.int .i64 ((m : Int) + q + 1 + 1 + vS.length + ((vK.map List.length).sum : Nat))) ∧ w'.cell? ⟨g, k * 5 + 4, none⟩ = some (.slice la vL.length lc) ∧ Hid (MkSt wr g ((cur.setIfInBounds (k * 5) (.int .i64 ((m : Int) + q))).setIfInBounds (k * 5 + 1) (.int .i64 ((m : Int) + q + 1))) d (.slice sa vS.length sc) (.slice ka vK.length kc) (.slice la vL.length lc) (marks (m + q + 1 + 1) vS.length) (mkKs vK (m + q + 1 + 1 + vS.length)) vL Bs Bk Bl w')) := by
          intro w1 h1
          refine arg_eq (x := ((m + q + 1 + 1 + vS.length : Nat) : Int)) (by push_cast; rfl) ((markByteSS_any _ vK Bk (m + q + 1 + 1 + vS.length) w1 h1.out.2.1 (by omega) (by omega)).mono ?_)
          rintro e w' ⟨rfl, hb, hg⟩
          have h' := h1.out.keys hnd hb hg
          exact ⟨ret_i64 (by push_cast; rfl), by rw [cell_of_row w' g _ _ _ (0, 0) h'.2.2.2.1]; exact hcs'.2.2.2.2, h'⟩
        have HM3 : Hid (∀ w1, Hid (MkSt wr g ((cur.setIfInBounds (k * 5) (.int .i64 ((m : Int) + q))).setIfInBounds (k * 5 + 1) (.int .i64 ((m : Int) + q + 1))) d (.slice sa vS.length sc) (.slice ka vK.length kc) (.slice la vL.length lc) (marks (m + q + 1 + 1) vS.length) (mkKs vK (m + q + 1 + 1 + vS.length)) vL Bs Bk Bl w1) → Calls Tryd.prog 43 #[.slice la vL.length lc, .int .i64 ((m : Int) + q + 1 + 1 + vS.length + ((vK.map List.length).sum : Nat))] w1 fun e w' => e = .returned (.int .i64 ((m : Int) + q + 1 + 1 + vS.length + ((vK.map List.length).sum : Nat) + ((vL.map (cE d)).sum : Nat))) ∧ Hid (LOwn w' (d + 1) (.slice (some ⟨g, 0, none⟩) l.length c) (mixL (mkE (d + 1)) (cE (d + 1)) l m (k + 1)) B) ∧ Hid (Turned B w w')) := by
          intro w1 h1
          refine arg_eq (x := ((m + q + 1 + 1 + vS.length + (vK.map List.length).sum : Nat) : Int)) (by push_cast; rfl) ((HI.out _ vL Bl (m + q + 1 + 1 + vS.length + (vK.map List.length).sum) w1 h1.out.2.2.1 (by omega) (by omega)).mono ?_)
          rintro e w' ⟨rfl, hb, hg⟩
          have h' := h1.out.list hnd hb hg
          obtain ⟨g1, g2, g3, g4, g5⟩ := h'
          refine ⟨ret_i64 (by push_cast; rfl), ?_, ?_⟩
          · show LOwn w' (d + 1) _ (mixL (mkE (d + 1)) (cE (d + 1)) l m (k + 1)) B
            rw [mixL_succ (mkE (d + 1)) (cE (d + 1)) l m k hlt, hlk, hq]
            refine LOwn.turn hv h3 h4 h5 h6 h7 hB hN (by omega) g4 (by simp) ?_ hcs' ?_ (by rw [hBk]; exact g5)
            · intro j hj
              rw [Array.getElem?_setIfInBounds_ne (by omega), Array.getElem?_setIfInBounds_ne (by omega)]
            · rw [hBk]
              exact (VOwn_succ _ _ _ _ _).2 ⟨rfl, rfl, Bs, Bk, Bl, g1, g2, g3, rfl, hBk ▸ hnk⟩
          · refine hT.out.trans (g5.mono fun b hb => ?_)
            rw [hB]
            rcases List.mem_cons.1 hb with rfl | hb
            · simp
            · exact List.mem_cons_of_mem _ (flatten_mem_getD hgk (by rw [hBk]; exact hb))
        have hcE : m + q + 1 + 1 + vS.length + (vK.map List.length).sum + (vL.map (cE d)).sum ≤ 1125899906842624 := by omega
        have Hps : Hid (m + pre (cE (d + 1)) l (k + 1) = m + q + 1 + 1 + vS.length + (vK.map List.length).sum + (vL.map (cE d)).sum) := by show m + pre (cE (d + 1)) l (k + 1) = _; omega
        unfold set2 at HM1
        clear hK hT hh h7 hN hVO hcs hcs' hst hcl ht hkk hll hnk hnd hB hBk h6 h5 hv hps hlk hq HP HL HA HZ H0 HI
        generalize (vK.map List.length).sum = nK at *
        generalize (vL.map (cE d)).sum = nL at *
        generalize vS.length = nS at *
        generalize vK.length = kK at *
        generalize vL.length = kL at *
        go_wp2_with fail
        refine HM1.out.mono ?_
        rintro e w1 ⟨rfl, z3, hS1⟩
        have HM2' := hide' (HM2.out w1 hS1)
        clear hx0 hx1 f0 f1 y2 HM1 HM2
        go_wp2_with fail
        refine HM2'.out.mono ?_
        rintro e w2 ⟨rfl, z4, hS2⟩
        have HM3' := hide' (HM3.out w2 hS2)
        clear z3 hS1 HM2' HM3
        go_wp2_with fail
        refine HM3'.out.mono ?_
        rintro e w3 ⟨rfl, hK', hT'⟩
        clear z4 hS2 HM3'
        go_wp2
        go_roundw
        case rel => exact ⟨k + 1, by omega, by go_num, by rw [Hps.out]; go_num, hK', hT'⟩
        case measure => simp [intOf]; omega
    · have hkn : k = l.length := by omega
      have hkn' : ¬ (k : Int) < (l.length : Int) := by omega
      have HE : Hid (LOwn wr (d + 1) (.slice a l.length c) (mkLs (mkE (d + 1)) (cE (d + 1)) l m) B) := by
        have hK2 := hK.out
        rw [hkn, mixL_all] at hK2
        exact hK2
      have HQ : Hid (pre (cE (d + 1)) l k = S) := by show pre (cE (d + 1)) l k = _; rw [hkn]; exact HA.out
      clear hkn hK
      go_wp2
      go_ret
      exact ⟨ret_i64 (by rw [HQ.out]), HE.out, hT.out⟩

set_option maxHeartbeats 1600000 in
theorem markValueS_zero : MkAt 0 := by
  intro x l B m w h hs hm
  have hl : l = [] := by
    rcases h with ⟨_, e, _⟩ | ⟨g, cap, cur, Bi, _, _, _, _, _, _, h7, _⟩
    · exact e
    · cases l with
      | nil => rfl
      | cons y r =>
        obtain ⟨e, _, hv⟩ := h7 0 (by simp)
        exact hv.elim
  subst hl
  have H0 := hide' h
  have hform : ∃ a c, x = .slice a 0 c := by
    rcases h with ⟨rfl, _, _⟩ | ⟨g, cap, cur, Bi, rfl, _⟩
    · exact ⟨none, 0, rfl⟩
    · exact ⟨_, _, rfl⟩
  obtain ⟨a, c, rfl⟩ := hform
  clear h
  go_enter Tryd.func43, Tryd.ntmps43
  go_wp2
  go_loopw [1, 5] (fun m' i wr => i = .int .i64 0 ∧ m' = .int .i64 m ∧ wr = w) (fun _ i _ => 0)
  case atStart => exact ⟨rfl, rfl, rfl⟩
  case round =>
    obtain ⟨rfl, rfl, rfl⟩ := hrel
    go_wp2
    go_ret
    exact ⟨ret_i64 (by simp), H0.out, Turned.refl _ _⟩

theorem markValueS_any (d : Nat) : MkAt d := by
  induction d with
  | zero => exact markValueS_zero
  | succ d ih => exact markValueS_succ d ih

/-- A value after it was marked, from k on: its own kind and number stay. -/
def mkV (d : Nat) (v : Vl (d + 1)) (k : Nat) : Vl (d + 1) := (v.1, v.2.1, marks k v.2.2.1.length, mkKs v.2.2.2.1 (k + v.2.2.1.length), mkLs (mkE d) (cE d) v.2.2.2.2 (k + v.2.2.1.length + (v.2.2.2.1.map List.length).sum))
/-- How many numbers it takes. -/
def cV (d : Nat) (v : Vl (d + 1)) : Nat := v.2.2.1.length + (v.2.2.2.1.map List.length).sum + (v.2.2.2.2.map (cE d)).sum
end Go.Proofs.YtfokidhamjphfaaDoor
