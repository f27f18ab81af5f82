/-
  Texts that a law leans on, one behind the other; no statement is proved here.
-/
import Derived.Test.YtpknhmegoldppaaPk1
import Derived.Test.YtpknhmegoldppaaPk2
import Derived.Test.YtpknhmegoldppaaPk0
import Derived.Laws.IdiomStrings
import Derived.Lib.Bytealg
/-
  The laws' own helper markValueS: running numbers written into a list of values of the call's own, at every depth; markValue.
-/
namespace Go.Proofs.Ytpknhmegoldppaa
open Go.RowKit
set_option linter.unusedVariables false
set_option linter.unusedSimpArgs false

/-- How many numbers a value of a list takes. -/
def cE : (d : Nat) → Vl d → Nat
  | 0, _ => 0
  | d + 1, v => 2 + (v.2.2.1.length + ((v.2.2.2.1.map List.length).sum + (v.2.2.2.2.map (cE d)).sum))


/-- A value of a list after it was marked, from k on. -/
def mkE : (d : Nat) → Vl d → Nat → Vl d
  | 0, v, _ => v
  | d + 1, v, k => ((k : Int), ((k + 1 : Nat) : Int), marks (k + 2) v.2.2.1.length, mkKs v.2.2.2.1 (k + 2 + v.2.2.1.length), mkLs (mkE d) (cE d) v.2.2.2.2 (k + 2 + v.2.2.1.length + (v.2.2.2.1.map List.length).sum))


/-- One value of a list of the call's own is written anew, in its own blocks. -/
theorem LOwn.turn {w w' : World} {d : Nat} {x : Value} {l : List (Vl d)} {B : List Nat} {g cap : Nat} {cur cur' : Array Value} {Bi : List (List Nat)} (hx : x = .slice (some ⟨g, 0, none⟩) l.length cap) (h3 : l.length ≤ cap) (h4 : cap ≤ maxLen) (h5 : cur.size = cap * 5) (h6 : Bi.length = l.length)
    (h7 : ∀ i (h : i < l.length), ∃ e, Cells5 cur (i * 5) e ∧ VOwn w d e (l[i]) (Bi.getD i [])) (hB : B = g :: Bi.flatten) (hN : B.Nodup) {k : Nat} (hk : k < l.length) (hh' : w'.heap[g]? = some (.cells cur' 30 (0, 0))) (hsz : cur'.size = cur.size) (hoth : ∀ j, j < k * 5 ∨ k * 5 + 5 ≤ j → cur'[j]? = cur[j]?)
    {e' : Value × Value × Value × Value × Value} (he' : Cells5 cur' (k * 5) e') {v' : Vl d} (hv' : VOwn w' d e' v' (Bi.getD k [])) (ht : Turned (g :: Bi.getD k []) w w') : LOwn w' d x (l.set k v') B := by
  subst hB
  have hg : g ∉ Bi.flatten := (List.nodup_cons.1 hN).1
  refine .inr ⟨g, cap, cur', Bi, by simpa using hx, hh', by simpa using h3, h4, by omega, by simpa using h6, fun i hi => ?_, rfl, hN⟩
  have hi' : i < l.length := by simpa using hi
  by_cases e : i = k
  · subst e
    exact ⟨e', he', by simpa using hv'⟩
  · obtain ⟨u, hc, hv⟩ := h7 i hi'
    refine ⟨u, ?_, ?_⟩
    · obtain ⟨q0, q1, q2, q3, q4⟩ := hc
      refine ⟨?_, ?_, ?_, ?_, ?_⟩ <;> rw [hoth _ (by omega)] <;> assumption
    · rw [List.getElem_set_ne (fun h => e h.symm)]
      refine VOwn.agree d hv fun b hb => ht.block b (VOwn.lt d hv b hb) fun hm => ?_
      rcases List.mem_cons.1 hm with rfl | hm
      · exact hg (flatten_mem_getD (by omega) hb)
      · exact disj_flatten (List.nodup_cons.1 hN).2 (by omega : i < Bi.length) (by omega : k < Bi.length) e hb hm

/-- The contract of markValueS at depth d. -/
def MkAt (d : Nat) : Prop := ∀ (x : Value) (l : List (Vl d)) (B : List Nat) (m : Nat) (w : World), LOwn w d x l B → szL d l ≤ 1048576 → m + (l.map (cE d)).sum ≤ 1125899906842624 →
  Calls Try.prog 39 #[x, .int .i64 m] w fun e w' => e = .returned (.int .i64 ((m + (l.map (cE d)).sum : Nat) : Int)) ∧ LOwn w' d x (mkLs (mkE d) (cE d) l m) B ∧ Turned B w w'

/-- What is left of the room behind the first k. -/
theorem cE_le (d : Nat) (v : Vl (d + 1)) : cE (d + 1) v = 2 + (v.2.2.1.length + ((v.2.2.2.1.map List.length).sum + (v.2.2.2.2.map (cE d)).sum)) := rfl

/-- The row of a list while one value of it is marked: its first two cells. -/
theorem set2_cells {cur : Array Value} {j : Nat} {c0 c1 c2 c3 c4 a b : Value} (h : Cells5 cur j (c0, c1, c2, c3, c4)) : Cells5 ((cur.setIfInBounds j a).setIfInBounds (j + 1) b) j (a, b, c2, c3, c4) := by
  obtain ⟨h0, h1, h2, h3, h4⟩ := h
  have l1 := (Array.getElem?_eq_some_iff.1 h1).1
  simp only at h0 h1 h2 h3 h4
  refine ⟨?_, ?_, ?_, ?_, ?_⟩
  · simp only
    rw [Array.getElem?_setIfInBounds_ne (by omega), Array.getElem?_setIfInBounds_self]
    simp; omega
  · simp only
    rw [Array.getElem?_setIfInBounds_self]
    simp; omega
  · simp only
    rw [Array.getElem?_setIfInBounds_ne (by omega), Array.getElem?_setIfInBounds_ne (by omega)]
    exact h2
  · simp only
    rw [Array.getElem?_setIfInBounds_ne (by omega), Array.getElem?_setIfInBounds_ne (by omega)]
    exact h3
  · simp only
    rw [Array.getElem?_setIfInBounds_ne (by omega), Array.getElem?_setIfInBounds_ne (by omega)]
    exact h4

/-- The two first stores. -/
def set2 (w : World) (g j : Nat) (a b : Value) : World := (w.setCell ⟨g, j, none⟩ a).setCell ⟨g, j + 1, none⟩ b
theorem set2_heap {w : World} {g j : Nat} {cur : Array Value} {T : TypeId} (a b : Value) (h : w.heap[g]? = some (.cells cur T (0, 0))) : (set2 w g j a b).heap[g]? = some (.cells ((cur.setIfInBounds j a).setIfInBounds (j + 1) b) T (0, 0)) :=
  heap_setCell_same _ g (j + 1) _ T b (heap_setCell_same w g j cur T a h)
theorem set2_turned (w : World) (g j : Nat) (a b : Value) : Turned [g] w (set2 w g j a b) :=
  Turned.of_grown (grownBy_trans (grown1 w g j a) (grown1 _ g (j + 1) b)) fun k e => by simp at e; simp [e]


theorem LOwn.lt {w : World} {d : Nat} {x : Value} {l : List (Vl d)} {B : List Nat} (h : LOwn w d x l B) : ∀ b ∈ B, b < w.heap.size := by
  intro b hb
  rcases h with ⟨_, _, rfl⟩ | ⟨g, cap, cur, Bi, _, h2, _, _, _, h6, h7, rfl, _⟩
  · simp at hb
  · rcases List.mem_cons.1 hb with rfl | hb
    · exact (Array.getElem?_eq_some_iff.1 h2).1
    · obtain ⟨q, hq, hbq⟩ := List.mem_flatten.1 hb
      obtain ⟨i, hi, rfl⟩ := List.getElem_of_mem hq
      obtain ⟨e, _, hv⟩ := h7 i (by omega)
      exact VOwn.lt d hv b (by simpa [List.getD_eq_getElem?_getD, hi] using hbq)

/-- One value of a list while it is marked. -/
def MkSt (wr : World) (g : Nat) (cur : Array Value) (d : Nat) (c2 c3 c4 : Value) (S : List Int) (K : List (List Int)) (L : List (Vl d)) (Bs Bk Bl : List Nat) (wx : World) : Prop :=
  TOwn wx c2 S Bs ∧ KOwn wx c3 K Bk ∧ LOwn wx d c4 L Bl ∧ wx.heap[g]? = some (.cells cur 30 (0, 0)) ∧ Turned (g :: (Bs ++ (Bk ++ Bl))) wr wx

section
variable {wr : World} {g : Nat} {cur : Array Value} {d : Nat} {c2 c3 c4 : Value} {S S2 : List Int} {K K2 : List (List Int)} {L L2 : List (Vl d)} {Bs Bk Bl : List Nat} {wx wy : World}

theorem nd_parts (h : (g :: (Bs ++ (Bk ++ Bl))).Nodup) : g ∉ Bs ∧ g ∉ Bk ∧ g ∉ Bl ∧ (∀ b ∈ Bk, b ∉ Bs) ∧ (∀ b ∈ Bl, b ∉ Bs) ∧ (∀ b ∈ Bl, b ∉ Bk) := by
  rw [List.nodup_cons, List.nodup_append, List.nodup_append] at h
  obtain ⟨h1, _, ⟨_, _, h4⟩, h5⟩ := h
  simp only [List.mem_append, not_or] at h1
  refine ⟨h1.1, h1.2.1, h1.2.2, fun b hb hs => h5 b hs b (List.mem_append_left _ hb) rfl, fun b hb hs => h5 b hs b (List.mem_append_right _ hb) rfl, fun b hb hk => h4 b hk b hb rfl⟩

theorem MkSt.text (h : MkSt wr g cur d c2 c3 c4 S K L Bs Bk Bl wx) (hnd : (g :: (Bs ++ (Bk ++ Bl))).Nodup) (ht : TOwn wy c2 S2 Bs) (hT : Turned Bs wx wy) : MkSt wr g cur d c2 c3 c4 S2 K L Bs Bk Bl wy := by
  obtain ⟨n1, n2, n3, n4, n5, n6⟩ := nd_parts hnd
  obtain ⟨h1, h2, h3, h4, h5⟩ := h
  exact ⟨ht, h2.agree fun b hb => hT.block b (h2.lt b hb) (n4 b hb), LOwn.agree h3 fun b hb => hT.block b (h3.lt b hb) (n5 b hb), (hT.block g (Array.getElem?_eq_some_iff.1 h4).1 n1).trans h4, h5.trans (hT.mono fun b hb => List.mem_cons_of_mem _ (List.mem_append_left _ hb))⟩

theorem MkSt.keys (h : MkSt wr g cur d c2 c3 c4 S K L Bs Bk Bl wx) (hnd : (g :: (Bs ++ (Bk ++ Bl))).Nodup) (ht : KOwn wy c3 K2 Bk) (hT : Turned Bk wx wy) : MkSt wr g cur d c2 c3 c4 S K2 L Bs Bk Bl wy := by
  obtain ⟨n1, n2, n3, n4, n5, n6⟩ := nd_parts hnd
  obtain ⟨h1, h2, h3, h4, h5⟩ := h
  exact ⟨h1.agree fun b hb => hT.block b (h1.lt b hb) (fun hm => n4 b hm hb), ht, LOwn.agree h3 fun b hb => hT.block b (h3.lt b hb) (n6 b hb), (hT.block g (Array.getElem?_eq_some_iff.1 h4).1 n2).trans h4, h5.trans (hT.mono fun b hb => List.mem_cons_of_mem _ (List.mem_append_right _ (List.mem_append_left _ hb)))⟩

theorem MkSt.list (h : MkSt wr g cur d c2 c3 c4 S K L Bs Bk Bl wx) (hnd : (g :: (Bs ++ (Bk ++ Bl))).Nodup) (ht : LOwn wy d c4 L2 Bl) (hT : Turned Bl wx wy) : MkSt wr g cur d c2 c3 c4 S K L2 Bs Bk Bl wy := by
  obtain ⟨n1, n2, n3, n4, n5, n6⟩ := nd_parts hnd
  obtain ⟨h1, h2, h3, h4, h5⟩ := h
  exact ⟨h1.agree fun b hb => hT.block b (h1.lt b hb) (fun hm => n5 b hm hb), h2.agree fun b hb => hT.block b (h2.lt b hb) (fun hm => n6 b hm hb), ht, (hT.block g (Array.getElem?_eq_some_iff.1 h4).1 n3).trans h4, h5.trans (hT.mono fun b hb => List.mem_cons_of_mem _ (List.mem_append_right _ (List.mem_append_right _ hb)))⟩

theorem MkSt.start {cur0 : Array Value} {j : Nat} {a b : Value} (h1 : TOwn wr c2 S Bs) (h2 : KOwn wr c3 K Bk) (h3 : LOwn wr d c4 L Bl) (hh : wr.heap[g]? = some (.cells cur0 30 (0, 0))) (hnd : (g :: (Bs ++ (Bk ++ Bl))).Nodup) :
    MkSt wr g ((cur0.setIfInBounds j a).setIfInBounds (j + 1) b) d c2 c3 c4 S K L Bs Bk Bl (set2 wr g j a b) := by
  obtain ⟨n1, n2, n3, n4, n5, n6⟩ := nd_parts hnd
  have hT := set2_turned wr g j a b
  exact ⟨h1.agree fun b hb => hT.block b (h1.lt b hb) (by simp; intro e; exact n1 (e ▸ hb)), h2.agree fun b hb => hT.block b (h2.lt b hb) (by simp; intro e; exact n2 (e ▸ hb)), LOwn.agree h3 fun b hb => hT.block b (h3.lt b hb) (by simp; intro e; exact n3 (e ▸ hb)), set2_heap a b hh, hT.mono (by simp)⟩
end


set_option maxHeartbeats 6400000 in
theorem markValueS_succ (d : Nat) (ih : MkAt d) : MkAt (d + 1) := by
  intro x l B m w h hs hm
  have hform : ∃ a c, x = .slice a l.length c := by
    rcases h with ⟨rfl, rfl, _⟩ | ⟨g, cap, cur, Bi, rfl, _⟩
    · exact ⟨none, 0, rfl⟩
    · exact ⟨_, _, rfl⟩
  obtain ⟨a, c, rfl⟩ := hform
  have hsl : szL (d + 1) l = l.length + (l.map (szV (d + 1))).sum := rfl
  have HP : Hid (∀ k (hk : k < l.length), pre (cE (d + 1)) l (k + 1) = pre (cE (d + 1)) l k + cE (d + 1) l[k]) := fun k hk => pre_succ (cE (d + 1)) l k hk
  have HL : Hid (∀ k, pre (cE (d + 1)) l k ≤ (l.map (cE (d + 1))).sum) := pre_le (cE (d + 1)) l
  have HA : Hid (pre (cE (d + 1)) l l.length = (l.map (cE (d + 1))).sum) := pre_all _ _
  have HZ : Hid (∀ k (hk : k < l.length), szV (d + 1) l[k] ≤ 1048576) := fun k hk => Nat.le_trans (sz_elem hk) hs
  have H0 := hide' h
  have HI := hide' ih
  have hn : l.length ≤ 1048576 := by omega
  generalize hS : (l.map (cE (d + 1))).sum = S at *
  clear h hs hsl ih hS
  go_enter Try.func39, Try.ntmps39
  go_wp2
  go_loopw [1, 5] (fun m' i wr => ∃ k : Nat, k ≤ l.length ∧ i = .int .i64 k ∧ m' = .int .i64 ((m + pre (cE (d + 1)) l k : Nat) : Int) ∧ Hid (LOwn wr (d + 1) (.slice a l.length c) (mixL (mkE (d + 1)) (cE (d + 1)) l m k) B) ∧ Hid (Turned B w wr)) (fun _ i _ => l.length - (intOf i).toNat)
  case atStart => exact ⟨0, Nat.zero_le _, rfl, by rw [pre_zero]; simp, by rw [mixL_zero]; exact H0, Turned.refl _ _⟩
  case round =>
    obtain ⟨k, hk, rfl, rfl, hK, hT⟩ := hrel
    have hpk := HL.out k
    by_cases hlt : k < l.length
    · have hlt' : (k : Int) < (l.length : Int) := by omega
      have hps := HP.out k hlt
      have hpk1 := HL.out (k + 1)
      have hml := length_mixL (mkE (d + 1)) (cE (d + 1)) l m k hk
      rcases hK.out with ⟨_, h0, _⟩ | ⟨g, cap, cur, Bi, hv, hh, h3, h4, h5, h6, h7, hB, hN⟩
      · rw [h0] at hml
        simp at hml
        omega
      · obtain ⟨⟨c0, c1, c2, c3, c4⟩, hcs, hVO⟩ := h7 k (by omega)
        rw [mixL_at (mkE (d + 1)) (cE (d + 1)) l m k hlt] at hVO
        have hlk : ∃ (vk vn : Int) (vS : List Int) (vK : List (List Int)) (vL : List (Vl d)), l[k] = (vk, vn, vS, vK, vL) := ⟨_, _, _, _, _, rfl⟩
        obtain ⟨vk, vn, vS, vK, vL, hlk⟩ := hlk
        rw [hlk] at hVO
        obtain ⟨e0, e1, Bs, Bk, Bl, ht, hkk, hll, hBk, hnk⟩ := (VOwn_succ _ _ _ _ _).1 hVO
        simp only at e0 e1 ht hkk hll
        have hz := HZ.out k hlt
        rw [hlk] at hz hps
        have hz' : szV (d + 1) (vk, vn, vS, vK, vL) = vS.length + szK vK + szL d vL := rfl
        have hc' : cE (d + 1) (vk, vn, vS, vK, vL) = 2 + (vS.length + ((vK.map List.length).sum + (vL.map (cE d)).sum)) := rfl
        have hkz : szK vK = vK.length + (vK.map List.length).sum := rfl
        have hgk : k < Bi.length := by omega
        have hnd : (g :: (Bs ++ (Bk ++ Bl))).Nodup := by
          rw [List.nodup_cons]
          refine ⟨fun hm => ?_, hBk ▸ hnk⟩
          rw [hB, List.nodup_cons] at hN
          exact hN.1 (flatten_mem_getD hgk (by rw [hBk]; exact hm))
        have hva : a = some ⟨g, 0, none⟩ := by simp at hv; exact hv.1
        subst hva
        generalize hq : pre (cE (d + 1)) l k = q at *
        have hst := MkSt.start (j := k * 5) (a := .int .i64 ((m : Int) + q)) (b := .int .i64 ((m : Int) + q + 1)) ht hkk hll hh hnd
        have hcs' := set2_cells (a := .int .i64 ((m : Int) + q)) (b := .int .i64 ((m : Int) + q + 1)) hcs
        have hcl : ∀ wx, MkSt wr g ((cur.setIfInBounds (k * 5) (.int .i64 ((m : Int) + q))).setIfInBounds (k * 5 + 1) (.int .i64 ((m : Int) + q + 1))) d c2 c3 c4 vS vK vL Bs Bk Bl wx → True := fun _ _ => trivial
        obtain ⟨x0, hx0⟩ : ∃ y, wr.cell? ⟨g, k * 5, none⟩ = some y := ⟨_, by rw [cell_of_row wr g _ cur _ (0, 0) hh]; exact hcs.1⟩
        obtain ⟨x1, hx1⟩ : ∃ y, wr.cell? ⟨g, k * 5 + 1, none⟩ = some y := ⟨_, by rw [cell_of_row wr g _ cur _ (0, 0) hh]; exact hcs.2.1⟩
        have f0 := frozen_of_row wr g (k * 5) cur _ hh
        have f1 := frozen_of_row wr g (k * 5 + 1) cur _ hh
        obtain ⟨sa, sc, rfl, _⟩ := ht.1.shape
        have hkf : ∃ ka kc, c3 = .slice ka vK.length kc := by
          rcases hkk with ⟨e, e', _⟩ | ⟨_, _, _, _, e, _⟩
          · exact ⟨none, 0, by rw [e, e']; rfl⟩
          · exact ⟨_, _, e⟩
        obtain ⟨ka, kc, rfl⟩ := hkf
        have hlf : ∃ la lc, c4 = .slice la vL.length lc := by
          rcases hll with ⟨e, e', _⟩ | ⟨_, _, _, _, e, _⟩
          · exact ⟨none, 0, by rw [e, e']; rfl⟩
          · exact ⟨_, _, e⟩
        obtain ⟨la, lc, rfl⟩ := hlf
        have y2 : wr.cell? ⟨g, k * 5 + 2, none⟩ = some (.slice sa vS.length sc) := by rw [cell_of_row wr g _ cur _ (0, 0) hh]; exact hcs.2.2.1
        have HM1 : Hid (Calls Try.prog 14 #[.slice sa vS.length sc, .int .i64 ((m : Int) + q + 1 + 1)] (set2 wr g (k * 5) (.int .i64 ((m : Int) + q)) (.int .i64 ((m : Int) + q + 1))) fun e w' => e = .returned (.int .i64 ((m : Int) + q + 1 + 1 + vS.length)) ∧ w'.cell? ⟨g, k * 5 + 3, none⟩ = some (.slice ka vK.length kc) ∧ Hid (MkSt wr g ((cur.setIfInBounds (k * 5) (.int .i64 ((m : Int) + q))).setIfInBounds (k * 5 + 1) (.int .i64 ((m : Int) + q + 1))) d (.slice sa vS.length sc) (.slice ka vK.length kc) (.slice la vL.length lc) (marks (m + q + 1 + 1) vS.length) vK vL Bs Bk Bl w')) := by
          refine arg_eq (x := ((m + q + 1 + 1 : Nat) : Int)) (by push_cast; rfl) ((markByteS_F sa sc vS (m + q + 1 + 1) _ hst.1.1 (by omega) (by omega)).mono ?_)
          rintro e w' ⟨rfl, hb, hg⟩
          have h' := hst.text hnd (hst.1.marked hb) (hst.1.turned hg)
          exact ⟨ret_i64 (by push_cast; rfl), by rw [cell_of_row w' g _ _ _ (0, 0) h'.2.2.2.1]; exact hcs'.2.2.2.1, h'⟩
        have HM2 : Hid (∀ w1, Hid (MkSt wr g ((cur.setIfInBounds (k * 5) (.int .i64 ((m : Int) + q))).setIfInBounds (k * 5 + 1) (.int .i64 ((m : Int) + q + 1))) d (.slice sa vS.length sc) (.slice ka vK.length kc) (.slice la vL.length lc) (marks (m + q + 1 + 1) vS.length) vK vL Bs Bk Bl w1) → Calls Try.prog 38 #[.slice ka vK.length kc, .int .i64 ((m : Int) + q + 1 + 1 + vS.length)] w1 fun e w' => e = .returned (.int .i64 ((m : Int) + q + 1 + 1 + vS.length + ((vK.map List.length).sum : Nat))) ∧ w'.cell? ⟨g, k * 5 + 4, none⟩ = some (.slice la vL.length lc) ∧ Hid (MkSt wr g ((cur.setIfInBounds (k * 5) (.int .i64 ((m : Int) + q))).setIfInBounds (k * 5 + 1) (.int .i64 ((m : Int) + q + 1))) d (.slice sa vS.length sc) (.slice ka vK.length kc) (.slice la vL.length lc) (marks (m + q + 1 + 1) vS.length) (mkKs vK (m + q + 1 + 1 + vS.length)) vL Bs Bk Bl w')) := by
          intro w1 h1
          refine arg_eq (x := ((m + q + 1 + 1 + vS.length : Nat) : Int)) (by push_cast; rfl) ((markByteSS_any _ vK Bk (m + q + 1 + 1 + vS.length) w1 h1.out.2.1 (by omega) (by omega)).mono ?_)
          rintro e w' ⟨rfl, hb, hg⟩
          have h' := h1.out.keys hnd hb hg
          exact ⟨ret_i64 (by push_cast; rfl), by rw [cell_of_row w' g _ _ _ (0, 0) h'.2.2.2.1]; exact hcs'.2.2.2.2, h'⟩
        have HM3 : Hid (∀ w1, Hid (MkSt wr g ((cur.setIfInBounds (k * 5) (.int .i64 ((m : Int) + q))).setIfInBounds (k * 5 + 1) (.int .i64 ((m : Int) + q + 1))) d (.slice sa vS.length sc) (.slice ka vK.length kc) (.slice la vL.length lc) (marks (m + q + 1 + 1) vS.length) (mkKs vK (m + q + 1 + 1 + vS.length)) vL Bs Bk Bl w1) → Calls Try.prog 39 #[.slice la vL.length lc, .int .i64 ((m : Int) + q + 1 + 1 + vS.length + ((vK.map List.length).sum : Nat))] w1 fun e w' => e = .returned (.int .i64 ((m : Int) + q + 1 + 1 + vS.length + ((vK.map List.length).sum : Nat) + ((vL.map (cE d)).sum : Nat))) ∧ Hid (LOwn w' (d + 1) (.slice (some ⟨g, 0, none⟩) l.length c) (mixL (mkE (d + 1)) (cE (d + 1)) l m (k + 1)) B) ∧ Hid (Turned B w w')) := by
          intro w1 h1
          refine arg_eq (x := ((m + q + 1 + 1 + vS.length + (vK.map List.length).sum : Nat) : Int)) (by push_cast; rfl) ((HI.out _ vL Bl (m + q + 1 + 1 + vS.length + (vK.map List.length).sum) w1 h1.out.2.2.1 (by omega) (by omega)).mono ?_)
          rintro e w' ⟨rfl, hb, hg⟩
          have h' := h1.out.list hnd hb hg
          obtain ⟨g1, g2, g3, g4, g5⟩ := h'
          refine ⟨ret_i64 (by push_cast; rfl), ?_, ?_⟩
          · show LOwn w' (d + 1) _ (mixL (mkE (d + 1)) (cE (d + 1)) l m (k + 1)) B
            rw [mixL_succ (mkE (d + 1)) (cE (d + 1)) l m k hlt, hlk, hq]
            refine LOwn.turn hv h3 h4 h5 h6 h7 hB hN (by omega) g4 (by simp) ?_ hcs' ?_ (by rw [hBk]; exact g5)
            · intro j hj
              rw [Array.getElem?_setIfInBounds_ne (by omega), Array.getElem?_setIfInBounds_ne (by omega)]
            · rw [hBk]
              exact (VOwn_succ _ _ _ _ _).2 ⟨rfl, rfl, Bs, Bk, Bl, g1, g2, g3, rfl, hBk ▸ hnk⟩
          · refine hT.out.trans (g5.mono fun b hb => ?_)
            rw [hB]
            rcases List.mem_cons.1 hb with rfl | hb
            · simp
            · exact List.mem_cons_of_mem _ (flatten_mem_getD hgk (by rw [hBk]; exact hb))
        have hcE : m + q + 1 + 1 + vS.length + (vK.map List.length).sum + (vL.map (cE d)).sum ≤ 1125899906842624 := by omega
        have Hps : Hid (m + pre (cE (d + 1)) l (k + 1) = m + q + 1 + 1 + vS.length + (vK.map List.length).sum + (vL.map (cE d)).sum) := by show m + pre (cE (d + 1)) l (k + 1) = _; omega
        unfold set2 at HM1
        clear hK hT hh h7 hN hVO hcs hcs' hst hcl ht hkk hll hnk hnd hB hBk h6 h5 hv hps hlk hq HP HL HA HZ H0 HI
        generalize (vK.map List.length).sum = nK at *
        generalize (vL.map (cE d)).sum = nL at *
        generalize vS.length = nS at *
        generalize vK.length = kK at *
        generalize vL.length = kL at *
        go_wp2_with fail
        refine HM1.out.mono ?_
        rintro e w1 ⟨rfl, z3, hS1⟩
        have HM2' := hide' (HM2.out w1 hS1)
        clear hx0 hx1 f0 f1 y2 HM1 HM2
        go_wp2_with fail
        refine HM2'.out.mono ?_
        rintro e w2 ⟨rfl, z4, hS2⟩
        have HM3' := hide' (HM3.out w2 hS2)
        clear z3 hS1 HM2' HM3
        go_wp2_with fail
        refine HM3'.out.mono ?_
        rintro e w3 ⟨rfl, hK', hT'⟩
        clear z4 hS2 HM3'
        go_wp2
        go_roundw
        case rel => exact ⟨k + 1, by omega, by go_num, by rw [Hps.out]; go_num, hK', hT'⟩
        case measure => simp [intOf]; omega
    · have hkn : k = l.length := by omega
      have hkn' : ¬ (k : Int) < (l.length : Int) := by omega
      have HE : Hid (LOwn wr (d + 1) (.slice a l.length c) (mkLs (mkE (d + 1)) (cE (d + 1)) l m) B) := by
        have hK2 := hK.out
        rw [hkn, mixL_all] at hK2
        exact hK2
      have HQ : Hid (pre (cE (d + 1)) l k = S) := by show pre (cE (d + 1)) l k = _; rw [hkn]; exact HA.out
      clear hkn hK
      go_wp2
      go_ret
      exact ⟨ret_i64 (by rw [HQ.out]), HE.out, hT.out⟩

set_option maxHeartbeats 1600000 in
theorem markValueS_zero : MkAt 0 := by
  intro x l B m w h hs hm
  have hl : l = [] := by
    rcases h with ⟨_, e, _⟩ | ⟨g, cap, cur, Bi, _, _, _, _, _, _, h7, _⟩
    · exact e
    · cases l with
      | nil => rfl
      | cons y r =>
        obtain ⟨e, _, hv⟩ := h7 0 (by simp)
        exact hv.elim
  subst hl
  have H0 := hide' h
  have hform : ∃ a c, x = .slice a 0 c := by
    rcases h with ⟨rfl, _, _⟩ | ⟨g, cap, cur, Bi, rfl, _⟩
    · exact ⟨none, 0, rfl⟩
    · exact ⟨_, _, rfl⟩
  obtain ⟨a, c, rfl⟩ := hform
  clear h
  go_enter Try.func39, Try.ntmps39
  go_wp2
  go_loopw [1, 5] (fun m' i wr => i = .int .i64 0 ∧ m' = .int .i64 m ∧ wr = w) (fun _ i _ => 0)
  case atStart => exact ⟨rfl, rfl, rfl⟩
  case round =>
    obtain ⟨rfl, rfl, rfl⟩ := hrel
    go_wp2
    go_ret
    exact ⟨ret_i64 (by simp), H0.out, Turned.refl _ _⟩

theorem markValueS_any (d : Nat) : MkAt d := by
  induction d with
  | zero => exact markValueS_zero
  | succ d ih => exact markValueS_succ d ih

/-- A value after it was marked, from k on: its own kind and number stay. -/
def mkV (d : Nat) (v : Vl (d + 1)) (k : Nat) : Vl (d + 1) := (v.1, v.2.1, marks k v.2.2.1.length, mkKs v.2.2.2.1 (k + v.2.2.1.length), mkLs (mkE d) (cE d) v.2.2.2.2 (k + v.2.2.1.length + (v.2.2.2.1.map List.length).sum))
/-- How many numbers it takes. -/
def cV (d : Nat) (v : Vl (d + 1)) : Nat := v.2.2.1.length + (v.2.2.2.1.map List.length).sum + (v.2.2.2.2.map (cE d)).sum
end Go.Proofs.Ytpknhmegoldppaa
/-
  string(b) of a slice of bytes; the order of two such.
-/
namespace Go.Proofs.Ytpknhmegoldppaa
open Go.RowKit
set_option linter.unusedVariables false

/-- The bytes as a string. -/
def strOf (xs : List Int) : ByteArray := ⟨(xs.map fun n => UInt8.ofNat n.toNat).toArray⟩

theorem map_byt_inj {xs ys : List Int} (hx : ∀ x ∈ xs, Byt x) (hy : ∀ y ∈ ys, Byt y) (h : (xs.map fun n => UInt8.ofNat n.toNat) = ys.map fun n => UInt8.ofNat n.toNat) : xs = ys := by
  induction xs generalizing ys with
  | nil => simpa using h.symm
  | cons x xs ih =>
    cases ys with
    | nil => simp at h
    | cons y ys =>
      simp only [List.map_cons, List.cons.injEq] at h
      have h1 : x = y := by
        have hx0 := hx x (by simp)
        have hy0 := hy y (by simp)
        unfold Byt at hx0 hy0
        have := congrArg UInt8.toNat h.1
        simp at this
        omega
      rw [h1, ih (fun z hz => hx z (by simp [hz])) (fun z hz => hy z (by simp [hz])) h.2]

theorem strOf_eq {xs ys : List Int} (hx : ∀ x ∈ xs, Byt x) (hy : ∀ y ∈ ys, Byt y) : ((strOf xs).toList == (strOf ys).toList) = decide (xs = ys) := by
  rw [strOf, strOf, ByteArray.toList_mk, ByteArray.toList_mk]
  by_cases h : xs = ys
  · simp [h]
  · have : (xs.map fun n => UInt8.ofNat n.toNat) ≠ ys.map fun n => UInt8.ofNat n.toNat := fun e => h (map_byt_inj hx hy e)
    simp [h, this]

theorem conv_seg {w : World} {a : Option Addr} {xs : List Int} (cap : Nat) (h : Seg w a xs) : (convert 22 9 (.slice a xs.length cap)).run Try.prog w = .ok (.string (strOf xs)) w := by
  cases a with
  | none =>
    have hx : xs = [] := by
      rcases h.2 with h0 | ⟨b, off, h1, _⟩
      · exact h0
      · simp at h1
    subst hx
    rw [run_convert_bytes_string w 22 9 5 none _ cap Try.underlying22 Try.underlying5 Try.underlying9]
    rfl
  | some ad =>
    have hl : (xs.map fun n => UInt8.ofNat n.toNat).length = xs.length := by simp
    have := run_convert_bytes_back (P := Try.prog) w 22 9 5 ad cap (xs.map fun n => UInt8.ofNat n.toNat) Try.underlying22 Try.underlying5 Try.underlying9 (by
      intro j hj
      rcases h.2 with h0 | ⟨b, off, h1, h2⟩
      · subst h0; simp at hj
      · simp at h1
        subst h1
        have hj' : j < xs.length := by simpa using hj
        rw [Addr.add_lit, h2 j hj']
        have hb := h.1 xs[j] (List.getElem_mem hj')
        unfold Byt at hb
        simp [hj']
        omega)
    rw [hl] at this
    exact this

theorem ret_bool {x y : Bool} (h : x = y) : Ending.returned (.bool x) = .returned (.bool y) := by rw [h]


/-- The bytes as such. -/
def u8s (xs : List Int) : List UInt8 := xs.map fun n => UInt8.ofNat n.toNat
theorem strOf_list (xs : List Int) : (strOf xs).toList = u8s xs := by rw [strOf, ByteArray.toList_mk]; rfl
theorem strOf_data (xs : List Int) : (strOf xs).data.toList = u8s xs := rfl

/-- One text is ahead of another one. -/
def ltS (xs ys : List Int) : Bool := Op.bytesLess (u8s xs) (u8s ys)

theorem less_cmp : ∀ (a b : List UInt8), Op.bytesLess a b = decide (Lib.compareBytes a b < 0)
  | [], [] => by simp [Op.bytesLess, Lib.compareBytes]
  | [], _ :: _ => by simp [Op.bytesLess, Lib.compareBytes]
  | _ :: _, [] => by simp [Op.bytesLess, Lib.compareBytes]
  | x :: a, y :: b => by
    have ih := less_cmp a b
    unfold Op.bytesLess Lib.compareBytes
    by_cases h1 : x < y
    · simp [h1]
    · by_cases h2 : y < x
      · have h3 : ¬ x = y := fun e => by subst e; exact absurd h2 (UInt8.lt_irrefl _)
        simp [h1, h2, h3]
      · have h3 : x = y := UInt8.le_antisymm (UInt8.not_lt.1 h2) (UInt8.not_lt.1 h1)
        subst h3
        simp [h1, ih]

theorem cmp_range : ∀ (a b : List UInt8), -1 ≤ Lib.compareBytes a b ∧ Lib.compareBytes a b ≤ 1
  | [], [] => by simp [Lib.compareBytes]
  | [], _ :: _ => by simp [Lib.compareBytes]
  | _ :: _, [] => by simp [Lib.compareBytes]
  | x :: a, y :: b => by
    have ih := cmp_range a b
    unfold Lib.compareBytes
    split
    · omega
    · split
      · omega
      · exact ih

theorem load_bytes {P : Program} (w : World) (xs : List Int) : ∀ (b off : Nat) (acc : ByteArray), (∀ i, i < xs.length → w.cell? ⟨b, off + i, none⟩ = some (.int .u8 (xs.getD i 0))) →
    (Extern.Bytes.loadBytes ⟨b, off, none⟩ xs.length acc).run P w = .ok ⟨acc.data ++ (u8s xs).toArray⟩ w := by
  induction xs with
  | nil => intro b off acc _; simp [Extern.Bytes.loadBytes, u8s]
  | cons x xs ih =>
    intro b off acc h
    have h0 := h 0 (by simp)
    simp only [Nat.add_zero, List.getD_cons_zero] at h0
    have h1 := ih b (off + 1) (acc.push x.toNat.toUInt8) (fun i hi => by
      have := h (i + 1) (by simp; omega)
      rw [show off + 1 + i = off + (i + 1) from by omega, this]
      simp)
    have e : (⟨b, off, none⟩ : Addr).add 1 = ⟨b, off + 1, none⟩ := Addr.add_lit b off 1
    simp only [List.length_cons, Extern.Bytes.loadBytes, Sem.run_bind, run_load, h0, Result.andThen, e]
    rw [h1]
    congr 1
    apply ByteArray.ext
    simp [ByteArray.push, u8s]

theorem bytes_of_seg {P : Program} {w : World} {a : Option Addr} {xs : List Int} (cap : Nat) (h : Seg w a xs) : (Extern.Bytes.bytesOf (.slice a xs.length cap)).run P w = .ok (strOf xs) w := by
  cases a with
  | none =>
    have hx : xs = [] := by
      rcases h.2 with h0 | ⟨b, off, h1, _⟩
      · exact h0
      · simp at h1
    subst hx
    rfl
  | some ad =>
    rcases h.2 with h0 | ⟨b, off, h1, h2⟩
    · subst h0
      rfl
    · simp at h1
      subst h1
      have := load_bytes (P := P) w xs b off .empty h2
      have he : (⟨ByteArray.empty.data ++ (u8s xs).toArray⟩ : ByteArray) = strOf xs := by
        apply ByteArray.ext
        show (#[] : Array UInt8) ++ (u8s xs).toArray = _
        simp [strOf, u8s]
      rw [he] at this
      exact this

theorem run_compare_seg {P : Program} {w : World} {a b : Option Addr} {xs ys : List Int} (c1 c2 : Nat) (ha : Seg w a xs) (hb : Seg w b ys) :
    (Extern.BytealgCompare.compare #[.slice a xs.length c1, .slice b ys.length c2]).run P w = .ok (.int .i64 (Lib.compareBytes (u8s xs) (u8s ys))) w := by
  change Sem.run P (do pure (goInt (Extern.BytealgCompare.cmp (← Extern.Bytes.bytesOf (.slice a xs.length c1)) (← Extern.Bytes.bytesOf (.slice b ys.length c2))))) w = _
  simp only [Sem.run_bind, bytes_of_seg c1 ha, bytes_of_seg c2 hb, Sem.run_pure, Result.andThen]
  rw [Lib.cmp_eq]
  rfl

end Go.Proofs.Ytpknhmegoldppaa
/-
  NameOk, of the program and of the specification: of a slice of bytes it tells whether it is a name, and turns nothing; the law FnExactNameOk.
-/
namespace Go.Proofs.Ytpknhmegoldppaa
open Go.RowKit
set_option linter.unusedVariables false

/-- A letter of a name. -/
def letB (c : Int) : Bool := decide (97 ≤ c) && decide (c ≤ 122)
/-- A name. -/
def nameB (xs : List Int) : Bool := decide (1 ≤ xs.length) && decide (xs.length ≤ 8) && xs.all letB

theorem nameB_short (xs : List Int) (h : xs.length < 1) : nameB xs = false := by simp [nameB]; omega
theorem nameB_long (xs : List Int) (h : 8 < xs.length) : nameB xs = false := by simp [nameB]; omega
theorem nameB_all (xs : List Int) (h1 : 1 ≤ xs.length) (h2 : xs.length ≤ 8) : nameB xs = xs.all letB := by simp [nameB, h1, h2]

/-- The first k all fulfil p. -/
def fstAll (p : Int → Bool) (xs : List Int) (k : Nat) : Prop := ∀ i, i < k → p (xs.getD i 0) = true
theorem fstAll_zero (p : Int → Bool) (xs : List Int) : fstAll p xs 0 := fun i h => by omega
theorem fstAll_succ {p : Int → Bool} {xs : List Int} {k : Nat} (h : fstAll p xs k) (hk : p (xs.getD k 0) = true) : fstAll p xs (k + 1) := by
  intro i hi
  by_cases e : i = k
  · rw [e]; exact hk
  · exact h i (by omega)
theorem all_of_fstAll {p : Int → Bool} {xs : List Int} (h : fstAll p xs xs.length) : xs.all p = true := by
  rw [List.all_eq_true]
  intro x hx
  obtain ⟨i, hi, rfl⟩ := List.getElem_of_mem hx
  have := h i hi
  simpa [List.getD_eq_getElem?_getD, hi] using this
theorem not_all_of {p : Int → Bool} {xs : List Int} {k : Nat} (hk : k < xs.length) (h : p (xs.getD k 0) = false) : xs.all p = false := by
  rw [List.all_eq_false]
  refine ⟨xs[k], List.getElem_mem hk, ?_⟩
  simpa [List.getD_eq_getElem?_getD, hk] using h

set_option maxHeartbeats 800000 in
theorem impl_NameOk_any (a : Option Addr) (c1 : Nat) (xs : List Int) (w : World) (ha : Seg w a xs) (hl : xs.length ≤ maxLen) :
    Calls Try.prog 67 #[.slice a xs.length c1] w fun e w' => e = .returned (.bool (nameB xs)) ∧ w = w' := by
  unfold maxLen at hl
  by_cases h1 : xs.length < 1
  · have HO : Hid (nameB xs = false) := nameB_short xs h1
    have h1' : (xs.length : Int) < 1 := by omega
    go_enter Try.func67, Try.ntmps67
    go_wp2
    go_ret
    exact ⟨ret_bool HO.out.symm, rfl⟩
  by_cases h2 : 8 < xs.length
  · have HO : Hid (nameB xs = false) := nameB_long xs h2
    have h1' : ¬ (xs.length : Int) < 1 := by omega
    have h2' : (8 : Int) < (xs.length : Int) := by omega
    go_enter Try.func67, Try.ntmps67
    go_wp2
    go_ret
    exact ⟨ret_bool HO.out.symm, rfl⟩
  have HO : Hid (nameB xs = xs.all letB) := nameB_all xs (by omega) (by omega)
  have hb := getD_byt ha.1
  generalize hn : xs.length = n at *
  have Hn : Hid (xs.length = n) := hn
  have h1' : ¬ (n : Int) < 1 := by omega
  have h2' : ¬ (8 : Int) < (n : Int) := by omega
  clear hn
  go_enter Try.func67, Try.ntmps67
  go_wp2
  go_loopw [15] (fun i wr => ∃ k : Nat, k ≤ n ∧ i = .int .i64 k ∧ fstAll letB xs k ∧ wr = w) (fun i _ => n - (intOf i).toNat)
  case atStart => exact ⟨0, Nat.zero_le _, rfl, fstAll_zero _ _, rfl⟩
  case round =>
    obtain ⟨k, hk, rfl, hall, rfl⟩ := hrel
    by_cases hlt : k < n
    · obtain ⟨b1, o1, rfl, hc1⟩ := ha.at (k := k) (by have := Hn.out; omega)
      have hbk := hb k
      have HS : Hid (letB (xs.getD k 0) = true → fstAll letB xs (k + 1)) := fun h => fstAll_succ hall h
      have HN : Hid (letB (xs.getD k 0) = false → xs.all letB = false) := fun h => not_all_of (by have := Hn.out; omega) h
      generalize xs.getD k 0 = c at hc1 hbk HS HN
      have hlt' : (k : Int) < (n : Int) := by omega
      obtain ⟨hb1, hb2⟩ := hbk
      by_cases hc : c < 97
      · have HF : Hid (xs.all letB = false) := HN.out (by simp [letB]; omega)
        go_wp2
        go_ret
        exact ⟨ret_bool (by rw [HO.out, HF.out]), rfl⟩
      · by_cases hd : 122 < c
        · have HF : Hid (xs.all letB = false) := HN.out (by simp [letB]; omega)
          go_wp2
          go_ret
          exact ⟨ret_bool (by rw [HO.out, HF.out]), rfl⟩
        · have HF : Hid (fstAll letB xs (k + 1)) := HS.out (by simp [letB]; omega)
          go_wp2
          go_roundw
          case rel => exact ⟨k + 1, by omega, by go_num, HF.out, by first | rfl | trivial⟩
          case measure => simp [intOf]; omega
    · have HF : Hid (xs.all letB = true) := all_of_fstAll (by rw [Hn.out]; have e : k = n := by omega
                                                              rw [← e]; exact hall)
      have hlt' : ¬ (k : Int) < (n : Int) := by omega
      go_wp2
      go_ret
      exact ⟨ret_bool (by rw [HO.out, HF.out]), rfl⟩

set_option maxHeartbeats 800000 in
theorem spec_NameOk_any (a : Option Addr) (c1 : Nat) (xs : List Int) (w : World) (ha : Seg w a xs) (hl : xs.length ≤ maxLen) :
    Calls Try.prog 55 #[.slice a xs.length c1] w fun e w' => e = .returned (.bool (nameB xs)) ∧ w = w' := by
  unfold maxLen at hl
  by_cases h1 : xs.length < 1
  · have HO : Hid (nameB xs = false) := nameB_short xs h1
    have h1' : (xs.length : Int) < 1 := by omega
    go_enter Try.func55, Try.ntmps55
    go_wp2
    go_ret
    exact ⟨ret_bool HO.out.symm, rfl⟩
  by_cases h2 : 8 < xs.length
  · have HO : Hid (nameB xs = false) := nameB_long xs h2
    have h1' : ¬ (xs.length : Int) < 1 := by omega
    have h2' : (8 : Int) < (xs.length : Int) := by omega
    go_enter Try.func55, Try.ntmps55
    go_wp2
    go_ret
    exact ⟨ret_bool HO.out.symm, rfl⟩
  have HO : Hid (nameB xs = xs.all letB) := nameB_all xs (by omega) (by omega)
  have hb := getD_byt ha.1
  generalize hn : xs.length = n at *
  have Hn : Hid (xs.length = n) := hn
  have h1' : ¬ (n : Int) < 1 := by omega
  have h2' : ¬ (8 : Int) < (n : Int) := by omega
  clear hn
  go_enter Try.func55, Try.ntmps55
  go_wp2
  go_loopw [3] (fun i wr => ∃ k : Nat, k ≤ n ∧ i = .int .i64 k ∧ fstAll letB xs k ∧ wr = w) (fun i _ => n - (intOf i).toNat)
  case atStart => exact ⟨0, Nat.zero_le _, rfl, fstAll_zero _ _, rfl⟩
  case round =>
    obtain ⟨k, hk, rfl, hall, rfl⟩ := hrel
    by_cases hlt : k < n
    · obtain ⟨b1, o1, rfl, hc1⟩ := ha.at (k := k) (by have := Hn.out; omega)
      have hbk := hb k
      have HS : Hid (letB (xs.getD k 0) = true → fstAll letB xs (k + 1)) := fun h => fstAll_succ hall h
      have HN : Hid (letB (xs.getD k 0) = false → xs.all letB = false) := fun h => not_all_of (by have := Hn.out; omega) h
      generalize xs.getD k 0 = c at hc1 hbk HS HN
      have hlt' : (k : Int) < (n : Int) := by omega
      obtain ⟨hb1, hb2⟩ := hbk
      by_cases hc : c < 97
      · have HF : Hid (xs.all letB = false) := HN.out (by simp [letB]; omega)
        go_wp2
        go_ret
        exact ⟨ret_bool (by rw [HO.out, HF.out]), rfl⟩
      · by_cases hd : 122 < c
        · have HF : Hid (xs.all letB = false) := HN.out (by simp [letB]; omega)
          go_wp2
          go_ret
          exact ⟨ret_bool (by rw [HO.out, HF.out]), rfl⟩
        · have HF : Hid (fstAll letB xs (k + 1)) := HS.out (by simp [letB]; omega)
          go_wp2
          go_roundw
          case rel => exact ⟨k + 1, by omega, by go_num, HF.out, by first | rfl | trivial⟩
          case measure => simp [intOf]; omega
    · have HF : Hid (xs.all letB = true) := all_of_fstAll (by rw [Hn.out]; have e : k = n := by omega
                                                              rw [← e]; exact hall)
      have hlt' : ¬ (k : Int) < (n : Int) := by omega
      go_wp2
      go_ret
      exact ⟨ret_bool (by rw [HO.out, HF.out]), rfl⟩
end Go.Proofs.Ytpknhmegoldppaa
/-
  bytes.Compare of two slices of bytes.
-/
namespace Go.Proofs.Ytpknhmegoldppaa
open Go.RowKit
set_option linter.unusedVariables false

set_option maxHeartbeats 800000 in
set_option maxRecDepth 100000 in
theorem bytes_Compare_any (a b : Option Addr) (c1 c2 : Nat) (xs ys : List Int) (w : World) (ha : Seg w a xs) (hb : Seg w b ys) :
    Calls Try.prog 75 #[.slice a xs.length c1, .slice b ys.length c2] w fun e w' => e = .returned (.int .i64 (Lib.compareBytes (u8s xs) (u8s ys))) ∧ w = w' := by
  go_enter Try.func75, Try.ntmps75
  go_wp2
  rw [run_callFunc_extern Try.func95 (by kernel_rfl) (by kernel_rfl) (by kernel_rfl) (e := Extern.BytealgCompare.compare) (by kernel_rfl), run_compare_seg c1 c2 ha hb]
  simp only [Result.andThen]
  rw [Oper.upon_value]
  go_wp2
  go_ret
  exact ⟨rfl, rfl⟩

end Go.Proofs.Ytpknhmegoldppaa
