/-
  Texts that a law leans on, one behind the other; no statement is proved here.
-/
import Derived.Test.YthkbapkndmlpfaaDoorPk8
import Derived.Test.YthkbapkndmlpfaaDoorPk9
import Derived.Test.YthkbapkndmlpfaaDoorPk5
import Derived.BigQuiet
import Derived.Deep.RegionHeld3
import Derived.Deep.Cut
/-
  l6item of the specification where the head is right: kind 2, many 0.
-/
namespace Go.Proofs.YthkbapkndmlpfaaDoor
open Go.RowKit
set_option linter.unusedVariables false
set_option linter.unusedSimpArgs false

set_option maxHeartbeats 4000000 in
set_option maxRecDepth 100000 in
theorem itO2 (d N : Nat) (cs : List Value) (nm : List Int) (by' : Vl d) (ks : List (List Int)) (es : List (Vl d)) (left : Int) (w : World) (h : ISeg (fun b => b < N) w d cs ((2, nm, 0, by', ks, es) : Itm d)) (hN : N ≤ w.heap.size) (h0 : 0 ≤ left) (h1 : left ≤ 150)
    (hh : headB d ((2, nm, 0, by', ks, es) : Itm d) = true) (hzr : zeroE d by' = true) :
    Calls Tryd.prog 19 #[.agg cs.toArray, .int .i64 left] w fun e w' => e = .returned (.int .i64 (itemR d ((2, nm, 0, by', ks, es) : Itm d) left)) ∧ Below w.heap.size w w' := by
  obtain ⟨na, np, bk, bn, a2, l2, p2, a3, l3, p3, a4, l4, p4, xa, xp, ea, ep, rfl, ht, hv, hk, hl⟩ := h.form
  have HH := hide' hh
  simp only [headB] at ht hv hk hl hh ⊢
  have hw : wordB nm = true := by simp only [Bool.and_eq_true] at hh; exact hh.1
  have hel : es.length = 1 := by simp at hh; omega
  have hkl : ks.length = 0 := by
    simp at hh
    rw [hh.2.2.1]
    rfl
  have HKL := hide' hkl
  have Hb : Hid (∀ o : Obj, Below w.heap.size w (w.alloc o)) := fun o => (Below.refl _ _).alloc (Nat.le_refl _) o
  have HW : Hid (∀ o : Obj, Calls Tryd.prog 42 #[.slice na nm.length np] (w.alloc o) fun e w' => e = .returned (.bool true) ∧ Below (w.alloc o).heap.size (w.alloc o) w') := fun o => by
    have ht' := ht.agree (w' := w.alloc o) (agree_below ((Hb.out o).mono hN))
    obtain ⟨_, _, e1, s1, _, m1, _⟩ := ht'
    simp at e1
    obtain ⟨rfl, _⟩ := e1
    have := spec_l6free_any na np nm (w.alloc o) s1 (by omega)
    rw [hw] at this
    exact this
  have HV : Hid (∀ wx, Below w.heap.size w wx → VSeg (fun b => b < N) wx d (.int .i64 bk, .int .i64 bn, .slice a2 l2 p2, .slice a3 l3 p3, .slice a4 l4 p4) by') := fun wx hb => VSeg.agree (agree_below (hb.mono hN)) d hv
  have HX : Hid (LSeg (fun b => b < N) w d (.slice ea es.length ep) es) := hl
  have Hbox : Hid (∀ o wx, Below (w.alloc o).heap.size (w.alloc o) wx → wx.heap[w.heap.size]? = some o) := fun o wx h => box_row h
  rw [hkl]
  have HEl := hide' hel
  rw [hel] at HX
  simp only [hel]
  clear hel
  obtain ⟨R, hR⟩ : ∃ R, R = itemR d ((2, nm, 0, by', ks, es) : Itm d) left := ⟨_, rfl⟩
  have HR := hide' hR
  rw [← hR]
  clear ht hv hk hl h hh hw hkl hR
  generalize nm.length = s0 at *
  go_enter Tryd.func19, Tryd.ntmps19
  go_wp2_with fail
  refine (HW.out _).mono ?_
  rintro e w1 ⟨rfl, b1⟩
  have B1 := hide' b1
  clear b1 HW
  have hrow := Hbox.out _ _ B1.out
  have y10 := cell_of_row _ _ 0 _ _ _ hrow
  have y11 := cell_of_row _ _ 1 _ _ _ hrow
  have y12 := cell_of_row _ _ 2 _ _ _ hrow
  have y13 := cell_of_row _ _ 3 _ _ _ hrow
  have y14 := cell_of_row _ _ 4 _ _ _ hrow
  have y15 := cell_of_row _ _ 5 _ _ _ hrow
  have y16 := cell_of_row _ _ 6 _ _ _ hrow
  have y17 := cell_of_row _ _ 7 _ _ _ hrow
  have y18 := cell_of_row _ _ 8 _ _ _ hrow
  have y19 := cell_of_row _ _ 9 _ _ _ hrow
  simp at y10 y11 y12 y13 y14 y15 y16 y17 y18 y19
  clear hrow
  have HZ := hide' (l6zero_any d N _ _ _ _ _ by' w1 (HV.out w1 (Below.on (Hb.out _) B1.out)))
  rw [hzr] at HZ
  go_wp2_with fail
  refine HZ.out.mono ?_
  rintro e w2 ⟨rfl, b2⟩
  have B2 := hide' (Below.on B1.out b2)
  clear b2 HZ y10 y11 y12 y13 y14 y15 y16 y17 y18 y19
  have hrow := Hbox.out _ _ B2.out
  have y20 := cell_of_row _ _ 0 _ _ _ hrow
  have y21 := cell_of_row _ _ 1 _ _ _ hrow
  have y22 := cell_of_row _ _ 2 _ _ _ hrow
  have y23 := cell_of_row _ _ 3 _ _ _ hrow
  have y24 := cell_of_row _ _ 4 _ _ _ hrow
  have y25 := cell_of_row _ _ 5 _ _ _ hrow
  have y26 := cell_of_row _ _ 6 _ _ _ hrow
  have y27 := cell_of_row _ _ 7 _ _ _ hrow
  have y28 := cell_of_row _ _ 8 _ _ _ hrow
  have y29 := cell_of_row _ _ 9 _ _ _ hrow
  simp at y20 y21 y22 y23 y24 y25 y26 y27 y28 y29
  clear hrow
  obtain ⟨q, hq⟩ : ∃ q : Int, q = left := ⟨_, rfl⟩
  have H0 : Hid (∃ m, IK d ks es false m R ((m = left - byP d ((2, nm, 0, by', ks, es) : Itm d)) ∧ (if (0 : Int) = 0 then zeroE d by' = true else goodE d by' 1 = true) ∧ m ≤ 150) 0 (.int .i64 q)) := ⟨left, Nat.zero_le _, .inl ⟨by rw [pre_zero, hq]; simp, by rw [pre_zero]; simpa using h0, fun j _ h => by omega, fun _ j h => by omega, by simp [byP], by rw [if_pos rfl]; exact hzr, h1⟩⟩
  have hq0 : -1 ≤ q := by omega
  have hq1 : q ≤ 150 := by omega
  rw [← hq]
  clear hq h0 h1 hzr
  go_wp2_with fail
  obtain ⟨m, H1⟩ := H0.out
  replace H1 := hide' H1
  clear H0
  go_loopw [1, 5] (fun l i wr => ∃ k : Nat, i = .int .i64 k ∧ Hid (IK d ks es false m R ((m = left - byP d ((2, nm, 0, by', ks, es) : Itm d)) ∧ (if (0 : Int) = 0 then zeroE d by' = true else goodE d by' 1 = true) ∧ m ≤ 150) k l) ∧ Hid (Below (w.alloc (.cells #[.int .i64 2, .slice na s0 np, .int .i64 0, .int .i64 bk, .int .i64 bn, .slice a2 l2 p2, .slice a3 l3 p3, .slice a4 l4 p4, .slice xa 0 xp, .slice ea 1 ep] 42)).heap.size (w.alloc (.cells #[.int .i64 2, .slice na s0 np, .int .i64 0, .int .i64 bk, .int .i64 bn, .slice a2 l2 p2, .slice a3 l3 p3, .slice a4 l4 p4, .slice xa 0 xp, .slice ea 1 ep] 42)) wr)) (fun _ i _ => es.length - (intOf i).toNat)
  case atStart => exact ⟨0, rfl, H1, B2⟩
  case round =>
    clear B1 B2 H1 hq0 hq1 y20 y21 y22 y23 y24 y25 y26 y27 y28 y29
    obtain ⟨k, rfl, hIK, hbel⟩ := hrel
    have hrow := Hbox.out _ _ hbel.out
    have y0 := cell_of_row _ _ 0 _ _ _ hrow
    have y8 := cell_of_row _ _ 8 _ _ _ hrow
    have y9 := cell_of_row _ _ 9 _ _ _ hrow
    simp at y0 y8 y9
    have B := Below.on (Hb.out (.cells #[.int .i64 2, .slice na s0 np, .int .i64 0, .int .i64 bk, .int .i64 bn, .slice a2 l2 p2, .slice a3 l3 p3, .slice a4 l4 p4, .slice xa 0 xp, .slice ea 1 ep] 42)) hbel.out
    clear hrow
    obtain ⟨hk, ⟨rfl, hple, hgo, hst, hm, hby, hm1⟩ | ⟨rfl, hbad⟩⟩ := hIK.out
    rotate_left
    · have Hbad := hide' hbad
      clear hbad
      by_cases hlt : k < es.length
      · have hlt' : (k : Int) < 1 := by have h2 := HEl.out; omega
        go_wp2
        go_ret
        exact ⟨ret_i64 Hbad.out.symm, B⟩
      · have hlt' : ¬ (k : Int) < 1 := by have h2 := HEl.out; omega
        go_wp2
        go_ret
        exact ⟨ret_i64 Hbad.out.symm, B⟩
    have HM := hide' hm
    have HBy := hide' hby
    clear hm hby
    have hge : (0 : Int) ≤ m - pre (partsE d) es k := by omega
    by_cases hlt : k < es.length
    rotate_left
    · have hkn : k = es.length := by omega
      have hlt' : ¬ (k : Int) < 1 := by have h2 := HEl.out; omega
      have HF : Hid (R = m - pre (partsE d) es k) := by
        show R = _
        rw [HR.out, itemR_all (it := ((2, nm, 0, by', ks, es) : Itm d)) HM.out HH.out (fun e => by have e2 : (2 : Int) = 1 := e; omega) HBy.out (fun j h => hgo j h (by show j < k; rw [hkn]; exact h)) (by show (pre (partsE d) es es.length : Int) ≤ m; rw [← hkn]; exact hple)]
        show m - pre (partsE d) es es.length = _
        rw [← hkn]
      clear hkn
      go_wp2
      go_ret
      exact ⟨ret_i64 HF.out.symm, B⟩
    have hlt' : (k : Int) < 1 := by have h2 := HEl.out; omega
    obtain ⟨b, off, c, rfl, h5', hv⟩ := HX.out.at B hN hlt
    obtain ⟨c0, c1, c2, c3, c4⟩ := c
    obtain ⟨q0, q1, q2, q3, q4⟩ := h5'
    simp only at q0 q1 q2 q3 q4
    have hz := B.size
    have HC : Hid (∀ wx, Below w.heap.size w wx → Calls Tryd.prog 44 #[.agg #[c0, c1, c2, c3, c4], .int .i64 1, .int .i64 (m - pre (partsE d) es k)] wx fun e w' => e = .returned (.int .i64 (okE d es[k] 1 (m - pre (partsE d) es k))) ∧ Below wx.heap.size wx w') := fun wx hx => l6expr_any d N (c0, c1, c2, c3, c4) es[k] 1 _ wx (hv wx hx) (by have := hx.size; omega) (by omega) hge (by omega)
    have HNx : Hid (¬ (goodE d es[k] 1 = true ∧ (partsE d es[k] : Int) ≤ m - pre (partsE d) es k) → R = -1) := fun h => by rw [HR.out]; exact itemR_kid (it := ((2, nm, 0, by', ks, es) : Itm d)) HM.out hlt h
    clear hv
    by_cases hg : goodE d es[k] 1 = true ∧ (partsE d es[k] : Int) ≤ m - pre (partsE d) es k
    · rw [okE_yes hg.1 hg.2] at HC
      have hps := pre_succ (partsE d) es k hlt
      have HF : Hid (IK d ks es false m R ((m = left - byP d ((2, nm, 0, by', ks, es) : Itm d)) ∧ (if (0 : Int) = 0 then zeroE d by' = true else goodE d by' 1 = true) ∧ m ≤ 150) (k + 1) (.int .i64 (m - pre (partsE d) es k - partsE d es[k]))) := ⟨hlt, .inl ⟨by rw [hps]; simp; omega, by rw [hps]; simp; omega, fun j hj hjk => by
          by_cases e : j = k
          · subst e; exact hg.1
          · exact hgo j hj (by omega), (fun h => by cases h), HM.out, HBy.out, hm1⟩⟩
      have hlo : -1 ≤ m - pre (partsE d) es k - partsE d es[k] := by omega
      have hup : m - pre (partsE d) es k - partsE d es[k] ≤ 150 := by omega
      generalize m - pre (partsE d) es k - partsE d es[k] = nx at *
      generalize m - pre (partsE d) es k = mx at *
      clear HNx hgo hst hIK hg hple hps
      go_wp2_with fail
      go_quiet (fail)
      go_wp2_with fail
      refine (HC.out _ (below_drewN B _)).mono ?_
      rintro e w3 ⟨rfl, b3⟩
      have B3 := hide' (Below.on (below_drewN hbel.out _) b3)
      clear q0 q1 q2 q3 q4 b3 y0 y8 y9
      go_wp2
      go_roundw
      case rel => exact ⟨k + 1, by go_num, HF, B3⟩
      case measure => simp [intOf]; omega
    · rw [okE_no hg] at HC
      have HF : Hid (IK d ks es false m R ((m = left - byP d ((2, nm, 0, by', ks, es) : Itm d)) ∧ (if (0 : Int) = 0 then zeroE d by' = true else goodE d by' 1 = true) ∧ m ≤ 150) (k + 1) (.int .i64 (-1))) := ⟨hlt, .inr ⟨rfl, HNx.out hg⟩⟩
      generalize m - pre (partsE d) es k = mx at *
      clear HNx hgo hst hIK hg hple
      go_wp2_with fail
      go_quiet (fail)
      go_wp2_with fail
      refine (HC.out _ (below_drewN B _)).mono ?_
      rintro e w3 ⟨rfl, b3⟩
      have B3 := hide' (Below.on (below_drewN hbel.out _) b3)
      clear q0 q1 q2 q3 q4 b3 y0 y8 y9
      go_wp2
      go_roundw
      case rel => exact ⟨k + 1, by go_num, HF, B3⟩
      case measure => simp [intOf]; omega
end Go.Proofs.YthkbapkndmlpfaaDoor
/-
  l6item of the specification, at every item.
-/
namespace Go.Proofs.YthkbapkndmlpfaaDoor
open Go.RowKit
set_option linter.unusedVariables false
set_option linter.unusedSimpArgs false

theorem l6item_any (d N : Nat) (cs : List Value) (it : Itm d) (left : Int) (w : World) (h : ISeg (fun b => b < N) w d cs it) (hN : N ≤ w.heap.size) (h0 : 0 ≤ left) (h1 : left ≤ 150) :
    Calls Tryd.prog 19 #[.agg cs.toArray, .int .i64 left] w fun e w' => e = .returned (.int .i64 (itemR d it left)) ∧ Below w.heap.size w w' := by
  by_cases hbad : headB d it = false ∨ (it.2.2.1 = 0 ∧ zeroE d it.2.2.2.1 = false)
  · refine (l6item_head d N cs it left w h hN hbad).mono fun e w' he => ⟨?_, he.2⟩
    have : itemR d it left = -1 := by
      rcases hbad with hb | ⟨hm, hz⟩
      · exact itemR_head hb
      · exact itemR_no (by simp [itemB, hm, hz])
    rw [this]
    exact he.1
  · have hh : headB d it = true := by
      cases e : headB d it with
      | true => rfl
      | false => exact absurd (.inl e) hbad
    have hz : it.2.2.1 = 0 → zeroE d it.2.2.2.1 = true := fun e => by
      cases e2 : zeroE d it.2.2.2.1 with
      | true => rfl
      | false => exact absurd (.inr ⟨e, e2⟩) hbad
    clear hbad
    obtain ⟨k, nm, mn, by', ks, es⟩ := it
    have hh2 := hh
    simp only [headB] at hh2 hz
    by_cases e1 : k = 1
    · subst e1
      have hm : mn = 0 ∨ mn = 1 ∨ mn = 2 := by simp at hh2; omega
      rcases hm with rfl | rfl | rfl
      · exact itR0 d N cs nm by' ks es left w h hN h0 h1 hh (hz rfl)
      · exact itR1 d N cs nm by' ks es left w h hN h0 h1 hh
      · exact itR2 d N cs nm by' ks es left w h hN h0 h1 hh
    · have hk : k = 0 ∨ k = 2 := by simp [e1] at hh2; omega
      have hm : mn = 0 := by simp [e1] at hh2; omega
      subst hm
      rcases hk with rfl | rfl
      · exact itO0 d N cs nm by' ks es left w h hN h0 h1 hh (hz rfl)
      · exact itO2 d N cs nm by' ks es left w h hN h0 h1 hh (hz rfl)
end Go.Proofs.YthkbapkndmlpfaaDoor
/-
  ConfigOk of the specification.
-/
namespace Go.Proofs.YthkbapkndmlpfaaDoor
open Go.RowKit
set_option linter.unusedVariables false
set_option linter.unusedSimpArgs false

/-- What holds ahead of the round k of ConfigOk. -/
def SI (d : Nat) (l : List (Itm d)) (w wr : World) (k : Nat) : Prop :=
  k ≤ l.length ∧ pre (itemP d) l k ≤ 150 ∧ Below w.heap.size w wr ∧ ∀ j (h : j < l.length), j < k → okAt d l j l[j] = true

theorem itemR_cases {d : Nat} (it : Itm d) (left : Int) : (itemB d it = true ∧ (itemP d it : Int) ≤ left ∧ itemR d it left = left - itemP d it) ∨ (¬ (itemB d it = true ∧ (itemP d it : Int) ≤ left) ∧ itemR d it left = -1) := by
  unfold itemR
  by_cases h : itemB d it = true ∧ (itemP d it : Int) ≤ left
  · rw [if_pos h]
    exact .inl ⟨h.1, h.2, rfl⟩
  · rw [if_neg h]
    exact .inr ⟨h, rfl⟩

/-- Two cells of item i: its kind and its name. -/
theorem ILSeg.head {N : Nat} {w : World} {d : Nat} {b off len cap : Nat} {l : List (Itm d)} (h : ILSeg (fun b => b < N) w d (.slice (some ⟨b, off, none⟩) len cap) l) {i : Nat} (hi : i < l.length) :
    ∃ na np, w.cell? ⟨b, off + i * 10, none⟩ = some (.int .i64 l[i].1) ∧ w.cell? ⟨b, off + i * 10 + 1, none⟩ = some (.slice na l[i].2.1.length np) ∧ Seg w na l[i].2.1 := by
  obtain ⟨b', off', cs, e, _, hr, hs⟩ := h.at hi
  simp only [Option.some.injEq, Addr.mk.injEq, and_true] at e
  obtain ⟨rfl, rfl⟩ := e
  obtain ⟨na, np, bk, bn, a2, l2, p2, a3, l3, p3, a4, l4, p4, xa, xp, ea, ep, rfl, ht, _⟩ := hs.form
  obtain ⟨a1, c1, e1, s1, _⟩ := ht
  simp only [Value.slice.injEq] at e1
  obtain ⟨rfl, _, _⟩ := e1
  exact ⟨na, np, by simpa using hr 0 _ rfl, hr 1 _ rfl, s1⟩

set_option maxHeartbeats 3200000 in
set_option maxRecDepth 100000 in
theorem spec_ConfigOk_any (d N : Nat) (x : Value) (l : List (Itm d)) (w : World) (hx : ILSeg (fun b => b < N) w d x l) (hN : N ≤ w.heap.size) :
    Calls Tryd.prog 6 #[x] w fun e w' => e = .returned (.bool (cfgB d l)) ∧ Below w.heap.size w w' := by
  have HX := hide' hx
  obtain ⟨a, cap, rfl, hlc, hcm, _, _⟩ := hx
  unfold maxLen at hcm
  by_cases hlong : 12 < l.length
  · have hl' : (12 : Int) < (l.length : Int) := by omega
    have HF := hide' (cfg_long hlong)
    go_enter Tryd.func6, Tryd.ntmps6
    go_wp2
    go_ret
    exact ⟨ret_bool HF.out.symm, Below.refl _ _⟩
  have hl' : ¬ (12 : Int) < (l.length : Int) := by omega
  have H0 : Hid (SI d l w w 0) := ⟨Nat.zero_le _, by rw [pre_zero]; omega, Below.refl _ _, fun j h h' => by omega⟩
  obtain ⟨q0, hq0⟩ : ∃ q : Int, q = 150 - (pre (itemP d) l 0 : Int) := ⟨_, rfl⟩
  have hq0' : q0 = 150 := by rw [hq0, pre_zero]; rfl
  go_enter Tryd.func6, Tryd.ntmps6
  go_wp2
  go_loopw [3, 4] (fun lf i wr => ∃ k : Nat, i = .int .i64 k ∧ lf = .int .i64 (150 - (pre (itemP d) l k : Int)) ∧ Hid (SI d l w wr k)) (fun _ i _ => l.length - (intOf i).toNat)
  case atStart => exact ⟨0, rfl, by rw [pre_zero]; rfl, H0⟩
  case round =>
    clear H0 hq0 hq0'
    obtain ⟨k, rfl, rfl, hSI⟩ := hrel
    obtain ⟨hk, hp, hbel, hall⟩ := hSI.out
    have hz := hbel.size
    by_cases hlt : k < l.length
    rotate_left
    · have hkn : k = l.length := by omega
      have hlt' : ¬ (k : Int) < (l.length : Int) := by omega
      have HF : Hid (cfgB d l = true) := cfg_yes (by omega) (fun i h => hall i h (by omega)) (by rw [← hkn]; exact hp)
      have HB := hide' hbel
      clear hkn hall hbel
      go_wp2
      go_ret
      exact ⟨ret_bool HF.out.symm, HB.out⟩
    have hlt' : (k : Int) < (l.length : Int) := by omega
    have hag := agree_below (hbel.mono hN)
    obtain ⟨b, off, cs, rfl, hbN, hr, hs⟩ := (HX.out.agree hag).at hlt
    have hlen := hs.len
    have HC := hide' (l6item_any d N cs l[k] (150 - (pre (itemP d) l k : Int)) wr hs (by omega) (by omega) (by omega))
    have HAll := hide' hall
    clear hs hag hall
    obtain ⟨lf, elf⟩ : ∃ lf : Int, lf = 150 - (pre (itemP d) l k : Int) := ⟨_, rfl⟩
    have hps := pre_succ (itemP d) l k hlt
    rcases itemR_cases l[k] (150 - (pre (itemP d) l k : Int)) with ⟨hi1, hi2, hi3⟩ | ⟨hi1, hi3⟩
    rotate_left
    · rw [hi3] at HC
      have HF : Hid (cfgB d l = false) := by
        show _ = _
        by_cases h : itemB d l[k] = true
        · exact cfg_sum hlt fun h2 => hi1 ⟨h, by omega⟩
        · exact cfg_at hlt (by simp [okAt, h])
      rw [← elf] at HC ⊢
      have hl0 : -1 ≤ lf ∧ lf ≤ 150 := by omega
      clear hi1 hi3 elf hps
      go_wp2_with (refine wpList_load_mid rfl 42 (.tmp 17) (by rfl) b (off + k * 10) (by rfl) cs _ hr Tryd.underlying42 rfl (info_item hlen) ?_)
      refine HC.out.mono ?_
      rintro e w1 ⟨rfl, b1⟩
      have B1 := Below.on hbel b1
      clear hr b1 HC
      go_wp2
      go_ret
      exact ⟨ret_bool HF.out.symm, B1⟩
    rw [hi3] at HC
    obtain ⟨nx, enx⟩ : ∃ nx : Int, nx = 150 - (pre (itemP d) l k : Int) - itemP d l[k] := ⟨_, rfl⟩
    have hnx : 0 ≤ nx ∧ nx ≤ 150 := by omega
    have HNx : Hid (nx = 150 - (pre (itemP d) l (k + 1) : Int)) := by show _ = _; rw [hps]; omega
    have HNp : Hid (pre (itemP d) l (k + 1) ≤ 150) := by show _ ≤ _; omega
    rw [← enx, ← elf] at HC
    rw [← elf]
    have hl0 : -1 ≤ lf ∧ lf ≤ 150 := by omega
    clear hi2 hi3 elf enx hps
    have HI1 := hide' hi1
    clear hi1
    go_wp2_with (refine wpList_load_mid rfl 42 (.tmp 17) (by rfl) b (off + k * 10) (by rfl) cs _ hr Tryd.underlying42 rfl (info_item hlen) ?_)
    refine HC.out.mono ?_
    rintro e w1 ⟨rfl, b1⟩
    have B1 := Below.on hbel b1
    clear hr b1 HC
    go_wp2_with fail
    go_loopw [5] (fun i ws => ∃ j : Nat, i = .int .i64 j ∧ j ≤ k ∧ Hid (Below w.heap.size w ws) ∧ Hid (∀ m (h : m < l.length), m < j → alkB d l[m] l[k] = false)) (fun i _ => k - (intOf i).toNat)
    case atStart => exact ⟨0, rfl, Nat.zero_le _, B1, fun m h h' => by omega⟩
    case round =>
      clear B1 hSI hbel
      obtain ⟨j, rfl, hj, hB, hno⟩ := hrel
      by_cases hjk : j < k
      rotate_left
      · have hjn : j = k := by omega
        have hjk' : ¬ (j : Int) < (k : Int) := by omega
        have HN : Hid (∀ ws, Below w.heap.size w ws → SI d l w ws (k + 1)) := fun ws hb => by
          refine ⟨hlt, HNp.out, hb, fun m hm hmk => ?_⟩
          by_cases e : m = k
          · subst e
            simp only [okAt, HI1.out, Bool.true_and, Bool.not_eq_true']
            rw [List.any_eq_false]
            intro y hy
            obtain ⟨i, hi, rfl⟩ := List.getElem_of_mem hy
            have hi' : i < m := by simp at hi; omega
            rw [List.getElem_take, hno.out i (by omega) (by omega)]
            simp
          · exact HAll.out m hm (by omega)
        clear hjn hno
        go_wp2
        go_roundw
        case rel => exact ⟨k + 1, by go_num, by rw [HNx.out], HN.out _ hB.out⟩
        case measure => simp [intOf]; omega
      have hjk' : (j : Int) < (k : Int) := by omega
      have hjl : j < l.length := by omega
      have hjl' : (j : Int) < (l.length : Int) := by omega
      have hL := HX.out.agree (agree_below (hB.out.mono hN))
      obtain ⟨na, np, q0, q1, s1⟩ := hL.head hjl
      obtain ⟨na', np', q0', q1', s1'⟩ := hL.head hlt
      clear hL
      have hcv : ∀ n, (convert 29 9 (.slice na l[j].2.1.length np)).run Tryd.prog (wr.drewN n) = .ok (.string (strOf l[j].2.1)) (wr.drewN n) := fun n => conv_seg (w := wr.drewN n) np s1
      have hcv' : ∀ n, (convert 29 9 (.slice na' l[k].2.1.length np')).run Tryd.prog (wr.drewN n) = .ok (.string (strOf l[k].2.1)) (wr.drewN n) := fun n => conv_seg (w := wr.drewN n) np' s1'
      have HYes : Hid (alkB d l[j] l[k] = true → cfgB d l = false) := fun h => cfg_at hlt (by
        simp only [okAt, Bool.and_eq_false_iff, Bool.not_eq_false']
        right
        rw [List.any_eq_true]
        exact ⟨l[j], List.mem_take_iff_getElem.2 ⟨j, by omega, rfl⟩, h⟩)
      have HNo : Hid (alkB d l[j] l[k] = false → ∀ m (h : m < l.length), m < j + 1 → alkB d l[m] l[k] = false) := fun h0 m h h' => by
        by_cases e : m = j
        · subst e; exact h0
        · exact hno.out m h (by omega)
      have hal : alkB d l[j] l[k] = (decide (l[j].1 = l[k].1) && ((strOf l[j].2.1).toList == (strOf l[k].2.1).toList)) := rfl
      rw [hal] at HYes HNo
      clear hal s1 s1' hno
      generalize l[j].1 = k1 at *
      generalize l[k].1 = k2 at *
      generalize strOf l[j].2.1 = t1 at *
      generalize strOf l[k].2.1 = t2 at *
      generalize l[j].2.1.length = n1 at *
      generalize l[k].2.1.length = n2 at *
      by_cases hk12 : k1 = k2
      · subst hk12
        by_cases ht12 : t1.toList = t2.toList
        · have HF := hide' (HYes.out (by simp [ht12]))
          have hb12 : (t1.toList == t2.toList) = true := by simpa using ht12
          clear HYes HNo
          go_wp2_with fail
          go_quiet (fail)
          go_wp2
          go_ret
          exact ⟨ret_bool HF.out.symm, below_drewN hB.out _⟩
        · have HF := hide' (HNo.out (by simp [ht12]))
          have hb12 : (t1.toList == t2.toList) = false := by simpa using ht12
          clear HYes HNo
          go_wp2_with fail
          go_quiet (fail)
          go_wp2
          go_roundw
          case rel => exact ⟨j + 1, by go_num, by omega, below_drewN hB.out _, HF⟩
          case measure => simp [intOf]; omega
      · have HF := hide' (HNo.out (by simp [hk12]))
        have hkb : (k1 == k2) = false := by simpa using hk12
        clear HYes HNo
        go_wp2_with fail
        go_quiet (fail)
        go_wp2
        go_roundw
        case rel => exact ⟨j + 1, by go_num, by omega, below_drewN hB.out _, HF⟩
        case measure => simp [intOf]; omega
end Go.Proofs.YthkbapkndmlpfaaDoor
/-
  ConfigOk of the program.
-/
namespace Go.Proofs.YthkbapkndmlpfaaDoor
open Go.RowKit
set_option linter.unusedVariables false
set_option linter.unusedSimpArgs false

/-- What holds ahead of the round k of ConfigOk. -/
def CI (d : Nat) (l : List (Itm d)) (w wr : World) (k : Nat) : Prop :=
  k ≤ l.length ∧ pre (itemP d) l k ≤ 150 ∧ ECnt wr w.heap.size (pre (itemP d) l k) ∧ Below w.heap.size w wr ∧ ∀ j (h : j < l.length), j < k → okAt d l j l[j] = true

set_option maxHeartbeats 3200000 in
set_option maxRecDepth 100000 in
theorem impl_ConfigOk_any (d N : Nat) (x : Value) (l : List (Itm d)) (w : World) (hx : ILSeg (fun b => b < N) w d x l) (hN : N ≤ w.heap.size) (hT : ShpT w) (hgN : 0 < N) :
    Calls Tryd.prog 8 #[x] w fun e w' => e = .returned (.bool (cfgB d l)) ∧ Below w.heap.size w w' := by
  have HX := hide' hx
  obtain ⟨a, cap, rfl, hlc, hcm, _, _⟩ := hx
  unfold maxLen at hcm
  by_cases hlong : 12 < l.length
  · have hl' : (12 : Int) < (l.length : Int) := by omega
    have HF := hide' (cfg_long hlong)
    go_enter Tryd.func8, Tryd.ntmps8
    go_wp2
    go_ret
    exact ⟨ret_bool HF.out.symm, Below.refl _ _⟩
  have hl' : ¬ (12 : Int) < (l.length : Int) := by omega
  have HT := hide' hT
  have H0 : Hid (CI d l w (w.alloc (.cells #[.int .i64 0] 50)) 0) := ⟨Nat.zero_le _, by rw [pre_zero]; omega, by rw [pre_zero]; exact (MapKept.heap_alloc w _).1, (Below.refl _ _).alloc (Nat.le_refl _) _, fun j h h' => by omega⟩
  clear hT
  go_enter Tryd.func8, Tryd.ntmps8
  go_wp2
  go_loopw [11] (fun i wr => ∃ k : Nat, i = .int .i64 k ∧ Hid (CI d l w wr k)) (fun i _ => l.length - (intOf i).toNat)
  case atStart => exact ⟨0, rfl, H0⟩
  case round =>
    clear H0
    obtain ⟨k, rfl, hCI⟩ := hrel
    obtain ⟨hk, hp, hcn, hbel, hall⟩ := hCI.out
    have hz := hbel.size
    have hqs : w.heap.size < wr.heap.size := (Array.getElem?_eq_some_iff.1 hcn).1
    by_cases hlt : k < l.length
    rotate_left
    · have hkn : k = l.length := by omega
      have hlt' : ¬ (k : Int) < (l.length : Int) := by omega
      have HF : Hid (cfgB d l = true) := cfg_yes (by omega) (fun i h => hall i h (by omega)) (by rw [← hkn]; exact hp)
      have HB := hide' hbel
      clear hkn hall hcn hbel
      go_wp2
      go_ret
      exact ⟨ret_bool HF.out.symm, HB.out⟩
    have hlt' : (k : Int) < (l.length : Int) := by omega
    have hag := agree_below (hbel.mono hN)
    obtain ⟨b, off, cs, rfl, hbN, hr, hs⟩ := (HX.out.agree hag).at hlt
    have HI : Hid (∀ wx, Below w.heap.size w wx → ISeg (fun b => b < N) wx d cs l[k]) := fun wx hb => by
      obtain ⟨b', off', cs', e', _, hr', hs'⟩ := (HX.out.agree (agree_below (hb.mono hN))).at hlt
      simp only [Option.some.injEq, Addr.mk.injEq, and_true] at e'
      obtain ⟨rfl, rfl⟩ := e'
      have hcs : cs' = cs := by
        apply List.ext_getElem?
        intro j
        have h1 := hs'.len
        have h2 := hs.len
        by_cases hj : j < 10
        · have g1 := hr j cs[j] (by rw [List.getElem?_eq_getElem])
          have g2 := hr' j cs'[j] (by rw [List.getElem?_eq_getElem])
          have g3 : wx.cell? ⟨b, off + k * 10 + j, none⟩ = wr.cell? ⟨b, off + k * 10 + j, none⟩ := World.cell?_of_block ((hb.block b (by omega)).trans (hbel.block b (by omega)).symm)
          rw [g3, g1] at g2
          rw [List.getElem?_eq_getElem (by omega), List.getElem?_eq_getElem (by omega)]
          exact g2.symm
        · rw [List.getElem?_eq_none (by omega), List.getElem?_eq_none (by omega)]
      rw [← hcs]
      exact hs'
    have HTk := hide' (HX.out)
    obtain ⟨na, np, bk, bn, a2, l2, p2, a3, l3, p3, a4, l4, p4, xa, xp, ea, ep, hcs, -⟩ := hs.form
    generalize hi1 : l[k].1 = ik at hcs
    generalize hi2 : l[k].2.1.length = n1 at hcs
    generalize hi3 : l[k].2.2.1 = im at hcs
    generalize hi4 : l[k].2.2.2.2.1.length = n2 at hcs
    generalize hi5 : l[k].2.2.2.2.2.length = n3 at hcs
    subst hcs
    clear hi1 hi2 hi3 hi4 hi5 hs
    have q0 := hr 0 _ rfl
    have q1 := hr 1 _ rfl
    have q2 := hr 2 _ rfl
    have q3 := hr 3 _ rfl
    have q4 := hr 4 _ rfl
    have q5 := hr 5 _ rfl
    have q6 := hr 6 _ rfl
    have q7 := hr 7 _ rfl
    have q8 := hr 8 _ rfl
    have q9 := hr 9 _ rfl
    simp only [Nat.add_zero] at q0
    have HW0 : Hid (Below w.heap.size w (wr.alloc (.cells #[.int .i64 ik, .slice na n1 np, .int .i64 im, .int .i64 bk, .int .i64 bn, .slice a2 l2 p2, .slice a3 l3 p3, .slice a4 l4 p4, .slice xa n2 xp, .slice ea n3 ep] 42))) := hbel.alloc hz _
    have HR10 : Hid (∀ wx : World, wx.heap[wr.heap.size]? = some (.cells #[.int .i64 ik, .slice na n1 np, .int .i64 im, .int .i64 bk, .int .i64 bn, .slice a2 l2 p2, .slice a3 l3 p3, .slice a4 l4 p4, .slice xa n2 xp, .slice ea n3 ep] 42) → (wx.cell? ⟨wr.heap.size, 0, none⟩ = some (.int .i64 ik) ∧ wx.cell? ⟨wr.heap.size, 1, none⟩ = some (.slice na n1 np) ∧ wx.cell? ⟨wr.heap.size, 2, none⟩ = some (.int .i64 im) ∧ wx.cell? ⟨wr.heap.size, 3, none⟩ = some (.int .i64 bk) ∧ wx.cell? ⟨wr.heap.size, 4, none⟩ = some (.int .i64 bn) ∧ wx.cell? ⟨wr.heap.size, 5, none⟩ = some (.slice a2 l2 p2) ∧ wx.cell? ⟨wr.heap.size, 6, none⟩ = some (.slice a3 l3 p3) ∧ wx.cell? ⟨wr.heap.size, 7, none⟩ = some (.slice a4 l4 p4) ∧ wx.cell? ⟨wr.heap.size, 8, none⟩ = some (.slice xa n2 xp) ∧ wx.cell? ⟨wr.heap.size, 9, none⟩ = some (.slice ea n3 ep))) := fun wx h => by
      refine ⟨?_, ?_, ?_, ?_, ?_, ?_, ?_, ?_, ?_, ?_⟩ <;> (rw [cell_of_row _ _ _ _ _ _ h]; rfl)
    have hkc : (k : Int) ≤ (cap : Int) := by omega
    have hk0 : (0 : Int) ≤ (k : Int) := by omega
    obtain ⟨hd, ehd⟩ : ∃ hd, hd = hdrB d l[k] := ⟨_, rfl⟩
    obtain ⟨ak, eak⟩ : ∃ ak, ak = (l.take k).any fun y => alkB d y l[k] := ⟨_, rfl⟩
    obtain ⟨tk, etk⟩ : ∃ tk, tk = decide (tkB d l[k] = true ∧ pre (itemP d) l k + itemP d l[k] ≤ 150) := ⟨_, rfl⟩
    have HC : Hid (Calls Tryd.prog 20 #[.agg #[.int .i64 ik, .slice na n1 np, .int .i64 im, .int .i64 bk, .int .i64 bn, .slice a2 l2 p2, .slice a3 l3 p3, .slice a4 l4 p4, .slice xa n2 xp, .slice ea n3 ep]] (wr.alloc (.cells #[.int .i64 ik, .slice na n1 np, .int .i64 im, .int .i64 bk, .int .i64 bn, .slice a2 l2 p2, .slice a3 l3 p3, .slice a4 l4 p4, .slice xa n2 xp, .slice ea n3 ep] 42)).drew fun e w1 => e = .returned (.bool hd) ∧ (w1.cell? ⟨wr.heap.size, 0, none⟩ = some (.int .i64 ik) ∧ w1.cell? ⟨wr.heap.size, 1, none⟩ = some (.slice na n1 np) ∧ w1.cell? ⟨wr.heap.size, 2, none⟩ = some (.int .i64 im) ∧ w1.cell? ⟨wr.heap.size, 3, none⟩ = some (.int .i64 bk) ∧ w1.cell? ⟨wr.heap.size, 4, none⟩ = some (.int .i64 bn) ∧ w1.cell? ⟨wr.heap.size, 5, none⟩ = some (.slice a2 l2 p2) ∧ w1.cell? ⟨wr.heap.size, 6, none⟩ = some (.slice a3 l3 p3) ∧ w1.cell? ⟨wr.heap.size, 7, none⟩ = some (.slice a4 l4 p4) ∧ w1.cell? ⟨wr.heap.size, 8, none⟩ = some (.slice xa n2 xp) ∧ w1.cell? ⟨wr.heap.size, 9, none⟩ = some (.slice ea n3 ep)) ∧ Hid (Below w.heap.size w w1) ∧
        Hid (Calls Tryd.prog 21 #[.slice (some ⟨b, off, none⟩) k cap, .agg #[.int .i64 ik, .slice na n1 np, .int .i64 im, .int .i64 bk, .int .i64 bn, .slice a2 l2 p2, .slice a3 l3 p3, .slice a4 l4 p4, .slice xa n2 xp, .slice ea n3 ep]] w1 fun e w2 => e = .returned (.bool ak) ∧ (w2.cell? ⟨wr.heap.size, 0, none⟩ = some (.int .i64 ik) ∧ w2.cell? ⟨wr.heap.size, 1, none⟩ = some (.slice na n1 np) ∧ w2.cell? ⟨wr.heap.size, 2, none⟩ = some (.int .i64 im) ∧ w2.cell? ⟨wr.heap.size, 3, none⟩ = some (.int .i64 bk) ∧ w2.cell? ⟨wr.heap.size, 4, none⟩ = some (.int .i64 bn) ∧ w2.cell? ⟨wr.heap.size, 5, none⟩ = some (.slice a2 l2 p2) ∧ w2.cell? ⟨wr.heap.size, 6, none⟩ = some (.slice a3 l3 p3) ∧ w2.cell? ⟨wr.heap.size, 7, none⟩ = some (.slice a4 l4 p4) ∧ w2.cell? ⟨wr.heap.size, 8, none⟩ = some (.slice xa n2 xp) ∧ w2.cell? ⟨wr.heap.size, 9, none⟩ = some (.slice ea n3 ep)) ∧ Hid (Below w.heap.size w w2) ∧
          Hid (Calls Tryd.prog 22 #[.pointer (some ⟨w.heap.size, 0, none⟩), .agg #[.int .i64 ik, .slice na n1 np, .int .i64 im, .int .i64 bk, .int .i64 bn, .slice a2 l2 p2, .slice a3 l3 p3, .slice a4 l4 p4, .slice xa n2 xp, .slice ea n3 ep]] w2 fun e w3 => e = .returned (.bool tk) ∧ (w3.cell? ⟨wr.heap.size, 0, none⟩ = some (.int .i64 ik) ∧ w3.cell? ⟨wr.heap.size, 1, none⟩ = some (.slice na n1 np) ∧ w3.cell? ⟨wr.heap.size, 2, none⟩ = some (.int .i64 im) ∧ w3.cell? ⟨wr.heap.size, 3, none⟩ = some (.int .i64 bk) ∧ w3.cell? ⟨wr.heap.size, 4, none⟩ = some (.int .i64 bn) ∧ w3.cell? ⟨wr.heap.size, 5, none⟩ = some (.slice a2 l2 p2) ∧ w3.cell? ⟨wr.heap.size, 6, none⟩ = some (.slice a3 l3 p3) ∧ w3.cell? ⟨wr.heap.size, 7, none⟩ = some (.slice a4 l4 p4) ∧ w3.cell? ⟨wr.heap.size, 8, none⟩ = some (.slice xa n2 xp) ∧ w3.cell? ⟨wr.heap.size, 9, none⟩ = some (.slice ea n3 ep)) ∧ Hid (Below w.heap.size w w3 ∧ (tk = true → ECnt w3 w.heap.size (pre (itemP d) l k + itemP d l[k])))))) := by
      have hal : Below wr.heap.size wr (wr.alloc (.cells #[.int .i64 ik, .slice na n1 np, .int .i64 im, .int .i64 bk, .int .i64 bn, .slice a2 l2 p2, .slice a3 l3 p3, .slice a4 l4 p4, .slice xa n2 xp, .slice ea n3 ep] 42)) := (Below.refl _ _).alloc (Nat.le_refl _) _
      have hrow : (wr.alloc (.cells #[.int .i64 ik, .slice na n1 np, .int .i64 im, .int .i64 bk, .int .i64 bn, .slice a2 l2 p2, .slice a3 l3 p3, .slice a4 l4 p4, .slice xa n2 xp, .slice ea n3 ep] 42)).heap[wr.heap.size]? = some (.cells #[.int .i64 ik, .slice na n1 np, .int .i64 im, .int .i64 bk, .int .i64 bn, .slice a2 l2 p2, .slice a3 l3 p3, .slice a4 l4 p4, .slice xa n2 xp, .slice ea n3 ep] 42) := (MapKept.heap_alloc wr _).1
      rw [ehd, eak, etk]
      refine (headerOk_any d N _ l[k] _ (HI.out _ HW0.out.drew) (by show N ≤ (wr.alloc (.cells #[.int .i64 ik, .slice na n1 np, .int .i64 im, .int .i64 bk, .int .i64 bn, .slice a2 l2 p2, .slice a3 l3 p3, .slice a4 l4 p4, .slice xa n2 xp, .slice ea n3 ep] 42)).heap.size; simp; omega)).mono ?_
      rintro e w1 ⟨rfl, b1⟩
      have hb1 : Below (wr.alloc (.cells #[.int .i64 ik, .slice na n1 np, .int .i64 im, .int .i64 bk, .int .i64 bn, .slice a2 l2 p2, .slice a3 l3 p3, .slice a4 l4 p4, .slice xa n2 xp, .slice ea n3 ep] 42)).heap.size (wr.alloc (.cells #[.int .i64 ik, .slice na n1 np, .int .i64 im, .int .i64 bk, .int .i64 bn, .slice a2 l2 p2, .slice a3 l3 p3, .slice a4 l4 p4, .slice xa n2 xp, .slice ea n3 ep] 42)) w1 := Below.on (Below.refl _ _).drew b1
      have B1 := Below.on HW0.out hb1
      have r1 := (hb1.block wr.heap.size (by simp)).trans hrow
      refine ⟨rfl, HR10.out _ r1, B1, ?_⟩
      have hL1 := (HTk.out.agree (agree_below (B1.mono hN))).take hk
      have hkl : (l.take k).length = k := by simp; omega
      have hA := namedAlike_any d N _ (some ⟨b, off, none⟩) cap (l.take k) l[k] w1 hL1 (HI.out _ B1) (by have := B1.size; omega) (by omega)
      rw [hkl] at hA
      refine hA.mono ?_
      rintro e w2 ⟨rfl, b2⟩
      have B2 := Below.on B1 b2
      have r2 := (b2.block wr.heap.size (Array.getElem?_eq_some_iff.1 r1).1).trans r1
      refine ⟨rfl, HR10.out _ r2, B2, ?_⟩
      have hb2 := Below.on (Below.on hal hb1) b2
      have hc2 : ECnt w2 w.heap.size (pre (itemP d) l k) := (hb2.block _ hqs).trans hcn
      refine (takesItem_any d N w.heap.size (pre (itemP d) l k) _ l[k] w2 (HI.out _ B2) hN (by have := hb2.size; omega) hc2 (HT.out.below B2) hgN hp).mono ?_
      rintro e w3 ⟨hg3, hcase⟩
      have B3 := B2.grown hg3 B2.size (by intro j hj; simp at hj; omega)
      have r3 := (hg3.block wr.heap.size (Array.getElem?_eq_some_iff.1 r2).1 (by simp; omega)).trans r2
      rcases hcase with ⟨rfl, h1, h2, h3⟩ | ⟨rfl, h1⟩
      · exact ⟨by rw [decide_eq_true ⟨h1, h2⟩], HR10.out _ r3, B3, fun _ => h3⟩
      · exact ⟨by rw [decide_eq_false h1], HR10.out _ r3, B3, fun h => by rw [decide_eq_false h1] at h; cases h⟩
    have HNo : Hid (hd = false ∨ ak = true ∨ tk = false → cfgB d l = false) := fun h => by
      by_cases hok : okAt d l k l[k] = true
      · simp only [okAt, itemB_two, Bool.and_eq_true, Bool.not_eq_true'] at hok
        rw [← ehd] at hok
        rw [← eak] at hok
        rcases h with h | h | h
        · rw [hok.1.1] at h; cases h
        · rw [hok.2] at h; cases h
        · rw [etk, decide_eq_false_iff_not] at h
          exact cfg_sum hlt fun h2 => h ⟨hok.1.2, h2⟩
      · exact cfg_at hlt (by simpa using hok)
    have HYes : Hid (hd = true → ak = false → tk = true → ∀ w3, Below w.heap.size w w3 → ECnt w3 w.heap.size (pre (itemP d) l k + itemP d l[k]) → CI d l w w3 (k + 1)) := fun h1 h2 h3 w3 hb h4 => by
      have hps := pre_succ (itemP d) l k hlt
      rw [etk, decide_eq_true_eq] at h3
      refine ⟨hlt, by rw [hps]; exact h3.2, by rw [hps]; exact h4, hb, fun j hj hjk => ?_⟩
      by_cases e : j = k
      · subst e
        simp only [okAt, itemB_two, ← ehd, h1, h3.1, ← eak, h2]
        rfl
      · exact hall j hj (by omega)
    clear ehd eak etk hr hcn hbel hall hag HI HTk
    cases hd with
    | false =>
      have HF := hide' (HNo.out (.inl rfl))
      clear HNo HYes
      go_wp2_with fail
      first
        | go_region_with (go_at_call 20; refine HC.out.mono ?_; rintro e w1 ⟨rfl, ⟨i0, i1, i2, i3, i4, i5, i6, i7, i8, i9⟩, hB1, -⟩)
        | fail
      all_goals
        go_wp2
        go_ret
        exact ⟨ret_bool HF.out.symm, hB1.out⟩
    | true =>
      cases ak with
      | true =>
        have HF := hide' (HNo.out (.inr (.inl rfl)))
        clear HNo HYes
        go_wp2_with fail
        first
          | go_region_with (first | (go_at_call 20; refine HC.out.mono ?_; rintro e w1 ⟨rfl, ⟨i0, i1, i2, i3, i4, i5, i6, i7, i8, i9⟩, hB1, hA1⟩) | (go_at_call 21; refine hA1.out.mono ?_; rintro e w2 ⟨rfl, ⟨j0, j1, j2, j3, j4, j5, j6, j7, j8, j9⟩, hB2, hA2⟩) | fail)
          | fail
        all_goals
          go_wp2
          go_ret
          exact ⟨ret_bool HF.out.symm, hB2.out⟩
      | false =>
        cases tk with
        | false =>
          have HF := hide' (HNo.out (.inr (.inr rfl)))
          clear HNo HYes
          go_wp2_with fail
          go_region_held3 (fun wx => wx.cell? ⟨wr.heap.size, 0, none⟩ = some (.int .i64 ik) ∧ wx.cell? ⟨wr.heap.size, 1, none⟩ = some (.slice na n1 np) ∧ wx.cell? ⟨wr.heap.size, 2, none⟩ = some (.int .i64 im) ∧ wx.cell? ⟨wr.heap.size, 3, none⟩ = some (.int .i64 bk) ∧ wx.cell? ⟨wr.heap.size, 4, none⟩ = some (.int .i64 bn) ∧ wx.cell? ⟨wr.heap.size, 5, none⟩ = some (.slice a2 l2 p2) ∧ wx.cell? ⟨wr.heap.size, 6, none⟩ = some (.slice a3 l3 p3) ∧ wx.cell? ⟨wr.heap.size, 7, none⟩ = some (.slice a4 l4 p4) ∧ wx.cell? ⟨wr.heap.size, 8, none⟩ = some (.slice xa n2 xp) ∧ wx.cell? ⟨wr.heap.size, 9, none⟩ = some (.slice ea n3 ep)) (go_keep) (first
            | (go_at_call 20; refine HC.out.mono ?_; rintro e w1 ⟨rfl, ⟨i0, i1, i2, i3, i4, i5, i6, i7, i8, i9⟩, hB1, hA1⟩)
            | (go_at_call 21; refine hA1.out.mono ?_; rintro e w2 ⟨rfl, ⟨j0, j1, j2, j3, j4, j5, j6, j7, j8, j9⟩, hB2, hA2⟩)
            | (go_at_call 22; refine hA2.out.mono ?_; rintro e w3 ⟨rfl, ⟨m0, m1, m2, m3, m4, m5, m6, m7, m8, m9⟩, hB3⟩)
            | fail)
          all_goals
            go_wp2
            go_ret
            exact ⟨ret_bool HF.out.symm, hB3.out.1⟩
        | true =>
          have HY := hide' (HYes.out rfl rfl rfl)
          clear HNo HYes
          go_wp2_with fail
          go_region_held3 (fun wx => wx.cell? ⟨wr.heap.size, 0, none⟩ = some (.int .i64 ik) ∧ wx.cell? ⟨wr.heap.size, 1, none⟩ = some (.slice na n1 np) ∧ wx.cell? ⟨wr.heap.size, 2, none⟩ = some (.int .i64 im) ∧ wx.cell? ⟨wr.heap.size, 3, none⟩ = some (.int .i64 bk) ∧ wx.cell? ⟨wr.heap.size, 4, none⟩ = some (.int .i64 bn) ∧ wx.cell? ⟨wr.heap.size, 5, none⟩ = some (.slice a2 l2 p2) ∧ wx.cell? ⟨wr.heap.size, 6, none⟩ = some (.slice a3 l3 p3) ∧ wx.cell? ⟨wr.heap.size, 7, none⟩ = some (.slice a4 l4 p4) ∧ wx.cell? ⟨wr.heap.size, 8, none⟩ = some (.slice xa n2 xp) ∧ wx.cell? ⟨wr.heap.size, 9, none⟩ = some (.slice ea n3 ep)) (go_keep) (first
            | (go_at_call 20; refine HC.out.mono ?_; rintro e w1 ⟨rfl, ⟨i0, i1, i2, i3, i4, i5, i6, i7, i8, i9⟩, hB1, hA1⟩)
            | (go_at_call 21; refine hA1.out.mono ?_; rintro e w2 ⟨rfl, ⟨j0, j1, j2, j3, j4, j5, j6, j7, j8, j9⟩, hB2, hA2⟩)
            | (go_at_call 22; refine hA2.out.mono ?_; rintro e w3 ⟨rfl, ⟨m0, m1, m2, m3, m4, m5, m6, m7, m8, m9⟩, hB3⟩)
            | fail)
          all_goals
            have hE3 : ECnt w3 w.heap.size (pre (itemP d) l k + itemP d l[k]) := by first | exact hB3.out.2 rfl | exact hB3.out.2 trivial
            have HN := hide' (HY.out w3 hB3.out.1 hE3)
            go_wp2
            go_roundw
            case rel => exact ⟨k + 1, by go_num, HN⟩
            case measure => simp [intOf]; omega
end Go.Proofs.YthkbapkndmlpfaaDoor
