/-
  Texts that a law leans on, one behind the other; no statement is proved here.
-/
import Derived.Test.YtcdonbepfmhdpaaPk9
import Derived.Test.YtcdonbepfmhdpaaPk10
import Derived.Test.YtcdonbepfmhdpaaPk13
import Derived.Test.YtcdonbepfmhdpaaPk14
import Derived.Test.YtcdonbepfmhdpaaPk16
import Derived.Test.YtcdonbepfmhdpaaPk3
import Derived.Test.YtcdonbepfmhdpaaPk5
import Derived.BigQuiet
/-
  What the walk of FnOrders wants besides: the row of places.
-/
namespace Go.Proofs.Ytcdonbepfmhdpaa
open Go.RowKit
set_option linter.unusedVariables false
set_option linter.unusedSimpArgs false

/-- The places behind k rounds: at each of the first k of L its number and one. -/
def plS (L : List Int) (m : Nat) : Nat → List Int
  | 0 => List.replicate m 0
  | k + 1 => (plS L m k).set (L.getD k 0).toNat ((k : Int) + 1)
theorem plS_len (L : List Int) (m : Nat) : ∀ k, (plS L m k).length = m
  | 0 => by simp [plS]
  | k + 1 => by simp [plS, plS_len L m k]
theorem plS_none {L : List Int} {m : Nat} (h0 : ∀ v ∈ L, 0 ≤ v) : ∀ (k : Nat), k ≤ L.length → ∀ x : Nat, (x : Int) ∉ L.take k → (plS L m k).getD x 0 = 0
  | 0, _, x, _ => by
    simp only [plS, List.getD_eq_getElem?_getD, List.getElem?_replicate]
    split <;> rfl
  | k + 1, hk, x, hx => by
    rw [List.take_succ_eq_append_getElem (by omega), List.mem_append, not_or] at hx
    have ih := plS_none (m := m) h0 k (by omega) x hx.1
    have hne : ¬ (L.getD k 0).toNat = x := by
      have e1 : L.getD k 0 = L[k] := by simp [List.getD_eq_getElem?_getD, (by omega : k < L.length)]
      rw [e1]
      have h1 := h0 L[k] (List.getElem_mem _)
      intro hc
      exact hx.2 (by simp; omega)
    show ((plS L m k).set (L.getD k 0).toNat ((k : Int) + 1)).getD x 0 = 0
    rw [List.getD_eq_getElem?_getD, List.getElem?_set_ne hne, ← List.getD_eq_getElem?_getD]
    exact ih
theorem plS_at {L : List Int} {m : Nat} (hnd : L.Nodup) (hin : ∀ v ∈ L, 0 ≤ v ∧ v < (m : Int)) : ∀ (k : Nat), k ≤ L.length → ∀ (j : Nat) (hj : j < L.length), j < k → (plS L m k).getD L[j].toNat 0 = (j : Int) + 1
  | 0, _, j, _, h => by omega
  | k + 1, hk, j, hjl, hj => by
    have e1 : L.getD k 0 = L[k] := by simp [List.getD_eq_getElem?_getD, (by omega : k < L.length)]
    show ((plS L m k).set (L.getD k 0).toNat ((k : Int) + 1)).getD L[j].toNat 0 = (j : Int) + 1
    rw [e1, List.getD_eq_getElem?_getD]
    by_cases hjk : j = k
    · subst hjk
      have := hin L[j] (List.getElem_mem _)
      rw [List.getElem?_set_self (by rw [plS_len]; omega)]
      rfl
    · have hne : ¬ L[k].toNat = L[j].toNat := by
        intro hc
        have h1 := hin L[k] (List.getElem_mem _)
        have h2 := hin L[j] (List.getElem_mem _)
        have h3 : L[j] = L[k] := by omega
        exact List.pairwise_iff_getElem.1 hnd j k (by omega) (by omega) (by omega) h3
      rw [List.getElem?_set_ne hne, ← List.getD_eq_getElem?_getD]
      exact plS_at hnd hin k (by omega) j hjl (by omega)
/-- The places of an edge's ends. -/
theorem plS_edge {n : Nat} {E : List Edg} (hE : InG n E) (hb : ordB (n : Int) E = true) {e : Edg} (he : e ∈ E) : (plS (ordR n E) n (ordR n E).length).getD e.1.toNat 0 < (plS (ordR n E) n (ordR n E).length).getD e.2.toNat 0 := by
  obtain ⟨i, j, hi, hj, hij, h1, h2⟩ := ord_later hE hb he
  have hf := ordR_full (n := n) (E := E)
  rw [← h1, ← h2, plS_at hf.1 hf.2.1 _ (Nat.le_refl _) i hi hi, plS_at hf.1 hf.2.1 _ (Nat.le_refl _) j hj hj]
  omega

/-- The row of places behind all that w had. -/
def PSt (w : World) (D : List Int) (wr : World) : Prop := NRow w.heap.size D wr ∧ Below w.heap.size w wr
theorem PSt.set {w wr : World} {D : List Int} (h : PSt w D wr) (m : Nat) (x : Int) : PSt w (D.set m x) (wr.setCell ⟨w.heap.size, m, none⟩ (.int .i64 x)) := ⟨h.1.set m x, h.2.setCell (by show w.heap.size ≤ w.heap.size; omega) _⟩
theorem PSt.drew {w wr : World} {D : List Int} (h : PSt w D wr) : PSt w D wr.drew := ⟨h.1, Below.on h.2 ((Below.refl _ _).drew)⟩
theorem PSt.drewN {w wr : World} {D : List Int} (h : PSt w D wr) (n : Nat) : PSt w D (wr.drewN n) := ⟨h.1, below_drewN h.2 n⟩
theorem PSt.lt {w wr : World} {D : List Int} (h : PSt w D wr) : w.heap.size < wr.heap.size := (Array.getElem?_eq_some_iff.1 h.1).1
theorem PSt.on {w wr w' : World} {D : List Int} (h : PSt w D wr) (hb : Below wr.heap.size wr w') : PSt w D w' := ⟨(hb.block _ h.lt).trans h.1, Below.on h.2 hb⟩
theorem cell_kept {w w' : World} (b : Below w.heap.size w w') {q : Addr} {v : Value} (h : w.cell? q = some v) : w'.cell? q = some v := (b.cell (World.block_lt_of_cell? w _ h)).trans h
end Go.Proofs.Ytcdonbepfmhdpaa
/-
  The walk of FnOrders.
-/
namespace Go.Proofs.Ytcdonbepfmhdpaa
open Go.RowKit
set_option linter.unusedVariables false
set_option linter.unusedSimpArgs false

set_option maxHeartbeats 6400000 in
set_option maxRecDepth 100000 in
theorem walk_FnOrders (a : Option Addr) (cap : Nat) (xs : List Int) (w : World) (ha : Seg w a xs) (hl : xs.length ≤ maxLen) :
    Calls Try.prog 3 #[.slice a xs.length cap] w fun e w' => e = .returned (.bool true) ∧ Below w.heap.size w w' := by
  have HDr := hide' (DrawOrder_any a cap xs w ha hl)
  clear ha
  generalize hlen : xs.length = len at *
  clear hlen hl
  go_enter Try.func3, Try.ntmps3
  go_wp2_with fail
  refine HDr.out.mono ?_
  rintro e w1 ⟨n, u, E, rfl, hn0, hn1, hE15, hEo, hb1⟩
  obtain ⟨ua, uc, hu⟩ := hEo.form
  subst hu
  have hA1 := (Below.refl w1.heap.size w1).alloc (Nat.le_refl _) (.cells #[.int .i64 n, .slice ua E.length uc] 25)
  have HX1 := hide' (hEo.read.agree (agree_below hA1))
  have HOr := hide' (impl_Order_any w1.heap.size n _ E _ HX1.out (by simp))
  have HB0 := hide' (Below.on hb1 hA1)
  have hbx := (MapKept.heap_alloc w1 (.cells #[.int .i64 n, .slice ua E.length uc] 25)).1
  have Hbx := hide' hbx
  clear hEo hb1 hA1 hbx HDr
  go_wp2_with fail
  refine HOr.out.mono ?_
  rintro e w2 ⟨r, rfl, hrO, hb2⟩
  obtain ⟨ra, rc, hr⟩ := hrO.form
  subst hr
  have HX2 := hide' (HX1.out.agree (agree_below (hb2.mono (by simp))))
  have HR2 := hide' hrO.read
  have Hbx2 := hide' ((hb2.block w1.heap.size (by simp)).trans Hbx.out)
  have HB2 := hide' (Below.on HB0.out hb2)
  have hsz2 : w1.heap.size + 1 ≤ w2.heap.size := by have := hb2.size; simpa using this
  have HG := hide' (spec_GraphOk_any w1.heap.size n _ E w2 HX2.out (by omega))
  obtain ⟨b0, b1, -⟩ := row2 Hbx2.out
  clear HOr HX1 Hbx HB0 hrO hb2
  go_wp2_with fail
  refine HG.out.mono ?_
  rintro e w3 ⟨rfl, hb3⟩
  have HX3 := hide' ((HX2.out.agree (agree_below (hb3.mono (by omega)))).mono (R' := fun b => b < w3.heap.size) fun b hb => by have := hb3.size; omega)
  have HR3 := hide' ((HR2.out.agree (agree_below hb3)).mono (R' := fun b => b < w3.heap.size) fun b hb => by have := hb3.size; omega)
  have Hbx3 := hide' ((hb3.block w1.heap.size (by omega)).trans Hbx2.out)
  have HB3 := hide' (Below.on HB2.out hb3)
  have hsz3 : w1.heap.size + 1 ≤ w3.heap.size := by have := hb3.size; omega
  generalize hBx : w1.heap.size = Bx at *
  obtain ⟨c0, c1, -⟩ := row2 Hbx3.out
  clear HX2 HR2 Hbx2 HB2 HG hb3 b0 b1 hsz2 hBx
  cases hgb : gB n E with
  | false =>
    have hob : ordB n E = false := by unfold ordB; rw [hgb]; rfl
    have HI : Hid (Calls Try.prog 9 #[.agg #[.int .i64 n, .slice ua E.length uc]] w3 fun e w' => e = .returned (.bool false) ∧ Below w3.heap.size w3 w') := by
      have := impl_GraphOk_any w3.heap.size n _ E w3 HX3.out (Nat.le_refl _)
      rw [hgb] at this
      exact this
    have HJ : Hid (∀ wx : World, Calls Try.prog 9 #[.agg #[.int .i64 0, .slice none 0 0]] wx fun e w' => e = .returned (.bool true) ∧ Below wx.heap.size wx w') := fun wx => by
      have := impl_GraphOk_any 0 0 (.slice none 0 0) [] wx (eseg_none _ _) (Nat.zero_le _)
      have e1 : gB 0 [] = true := by decide
      rw [e1] at this
      exact this
    rw [hob]
    clear HX3 HR3 hgb hob
    go_wp2_with fail
    refine HI.out.mono ?_
    rintro e w4 ⟨rfl, hb4⟩
    have HB4 := hide' (Below.on HB3.out hb4)
    clear hb4 HI HB3 c0 c1
    go_wp2_with fail
    refine (HJ.out w4).mono ?_
    rintro e w5 ⟨rfl, hb5⟩
    have HB5 := hide' (Below.on HB4.out hb5)
    clear hb5 HJ HB4
    go_wp2
    go_ret
    exact ⟨rfl, HB5.out⟩
  | true =>
    obtain ⟨m, rfl, hm20, hE400, hInG⟩ := gB_nat hgb
    obtain ⟨htl, htin, htg, hto⟩ := turn_facts hgb hInG hm20 hE400
    have HT : Hid (Calls Try.prog 10 #[.agg #[.int .i64 (m : Int), .slice ua E.length uc]] w3 (GrEnd (m : Int) (turnF E m) true w3)) := by
      have := impl_Turned_any w3.heap.size (m : Int) _ E w3 HX3.out (Nat.le_refl _)
      have e1 : turnN (m : Int) E = (m : Int) := by unfold turnN; rw [if_pos hgb]
      have e2 : turnA (m : Int) E = turnF E m := by unfold turnA; rw [if_pos hgb, Int.toNat_natCast]
      rw [hgb, e1, e2] at this
      exact this
    have HOR := hide' (order_ring hgb hInG)
    have HLt := hide' (fun (hb : ordB (m : Int) E = true) (e : Edg) (he : e ∈ E) => lay_later hInG hb he)
    have HPl := hide' (fun (hb : ordB (m : Int) E = true) (e : Edg) (he : e ∈ E) => plS_edge hInG hb he)
    have HFu := hide' (ordR_full (n := m) (E := E))
    have HLn := hide' (ordB_len hgb)
    have HLe := hide' (ordR_len m E)
    have HIn := hide' hInG
    have Hto := hide' hto
    have Htl := hide' htl
    clear htin htg hgb hto htl hInG hn0 hn1
    go_wp2_with fail
    refine HT.out.mono ?_
    rintro e w4 ⟨tu, rfl, htO, hb4⟩
    obtain ⟨ta, tc, ht⟩ := htO.form
    subst ht
    have hA4 := (Below.refl w4.heap.size w4).alloc (Nat.le_refl _) (.cells #[.int .i64 (m : Int), .slice ta (turnF E m).length tc] 25)
    have HTX := hide' (htO.read.agree (agree_below hA4))
    have HO2 : Hid (Calls Try.prog 7 #[.agg #[.int .i64 (m : Int), .slice ta (turnF E m).length tc]] (w4.alloc (.cells #[.int .i64 (m : Int), .slice ta (turnF E m).length tc] 25)) fun e w' => ∃ sa sl sc, e = .returned (.tuple #[.slice sa sl sc, .bool (ordB (m : Int) E)]) ∧ Below (w4.heap.size + 1) (w4.alloc (.cells #[.int .i64 (m : Int), .slice ta (turnF E m).length tc] 25)) w') := by
      refine (impl_Order_any w4.heap.size (m : Int) _ (turnF E m) _ HTX.out (by simp)).mono ?_
      rintro e w' ⟨s, rfl, hs, hb⟩
      rw [Hto.out]
      obtain ⟨sa, sc, rfl⟩ := hs.form
      exact ⟨sa, _, sc, rfl, by simpa using hb⟩
    have hz4 := hb4.size
    have HX4 := hide' ((HX3.out.agree (agree_below hb4)).agree (agree_below (hA4.mono (by omega))))
    have HR4 := hide' ((HR3.out.agree (agree_below hb4)).agree (agree_below (hA4.mono (by omega))))
    have Hbx4 := hide' ((hA4.block Bx (by omega)).trans ((hb4.block Bx (by omega)).trans Hbx3.out))
    have Htb := hide' (MapKept.heap_alloc w4 (.cells #[.int .i64 (m : Int), .slice ta (turnF E m).length tc] 25)).1
    have HB4 := hide' (Below.on (Below.on HB3.out hb4) hA4)
    clear HT HTX htO hA4 HX3 HR3 Hbx3 HB3 hb4 c0 c1
    go_wp2_with fail
    refine HO2.out.mono ?_
    rintro e w5 ⟨sa, sl, sc, rfl, hb5⟩
    have hz5 : w4.heap.size + 1 ≤ w5.heap.size := by have := hb5.size; simpa using this
    have HX5 := hide' (HX4.out.agree (agree_below (hb5.mono (by omega))))
    have HR5 := hide' (HR4.out.agree (agree_below (hb5.mono (by omega))))
    have Hbx5 := hide' ((hb5.block Bx (by omega)).trans Hbx4.out)
    have Htb5 := hide' ((hb5.block w4.heap.size (by omega)).trans Htb.out)
    have HB5 := hide' (Below.on HB4.out (hb5.mono (by simp)))
    have HRg := hide' (impl_Ring_any w3.heap.size (m : Int) _ E w5 HX5.out (by omega))
    obtain ⟨c0, c1, -⟩ := row2 Hbx5.out
    clear HO2 HX4 HR4 Hbx4 Htb HB4 hb5
    go_wp2_with fail
    refine HRg.out.mono ?_
    rintro e w6 ⟨v, rfl, hvO, hb6⟩
    obtain ⟨va, vc, hv⟩ := hvO.form
    subst hv
    have hz6 := hb6.size
    have HX6 := hide' ((HX5.out.agree (agree_below (hb6.mono (by omega)))).mono (R' := fun b => b < w6.heap.size) fun b hb => by omega)
    have HR6 := hide' ((HR5.out.agree (agree_below (hb6.mono (by omega)))).mono (R' := fun b => b < w6.heap.size) fun b hb => by omega)
    have Hbx6 := hide' ((hb6.block Bx (by omega)).trans Hbx5.out)
    have Htb6 := hide' ((hb6.block w4.heap.size (by omega)).trans Htb5.out)
    have HB6 := hide' (Below.on HB5.out hb6)
    have hsz6 : Bx + 1 ≤ w6.heap.size := by omega
    generalize hTb : w4.heap.size = Tb at *
    clear c0 c1
    obtain ⟨c0, c1, -⟩ := row2 Hbx6.out
    obtain ⟨t0, t1, -⟩ := row2 Htb6.out
    rw [Htl.out] at t1
    clear hvO hb6 HRg HX5 HR5 Hbx5 Htb5 HB5 hz4 hz5 hz6 hTb
    cases hob : ordB (m : Int) E with
    | false =>
      have hrl : ¬ (ringA (m : Int) E).length = 0 := fun hc => by
        have := HOR.out
        rw [hob, hc] at this
        cases this
      have hoa : ordA (m : Int) E = [] := by unfold ordA; rw [if_neg (by rw [hob]; simp)]
      have HLy : Hid (Calls Try.prog 12 #[.agg #[.int .i64 (m : Int), .slice ua E.length uc], .int .i64 0] w6 fun e w' => e = .returned (.int .i64 (-1)) ∧ Below w6.heap.size w6 w') := by
        have := impl_Layer_any w6.heap.size (m : Int) _ E 0 w6 HX6.out (Nat.le_refl _)
        rw [lay_no (.inl hob)] at this
        exact this
      rw [hoa]
      generalize (ringA (m : Int) E).length = rl at *
      have hr1 : ((rl : Int) == 0) = false := by simp; omega
      have hr2 : ¬ (rl : Int) = 0 := by omega
      clear HOR HLt HPl HFu HLn HLe HIn Hto hoa
      go_wp2_with fail
      refine HLy.out.mono ?_
      rintro e w7 ⟨rfl, hb7⟩
      have HB7 := hide' (Below.on HB6.out hb7)
      clear hb7 HLy
      go_wp2
      go_ret
      exact ⟨rfl, HB7.out⟩
    | true =>
      have hrl : (ringA (m : Int) E).length = 0 := by
        have := HOR.out
        rw [hob] at this
        simpa using this.symm
      have hoa : ordA (m : Int) E = ordR m E := by unfold ordA; rw [if_pos hob, Int.toNat_natCast]
      rw [hoa] at HR6
      rw [hoa, hrl]
      have HLt := hide' (HLt.out hob)
      have HPl := hide' (HPl.out hob)
      have hLm : (ordR m E).length = m := by have h1 := HLn.out.1 hob; have h2 := HLe.out; omega
      generalize hLd : ordR m E = L at *
      have hmL : ((L.length : Int) == (m : Int)) = true := by rw [hLm]; simp
      have hL20 : L.length ≤ 20 := by omega
      obtain ⟨i0, hi, hz0, hz1, hz2⟩ := info_parts infoI
      have hnn : (0 : Int) ≤ (m : Int) := by omega
      have hn20 : (m : Int) ≤ 20 := by omega
      clear HOR HLn HLe Hto hoa hrl hLd t0 hob
      go_wp2_with (refine wpList_make_full _ rfl _ _ 27 rfl w6.heap.size 3 i0 (.int .i64 0) 1 Try.underlying27 hi hz0 hz1 .i64 .i64 _ _ m rfl rfl rfl rfl (by rw [hz2]; omega) (by unfold maxLen; omega) (by simp) ?_; intro w8 hown hgrow)
      have hS0 : Hid (PSt w6 (plS L m 0) w8) := ⟨nRow_made hown, (Below.refl _ _).grown hgrow (Nat.le_refl _) (by simp)⟩
      clear hown hgrow t1
      go_wp2_with fail
      go_loopw [11] (fun i wr => ∃ k : Nat, i = .int .i64 k ∧ k ≤ L.length ∧ Hid (PSt w6 (plS L m k) wr)) (fun i _ => L.length - (intOf i).toNat)
      case atStart => exact ⟨0, rfl, Nat.zero_le _, hS0⟩
      case round =>
        clear hS0
        obtain ⟨k, rfl, hk, hS⟩ := hrel
        have d0 : wr.cell? ⟨Bx, 0, none⟩ = some (.int .i64 (m : Int)) := (hS.out.2.cell (p := ⟨Bx, 0, none⟩) (by show Bx < w6.heap.size; omega)).trans c0
        have d1 : wr.cell? ⟨Bx, 1, none⟩ = some (.slice ua E.length uc) := (hS.out.2.cell (p := ⟨Bx, 1, none⟩) (by show Bx < w6.heap.size; omega)).trans c1
        by_cases hlt : k < L.length
        · have hlt' : (k : Int) < (L.length : Int) := by omega
          obtain ⟨b, off, rfl, _, q0⟩ := (HR6.out.agree (agree_below hS.out.2)).at hlt
          have hv := HFu.out.2.1 L[k] (List.getElem_mem hlt)
          obtain ⟨x, hx⟩ : ∃ x : Nat, L[k] = (x : Int) := ⟨L[k].toNat, by omega⟩
          obtain ⟨r0, r1⟩ := hS.out.1.at (m := x) (by rw [plS_len]; omega)
          have hno : (x : Int) ∉ L.take k := fun hc => by
            obtain ⟨j, hj, hje⟩ := List.getElem_of_mem hc
            simp only [List.length_take] at hj
            rw [List.getElem_take, ← hx] at hje
            exact List.pairwise_iff_getElem.1 HFu.out.1 j k (by omega) hlt (by omega) hje
          rw [plS_none (fun v hv => (HFu.out.2.1 v hv).1) k hk x hno] at r0
          have HN : Hid (∀ j, PSt w6 (plS L m (k + 1)) ((wr.drewN j).setCell ⟨w6.heap.size, x, none⟩ (.int .i64 ((k : Int) + 1)))) := fun j => by
            have := (hS.out.drewN j).set x ((k : Int) + 1)
            have e1 : (L.getD k 0).toNat = x := by simp [List.getD_eq_getElem?_getD, hlt, hx]
            unfold plS
            rw [e1]
            exact this
          rw [hx] at q0 hv
          have hm1 : (0 : Int) ≤ (x : Int) := by omega
          have hm2 : (x : Int) < (m : Int) := by omega
          have hm3 : ¬ (m : Int) ≤ (x : Int) := by omega
          have hx1 : x < m := by omega
          have hx2 : ¬ m ≤ x := by omega
          have hd3 : decide (m ≤ x) = false := decide_eq_false hx2
          have hd4 : decide ((m : Int) ≤ (x : Int)) = false := decide_eq_false hm3
          have hm0 : ¬ (x : Int) < 0 := by omega
          have hd0 : decide ((x : Int) < 0) = false := decide_eq_false hm0
          clear hS hx hv hno
          go_wp2_with fail
          go_big_quiet (fail)
          go_wp2
          go_roundw
          case rel => exact ⟨k + 1, by go_num, by omega, HN.out _⟩
          case measure => simp [intOf]; omega
        · have hlt' : ¬ (k : Int) < (L.length : Int) := by omega
          obtain rfl : k = L.length := by omega
          have hS1 := hS
          have HDl : Hid ((plS L m L.length).length = m) := plS_len _ _ _
          clear hS d0 d1
          generalize plS L m L.length = D at *
          go_wp2_with fail
          go_loopw [12, 13] (fun i _ wt => ∃ k : Nat, i = .int .i64 k ∧ k ≤ E.length ∧ Hid (PSt w6 D wt)) (fun i _ _ => E.length - (intOf i).toNat)
          case atStart => exact ⟨0, rfl, Nat.zero_le _, hS1⟩
          case round =>
          clear hS1
          obtain ⟨k, rfl, hk2, hS⟩ := hrel
          have d0 : wr.cell? ⟨Bx, 0, none⟩ = some (.int .i64 (m : Int)) := (hS.out.2.cell (p := ⟨Bx, 0, none⟩) (by show Bx < w6.heap.size; omega)).trans c0
          have d1 : wr.cell? ⟨Bx, 1, none⟩ = some (.slice ua E.length uc) := (hS.out.2.cell (p := ⟨Bx, 1, none⟩) (by show Bx < w6.heap.size; omega)).trans c1
          by_cases hlt2 : k < E.length
          · have hlt2' : (k : Int) < (E.length : Int) := by omega
            obtain ⟨b, off, rfl, _, q0, q1⟩ := (HX6.out.agree (agree_below hS.out.2)).at hlt2
            have hv := HIn.out E[k] (List.getElem_mem hlt2)
            have hpl := HPl.out E[k] (List.getElem_mem hlt2)
            have hly := HLt.out E[k] (List.getElem_mem hlt2)
            obtain ⟨x, hx⟩ : ∃ x : Nat, E[k].1 = (x : Int) := ⟨E[k].1.toNat, by omega⟩
            obtain ⟨y, hy⟩ : ∃ y : Nat, E[k].2 = (y : Int) := ⟨E[k].2.toNat, by omega⟩
            rw [hx] at q0 hv hly hpl
            rw [hy] at q1 hv hly hpl
            rw [Int.toNat_natCast, Int.toNat_natCast] at hpl
            have hAl := (Below.refl wr.heap.size wr).alloc (Nat.le_refl _) (.cells #[.int .i64 (x : Int), .int .i64 (y : Int)] 36)
            have HPS := hide' (hS.out.on hAl)
            obtain ⟨p0, -⟩ := HPS.out.1.at (m := x) (by rw [HDl.out]; omega)
            obtain ⟨p1, -⟩ := HPS.out.1.at (m := y) (by rw [HDl.out]; omega)
            have g0 := cell_kept hAl d0
            have g1 := cell_kept hAl d1
            obtain ⟨e0, e1, -⟩ := row2 (MapKept.heap_alloc wr (.cells #[.int .i64 (x : Int), .int .i64 (y : Int)] 36)).1
            generalize D.getD x 0 = px at *
            generalize D.getD y 0 = py at *
            have hm1 : (0 : Int) ≤ (x : Int) := by omega
            have hm2 : (x : Int) < (m : Int) := by omega
            have hm3 : (0 : Int) ≤ (y : Int) := by omega
            have hm4 : (y : Int) < (m : Int) := by omega
            have hq1 : ¬ py ≤ px := by omega
            have hq2 : decide (py ≤ px) = false := decide_eq_false hq1
            have hq3 : ¬ layA (m : Int) E (y : Int) ≤ layA (m : Int) E (x : Int) := by omega
            have hq4 : decide (layA (m : Int) E (y : Int) ≤ layA (m : Int) E (x : Int)) = false := decide_eq_false hq3
            have HC : Hid (∀ (v : Int) (wx : World), (fun wx => wx.cell? ⟨wr.heap.size, 0, none⟩ = some (.int .i64 (x : Int)) ∧ wx.cell? ⟨wr.heap.size, 1, none⟩ = some (.int .i64 (y : Int)) ∧ wx.cell? ⟨Bx, 0, none⟩ = some (.int .i64 (m : Int)) ∧ wx.cell? ⟨Bx, 1, none⟩ = some (.slice (some ⟨b, off, none⟩) E.length uc) ∧ wx.cell? ⟨w6.heap.size, x, none⟩ = some (.int .i64 px) ∧ wx.cell? ⟨w6.heap.size, y, none⟩ = some (.int .i64 py) ∧ Hid (PSt w6 D wx)) wx → Calls Try.prog 12 #[.agg #[.int .i64 (m : Int), .slice (some ⟨b, off, none⟩) E.length uc], .int .i64 v] wx fun e w' => e = .returned (.int .i64 (layA (m : Int) E v)) ∧ (fun wx => wx.cell? ⟨wr.heap.size, 0, none⟩ = some (.int .i64 (x : Int)) ∧ wx.cell? ⟨wr.heap.size, 1, none⟩ = some (.int .i64 (y : Int)) ∧ wx.cell? ⟨Bx, 0, none⟩ = some (.int .i64 (m : Int)) ∧ wx.cell? ⟨Bx, 1, none⟩ = some (.slice (some ⟨b, off, none⟩) E.length uc) ∧ wx.cell? ⟨w6.heap.size, x, none⟩ = some (.int .i64 px) ∧ wx.cell? ⟨w6.heap.size, y, none⟩ = some (.int .i64 py) ∧ Hid (PSt w6 D wx)) w') := by
              rintro v wx ⟨s0, s1, s2, s3, s4, s5, s6⟩
              refine (impl_Layer_any w6.heap.size (m : Int) _ E v wx (HX6.out.agree (agree_below s6.out.2)) s6.out.2.size).mono ?_
              rintro e w' ⟨rfl, hb⟩
              exact ⟨rfl, cell_kept hb s0, cell_kept hb s1, cell_kept hb s2, cell_kept hb s3, cell_kept hb s4, cell_kept hb s5, s6.out.on hb⟩
            clear hx hy hv hpl hly hS hAl d0
            go_wp2_with fail
            generalize wr.alloc (.cells #[.int .i64 (x : Int), .int .i64 (y : Int)] 36) = W at *
            generalize wr.heap.size = eb at *
            clear q0 q1 d1
            refine wp_region_held_drew (S := (fun wx => wx.cell? ⟨eb, 0, none⟩ = some (.int .i64 (x : Int)) ∧ wx.cell? ⟨eb, 1, none⟩ = some (.int .i64 (y : Int)) ∧ wx.cell? ⟨Bx, 0, none⟩ = some (.int .i64 (m : Int)) ∧ wx.cell? ⟨Bx, 1, none⟩ = some (.slice (some ⟨b, off, none⟩) E.length uc) ∧ wx.cell? ⟨w6.heap.size, x, none⟩ = some (.int .i64 px) ∧ wx.cell? ⟨w6.heap.size, y, none⟩ = some (.int .i64 py) ∧ Hid (PSt w6 D wx))) (by kernel_rfl) ⟨e0, e1, g0, g1, p0, p1, HPS.out.drew⟩ (fun hHeld => ?_)
            refine take_yes (i := 0) 132 (v := ?_) rfl rfl (by kernel_rfl) (by kernel_rfl) (by kernel_rfl) (fun _ _ _ h => h) (by kernel_rfl) hHeld ?_ ?_
            rotate_left
            focus (intro w hSw; (try dsimp only at hSw); go_simp; (try with_reducible rfl))
            simp only [Act.put, List.setIfInBounds_toArray, List.set_cons_zero, List.set_cons_succ]
            refine take_yes (i := 1) 133 (v := ?_) rfl rfl (by kernel_rfl) (by kernel_rfl) (by kernel_rfl) (fun _ _ _ h => h) (by kernel_rfl) hHeld ?_ ?_
            rotate_left
            focus (intro w hSw; (try dsimp only at hSw); go_simp; (try with_reducible rfl))
            simp only [Act.put, List.setIfInBounds_toArray, List.set_cons_zero, List.set_cons_succ]
            refine take_yes (i := 2) 134 (v := ?_) rfl rfl (by kernel_rfl) (by kernel_rfl) (by kernel_rfl) (fun _ _ _ h => h) (by kernel_rfl) hHeld ?_ ?_
            rotate_left
            focus (intro w hSw; (try dsimp only at hSw); go_simp; (try with_reducible rfl))
            simp only [Act.put, List.setIfInBounds_toArray, List.set_cons_zero, List.set_cons_succ]
            refine take_yes (i := 3) 135 (v := ?_) rfl rfl (by kernel_rfl) (by kernel_rfl) (by kernel_rfl) (fun _ _ _ h => h) (by kernel_rfl) hHeld ?_ ?_
            rotate_left
            focus (intro w hSw; (try dsimp only at hSw); go_simp; (try with_reducible rfl))
            simp only [Act.put, List.setIfInBounds_toArray, List.set_cons_zero, List.set_cons_succ]
            refine take_yes (i := 4) 136 (v := ?_) rfl rfl (by kernel_rfl) (by kernel_rfl) (by kernel_rfl) (fun _ _ _ h => h) (by kernel_rfl) hHeld ?_ ?_
            rotate_left
            focus (intro w hSw; (try dsimp only at hSw); go_simp; (try with_reducible rfl))
            simp only [Act.put, List.setIfInBounds_toArray, List.set_cons_zero, List.set_cons_succ]
            refine take_yes (i := 5) 137 (v := ?_) rfl rfl (by kernel_rfl) (by kernel_rfl) (by kernel_rfl) (fun _ _ _ h => h) (by kernel_rfl) hHeld ?_ ?_
            rotate_left
            focus (intro w hSw; (try dsimp only at hSw); go_simp; (try with_reducible rfl))
            simp only [Act.put, List.setIfInBounds_toArray, List.set_cons_zero, List.set_cons_succ]
            refine take_yes (i := 6) 138 (v := ?_) rfl rfl (by kernel_rfl) (by kernel_rfl) (by kernel_rfl) (fun _ _ _ h => h) (by kernel_rfl) hHeld ?_ ?_
            rotate_left
            focus (intro w hSw; (try dsimp only at hSw); go_simp; (try with_reducible rfl))
            simp only [Act.put, List.setIfInBounds_toArray, List.set_cons_zero, List.set_cons_succ]
            refine take_yes (i := 7) 139 (v := ?_) rfl rfl (by kernel_rfl) (by kernel_rfl) (by kernel_rfl) (fun _ _ _ h => h) (by kernel_rfl) hHeld ?_ ?_
            rotate_left
            focus (intro w hSw; (try dsimp only at hSw); go_simp; (try with_reducible rfl))
            simp only [Act.put, List.setIfInBounds_toArray, List.set_cons_zero, List.set_cons_succ]
            refine take_yes (i := 8) 140 (v := ?_) rfl rfl (by kernel_rfl) (by kernel_rfl) (by kernel_rfl) (fun _ _ _ h => h) (by kernel_rfl) hHeld ?_ ?_
            rotate_left
            focus (intro w hSw; (try dsimp only at hSw); go_simp; (try with_reducible rfl))
            simp only [Act.put, List.setIfInBounds_toArray, List.set_cons_zero, List.set_cons_succ]
            refine take_yes (i := 9) 141 (v := ?_) rfl rfl (by kernel_rfl) (by kernel_rfl) (by kernel_rfl) (fun _ _ _ h => h) (by kernel_rfl) hHeld ?_ ?_
            rotate_left
            focus (intro w hSw; (try dsimp only at hSw); go_simp; (try with_reducible rfl))
            simp only [Act.put, List.setIfInBounds_toArray, List.set_cons_zero, List.set_cons_succ]
            refine take_yes (i := 10) 142 (v := ?_) rfl rfl (by kernel_rfl) (by kernel_rfl) (by kernel_rfl) (fun _ _ _ h => h) (by kernel_rfl) hHeld ?_ ?_
            rotate_left
            focus (intro w hSw; (try dsimp only at hSw); go_simp; (try with_reducible rfl))
            simp only [Act.put, List.setIfInBounds_toArray, List.set_cons_zero, List.set_cons_succ]
            refine take_yes (i := 11) 143 (v := ?_) rfl rfl (by kernel_rfl) (by kernel_rfl) (by kernel_rfl) (fun _ _ _ h => h) (by kernel_rfl) hHeld ?_ ?_
            rotate_left
            focus (intro w hSw; (try dsimp only at hSw); go_simp; (try with_reducible rfl))
            simp only [Act.put, List.setIfInBounds_toArray, List.set_cons_zero, List.set_cons_succ]
            refine take_yes (i := 12) 144 (v := ?_) rfl rfl (by kernel_rfl) (by kernel_rfl) (by kernel_rfl) (fun _ _ _ h => h) (by kernel_rfl) hHeld ?_ ?_
            rotate_left
            focus (intro w hSw; (try dsimp only at hSw); go_simp; (try with_reducible rfl))
            simp only [Act.put, List.setIfInBounds_toArray, List.set_cons_zero, List.set_cons_succ]
            refine take_yes (i := 13) 145 (v := ?_) rfl rfl (by kernel_rfl) (by kernel_rfl) (by kernel_rfl) (fun _ _ _ h => h) (by kernel_rfl) hHeld ?_ ?_
            rotate_left
            focus (intro w hSw; (try dsimp only at hSw); go_simp; (try with_reducible rfl))
            simp only [Act.put, List.setIfInBounds_toArray, List.set_cons_zero, List.set_cons_succ]
            refine take_yes (i := 14) 146 (v := ?_) rfl rfl (by kernel_rfl) (by kernel_rfl) (by kernel_rfl) (fun _ _ _ h => h) (by kernel_rfl) hHeld ?_ ?_
            rotate_left
            focus (intro w hSw; (try dsimp only at hSw); go_simp; (try with_reducible rfl))
            simp only [Act.put, List.setIfInBounds_toArray, List.set_cons_zero, List.set_cons_succ]
            refine take_yes (i := 16) 148 (v := ?_) rfl rfl (by kernel_rfl) (by kernel_rfl) (by kernel_rfl) (fun _ _ _ h => h) (by kernel_rfl) hHeld ?_ ?_
            rotate_left
            focus (intro w hSw; (try dsimp only at hSw); go_simp; (try with_reducible rfl))
            simp only [Act.put, List.setIfInBounds_toArray, List.set_cons_zero, List.set_cons_succ]
            refine take_yes (i := 17) 149 (v := ?_) rfl rfl (by kernel_rfl) (by kernel_rfl) (by kernel_rfl) (fun _ _ _ h => h) (by kernel_rfl) hHeld ?_ ?_
            rotate_left
            focus (intro w hSw; (try dsimp only at hSw); go_simp; (try with_reducible rfl))
            simp only [Act.put, List.setIfInBounds_toArray, List.set_cons_zero, List.set_cons_succ]
            refine take_yes (i := 18) 150 (v := ?_) rfl rfl (by kernel_rfl) (by kernel_rfl) (by kernel_rfl) (fun _ _ _ h => h) (by kernel_rfl) hHeld ?_ ?_
            rotate_left
            focus (intro w hSw; (try dsimp only at hSw); go_simp; (try with_reducible rfl))
            simp only [Act.put, List.setIfInBounds_toArray, List.set_cons_zero, List.set_cons_succ]
            refine wpAnyH_ready (rs := [15]) (by kernel_rfl) (by simp) ?_
            refine AllReadyH.cons rfl (fun K hK => ?_) AllReadyH.nil
            go_simp
            go_at_call 12
            refine (HC.out _ _ hHeld).mono ?_
            rintro e w7 ⟨rfl, hS⟩
            go_wp2_with fail
            refine hK.out _ _ hS (fun hHeld => ?_)
            clear hK
            (try simp only [Act.put, List.setIfInBounds_toArray, List.set_cons_zero, List.set_cons_succ])
            refine wpAnyH_ready (rs := [19]) (by kernel_rfl) (by simp) ?_
            refine AllReadyH.cons rfl (fun K hK => ?_) AllReadyH.nil
            go_simp
            go_at_call 12
            refine (HC.out _ _ hHeld).mono ?_
            rintro e w7 ⟨rfl, hS⟩
            go_wp2_with fail
            refine hK.out _ _ hS (fun hHeld => ?_)
            clear hK
            (try simp only [Act.put, List.setIfInBounds_toArray, List.set_cons_zero, List.set_cons_succ])
            refine take_yes (i := 20) 152 (v := ?_) rfl rfl (by kernel_rfl) (by kernel_rfl) (by kernel_rfl) (fun _ _ _ h => h) (by kernel_rfl) hHeld ?_ ?_
            rotate_left
            focus (intro w hSw; (try dsimp only at hSw); go_simp; (try with_reducible rfl))
            simp only [Act.put, List.setIfInBounds_toArray, List.set_cons_zero, List.set_cons_succ]
            refine take_yes (i := 21) 153 (v := ?_) rfl rfl (by kernel_rfl) (by kernel_rfl) (by kernel_rfl) (fun _ _ _ h => h) (by kernel_rfl) hHeld ?_ ?_
            rotate_left
            focus (intro w hSw; (try dsimp only at hSw); go_simp; (try with_reducible rfl))
            simp only [Act.put, List.setIfInBounds_toArray, List.set_cons_zero, List.set_cons_succ]
            refine wpAnyH_done (by kernel_rfl) ?_ _
            go_wp2
            go_roundw
            case rel => exact ⟨k + 1, by go_num, by omega, hHeld.2.2.2.2.2.2⟩
            case measure => simp [intOf]; omega
          · have hlt2' : ¬ (k : Int) < (E.length : Int) := by omega
            have HBe := hide' (HB6.out.trans (hS.out.2.mono HB6.out.size))
            clear hS
            go_wp2
            go_ret
            exact ⟨rfl, HBe.out⟩
end Go.Proofs.Ytcdonbepfmhdpaa
