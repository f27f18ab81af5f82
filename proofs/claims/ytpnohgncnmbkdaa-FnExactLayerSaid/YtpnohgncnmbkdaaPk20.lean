/-
  Texts that a law leans on, one behind the other; no statement is proved here.
-/
import Derived.Test.YtpnohgncnmbkdaaPk18
import Derived.Test.YtpnohgncnmbkdaaPk19
import Derived.Test.YtpnohgncnmbkdaaPk12
/-
  Layer of the program.
-/
namespace Go.Proofs.Ytpnohgncnmbkdaa
open Go.RowKit
set_option linter.unusedVariables false
set_option linter.unusedSimpArgs false

set_option maxHeartbeats 800000 in
theorem layerMeet_any (x y : Int) (hy0 : 0 ≤ y) (hy1 : y ≤ 1000000) (w : World) : Calls Try.prog 55 #[.int .i64 x, .int .i64 y] w fun e w' => e = .returned (.int .i64 (max1 x y)) ∧ w = w' := by
  have hw : IntKind.i64.wrap (y + 1) = y + 1 := by rw [IntKind.wrap_i64]; omega
  unfold max1
  by_cases h : x < y + 1
  · rw [if_pos h]
    go_enter Try.func55, Try.ntmps55
    go_wp2
    go_ret
    exact ⟨rfl, rfl⟩
  · rw [if_neg h]
    go_enter Try.func55, Try.ntmps55
    go_wp2
    go_ret
    exact ⟨rfl, rfl⟩

theorem max_small {n : Nat} {E : List Edg} (hn : n ≤ 20) (hel : E.length ≤ 400) (k j t : Nat) (hk : k < n) : 0 ≤ ((E.take j).foldl (setE max1 0) (itE (setE max1 0) E k (List.replicate n 0))).getD t 0 ∧ ((E.take j).foldl (setE max1 0) (itE (setE max1 0) E k (List.replicate n 0))).getD t 0 ≤ 1000000 := by
  have h1 : UpTo (0 + k * E.length) (maxS E k (List.replicate n 0)) := upTo_maxS E k (upTo_repl n)
  have h2 := upTo_maxR (E.take j) h1 t
  rw [itE_max]
  have h3 : (E.take j).length ≤ 400 := by simp; omega
  have h4 : (k : Int) * (E.length : Int) ≤ 8000 := by
    have h5 : k * E.length ≤ 8000 := Nat.le_trans (Nat.mul_le_mul (show k ≤ 20 by omega) hel) (by decide)
    have h6 := Int.ofNat_le.2 h5
    rw [Int.natCast_mul] at h6
    exact h6
  exact ⟨h2.1, Int.le_trans h2.2 (by omega)⟩

theorem lay_no {n : Int} {E : List Edg} {v : Int} (h : ordB n E = false ∨ hvB n v = false) : layA n E v = -1 := by
  unfold layA
  rw [if_neg]
  rintro ⟨h1, h2, h3⟩
  rcases h with h | h
  · rw [h1] at h
    cases h
  · unfold hvB at h
    simp [h2, h3] at h

set_option maxHeartbeats 3200000 in
set_option maxRecDepth 100000 in
theorem impl_Layer_any (N : Nat) (n : Int) (x : Value) (E : List Edg) (v : Int) (w : World) (hx : ESeg (fun b => b < N) w x E) (hN : N ≤ w.heap.size) :
    Calls Try.prog 21 #[.agg #[.int .i64 n, x], .int .i64 v] w fun e w' => e = .returned (.int .i64 (layA n E v)) ∧ Below w.heap.size w w' := by
  have HX : Hid (∀ wx, Below w.heap.size w wx → ESeg (fun b => b < N) wx x E) := fun wx hb => hx.agree (agree_below (hb.mono hN))
  have Hb : Hid (∀ o : Obj, Below w.heap.size w (w.alloc o)) := fun o => (Below.refl _ _).alloc (Nat.le_refl _) o
  have Hbox : Hid (∀ o wx, Below (w.alloc o).heap.size (w.alloc o) wx → wx.heap[w.heap.size]? = some o) := fun o wx h => box_row h
  have HO : Hid (∀ wx, Below w.heap.size w wx → Calls Try.prog 16 #[.agg #[.int .i64 n, x]] wx fun e w' => ∃ u, e = .returned (.tuple #[u, .bool (ordB n E)]) ∧ NOwn w' wx.heap.size u (ordA n E) ∧ Below wx.heap.size wx w') := fun wx hb => impl_Order_any N n x E wx (HX.out wx hb) (by have := hb.size; omega)
  have HV : Hid (∀ wx, Calls Try.prog 49 #[.agg #[.int .i64 n, x], .int .i64 v] wx fun e w' => e = .returned (.bool (hvB n v)) ∧ Below wx.heap.size wx w') := fun wx => hasVert_any n v x wx
  obtain ⟨i3, hi3, hy0, hy1, hy2⟩ := info_parts infoI
  cases hb : ordB n E with
  | false =>
    have HF := hide' (lay_no (v := v) (.inl hb))
    rw [hb] at HO
    obtain ⟨a, cap, rfl, -⟩ := hx
    clear HX HV hb
    generalize E.length = ll at *
    go_enter Try.func21, Try.ntmps21
    go_wp2_with fail
    refine (HO.out _ (Hb.out _)).mono ?_
    rintro e w1 ⟨u, rfl, -, b1⟩
    have B1 := hide' (Below.on (Hb.out _) b1)
    clear b1
    go_wp2
    go_ret
    exact ⟨ret_i64 HF.out.symm, B1.out⟩
  | true =>
    have hb0 := hb
    rw [hb] at HO
    cases hv : hvB n v with
    | false =>
      have HF := hide' (lay_no (E := E) (.inr hv))
      rw [hv] at HV
      obtain ⟨a, cap, rfl, -⟩ := hx
      clear HX hb hb0 hv
      generalize E.length = ll at *
      go_enter Try.func21, Try.ntmps21
      go_wp2_with fail
      refine (HO.out _ (Hb.out _)).mono ?_
      rintro e w1 ⟨u, rfl, -, b1⟩
      obtain ⟨g0, g1, -⟩ := row2 (Hbox.out _ _ b1)
      have B1 := hide' (Below.on (Hb.out _) b1)
      clear b1
      go_wp2_with fail
      refine (HV.out _).mono ?_
      rintro e w2 ⟨rfl, b2⟩
      have B2 := hide' (Below.on B1.out b2)
      clear b2
      go_wp2
      go_ret
      exact ⟨ret_i64 HF.out.symm, B2.out⟩
    | true =>
      rw [hv] at HV
      have hg : gB n E = true := by
        unfold ordB at hb
        rw [Bool.and_eq_true] at hb
        exact hb.1
      obtain ⟨c0, c1, c2, _⟩ := gB_iff.1 hg
      simp only [hvB, Bool.and_eq_true, decide_eq_true_eq] at hv
      obtain ⟨m, rfl⟩ : ∃ m : Nat, n = (m : Int) := ⟨n.toNat, by omega⟩
      obtain ⟨v', rfl⟩ : ∃ m : Nat, v = (m : Int) := ⟨v.toNat, by omega⟩
      have hm20 : m ≤ 20 := by omega
      have HF : Hid (layA (m : Int) E (v' : Int) = (maxS E m (List.replicate m 0)).getD v' 0) := by
        show _ = _
        rw [← maxS_lay (g_in hg) hb hv.1 hv.2]
        simp [fV]
      have HCy : Hid (∀ D wr o, VSd (Value.int .i64) 3 D w o (List.replicate m (0 : Int)) wr → Calls Try.prog 54 #[.agg #[.int .i64 (m : Int), x], .slice (some ⟨D, 0, none⟩) m m, .func (.func 55) #[] #[]] wr fun e w' => e = .returned (.tuple #[]) ∧ Hid (VRow (Value.int .i64) 3 D (maxS E m (List.replicate m 0)) w' ∧ Below w.heap.size w w')) := fun D wr o h => by
        refine (carryI_any N m D x E max1 (List.replicate m 0) wr (HX.out wr h.2.2.1) (by have := h.2.2.2.1; omega) hm20 (g_in hg) (by simp) h.1 (fun k j hk hj wx => layerMeet_any _ _ (max_small hm20 c2 k j _ hk).1 (max_small hm20 c2 k j _ hk).2 wx)).mono ?_
        rintro e w' ⟨rfl, h1, h2⟩
        rw [itE_max] at h1
        exact ⟨rfl, h1, h.2.2.1.grown h2 h.2.2.1.size (fun k hk => by simp at hk; have := h.2.2.2.1; omega)⟩
      have hml : (maxS E m (List.replicate m 0)).length = m := by rw [maxS_len]; simp
      have k1 : (0 : Int) ≤ (v' : Int) := hv.1
      have k2 : (v' : Int) < (m : Int) := hv.2
      have k3 : v' < m := by omega
      have hmm : (0 : Int) ≤ (m : Int) := by omega
      have hm20' : (m : Int) ≤ 20 := by omega
      obtain ⟨a, cap, rfl, -⟩ := hx
      clear HX hb hb0 hv hg c0 c1 c2
      generalize maxS E m (List.replicate m 0) = mz at *
      generalize E.length = ll at *
      go_enter Try.func21, Try.ntmps21
      go_wp2_with fail
      refine (HO.out _ (Hb.out _)).mono ?_
      rintro e w1 ⟨u, rfl, -, b1⟩
      obtain ⟨g0, g1, -⟩ := row2 (Hbox.out _ _ b1)
      have B1 := hide' b1
      clear b1
      go_wp2_with fail
      refine (HV.out _).mono ?_
      rintro e w2 ⟨rfl, b2⟩
      have B2 := hide' (Below.on B1.out b2)
      clear b2 g0 g1 B1
      have Hbx := hide' (Hbox.out _ _ B2.out)
      obtain ⟨g0, g1, -⟩ := row2 Hbx.out
      have B3 := hide' (Below.on (Hb.out _) B2.out)
      clear B2
      go_wp2_with (refine wpList_make_full _ rfl _ _ 27 rfl w2.heap.size 3 i3 (.int .i64 0) 1 Try.underlying27 hi3 hy0 hy1 .i64 .i64 _ _ m rfl rfl rfl rfl (by rw [hy2]; omega) (by unfold maxLen; omega) (Nat.le_refl _) ?_; intro w3 hown hgrow; have hS0 := vSd_made (V := Value.int .i64) (z := (0 : Int)) rfl Hbx.out B3.out hown hgrow; have HC := hide' (HCy.out _ _ _ hS0); obtain ⟨y0, y1, -⟩ := row2 hS0.2.1; clear hown hgrow hS0)
      clear HCy
      go_wp2_with fail
      refine HC.out.mono ?_
      rintro e w4 ⟨rfl, hF⟩
      obtain ⟨r0, -⟩ := hF.out.1.at (m := v') (by omega) 0
      have B4 := hide' hF.out.2
      clear hF
      generalize mz.getD v' 0 = z at *
      go_wp2
      go_ret
      exact ⟨ret_i64 HF.out.symm, B4.out⟩
end Go.Proofs.Ytpnohgncnmbkdaa
