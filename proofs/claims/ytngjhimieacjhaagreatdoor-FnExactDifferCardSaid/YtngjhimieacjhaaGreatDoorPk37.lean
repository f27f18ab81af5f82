/-
  Texts that a law leans on, one behind the other; no statement is proved here.
-/
import Derived.Test.YtngjhimieacjhaaGreatDoorPk26
/-
  The size of a state of what is left, the marks from whatever number on.
-/
namespace Go.Proofs.YtngjhimieacjhaaGreatDoor
open Go.RowKit
set_option linter.unusedVariables false
set_option linter.unusedSimpArgs false

set_option maxHeartbeats 1600000 in
theorem szStateL_any (d N : Nat) (cs : List Value) (s : Stt d) (lf : Int) (l0 : 0 ≤ lf) (l1 : lf ≤ 1048576) (w : World) (hx : SaSg (fun b => b < N) w d cs s) (hN : N ≤ w.heap.size) :
    Calls Tryz.prog 6 #[.agg cs.toArray, .int .i64 lf] w (SzSaE d s w) := by
  obtain ⟨pa, pc, ea, ec, rfl, ht, he⟩ := hx.form
  obtain ⟨s0, s1, nm, s3, l⟩ := s
  simp only at ht he ⊢
  have HA : Hid (∀ o : Obj, Below w.heap.size w (w.alloc o)) := fun o => (Below.refl _ _).alloc (Nat.le_refl _) o
  have hnm : nm.length ≤ maxLen := by obtain ⟨a, c, e, _, h2, h3, _⟩ := ht; omega
  have HT : Hid (∀ wx, Calls Tryz.prog 22 #[.slice pa nm.length pc, .int .i64 lf] wx fun e w' => e = .returned (.int .i64 (less lf nm.length)) ∧ wx = w') := fun wx => szByteS_any pa nm.length pc lf wx (by omega) (by omega) hnm
  have HS : Hid (∀ (o : Obj) (m : Int), 0 ≤ m → m ≤ 1048576 → Calls Tryz.prog 23 #[.slice ea l.length ec, .int .i64 m] (w.alloc o) (SzNtE d l (w.alloc o))) := fun o m h0 h1 => szEntryS_any d N _ l m h0 h1 (w.alloc o) (he.agree (agree_below ((HA.out o).mono hN))) (by have := (HA.out o).size; omega)
  have HEnd : Hid (∀ e w', SzSaE d (s0, s1, nm, s3, l) w e w' ↔ ((e = .returned (.int .i64 (-1)) ∨ ∃ n : Int, 0 ≤ n ∧ n ≤ 1048576 ∧ e = .returned (.int .i64 n) ∧ nm.length ≤ 1048576 ∧ l.length ≤ 1048576 ∧ ∀ i (h : i < l.length), NtSz d l[i]) ∧ Below w.heap.size w w')) := fun e w' => Iff.rfl
  clear ht he hx
  obtain ⟨sn, hsn⟩ : ∃ sn, sn = nm.length := ⟨_, rfl⟩
  rw [← hsn] at HT HEnd
  rw [← hsn]
  clear hsn hnm
  have HL : Hid (∀ o e w', SzNtE d l (w.alloc o) e w' → (e = .returned (.int .i64 (-1)) ∨ ∃ n : Int, 0 ≤ n ∧ n ≤ 1048576 ∧ e = .returned (.int .i64 n) ∧ l.length ≤ 1048576 ∧ ∀ i (h : i < l.length), NtSz d l[i]) ∧ Below (w.alloc o).heap.size (w.alloc o) w') := fun o e w' h => h
  obtain ⟨ln, hln⟩ : ∃ ln, ln = l.length := ⟨_, rfl⟩
  rw [← hln] at HS
  rw [← hln]
  clear hln
  show Calls _ _ _ _ fun e w' => SzSaE d (s0, s1, nm, s3, l) w e w'
  go_enter Tryz.func6, Tryz.ntmps6
  go_wp2_with fail
  refine (HT.out _).mono ?_
  rintro e w1 ⟨rfl, rfl⟩
  by_cases q0 : lf < (sn : Int)
  · rw [less_no _ _ q0]
    go_wp2
    go_ret
    exact (HEnd.out _ _).2 ⟨.inl rfl, HA.out _⟩
  rw [less_yes _ _ q0]
  obtain ⟨n1, e1⟩ : ∃ m : Int, m = lf - sn := ⟨_, rfl⟩
  rw [← e1]
  have g10 : 0 ≤ n1 := by omega
  have g11 : n1 ≤ 1048576 := by omega
  have z0 : sn ≤ 1048576 := by omega
  clear e1 q0
  go_wp2_with fail
  refine (HS.out _ n1 g10 g11).mono ?_
  intro e w2 hE
  obtain ⟨hcase, b1⟩ := HL.out _ _ _ hE
  have B1 := hide' (Below.on (HA.out _) b1)
  clear b1 HS hE HL
  rcases hcase with rfl | ⟨m, hm0, hm1, rfl, hlen, hall⟩
  · go_wp2
    go_ret
    exact (HEnd.out _ _).2 ⟨.inl rfl, B1.out⟩
  · have HAll := hide' hall
    have HLn := hide' hlen
    have hm' : ¬ m < 0 := by omega
    clear hall hlen
    go_wp2
    go_ret
    exact (HEnd.out _ _).2 ⟨.inr ⟨m, hm0, hm1, rfl, z0, HLn.out, HAll.out⟩, B1.out⟩


section
set_option maxHeartbeats 6400000 in
set_option maxRecDepth 100000 in
theorem markEntrySG_any (d g c : Nat) (l : List (Ntr (d + 1))) (s : Nat → Nat) (w : World) (h : NtLO w (d + 1) g l s l.length) (hn : l.length ≤ 1048576) (q0 : Nat) (hq0 : q0 ≤ 70368744177664) (hz : ∀ i (h : i < l.length), NtSz (d + 1) l[i]) :
    Calls Tryz.prog 31 #[.slice (some ⟨g, 0, none⟩) l.length c, .int .i64 (q0 : Int)] w fun e w' => (∃ n : Nat, e = .returned (.int .i64 (n : Int)) ∧ n ≤ q0 + 17592186044416) ∧ Turned (List.range' g (s l.length - g)) w w' := by
  have HZ := hide' hz
  have hw : ∀ i, i < l.length → s i ≤ s (i + 1) := h.2.2.1
  have hg0 : g < s 0 := h.2.1
  have H0 : Hid (MkNs w (d + 1) g l s 0 w) := ⟨h.1, fun i hi _ => h.2.2.2.2 i hi hi, Turned.refl _ _⟩
  have HW := hide' hw
  have HG := hide' hg0
  clear h hz hw hg0
  go_enter Tryz.func31, Tryz.ntmps31
  go_wp2
  go_loopw [1, 5] (fun m i wr => ∃ (k q : Nat), k ≤ l.length ∧ i = .int .i64 k ∧ m = .int .i64 (q : Int) ∧ q ≤ q0 + k * 16777216 ∧ Hid (MkNs w (d + 1) g l s k wr)) (fun _ i _ => l.length - (intOf i).toNat)
  case atStart => exact ⟨0, q0, Nat.zero_le _, rfl, rfl, by omega, H0⟩
  case round =>
    clear H0
    obtain ⟨k, q, hk, rfl, rfl, hq, hS⟩ := hrel
    by_cases hlt : k < l.length
    rotate_left
    · have hlt' : ¬ (k : Int) < (l.length : Int) := by omega
      have HF := hide' hS.out.2.2
      clear hS
      go_wp2
      go_ret
      exact ⟨⟨q, rfl, by omega⟩, HF.out⟩
    have hlt' : (k : Int) < (l.length : Int) := by omega
    obtain ⟨cs, B, hr, ho, hB⟩ := hS.out.2.1 k hlt (Nat.le_refl _)
    obtain ⟨c1, c3, c4, c5, c6, c7, c8, B1, B2, B3, rfl, h1, h2, h3, rfl, s1, s2, d1, d2, d3, s12⟩ := ho
    have hm9 := mkn9_start hS.out hr
    obtain ⟨z0, z1, z2⟩ := HZ.out k hlt
    have hl1 := h1.lt
    have hl3 := h3.lt
    obtain ⟨-, -, Bs, Bk, Bl, t5, t6, t7, hB2, hnd⟩ := (VOwn_succ _ _ _ _ _).1 h2
    have hl5 := t5.lt
    have hl6 := t6.lt
    have hl7 := t7.lt
    rw [hB2, List.nodup_append, List.nodup_append] at hnd
    obtain ⟨-, ⟨-, -, n2⟩, n1⟩ := hnd
    subst hB2
    have dsk : ∀ b ∈ Bk, b ∉ Bs := fun b hb hs => n1 b hs b (List.mem_append_left _ hb) rfl
    have dsl : ∀ b ∈ Bl, b ∉ Bs := fun b hb hs => n1 b hs b (List.mem_append_right _ hb) rfl
    have dkl : ∀ b ∈ Bl, b ∉ Bk := fun b hb hs => n2 b hs b hb rfl
    have w1 : ∀ b ∈ B1, s k ≤ b ∧ b < s (k + 1) := fun b hb => hB b (by simp [hb])
    have w5 : ∀ b ∈ Bs, s k ≤ b ∧ b < s (k + 1) := fun b hb => hB b (by simp [hb])
    have w6 : ∀ b ∈ Bk, s k ≤ b ∧ b < s (k + 1) := fun b hb => hB b (by simp [hb])
    have w7 : ∀ b ∈ Bl, s k ≤ b ∧ b < s (k + 1) := fun b hb => hB b (by simp [hb])
    have w8 : ∀ b ∈ B3, s k ≤ b ∧ b < s (k + 1) := fun b hb => hB b (by simp [hb])
    have e5 : ∀ b ∈ Bs, s1 ≤ b ∧ b < s2 := fun b hb => d2 b (by simp [hb])
    have e6 : ∀ b ∈ Bk, s1 ≤ b ∧ b < s2 := fun b hb => d2 b (by simp [hb])
    have e7 : ∀ b ∈ Bl, s1 ≤ b ∧ b < s2 := fun b hb => d2 b (by simp [hb])
    have hgw : ∀ b, s k ≤ b → g ≠ b := fun b hb e => by have h1 := win_mono HW.out k 0 (by omega) (by omega); have h2 := HG.out; omega
    clear h2 hr hS hB d2 n1 n2
    generalize hit : l[k] = it at *
    obtain ⟨ad, vv, ds, tn, tu⟩ := it
    obtain ⟨vk, vn, vS, vK, vL⟩ := vv
    simp only at h1 h3 t5 t6 t7 z0 z1 z2
    have hz' : szV (d + 1) (vk, vn, vS, vK, vL) = vS.length + szK vK + szL d vL := rfl
    have hkz : szK vK = vK.length + (vK.map List.length).sum := rfl
    have hkz3 : szK ds = ds.length + (ds.map List.length).sum := rfl
    have hsl : (vL.map (cE d)).sum ≤ 2097152 := by
      have h5 := sum_cE (cE_sz d) vL
      have h6 : szL d vL = vL.length + (vL.map (szV d)).sum := rfl
      omega
    obtain ⟨a1, p1, rfl, -⟩ := h1.seg
    obtain ⟨a5, p5, rfl, -⟩ := t5.seg
    obtain ⟨a6, p6, rfl, -⟩ := t6.seg
    have hlf : ∃ la lc, c7 = .slice la vL.length lc := by
      rcases t7 with ⟨e, e', _⟩ | ⟨_, _, _, _, e, _⟩
      · exact ⟨none, 0, by rw [e, e']; rfl⟩
      · exact ⟨_, _, e⟩
    obtain ⟨a7, p7, rfl⟩ := hlf
    obtain ⟨a8, p8, rfl, -⟩ := h3.seg
    obtain ⟨q2, hq2⟩ : ∃ q2 : Nat, q2 = q + ad.length := ⟨_, rfl⟩
    obtain ⟨q3, hq3⟩ : ∃ q3 : Nat, q3 = q2 + 1 + 1 + vS.length := ⟨_, rfl⟩
    obtain ⟨q4, hq4⟩ : ∃ q4 : Nat, q4 = q3 + (vK.map List.length).sum := ⟨_, rfl⟩
    obtain ⟨q5, hq5⟩ : ∃ q5 : Nat, q5 = q4 + (vL.map (cE d)).sum := ⟨_, rfl⟩
    obtain ⟨q6, hq6⟩ : ∃ q6 : Nat, q6 = q5 + (ds.map List.length).sum := ⟨_, rfl⟩
    have T0 : ∀ (wx : World) (o : Nat) (v : Value), Turned [g] wx (wx.setCell ⟨g, o, none⟩ v) := fun wx o v => Turned.of_grown (grown1 wx g o v) fun k e => by simp at e; simp [e]
    -- the five calls
    have HM1 : Hid (Calls Tryz.prog 15 #[.slice a1 ad.length p1, .int .i64 (q : Int)] wr fun e w' => e = .returned (.int .i64 (q2 : Int)) ∧ MkN9 w (d + 1) g l s k (.slice a1 ad.length p1) (.slice a5 vS.length p5) (.slice a6 vK.length p6) (.slice a7 vL.length p7) (.slice a8 ds.length p8) w' ∧ Turned (g :: B1) wr w') := by
      refine (markByteS_F a1 p1 ad q _ h1.1 (by omega) (by omega)).mono ?_
      rintro e w' ⟨rfl, hb, hg⟩
      exact ⟨ret_i64 (by rw [hq2]), mkn9_mark hm9 HW.out HG.out hlt (h1.turned hg) w1, (h1.turned hg).mono fun b hb => by simp [hb]⟩
    have HM2 : Hid (∀ wx, MkN9 w (d + 1) g l s k (.slice a1 ad.length p1) (.slice a5 vS.length p5) (.slice a6 vK.length p6) (.slice a7 vL.length p7) (.slice a8 ds.length p8) wx → Turned (g :: B1) wr wx → Calls Tryz.prog 15 #[.slice a5 vS.length p5, .int .i64 ((q2 : Int) + 1 + 1)] ((wx.setCell ⟨g, k * 9 + 1, none⟩ (.int .i64 (q2 : Int))).setCell ⟨g, k * 9 + 1 + 1, none⟩ (.int .i64 ((q2 : Int) + 1))) fun e w' => e = .returned (.int .i64 (q3 : Int)) ∧ MkN9 w (d + 1) g l s k (.slice a1 ad.length p1) (.slice a5 vS.length p5) (.slice a6 vK.length p6) (.slice a7 vL.length p7) (.slice a8 ds.length p8) w' ∧ Turned (g :: (B1 ++ Bs)) wr w') := fun wx hm hT => by
      have hst := mkn9_store (mkn9_store hm HW.out HG.out hlt 1 (by omega) (.int .i64 (q2 : Int))) HW.out HG.out hlt 2 (by omega) (.int .i64 ((q2 : Int) + 1))
      have hTT : Turned (g :: B1) wr ((wx.setCell ⟨g, k * 9 + 1, none⟩ (.int .i64 (q2 : Int))).setCell ⟨g, k * 9 + 2, none⟩ (.int .i64 ((q2 : Int) + 1))) := (hT.trans ((T0 _ _ _).mono (by simp))).trans ((T0 _ _ _).mono (by simp))
      have ho := t5.agree (agree_turned hTT hl5 fun b hb hm => by
        rcases List.mem_cons.1 hm with e | hm
        · exact hgw b (w5 b hb).1 e.symm
        · have f1 := e5 b hb; have f2 := d1 b hm; omega)
      refine arg_eq (x := ((q2 + 1 + 1 : Nat) : Int)) (by push_cast; rfl) ((markByteS_F a5 p5 vS (q2 + 1 + 1) _ ho.1 (by omega) (by omega)).mono ?_)
      rintro e w' ⟨rfl, hb, hg⟩
      exact ⟨ret_i64 (by rw [hq3]), mkn9_mark hst HW.out HG.out hlt (ho.turned hg) w5, (hTT.mono fun b hb => by simp at hb ⊢; rcases hb with hb | hb <;> simp [hb]).trans ((ho.turned hg).mono fun b hb => by simp [hb])⟩
    have HM3 : Hid (∀ wx, MkN9 w (d + 1) g l s k (.slice a1 ad.length p1) (.slice a5 vS.length p5) (.slice a6 vK.length p6) (.slice a7 vL.length p7) (.slice a8 ds.length p8) wx → Turned (g :: (B1 ++ Bs)) wr wx → Calls Tryz.prog 16 #[.slice a6 vK.length p6, .int .i64 (q3 : Int)] wx fun e w' => e = .returned (.int .i64 (q4 : Int)) ∧ MkN9 w (d + 1) g l s k (.slice a1 ad.length p1) (.slice a5 vS.length p5) (.slice a6 vK.length p6) (.slice a7 vL.length p7) (.slice a8 ds.length p8) w' ∧ Turned (g :: (B1 ++ (Bs ++ Bk))) wr w') := fun wx hm hT => by
      have ho := t6.agree (agree_turned hT hl6 fun b hb hm => by
        simp only [List.mem_cons, List.mem_append] at hm
        rcases hm with e | hm | hm
        · exact hgw b (w6 b hb).1 e.symm
        · have f1 := e6 b hb; have f2 := d1 b hm; omega
        · exact dsk b hb hm)
      refine (markByteSS_any _ vK Bk q3 wx ho (by omega) (by omega)).mono ?_
      rintro e w' ⟨rfl, hb, hg⟩
      exact ⟨ret_i64 (by rw [hq4]), mkn9_mark hm HW.out HG.out hlt hg w6, (hT.mono fun b hb => by simp at hb ⊢; rcases hb with hb | hb | hb <;> simp [hb]).trans (hg.mono fun b hb => by simp [hb])⟩
    have HM4 : Hid (∀ wx, MkN9 w (d + 1) g l s k (.slice a1 ad.length p1) (.slice a5 vS.length p5) (.slice a6 vK.length p6) (.slice a7 vL.length p7) (.slice a8 ds.length p8) wx → Turned (g :: (B1 ++ (Bs ++ Bk))) wr wx → Calls Tryz.prog 52 #[.slice a7 vL.length p7, .int .i64 (q4 : Int)] wx fun e w' => e = .returned (.int .i64 (q5 : Int)) ∧ MkN9 w (d + 1) g l s k (.slice a1 ad.length p1) (.slice a5 vS.length p5) (.slice a6 vK.length p6) (.slice a7 vL.length p7) (.slice a8 ds.length p8) w' ∧ Turned (g :: (B1 ++ (Bs ++ (Bk ++ Bl)))) wr w') := fun wx hm hT => by
      have ho := t7.agree (agree_turned hT hl7 fun b hb hm => by
        simp only [List.mem_cons, List.mem_append] at hm
        rcases hm with e | hm | hm | hm
        · exact hgw b (w7 b hb).1 e.symm
        · have f1 := e7 b hb; have f2 := d1 b hm; omega
        · exact dsl b hb hm
        · exact dkl b hb hm)
      refine (markValueS_any d _ vL Bl q4 wx ho (by omega) (by omega)).mono ?_
      rintro e w' ⟨rfl, hb, hg⟩
      exact ⟨ret_i64 (by rw [hq5]), mkn9_mark hm HW.out HG.out hlt hg w7, (hT.mono fun b hb => by simp at hb ⊢; rcases hb with hb | hb | hb | hb <;> simp [hb]).trans (hg.mono fun b hb => by simp [hb])⟩
    have HM5 : Hid (∀ wx, MkN9 w (d + 1) g l s k (.slice a1 ad.length p1) (.slice a5 vS.length p5) (.slice a6 vK.length p6) (.slice a7 vL.length p7) (.slice a8 ds.length p8) wx → Turned (g :: (B1 ++ (Bs ++ (Bk ++ Bl)))) wr wx → Calls Tryz.prog 16 #[.slice a8 ds.length p8, .int .i64 (q5 : Int)] wx fun e w' => e = .returned (.int .i64 (q6 : Int)) ∧ MkN9 w (d + 1) g l s k (.slice a1 ad.length p1) (.slice a5 vS.length p5) (.slice a6 vK.length p6) (.slice a7 vL.length p7) (.slice a8 ds.length p8) w') := fun wx hm hT => by
      have ho := h3.agree (agree_turned hT hl3 fun b hb hm => by
        simp only [List.mem_cons, List.mem_append] at hm
        rcases hm with e | hm | hm | hm | hm
        · exact hgw b (w8 b hb).1 e.symm
        · have f1 := d3 b hb; have f2 := d1 b hm; omega
        · have f1 := d3 b hb; have f2 := e5 b hm; omega
        · have f1 := d3 b hb; have f2 := e6 b hm; omega
        · have f1 := d3 b hb; have f2 := e7 b hm; omega)
      refine (markByteSS_any _ ds B3 q5 wx ho (by omega) (by omega)).mono ?_
      rintro e w' ⟨rfl, hb, hg⟩
      exact ⟨ret_i64 (by rw [hq6]), mkn9_mark hm HW.out HG.out hlt hg w8⟩
    have HC : Hid (∀ wx, MkN9 w (d + 1) g l s k (.slice a1 ad.length p1) (.slice a5 vS.length p5) (.slice a6 vK.length p6) (.slice a7 vL.length p7) (.slice a8 ds.length p8) wx → ∀ j, j < 9 → (∃ y, wx.cell? ⟨g, k * 9 + j, none⟩ = some y) ∧ wx.frozen? ⟨g, k * 9 + j, none⟩ = false) := fun wx hm j hj => mkn9_cell hm hlt j hj
    have HFn : Hid (∀ wx (u v : Value), MkN9 w (d + 1) g l s k (.slice a1 ad.length p1) (.slice a5 vS.length p5) (.slice a6 vK.length p6) (.slice a7 vL.length p7) (.slice a8 ds.length p8) wx → Hid (MkNs w (d + 1) g l s (k + 1) ((wx.setCell ⟨g, k * 9 + 7, none⟩ u).setCell ⟨g, k * 9 + 8, none⟩ v))) := fun wx u v hm => (mkn9_store (mkn9_store hm HW.out HG.out hlt 7 (by omega) u) HW.out HG.out hlt 8 (by omega) v).1
    have hq6b : q6 + 1 + 1 ≤ q0 + (k + 1) * 16777216 := by omega
    have hq6c : (q6 : Int) + 1 ≤ 9223372036854775807 := by omega
    have hq2b : q2 ≤ q0 + (k + 1) * 16777216 := by omega
    have hy1 := hm9.2.1
    clear hm9 h1 h3 t5 t6 t7 hl1 hl3 hl5 hl6 hl7 dsk dsl dkl w1 w5 w6 w7 w8 e5 e6 e7 d1 d3 s12 hgw z0 z1 z2 hz' hkz hkz3 hsl hit T0 hq2 hq3 hq4 hq5 hq6
    generalize ad.length = n1 at *
    generalize vS.length = n5 at *
    generalize vK.length = n6 at *
    generalize vL.length = n7 at *
    generalize ds.length = n8 at *
    go_wp2_with fail
    refine HM1.out.mono ?_
    rintro e x1 ⟨rfl, hm1, hT1⟩
    have HM2' := hide' (HM2.out _ hm1 hT1)
    obtain ⟨⟨y2, hy2⟩, hf2⟩ := HC.out x1 hm1 1 (by omega)
    obtain ⟨⟨y3, hy3⟩, hf3⟩ := HC.out x1 hm1 2 (by omega)
    have hy3' : x1.cell? ⟨g, k * 9 + 1 + 1, none⟩ = some y3 := hy3
    have hf3' : x1.frozen? ⟨g, k * 9 + 1 + 1, none⟩ = false := hf3
    have hy5 := hm1.2.2.1
    clear hm1 hT1 hy1 HM1 HM2
    go_wp2_with fail
    refine HM2'.out.mono ?_
    rintro e x2 ⟨rfl, hm2, hT2⟩
    have HM3' := hide' (HM3.out _ hm2 hT2)
    have hy6 := hm2.2.2.2.1
    clear hm2 hT2 hy2 hf2 hy3 hf3 hy3' hf3' hy5 HM2' HM3
    go_wp2_with fail
    refine HM3'.out.mono ?_
    rintro e x3 ⟨rfl, hm3, hT3⟩
    have HM4' := hide' (HM4.out _ hm3 hT3)
    have hy7 := hm3.2.2.2.2.1
    clear hm3 hT3 hy6 HM3' HM4
    go_wp2_with fail
    refine HM4'.out.mono ?_
    rintro e x4 ⟨rfl, hm4, hT4⟩
    have HM5' := hide' (HM5.out _ hm4 hT4)
    have hy8 := hm4.2.2.2.2.2
    clear hm4 hT4 hy7 HM4' HM5
    go_wp2_with fail
    refine HM5'.out.mono ?_
    rintro e x5 ⟨rfl, hm5⟩
    obtain ⟨⟨y7, hy7'⟩, hf7⟩ := HC.out x5 hm5 7 (by omega)
    obtain ⟨⟨y9, hy9⟩, hf9⟩ := HC.out x5 hm5 8 (by omega)
    have hS5 := fun u v => HFn.out x5 u v hm5
    have HS5 := hide' hS5
    clear hy8 HM5' hm5 hS5
    go_wp2
    go_roundw
    case rel => exact ⟨k + 1, q6 + 1 + 1, by omega, by go_num, by push_cast; rfl, hq6b, HS5.out _ _⟩
    case measure => simp [intOf]; omega
set_option maxHeartbeats 1600000 in
theorem markStateG_any (d : Nat) (cs : List Value) (s : Stt (d + 1)) (B : List Nat) (m0 : Nat) (hm0 : m0 ≤ 35184372088833) (w : World) (h : SaOwn w (d + 1) cs s B) (hz : SaSz (d + 1) s) :
    Calls Tryz.prog 14 #[.agg cs.toArray, .int .i64 (m0 : Int)] w fun e w' => (∃ n : Nat, e = .returned (.int .i64 (n : Int)) ∧ n ≤ m0 + 35184372088832) ∧ Turned B w w' := by
  have hlt := h.lt
  obtain ⟨c2, B2, g, c, sf, rfl, h1, h2, h3, hR, rfl, h4⟩ := h
  obtain ⟨s0, s1, nm, s3, l⟩ := s
  obtain ⟨z0, z1, z2⟩ := hz
  simp only at h1 h2 h3 hR z0 z1 z2 hlt ⊢
  have hw := ntlo_win hR
  have hRl := hR.2.2.2.1
  have l2 : ∀ b ∈ B2, b < w.heap.size := fun b hb => hlt b (by simp [hb])
  obtain ⟨m1, hm1⟩ : ∃ m : Nat, m = m0 + nm.length := ⟨_, rfl⟩
  have H1 : Hid (∀ o : Obj, Calls Tryz.prog 15 #[c2, .int .i64 (m0 : Int)] (w.alloc o) fun e w' => e = .returned (.int .i64 (m1 : Int)) ∧ Turned B2 (w.alloc o) w') := fun o => by
    have h1' : TOwn (w.alloc o) c2 nm B2 := h1.agree fun b hb => Below.heap_alloc w o b (l2 b hb)
    obtain ⟨a, c, rfl, _⟩ := h1.seg
    refine (markByteS_F a c nm m0 (w.alloc o) h1'.1 (by omega) (by omega)).mono ?_
    rintro e w' ⟨rfl, _, hg⟩
    exact ⟨by rw [hm1], h1'.turned hg⟩
  have H2 : Hid (∀ (o : Obj) wx, Turned B2 (w.alloc o) wx → Calls Tryz.prog 31 #[.slice (some ⟨g, 0, none⟩) l.length c, .int .i64 (m1 : Int)] wx fun e w' => (∃ n : Nat, e = .returned (.int .i64 (n : Int)) ∧ n ≤ m1 + 17592186044416) ∧ Turned (B2 ++ List.range' g (sf l.length - g)) (w.alloc o) w') := fun o wx hT => by
    have hR' : NtLO wx (d + 1) g l sf l.length := ntlo_agree hR (by have := hT.size; simp at this; omega) fun b hb1 hb2 => (hT.block b (by simp; omega) (fun hb => by have := h4 b hb; omega)).trans (Below.heap_alloc w o b (by omega))
    refine (markEntrySG_any d g c l sf wx hR' z1 m1 (by omega) z2).mono ?_
    rintro e w' ⟨hn, hg⟩
    exact ⟨hn, (hT.mono fun b hb => by simp [hb]).trans (hg.mono fun b hb => List.mem_append_right _ hb)⟩
  have Hrow : Hid (∀ (o : Obj) wx, Turned B2 (w.alloc o) wx → wx.heap[w.heap.size]? = some o) := fun o wx hT => (hT.block w.heap.size (by simp) (fun hb => by have := l2 _ hb; omega)).trans (MapKept.heap_alloc w o).1
  have HEnd : Hid (∀ (o : Obj) wx, Turned (B2 ++ List.range' g (sf l.length - g)) (w.alloc o) wx → Turned (B2 ++ List.range' g (sf l.length - g)) w wx) := fun o wx hT => (Turned.of_grown (World.grownBy_alloc w o none) (by simp)).trans hT
  obtain ⟨a1, p1, rfl, -⟩ := h1.seg
  have hm1' : m1 ≤ m0 + 1048576 := by omega
  clear h1 h2 h3 hR hlt h4 z0 z1 z2 hw hRl l2 hm1
  generalize B2 ++ List.range' g (sf l.length - g) = B at *
  generalize nm.length = n1 at *
  generalize l.length = n2 at *
  go_enter Tryz.func14, Tryz.ntmps14
  go_wp2_with fail
  refine (H1.out _).mono ?_
  rintro e w1 ⟨rfl, T1⟩
  obtain ⟨y0, y1, y2, y3, y4⟩ := five_row (Hrow.out _ _ T1)
  have HC := hide' (H2.out _ _ T1)
  clear T1 H1 H2
  go_wp2_with fail
  refine HC.out.mono ?_
  rintro e w2 ⟨⟨q, rfl, hq⟩, T2⟩
  have HE := hide' (HEnd.out _ _ T2)
  clear T2 HC y0 y1 y2 y3 y4
  go_wp2
  go_ret
  exact ⟨⟨q, rfl, by omega⟩, HE.out⟩
end
end Go.Proofs.YtngjhimieacjhaaGreatDoor
