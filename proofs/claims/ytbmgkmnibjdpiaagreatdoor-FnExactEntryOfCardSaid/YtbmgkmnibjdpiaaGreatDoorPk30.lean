/-
  Texts that a law leans on, one behind the other; no statement is proved here.
-/
import Derived.Test.YtbmgkmnibjdpiaaGreatDoorPk29
import Derived.Test.YtbmgkmnibjdpiaaGreatDoorPk7
import Derived.Test.YtbmgkmnibjdpiaaGreatDoorPk9
import Derived.Test.YtbmgkmnibjdpiaaGreatDoorPk8
import Derived.Test.YtbmgkmnibjdpiaaGreatDoorPk6
/-
  markEntryS: the walk.
-/
namespace Go.Proofs.YtbmgkmnibjdpiaaGreatDoor
open Go.RowKit
set_option linter.unusedVariables false
set_option linter.unusedSimpArgs false

theorem mkn9_start {w0 wr : World} {d g k : Nat} {l : List (Ntr d)} {s : Nat → Nat} {c0 c1 c2 c3 c4 c5 c6 c7 c8 : Value} (h : MkNs w0 d g l s k wr) (hr : wr.rangeAt g (k * 9) [c0, c1, c2, c3, c4, c5, c6, c7, c8]) : MkN9 w0 d g l s k c0 c3 c4 c5 c6 wr :=
  ⟨⟨h.1, fun i hi hik => h.2.1 i hi (by omega), h.2.2⟩, hr 0 _ rfl, hr 3 _ rfl, hr 4 _ rfl, hr 5 _ rfl, hr 6 _ rfl⟩

set_option maxHeartbeats 6400000 in
set_option maxRecDepth 100000 in
theorem markEntryS_any (d g c : Nat) (l : List (Ntr (d + 1))) (s : Nat → Nat) (w : World) (h : NtLO w (d + 1) g l s l.length) (hn : l.length ≤ 1048576) (q0 : Nat) (hq0 : q0 ≤ 2097152) (hz : ∀ i (h : i < l.length), NtSz (d + 1) l[i]) :
    Calls Tryz.prog 33 #[.slice (some ⟨g, 0, none⟩) l.length c, .int .i64 (q0 : Int)] w fun e w' => (∃ n : Nat, e = .returned (.int .i64 (n : Int)) ∧ n ≤ 1125899906842624) ∧ Turned (List.range' g (s l.length - g)) w w' := by
  have HZ := hide' hz
  have hw : ∀ i, i < l.length → s i ≤ s (i + 1) := h.2.2.1
  have hg0 : g < s 0 := h.2.1
  have H0 : Hid (MkNs w (d + 1) g l s 0 w) := ⟨h.1, fun i hi _ => h.2.2.2.2 i hi hi, Turned.refl _ _⟩
  have HW := hide' hw
  have HG := hide' hg0
  clear h hz hw hg0
  go_enter Tryz.func33, Tryz.ntmps33
  go_wp2
  go_loopw [1, 5] (fun m i wr => ∃ (k q : Nat), k ≤ l.length ∧ i = .int .i64 k ∧ m = .int .i64 (q : Int) ∧ q ≤ q0 + k * 536870912 ∧ Hid (MkNs w (d + 1) g l s k wr)) (fun _ i _ => l.length - (intOf i).toNat)
  case atStart => exact ⟨0, q0, Nat.zero_le _, rfl, rfl, by omega, H0⟩
  case round =>
    clear H0
    obtain ⟨k, q, hk, rfl, rfl, hq, hS⟩ := hrel
    by_cases hlt : k < l.length
    rotate_left
    · have hlt' : ¬ (k : Int) < (l.length : Int) := by omega
      have HF := hide' hS.out.2.2
      clear hS
      go_wp2
      go_ret
      exact ⟨⟨q, rfl, by omega⟩, HF.out⟩
    have hlt' : (k : Int) < (l.length : Int) := by omega
    obtain ⟨cs, B, hr, ho, hB⟩ := hS.out.2.1 k hlt (Nat.le_refl _)
    obtain ⟨c1, c3, c4, c5, c6, c7, c8, B1, B2, B3, rfl, h1, h2, h3, rfl, s1, s2, d1, d2, d3, s12⟩ := ho
    have hm9 := mkn9_start hS.out hr
    obtain ⟨z0, z1, z2⟩ := HZ.out k hlt
    have hl1 := h1.lt
    have hl3 := h3.lt
    obtain ⟨-, -, Bs, Bk, Bl, t5, t6, t7, hB2, hnd⟩ := (VOwn_succ _ _ _ _ _).1 h2
    have hl5 := t5.lt
    have hl6 := t6.lt
    have hl7 := t7.lt
    rw [hB2, List.nodup_append, List.nodup_append] at hnd
    obtain ⟨-, ⟨-, -, n2⟩, n1⟩ := hnd
    subst hB2
    have dsk : ∀ b ∈ Bk, b ∉ Bs := fun b hb hs => n1 b hs b (List.mem_append_left _ hb) rfl
    have dsl : ∀ b ∈ Bl, b ∉ Bs := fun b hb hs => n1 b hs b (List.mem_append_right _ hb) rfl
    have dkl : ∀ b ∈ Bl, b ∉ Bk := fun b hb hs => n2 b hs b hb rfl
    have w1 : ∀ b ∈ B1, s k ≤ b ∧ b < s (k + 1) := fun b hb => hB b (by simp [hb])
    have w5 : ∀ b ∈ Bs, s k ≤ b ∧ b < s (k + 1) := fun b hb => hB b (by simp [hb])
    have w6 : ∀ b ∈ Bk, s k ≤ b ∧ b < s (k + 1) := fun b hb => hB b (by simp [hb])
    have w7 : ∀ b ∈ Bl, s k ≤ b ∧ b < s (k + 1) := fun b hb => hB b (by simp [hb])
    have w8 : ∀ b ∈ B3, s k ≤ b ∧ b < s (k + 1) := fun b hb => hB b (by simp [hb])
    have e5 : ∀ b ∈ Bs, s1 ≤ b ∧ b < s2 := fun b hb => d2 b (by simp [hb])
    have e6 : ∀ b ∈ Bk, s1 ≤ b ∧ b < s2 := fun b hb => d2 b (by simp [hb])
    have e7 : ∀ b ∈ Bl, s1 ≤ b ∧ b < s2 := fun b hb => d2 b (by simp [hb])
    have hgw : ∀ b, s k ≤ b → g ≠ b := fun b hb e => by have h1 := win_mono HW.out k 0 (by omega) (by omega); have h2 := HG.out; omega
    clear h2 hr hS hB d2 n1 n2
    generalize hit : l[k] = it at *
    obtain ⟨ad, vv, ds, tn, tu⟩ := it
    obtain ⟨vk, vn, vS, vK, vL⟩ := vv
    simp only at h1 h3 t5 t6 t7 z0 z1 z2
    have hz' : szV (d + 1) (vk, vn, vS, vK, vL) = vS.length + szK vK + szL d vL := rfl
    have hkz : szK vK = vK.length + (vK.map List.length).sum := rfl
    have hkz3 : szK ds = ds.length + (ds.map List.length).sum := rfl
    have hsl : (vL.map (cE d)).sum ≤ 2097152 := by
      have h5 := sum_cE (cE_sz d) vL
      have h6 : szL d vL = vL.length + (vL.map (szV d)).sum := rfl
      omega
    obtain ⟨a1, p1, rfl, -⟩ := h1.seg
    obtain ⟨a5, p5, rfl, -⟩ := t5.seg
    obtain ⟨a6, p6, rfl, -⟩ := t6.seg
    have hlf : ∃ la lc, c7 = .slice la vL.length lc := by
      rcases t7 with ⟨e, e', _⟩ | ⟨_, _, _, _, e, _⟩
      · exact ⟨none, 0, by rw [e, e']; rfl⟩
      · exact ⟨_, _, e⟩
    obtain ⟨a7, p7, rfl⟩ := hlf
    obtain ⟨a8, p8, rfl, -⟩ := h3.seg
    obtain ⟨q2, hq2⟩ : ∃ q2 : Nat, q2 = q + ad.length := ⟨_, rfl⟩
    obtain ⟨q3, hq3⟩ : ∃ q3 : Nat, q3 = q2 + 1 + 1 + vS.length := ⟨_, rfl⟩
    obtain ⟨q4, hq4⟩ : ∃ q4 : Nat, q4 = q3 + (vK.map List.length).sum := ⟨_, rfl⟩
    obtain ⟨q5, hq5⟩ : ∃ q5 : Nat, q5 = q4 + (vL.map (cE d)).sum := ⟨_, rfl⟩
    obtain ⟨q6, hq6⟩ : ∃ q6 : Nat, q6 = q5 + (ds.map List.length).sum := ⟨_, rfl⟩
    have T0 : ∀ (wx : World) (o : Nat) (v : Value), Turned [g] wx (wx.setCell ⟨g, o, none⟩ v) := fun wx o v => Turned.of_grown (grown1 wx g o v) fun k e => by simp at e; simp [e]
    -- the five calls
    have HM1 : Hid (Calls Tryz.prog 16 #[.slice a1 ad.length p1, .int .i64 (q : Int)] wr fun e w' => e = .returned (.int .i64 (q2 : Int)) ∧ MkN9 w (d + 1) g l s k (.slice a1 ad.length p1) (.slice a5 vS.length p5) (.slice a6 vK.length p6) (.slice a7 vL.length p7) (.slice a8 ds.length p8) w' ∧ Turned (g :: B1) wr w') := by
      refine (markByteS_F a1 p1 ad q _ h1.1 (by omega) (by omega)).mono ?_
      rintro e w' ⟨rfl, hb, hg⟩
      exact ⟨ret_i64 (by rw [hq2]), mkn9_mark hm9 HW.out HG.out hlt (h1.turned hg) w1, (h1.turned hg).mono fun b hb => by simp [hb]⟩
    have HM2 : Hid (∀ wx, MkN9 w (d + 1) g l s k (.slice a1 ad.length p1) (.slice a5 vS.length p5) (.slice a6 vK.length p6) (.slice a7 vL.length p7) (.slice a8 ds.length p8) wx → Turned (g :: B1) wr wx → Calls Tryz.prog 16 #[.slice a5 vS.length p5, .int .i64 ((q2 : Int) + 1 + 1)] ((wx.setCell ⟨g, k * 9 + 1, none⟩ (.int .i64 (q2 : Int))).setCell ⟨g, k * 9 + 1 + 1, none⟩ (.int .i64 ((q2 : Int) + 1))) fun e w' => e = .returned (.int .i64 (q3 : Int)) ∧ MkN9 w (d + 1) g l s k (.slice a1 ad.length p1) (.slice a5 vS.length p5) (.slice a6 vK.length p6) (.slice a7 vL.length p7) (.slice a8 ds.length p8) w' ∧ Turned (g :: (B1 ++ Bs)) wr w') := fun wx hm hT => by
      have hst := mkn9_store (mkn9_store hm HW.out HG.out hlt 1 (by omega) (.int .i64 (q2 : Int))) HW.out HG.out hlt 2 (by omega) (.int .i64 ((q2 : Int) + 1))
      have hTT : Turned (g :: B1) wr ((wx.setCell ⟨g, k * 9 + 1, none⟩ (.int .i64 (q2 : Int))).setCell ⟨g, k * 9 + 2, none⟩ (.int .i64 ((q2 : Int) + 1))) := (hT.trans ((T0 _ _ _).mono (by simp))).trans ((T0 _ _ _).mono (by simp))
      have ho := t5.agree (agree_turned hTT hl5 fun b hb hm => by
        rcases List.mem_cons.1 hm with e | hm
        · exact hgw b (w5 b hb).1 e.symm
        · have f1 := e5 b hb; have f2 := d1 b hm; omega)
      refine arg_eq (x := ((q2 + 1 + 1 : Nat) : Int)) (by push_cast; rfl) ((markByteS_F a5 p5 vS (q2 + 1 + 1) _ ho.1 (by omega) (by omega)).mono ?_)
      rintro e w' ⟨rfl, hb, hg⟩
      exact ⟨ret_i64 (by rw [hq3]), mkn9_mark hst HW.out HG.out hlt (ho.turned hg) w5, (hTT.mono fun b hb => by simp at hb ⊢; rcases hb with hb | hb <;> simp [hb]).trans ((ho.turned hg).mono fun b hb => by simp [hb])⟩
    have HM3 : Hid (∀ wx, MkN9 w (d + 1) g l s k (.slice a1 ad.length p1) (.slice a5 vS.length p5) (.slice a6 vK.length p6) (.slice a7 vL.length p7) (.slice a8 ds.length p8) wx → Turned (g :: (B1 ++ Bs)) wr wx → Calls Tryz.prog 35 #[.slice a6 vK.length p6, .int .i64 (q3 : Int)] wx fun e w' => e = .returned (.int .i64 (q4 : Int)) ∧ MkN9 w (d + 1) g l s k (.slice a1 ad.length p1) (.slice a5 vS.length p5) (.slice a6 vK.length p6) (.slice a7 vL.length p7) (.slice a8 ds.length p8) w' ∧ Turned (g :: (B1 ++ (Bs ++ Bk))) wr w') := fun wx hm hT => by
      have ho := t6.agree (agree_turned hT hl6 fun b hb hm => by
        simp only [List.mem_cons, List.mem_append] at hm
        rcases hm with e | hm | hm
        · exact hgw b (w6 b hb).1 e.symm
        · have f1 := e6 b hb; have f2 := d1 b hm; omega
        · exact dsk b hb hm)
      refine (markByteSS_any _ vK Bk q3 wx ho (by omega) (by omega)).mono ?_
      rintro e w' ⟨rfl, hb, hg⟩
      exact ⟨ret_i64 (by rw [hq4]), mkn9_mark hm HW.out HG.out hlt hg w6, (hT.mono fun b hb => by simp at hb ⊢; rcases hb with hb | hb | hb <;> simp [hb]).trans (hg.mono fun b hb => by simp [hb])⟩
    have HM4 : Hid (∀ wx, MkN9 w (d + 1) g l s k (.slice a1 ad.length p1) (.slice a5 vS.length p5) (.slice a6 vK.length p6) (.slice a7 vL.length p7) (.slice a8 ds.length p8) wx → Turned (g :: (B1 ++ (Bs ++ Bk))) wr wx → Calls Tryz.prog 52 #[.slice a7 vL.length p7, .int .i64 (q4 : Int)] wx fun e w' => e = .returned (.int .i64 (q5 : Int)) ∧ MkN9 w (d + 1) g l s k (.slice a1 ad.length p1) (.slice a5 vS.length p5) (.slice a6 vK.length p6) (.slice a7 vL.length p7) (.slice a8 ds.length p8) w' ∧ Turned (g :: (B1 ++ (Bs ++ (Bk ++ Bl)))) wr w') := fun wx hm hT => by
      have ho := t7.agree (agree_turned hT hl7 fun b hb hm => by
        simp only [List.mem_cons, List.mem_append] at hm
        rcases hm with e | hm | hm | hm
        · exact hgw b (w7 b hb).1 e.symm
        · have f1 := e7 b hb; have f2 := d1 b hm; omega
        · exact dsl b hb hm
        · exact dkl b hb hm)
      refine (markValueS_any d _ vL Bl q4 wx ho (by omega) (by omega)).mono ?_
      rintro e w' ⟨rfl, hb, hg⟩
      exact ⟨ret_i64 (by rw [hq5]), mkn9_mark hm HW.out HG.out hlt hg w7, (hT.mono fun b hb => by simp at hb ⊢; rcases hb with hb | hb | hb | hb <;> simp [hb]).trans (hg.mono fun b hb => by simp [hb])⟩
    have HM5 : Hid (∀ wx, MkN9 w (d + 1) g l s k (.slice a1 ad.length p1) (.slice a5 vS.length p5) (.slice a6 vK.length p6) (.slice a7 vL.length p7) (.slice a8 ds.length p8) wx → Turned (g :: (B1 ++ (Bs ++ (Bk ++ Bl)))) wr wx → Calls Tryz.prog 35 #[.slice a8 ds.length p8, .int .i64 (q5 : Int)] wx fun e w' => e = .returned (.int .i64 (q6 : Int)) ∧ MkN9 w (d + 1) g l s k (.slice a1 ad.length p1) (.slice a5 vS.length p5) (.slice a6 vK.length p6) (.slice a7 vL.length p7) (.slice a8 ds.length p8) w') := fun wx hm hT => by
      have ho := h3.agree (agree_turned hT hl3 fun b hb hm => by
        simp only [List.mem_cons, List.mem_append] at hm
        rcases hm with e | hm | hm | hm | hm
        · exact hgw b (w8 b hb).1 e.symm
        · have f1 := d3 b hb; have f2 := d1 b hm; omega
        · have f1 := d3 b hb; have f2 := e5 b hm; omega
        · have f1 := d3 b hb; have f2 := e6 b hm; omega
        · have f1 := d3 b hb; have f2 := e7 b hm; omega)
      refine (markByteSS_any _ ds B3 q5 wx ho (by omega) (by omega)).mono ?_
      rintro e w' ⟨rfl, hb, hg⟩
      exact ⟨ret_i64 (by rw [hq6]), mkn9_mark hm HW.out HG.out hlt hg w8⟩
    have HC : Hid (∀ wx, MkN9 w (d + 1) g l s k (.slice a1 ad.length p1) (.slice a5 vS.length p5) (.slice a6 vK.length p6) (.slice a7 vL.length p7) (.slice a8 ds.length p8) wx → ∀ j, j < 9 → (∃ y, wx.cell? ⟨g, k * 9 + j, none⟩ = some y) ∧ wx.frozen? ⟨g, k * 9 + j, none⟩ = false) := fun wx hm j hj => mkn9_cell hm hlt j hj
    have HFn : Hid (∀ wx (u v : Value), MkN9 w (d + 1) g l s k (.slice a1 ad.length p1) (.slice a5 vS.length p5) (.slice a6 vK.length p6) (.slice a7 vL.length p7) (.slice a8 ds.length p8) wx → Hid (MkNs w (d + 1) g l s (k + 1) ((wx.setCell ⟨g, k * 9 + 7, none⟩ u).setCell ⟨g, k * 9 + 8, none⟩ v))) := fun wx u v hm => (mkn9_store (mkn9_store hm HW.out HG.out hlt 7 (by omega) u) HW.out HG.out hlt 8 (by omega) v).1
    have hq6b : q6 + 1 + 1 ≤ q0 + (k + 1) * 536870912 := by omega
    have hq6c : (q6 : Int) + 1 ≤ 9223372036854775807 := by omega
    have hq2b : q2 ≤ q0 + (k + 1) * 536870912 := by omega
    have hy1 := hm9.2.1
    clear hm9 h1 h3 t5 t6 t7 hl1 hl3 hl5 hl6 hl7 dsk dsl dkl w1 w5 w6 w7 w8 e5 e6 e7 d1 d3 s12 hgw z0 z1 z2 hz' hkz hkz3 hsl hit T0 hq2 hq3 hq4 hq5 hq6
    generalize ad.length = n1 at *
    generalize vS.length = n5 at *
    generalize vK.length = n6 at *
    generalize vL.length = n7 at *
    generalize ds.length = n8 at *
    go_wp2_with fail
    refine HM1.out.mono ?_
    rintro e x1 ⟨rfl, hm1, hT1⟩
    have HM2' := hide' (HM2.out _ hm1 hT1)
    obtain ⟨⟨y2, hy2⟩, hf2⟩ := HC.out x1 hm1 1 (by omega)
    obtain ⟨⟨y3, hy3⟩, hf3⟩ := HC.out x1 hm1 2 (by omega)
    have hy3' : x1.cell? ⟨g, k * 9 + 1 + 1, none⟩ = some y3 := hy3
    have hf3' : x1.frozen? ⟨g, k * 9 + 1 + 1, none⟩ = false := hf3
    have hy5 := hm1.2.2.1
    clear hm1 hT1 hy1 HM1 HM2
    go_wp2_with fail
    refine HM2'.out.mono ?_
    rintro e x2 ⟨rfl, hm2, hT2⟩
    have HM3' := hide' (HM3.out _ hm2 hT2)
    have hy6 := hm2.2.2.2.1
    clear hm2 hT2 hy2 hf2 hy3 hf3 hy3' hf3' hy5 HM2' HM3
    go_wp2_with fail
    refine HM3'.out.mono ?_
    rintro e x3 ⟨rfl, hm3, hT3⟩
    have HM4' := hide' (HM4.out _ hm3 hT3)
    have hy7 := hm3.2.2.2.2.1
    clear hm3 hT3 hy6 HM3' HM4
    go_wp2_with fail
    refine HM4'.out.mono ?_
    rintro e x4 ⟨rfl, hm4, hT4⟩
    have HM5' := hide' (HM5.out _ hm4 hT4)
    have hy8 := hm4.2.2.2.2.2
    clear hm4 hT4 hy7 HM4' HM5
    go_wp2_with fail
    refine HM5'.out.mono ?_
    rintro e x5 ⟨rfl, hm5⟩
    obtain ⟨⟨y7, hy7'⟩, hf7⟩ := HC.out x5 hm5 7 (by omega)
    obtain ⟨⟨y9, hy9⟩, hf9⟩ := HC.out x5 hm5 8 (by omega)
    have hS5 := fun u v => HFn.out x5 u v hm5
    have HS5 := hide' hS5
    clear hy8 HM5' hm5 hS5
    go_wp2
    go_roundw
    case rel => exact ⟨k + 1, q6 + 1 + 1, by omega, by go_num, by push_cast; rfl, hq6b, HS5.out _ _⟩
    case measure => simp [intOf]; omega
end Go.Proofs.YtbmgkmnibjdpiaaGreatDoor
/-
  markState: all that a state of the call's own holds is marked, and nothing else is turned.
-/
namespace Go.Proofs.YtbmgkmnibjdpiaaGreatDoor
open Go.RowKit
set_option linter.unusedVariables false
set_option linter.unusedSimpArgs false

set_option maxHeartbeats 1600000 in
theorem markState_any (d : Nat) (cs : List Value) (s : Stt (d + 1)) (B : List Nat) (w : World) (h : SaOwn w (d + 1) cs s B) (hz : SaSz (d + 1) s) :
    Calls Tryz.prog 15 #[.agg cs.toArray, .int .i64 1] w fun e w' => (∃ n : Nat, e = .returned (.int .i64 (n : Int)) ∧ n ≤ 1125899906842624) ∧ Turned B w w' := by
  have hlt := h.lt
  obtain ⟨c2, B2, g, c, sf, rfl, h1, h2, h3, hR, rfl, h4⟩ := h
  obtain ⟨s0, s1, nm, s3, l⟩ := s
  obtain ⟨z0, z1, z2⟩ := hz
  simp only at h1 h2 h3 hR z0 z1 z2 hlt ⊢
  have hw := ntlo_win hR
  have hRl := hR.2.2.2.1
  have l2 : ∀ b ∈ B2, b < w.heap.size := fun b hb => hlt b (by simp [hb])
  obtain ⟨m1, hm1⟩ : ∃ m : Nat, m = 1 + nm.length := ⟨_, rfl⟩
  have H1 : Hid (∀ o : Obj, Calls Tryz.prog 16 #[c2, .int .i64 1] (w.alloc o) fun e w' => e = .returned (.int .i64 (m1 : Int)) ∧ Turned B2 (w.alloc o) w') := fun o => by
    have h1' : TOwn (w.alloc o) c2 nm B2 := h1.agree fun b hb => Below.heap_alloc w o b (l2 b hb)
    obtain ⟨a, c, rfl, _⟩ := h1.seg
    refine (markByteS_F a c nm 1 (w.alloc o) h1'.1 (by omega) (by omega)).mono ?_
    rintro e w' ⟨rfl, _, hg⟩
    exact ⟨by rw [hm1], h1'.turned hg⟩
  have H2 : Hid (∀ (o : Obj) wx, Turned B2 (w.alloc o) wx → Calls Tryz.prog 33 #[.slice (some ⟨g, 0, none⟩) l.length c, .int .i64 (m1 : Int)] wx fun e w' => (∃ n : Nat, e = .returned (.int .i64 (n : Int)) ∧ n ≤ 1125899906842624) ∧ Turned (B2 ++ List.range' g (sf l.length - g)) (w.alloc o) w') := fun o wx hT => by
    have hR' : NtLO wx (d + 1) g l sf l.length := ntlo_agree hR (by have := hT.size; simp at this; omega) fun b hb1 hb2 => (hT.block b (by simp; omega) (fun hb => by have := h4 b hb; omega)).trans (Below.heap_alloc w o b (by omega))
    refine (markEntryS_any d g c l sf wx hR' z1 m1 (by omega) z2).mono ?_
    rintro e w' ⟨hn, hg⟩
    exact ⟨hn, (hT.mono fun b hb => by simp [hb]).trans (hg.mono fun b hb => List.mem_append_right _ hb)⟩
  have Hrow : Hid (∀ (o : Obj) wx, Turned B2 (w.alloc o) wx → wx.heap[w.heap.size]? = some o) := fun o wx hT => (hT.block w.heap.size (by simp) (fun hb => by have := l2 _ hb; omega)).trans (MapKept.heap_alloc w o).1
  have HEnd : Hid (∀ (o : Obj) wx, Turned (B2 ++ List.range' g (sf l.length - g)) (w.alloc o) wx → Turned (B2 ++ List.range' g (sf l.length - g)) w wx) := fun o wx hT => (Turned.of_grown (World.grownBy_alloc w o none) (by simp)).trans hT
  obtain ⟨a1, p1, rfl, -⟩ := h1.seg
  clear h1 h2 h3 hR hlt h4 z0 z1 z2 hw hRl l2 hm1
  generalize B2 ++ List.range' g (sf l.length - g) = B at *
  generalize nm.length = n1 at *
  generalize l.length = n2 at *
  go_enter Tryz.func15, Tryz.ntmps15
  go_wp2_with fail
  refine (H1.out _).mono ?_
  rintro e w1 ⟨rfl, T1⟩
  obtain ⟨y0, y1, y2, y3, y4⟩ := five_row (Hrow.out _ _ T1)
  have HC := hide' (H2.out _ _ T1)
  clear T1 H1 H2
  go_wp2_with fail
  refine HC.out.mono ?_
  rintro e w2 ⟨⟨q, rfl, hq⟩, T2⟩
  have HE := hide' (HEnd.out _ _ T2)
  clear T2 HC y0 y1 y2 y3 y4
  go_wp2
  go_ret
  exact ⟨⟨q, rfl, hq⟩, HE.out⟩
end Go.Proofs.YtbmgkmnibjdpiaaGreatDoor
/-
  heldByteSS of the laws: it finds the running numbers in a list of texts that was marked.
-/
namespace Go.Proofs.YtbmgkmnibjdpiaaGreatDoor
open Go.RowKit
set_option linter.unusedVariables false
set_option linter.unusedSimpArgs false

theorem mkKs_at : ∀ (l : List (List Int)) (k i : Nat) (h : i < l.length), (mkKs l k).getD i [] = marks (k + pre List.length l i) l[i].length
  | [], _, _, h => by simp at h
  | x :: r, k, 0, _ => by simp [mkKs, pre]
  | x :: r, k, i + 1, h => by
    have ih := mkKs_at r (k + x.length) i (by simpa using h)
    have e : pre List.length (x :: r) (i + 1) = x.length + pre List.length r i := by simp [pre]
    rw [e]
    simp only [mkKs, List.getD_cons_succ, List.getElem_cons_succ]
    rw [ih, Nat.add_assoc]

set_option maxHeartbeats 1600000 in
theorem heldByteSS_any (N : Nat) (v : Value) (ks : List (List Int)) (m : Nat) (w : World) (h : KSeg (fun b => b < N) w v (mkKs ks m)) (hN : N ≤ w.heap.size) (hs : szK ks ≤ 2097152) (hm : m + (ks.map List.length).sum ≤ 1125899906842624) :
    Calls Tryz.prog 38 #[v, .int .i64 m] w fun e w' => e = .returned (.int .i64 ((m + (ks.map List.length).sum : Nat) : Int)) ∧ Below w.heap.size w w' := by
  have hsz : szK ks = ks.length + (ks.map List.length).sum := rfl
  have H0 := hide' h
  obtain ⟨a, c, rfl, _⟩ := h
  rw [length_mkKs] at H0 ⊢
  have HP : Hid (∀ k (hk : k < ks.length), pre List.length ks (k + 1) = pre List.length ks k + ks[k].length) := fun k hk => pre_succ List.length ks k hk
  have HL : Hid (∀ k, pre List.length ks k ≤ (ks.map List.length).sum) := pre_le List.length ks
  have HA : Hid (pre List.length ks ks.length = (ks.map List.length).sum) := pre_all _ _
  have hn : ks.length ≤ 2097152 := by omega
  have hsum : (ks.map List.length).sum ≤ 2097152 := by omega
  have hmm : m + (ks.map List.length).sum ≤ 1125899906842624 := by omega
  clear hs hsz hm
  go_enter Tryz.func38, Tryz.ntmps38
  go_wp2
  go_loopw [1, 5] (fun m' i wr => ∃ k : Nat, k ≤ ks.length ∧ i = .int .i64 k ∧ m' = .int .i64 ((m + pre List.length ks k : Nat) : Int) ∧ Below w.heap.size w wr) (fun _ i _ => ks.length - (intOf i).toNat)
  case atStart => exact ⟨0, Nat.zero_le _, rfl, by rw [pre_zero]; simp, Below.refl _ _⟩
  case round =>
    obtain ⟨k, hk, rfl, rfl, hbel⟩ := hrel
    have hpk := HL.out k
    by_cases hlt : k < ks.length
    · have hlt' : (k : Int) < (ks.length : Int) := by omega
      have hps := HP.out k hlt
      have hpk1 := HL.out (k + 1)
      obtain ⟨b, off, rfl, hc⟩ := (H0.out.agree (agree_below (hbel.mono hN))).at (k := k) (by rw [length_mkKs]; exact hlt)
      obtain ⟨a2, c2, hcell, hseg, _⟩ := hc k (by rw [length_mkKs]; exact hlt)
      rw [mkKs_at ks m k hlt, length_marks] at hcell
      rw [mkKs_at ks m k hlt] at hseg
      have HM := hide' (heldByteS_any a2 c2 (m + pre List.length ks k) ks[k].length wr hseg (by omega) (by omega))
      have Hps := hide' hps
      clear hseg hc hps
      generalize ks[k].length = nk at *
      generalize pre List.length ks k = q at *
      go_wp2_with fail
      refine HM.out.mono ?_
      rintro e w' ⟨rfl, b'⟩
      have B' := Below.on hbel b'
      clear hcell HM b'
      go_wp2
      go_roundw
      case rel => exact ⟨k + 1, by omega, by go_num, by rw [Hps.out]; go_num, B'⟩
      case measure => simp [intOf]; omega
    · have hkn : k = ks.length := by omega
      have hkn' : ¬ (k : Int) < (ks.length : Int) := by omega
      have HQ : Hid (pre List.length ks k = (ks.map List.length).sum) := by show pre List.length ks k = _; rw [hkn]; exact HA.out
      clear hkn
      go_wp2
      go_ret
      exact ⟨ret_i64 (by rw [HQ.out]), hbel⟩
end Go.Proofs.YtbmgkmnibjdpiaaGreatDoor
/-
  heldValueS and heldValue of the laws: they find the running numbers in values that were marked.
-/
namespace Go.Proofs.YtbmgkmnibjdpiaaGreatDoor
open Go.RowKit
set_option linter.unusedVariables false
set_option linter.unusedSimpArgs false

theorem mkLs_at {α : Type} (f : α → Nat → α) (c : α → Nat) : ∀ (l : List α) (k i : Nat) (h : i < l.length), (mkLs f c l k)[i]'(by rw [length_mkLs]; exact h) = f l[i] (k + pre c l i)
  | [], _, _, h => by simp at h
  | x :: r, k, 0, _ => by simp [mkLs, pre]
  | x :: r, k, i + 1, h => by
    have ih := mkLs_at f c r (k + c x) i (by simpa using h)
    have e : pre c (x :: r) (i + 1) = c x + pre c r i := by simp [pre]
    simp only [mkLs, List.getElem_cons_succ]
    rw [ih, e, Nat.add_assoc]

theorem LSeg.num {R : Nat → Prop} {w : World} {d : Nat} {a : Option Addr} {n cap : Nat} {l : List (Vl d)} (h : LSeg R w d (.slice a n cap) l) {k : Nat} (hk : k < l.length) :
    ∃ b off c0 c1 c2 c3 c4, a = some ⟨b, off, none⟩ ∧ R b ∧ Five w b (off + k * 5) (c0, c1, c2, c3, c4) ∧ VSeg R w d (c0, c1, c2, c3, c4) (l[k]) := by
  obtain ⟨a', cap', g1, _, _, _, g5⟩ := h
  simp only [Value.slice.injEq] at g1
  obtain ⟨rfl, _, _⟩ := g1
  rcases g5 with e | ⟨b, off, hb, hR, hc⟩
  · rw [e] at hk; simp at hk
  · obtain ⟨⟨c0, c1, c2, c3, c4⟩, he, hv⟩ := hc k hk
    exact ⟨b, off, c0, c1, c2, c3, c4, hb, hR, he, hv⟩

/-- The contract of heldValueS at depth d. -/
def HdAt (d : Nat) : Prop := ∀ (N : Nat) (x : Value) (l : List (Vl d)) (m : Nat) (w : World), LSeg (fun b => b < N) w d x (mkLs (mkE d) (cE d) l m) → N ≤ w.heap.size → szL d l ≤ 1048576 → m + (l.map (cE d)).sum ≤ 1125899906842624 →
  Calls Tryz.prog 53 #[x, .int .i64 m] w fun e w' => e = .returned (.int .i64 ((m + (l.map (cE d)).sum : Nat) : Int)) ∧ Below w.heap.size w w'

theorem keep5 {w wx : World} {N b o : Nat} {c : Value × Value × Value × Value × Value} (hb : b < N) (h : Below N w wx) (h5 : Five w b o c) : Five wx b o c := h5.agree (agree_below h) hb

set_option maxHeartbeats 6400000 in
theorem heldValueS_succ (d : Nat) (ih : HdAt d) : HdAt (d + 1) := by
  intro N x l m w h hN hs hm
  have H0 := hide' h
  obtain ⟨a, c, rfl, _⟩ := h
  rw [length_mkLs] at H0 ⊢
  have hsl : szL (d + 1) l = l.length + (l.map (szV (d + 1))).sum := rfl
  have HP : Hid (∀ k (hk : k < l.length), pre (cE (d + 1)) l (k + 1) = pre (cE (d + 1)) l k + cE (d + 1) l[k]) := fun k hk => pre_succ (cE (d + 1)) l k hk
  have HL : Hid (∀ k, pre (cE (d + 1)) l k ≤ (l.map (cE (d + 1))).sum) := pre_le (cE (d + 1)) l
  have HA : Hid (pre (cE (d + 1)) l l.length = (l.map (cE (d + 1))).sum) := pre_all _ _
  have HZ : Hid (∀ k (hk : k < l.length), szV (d + 1) l[k] ≤ 1048576) := fun k hk => Nat.le_trans (sz_elem hk) hs
  have HI := hide' ih
  have hn : l.length ≤ 1048576 := by omega
  generalize hS : (l.map (cE (d + 1))).sum = S at *
  clear hs hsl ih hS
  go_enter Tryz.func53, Tryz.ntmps53
  go_wp2
  go_loopw [1, 5] (fun m' i wr => ∃ k : Nat, k ≤ l.length ∧ i = .int .i64 k ∧ m' = .int .i64 ((m + pre (cE (d + 1)) l k : Nat) : Int) ∧ Below w.heap.size w wr) (fun _ i _ => l.length - (intOf i).toNat)
  case atStart => exact ⟨0, Nat.zero_le _, rfl, by rw [pre_zero]; simp, Below.refl _ _⟩
  case round =>
    obtain ⟨k, hk, rfl, rfl, hbel⟩ := hrel
    have hpk := HL.out k
    have hsz := hbel.size
    by_cases hlt : k < l.length
    · have hlt' : (k : Int) < (l.length : Int) := by omega
      have hps := HP.out k hlt
      have hpk1 := HL.out (k + 1)
      have hz := HZ.out k hlt
      obtain ⟨b, off, c0, c1, c2, c3, c4, rfl, hb, h5, hv⟩ := (H0.out.agree (agree_below (hbel.mono hN))).num (k := k) (by rw [length_mkLs]; exact hlt)
      rw [mkLs_at (mkE (d + 1)) (cE (d + 1)) l m k hlt] at hv
      have hlk : ∃ (vk vn : Int) (vS : List Int) (vK : List (List Int)) (vL : List (Vl d)), l[k] = (vk, vn, vS, vK, vL) := ⟨_, _, _, _, _, rfl⟩
      obtain ⟨vk, vn, vS, vK, vL, hlk⟩ := hlk
      rw [hlk] at hv hz hps
      generalize hq : pre (cE (d + 1)) l k = q at *
      have hz' : szV (d + 1) (vk, vn, vS, vK, vL) = vS.length + szK vK + szL d vL := rfl
      have hc' : cE (d + 1) (vk, vn, vS, vK, vL) = 2 + (vS.length + ((vK.map List.length).sum + (vL.map (cE d)).sum)) := rfl
      have hkz : szK vK = vK.length + (vK.map List.length).sum := rfl
      obtain ⟨e0, e1, htt, hkk, hll⟩ := (VSeg_succ _ _ _ _ _).1 hv
      have e0' : c0 = .int .i64 ((m : Int) + q) := by have h := e0; simpa [mkE] using h
      have e1' : c1 = .int .i64 ((m : Int) + q + 1) := by have h := e1; simpa [mkE] using h
      subst e0'
      subst e1'
      have htt' : TSeg (fun b => b < N) wr c2 (marks (m + q + 2) vS.length) := htt
      have hkk' : KSeg (fun b => b < N) wr c3 (mkKs vK (m + q + 2 + vS.length)) := hkk
      have hll' : LSeg (fun b => b < N) wr d c4 (mkLs (mkE d) (cE d) vL (m + q + 2 + vS.length + (vK.map List.length).sum)) := hll
      have h5F : Hid (∀ wx, Below wr.heap.size wr wx → Five wx b (off + k * 5) (.int .i64 ((m : Int) + q), .int .i64 ((m : Int) + q + 1), c2, c3, c4)) := fun wx hx => keep5 hb (hx.mono (by omega)) h5
      obtain ⟨sa, sc, rfl, hseg, _⟩ := htt'
      rw [length_marks] at h5 h5F
      have hkf : ∃ ka kc, c3 = .slice ka vK.length kc := by
        obtain ⟨ka, kc, e, _⟩ := hkk'
        exact ⟨ka, kc, by rw [e, length_mkKs]⟩
      obtain ⟨ka, kc, rfl⟩ := hkf
      have hlf : ∃ la lc, c4 = .slice la vL.length lc := by
        obtain ⟨la, lc, e, _⟩ := hll'
        exact ⟨la, lc, by rw [e, length_mkLs]⟩
      obtain ⟨la, lc, rfl⟩ := hlf
      have HM1 : Hid (Calls Tryz.prog 36 #[.slice sa vS.length sc, .int .i64 ((m : Int) + q + 1 + 1)] wr fun e w' => e = .returned (.int .i64 ((m : Int) + q + 1 + 1 + vS.length)) ∧ w'.cell? ⟨b, off + k * 5 + 3, none⟩ = some (.slice ka vK.length kc) ∧ Hid (Below wr.heap.size wr w')) := by
        refine arg_eq (x := ((m + q + 2 : Nat) : Int)) (by push_cast; omega) ((heldByteS_any sa sc (m + q + 2) vS.length wr hseg (by omega) (by omega)).mono ?_)
        rintro e w' ⟨rfl, hb'⟩
        exact ⟨ret_i64 (by push_cast; omega), (h5F.out w' hb').2.2.2.1, hb'⟩
      have HM2 : Hid (∀ w1, Hid (Below wr.heap.size wr w1) → Calls Tryz.prog 38 #[.slice ka vK.length kc, .int .i64 ((m : Int) + q + 1 + 1 + vS.length)] w1 fun e w' => e = .returned (.int .i64 ((m : Int) + q + 1 + 1 + vS.length + ((vK.map List.length).sum : Nat))) ∧ w'.cell? ⟨b, off + k * 5 + 4, none⟩ = some (.slice la vL.length lc) ∧ Hid (Below wr.heap.size wr w')) := by
        intro w1 h1
        refine arg_eq (x := ((m + q + 2 + vS.length : Nat) : Int)) (by push_cast; omega) ((heldByteSS_any N _ vK (m + q + 2 + vS.length) w1 (hkk'.agree (agree_below (h1.out.mono (by omega)))) (by have := h1.out.size; omega) (by omega) (by omega)).mono ?_)
        rintro e w' ⟨rfl, hb'⟩
        have hb2 := Below.on h1.out hb'
        exact ⟨ret_i64 (by push_cast; omega), (h5F.out w' hb2).2.2.2.2, hb2⟩
      have HM3 : Hid (∀ w1, Hid (Below wr.heap.size wr w1) → Calls Tryz.prog 53 #[.slice la vL.length lc, .int .i64 ((m : Int) + q + 1 + 1 + vS.length + ((vK.map List.length).sum : Nat))] w1 fun e w' => e = .returned (.int .i64 ((m : Int) + q + 1 + 1 + vS.length + ((vK.map List.length).sum : Nat) + ((vL.map (cE d)).sum : Nat))) ∧ Hid (Below w.heap.size w w')) := by
        intro w1 h1
        refine arg_eq (x := ((m + q + 2 + vS.length + (vK.map List.length).sum : Nat) : Int)) (by push_cast; omega) ((HI.out N _ vL (m + q + 2 + vS.length + (vK.map List.length).sum) w1 (hll'.agree (agree_below (h1.out.mono (by omega)))) (by have := h1.out.size; omega) (by omega) (by omega)).mono ?_)
        rintro e w' ⟨rfl, hb'⟩
        exact ⟨ret_i64 (by push_cast; omega), Below.on hbel (Below.on h1.out hb')⟩
      have hcE : m + q + 1 + 1 + vS.length + (vK.map List.length).sum + (vL.map (cE d)).sum ≤ 1125899906842624 := by omega
      have Hps : Hid (m + pre (cE (d + 1)) l (k + 1) = m + q + 1 + 1 + vS.length + (vK.map List.length).sum + (vL.map (cE d)).sum) := by show m + pre (cE (d + 1)) l (k + 1) = _; omega
      obtain ⟨y0, y1, y2, y3, y4⟩ := h5
      simp only at y0 y1 y2 y3 y4
      clear hv htt hkk hll hkk' hll' hseg h5F hps hlk hq HP HL HA HZ H0 HI hz hz' hc' hkz e0 e1 hpk1 hpk
      generalize (vK.map List.length).sum = nK at *
      generalize (vL.map (cE d)).sum = nL at *
      generalize vS.length = nS at *
      generalize vK.length = kK at *
      generalize vL.length = kL at *
      go_wp2_with fail
      refine HM1.out.mono ?_
      rintro e w1 ⟨rfl, z3, hS1⟩
      have HM2' := hide' (HM2.out w1 hS1)
      clear y0 y1 y2 y3 y4 HM1 HM2
      go_wp2_with fail
      refine HM2'.out.mono ?_
      rintro e w2 ⟨rfl, z4, hS2⟩
      have HM3' := hide' (HM3.out w2 hS2)
      clear z3 hS1 HM2' HM3
      go_wp2_with fail
      refine HM3'.out.mono ?_
      rintro e w3 ⟨rfl, hB3⟩
      clear z4 hS2 HM3'
      go_wp2
      go_roundw
      case rel => exact ⟨k + 1, by omega, by go_num, by rw [Hps.out]; go_num, hB3.out⟩
      case measure => simp [intOf]; omega
    · have hkn : k = l.length := by omega
      have hkn' : ¬ (k : Int) < (l.length : Int) := by omega
      have HQ : Hid (pre (cE (d + 1)) l k = S) := by show pre (cE (d + 1)) l k = _; rw [hkn]; exact HA.out
      clear hkn
      go_wp2
      go_ret
      exact ⟨ret_i64 (by rw [HQ.out]), hbel⟩

set_option maxHeartbeats 1600000 in
theorem heldValueS_zero : HdAt 0 := by
  intro N x l m w h hN hs hm
  have hl : l = [] := by
    cases l with
    | nil => rfl
    | cons y r => exact nomatch y
  subst hl
  obtain ⟨a, c, rfl, _⟩ := h
  go_enter Tryz.func53, Tryz.ntmps53
  go_wp2
  go_loopw [1, 5] (fun m' i wr => i = .int .i64 0 ∧ m' = .int .i64 m ∧ wr = w) (fun _ i _ => 0)
  case atStart => exact ⟨rfl, rfl, rfl⟩
  case round =>
    obtain ⟨rfl, rfl, rfl⟩ := hrel
    go_wp2
    go_ret
    exact ⟨ret_i64 (by simp), Below.refl _ _⟩

theorem heldValueS_any (d : Nat) : HdAt d := by
  induction d with
  | zero => exact heldValueS_zero
  | succ d ih => exact heldValueS_succ d ih
end Go.Proofs.YtbmgkmnibjdpiaaGreatDoor
/-
  heldValue: what markValue has written is found.
-/
namespace Go.Proofs.YtbmgkmnibjdpiaaGreatDoor
open Go.RowKit
set_option linter.unusedVariables false
set_option linter.unusedSimpArgs false

set_option maxHeartbeats 3200000 in
theorem heldValue_any (d N : Nat) (c0 c1 c2 c3 c4 : Value) (v : Vl (d + 1)) (m : Nat) (w : World) (h : VSeg (fun b => b < N) w (d + 1) (c0, c1, c2, c3, c4) (mkV d v m)) (hN : N ≤ w.heap.size) (hs : szV (d + 1) v ≤ 1048576) (hm : m + cV d v ≤ 1125899906842624) :
    Calls Tryz.prog 37 #[.agg #[c0, c1, c2, c3, c4], .int .i64 m] w fun e w' => e = .returned (.int .i64 ((m + cV d v : Nat) : Int)) ∧ Below w.heap.size w w' := by
  obtain ⟨vk, vn, vS, vK, vL⟩ := v
  have hz' : szV (d + 1) (vk, vn, vS, vK, vL) = szT vS + szK vK + szL d vL := rfl
  have hT' : szT vS = vS.length := rfl
  have hc' : cV d (vk, vn, vS, vK, vL) = vS.length + (vK.map List.length).sum + (vL.map (cE d)).sum := rfl
  obtain ⟨e0, e1, hT, hK, hL⟩ := h
  simp only [mkV] at e0 e1 hT hK hL
  have hL' : LSeg (fun b => b < N) w d c4 (mkLs (mkE d) (cE d) vL (m + vS.length + (vK.map List.length).sum)) := hL
  obtain ⟨sa, sc, e2, hSg, _, _, _, hR⟩ := hT
  rw [length_marks] at e2
  subst e2
  have hkf : ∃ ka kn kc, c3 = .slice ka kn kc := by obtain ⟨a, c, e, _⟩ := hK; exact ⟨_, _, _, e⟩
  obtain ⟨ka, kn, kc, rfl⟩ := hkf
  have hlf : ∃ la ln lc, c4 = .slice la ln lc := by obtain ⟨a, c, e, _⟩ := hL; exact ⟨_, _, _, e⟩
  obtain ⟨la, ln, lc, rfl⟩ := hlf
  have hal : ∀ o : Obj, Below w.heap.size w (w.alloc o) := fun o => (Below.refl _ _).alloc (Nat.le_refl _) o
  have Hal := hide' hal
  have Hbox : Hid (∀ o wx, Below (w.alloc o).heap.size (w.alloc o) wx → wx.heap[w.heap.size]? = some o) := fun o wx h => (h.block w.heap.size (by simp)).trans (MapKept.heap_alloc w o).1
  have H1 : Hid (∀ wx, Below w.heap.size w wx → Calls Tryz.prog 36 #[.slice sa vS.length sc, .int .i64 m] wx fun e w' => e = .returned (.int .i64 ((m : Int) + vS.length)) ∧ Below wx.heap.size wx w') := by
    intro wx hb
    refine (heldByteS_any sa sc m vS.length wx (hSg.below hb fun x hx hne => Nat.lt_of_lt_of_le (hR x hx hne) hN) (by omega) (by omega)).mono ?_
    rintro e w' ⟨rfl, h⟩
    exact ⟨ret_i64 (by push_cast; rfl), h⟩
  have H2 : Hid (∀ wx, Below w.heap.size w wx → Calls Tryz.prog 38 #[.slice ka kn kc, .int .i64 ((m : Int) + vS.length)] wx fun e w' => e = .returned (.int .i64 ((m : Int) + vS.length + (vK.map List.length).sum)) ∧ Below wx.heap.size wx w') := by
    intro wx hb
    refine arg_eq (x := ((m + vS.length : Nat) : Int)) (by push_cast; rfl) ((heldByteSS_any N _ vK (m + vS.length) wx (hK.agree (agree_below (hb.mono hN))) (by have := hb.size; omega) (by omega) (by omega)).mono ?_)
    rintro e w' ⟨rfl, h⟩
    exact ⟨ret_i64 (by push_cast; rfl), h⟩
  have H3 : Hid (∀ wx, Below w.heap.size w wx → Calls Tryz.prog 53 #[.slice la ln lc, .int .i64 ((m : Int) + vS.length + (vK.map List.length).sum)] wx fun e w' => e = .returned (.int .i64 ((m : Int) + vS.length + (vK.map List.length).sum + (vL.map (cE d)).sum)) ∧ Below wx.heap.size wx w') := by
    intro wx hb
    refine arg_eq (x := ((m + vS.length + (vK.map List.length).sum : Nat) : Int)) (by push_cast; rfl) ((heldValueS_any d N _ vL (m + vS.length + (vK.map List.length).sum) wx (hL'.agree (agree_below (hb.mono hN))) (by have := hb.size; omega) (by omega) (by omega)).mono ?_)
    rintro e w' ⟨rfl, h⟩
    exact ⟨ret_i64 (by push_cast; rfl), h⟩
  have HO : Hid (m + cV d (vk, vn, vS, vK, vL) = m + vS.length + (vK.map List.length).sum + (vL.map (cE d)).sum) := by show m + cV d (vk, vn, vS, vK, vL) = _; omega
  generalize cV d (vk, vn, vS, vK, vL) = tot at *
  clear hSg hR hK hL hL' hal hz' hT' hc' hs
  generalize (vK.map List.length).sum = nK at *
  generalize (vL.map (cE d)).sum = nL at *
  generalize vS.length = nS at *
  have hbig : m + nS + nK + nL ≤ 1125899906842624 := by have := HO.out; omega
  go_enter Tryz.func37, Tryz.ntmps37
  go_wp2_with fail
  refine (H1.out _ (Hal.out _)).mono ?_
  rintro e w1 ⟨rfl, b1⟩
  obtain ⟨_, _, _, y3, y4, _⟩ := row5 (Hbox.out _ _ b1)
  have h2 := hide' (H2.out _ (Below.on (Hal.out _) b1))
  have Hb1 := hide' b1
  clear b1 H1
  go_wp2_with fail
  refine h2.out.mono ?_
  rintro e w2 ⟨rfl, b2⟩
  have b12 := Below.on Hb1.out b2
  clear y3 y4
  obtain ⟨_, _, _, y3, y4, _⟩ := row5 (Hbox.out _ _ b12)
  have h3 := hide' (H3.out _ (Below.on (Hal.out _) b12))
  have Hb2 := hide' b12
  clear b12 b2 H2 h2 Hb1
  go_wp2_with fail
  refine h3.out.mono ?_
  rintro e w3 ⟨rfl, b3⟩
  have B3 := hide' (Below.on (Hal.out _) (Below.on Hb2.out b3))
  clear b3
  go_wp2
  go_ret
  exact ⟨by rw [HO.out]; push_cast; rfl, B3.out⟩
end Go.Proofs.YtbmgkmnibjdpiaaGreatDoor
