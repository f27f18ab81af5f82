/-
  kids of whatever part; countParts and depthOf at every depth.
-/
import Derived.Test.YtdjalkaoiklncaaKids
import Derived.Test.YtdjalkaoiklncaaSpecCnt
namespace Go.Proofs.Ytdjalkaoiklncaa
open Go.RowKit
set_option linter.unusedVariables false
set_option linter.unusedSimpArgs false

theorem shape_leaf {vk vn : Int} {vs : List Int} {vK : List (List Int)} {n : Nat} (h : shapeB vk vn vs vK n = true) (h4 : vk ≠ 4) (h5 : vk ≠ 5) : n = 0 := by
  unfold shapeB bareB at h
  simp [h4, h5] at h
  exact h.1.2

theorem shape_mp {vn : Int} {vs : List Int} {vK : List (List Int)} {n : Nat} (h : shapeB 5 vn vs vK n = true) : vK.length = n ∧ ascB vK = true := by
  unfold shapeB at h
  simp at h
  exact h.2

theorem getD_range (ps : List Value) (n i : Nat) (h : i < n) : ((List.range n).map fun i => ps.getD i .nilIface)[i]? = some (ps.getD i .nilIface) := by
  simp [h]

theorem kids_any (d N : Nat) (p : Value) (v : Vl (d + 1)) (deep : Nat) (w : World) (hp : PSeg (fun b => b < N) w (d + 1) p v) (hN : N ≤ w.heap.size) (hg : goodB (d + 1) v deep = true) (hn : v.2.2.2.2.length ≤ 40) :
    Calls Try.prog 34 #[p] w fun e w' => ∃ u, e = .returned u ∧ PLSeg (fun b => b < w'.heap.size) w' d u v.2.2.2.2 ∧ Below w.heap.size w w' := by
  obtain ⟨vk, vn, vs, vK, vL⟩ := v
  have hsh := ((good_succ _ _ _ _ _ _ _).1 hg).2.1
  simp only at hn ⊢
  have leaf : vL.length = 0 → ∀ w' : World, PLSeg (fun b => b < w'.heap.size) w' d (.slice none 0 0) vL := by
    intro h0 w'
    have : vL = [] := List.eq_nil_of_length_eq_zero h0
    exact ⟨none, 0, by rw [h0], .inl this⟩
  rcases hp with ⟨hk, rfl⟩ | ⟨hk, rfl⟩ | ⟨hk, rfl⟩ | ⟨hk, rfl⟩ | ⟨hk, rfl⟩ | ⟨hk, a, cap, rfl, hc⟩ | ⟨hk, b, ps, rfl, hR, hm, hc⟩
  · simp only at hk
    exact (kids_nullPart _ w).mono fun e w' ⟨he, hw⟩ => ⟨_, he, leaf (shape_leaf hsh (by omega) (by omega)) w', hw ▸ Below.refl _ _⟩
  · simp only at hk
    exact (kids_unknownPart _ w).mono fun e w' ⟨he, hw⟩ => ⟨_, he, leaf (shape_leaf hsh (by omega) (by omega)) w', hw ▸ Below.refl _ _⟩
  · simp only at hk
    exact (kids_boolPart _ w).mono fun e w' ⟨he, hw⟩ => ⟨_, he, leaf (shape_leaf hsh (by omega) (by omega)) w', hw ▸ Below.refl _ _⟩
  · simp only at hk
    exact (kids_intPart _ w).mono fun e w' ⟨he, hw⟩ => ⟨_, he, leaf (shape_leaf hsh (by omega) (by omega)) w', hw ▸ Below.refl _ _⟩
  · simp only at hk
    exact (kids_textPart _ w).mono fun e w' ⟨he, hw⟩ => ⟨_, he, leaf (shape_leaf hsh (by omega) (by omega)) w', hw ▸ Below.refl _ _⟩
  · refine (kids_list a vL.length cap w).mono fun e w' ⟨he, hb⟩ => ⟨_, he, ⟨a, cap, rfl, ?_⟩, hb⟩
    have hsz := hb.size
    rcases hc with h0 | ⟨b, off, e1, hR, hc⟩
    · exact .inl h0
    · refine .inr ⟨b, off, e1, Nat.lt_of_lt_of_le hR (Nat.le_trans hN hsz), fun i hi => ?_⟩
      obtain ⟨u, hu, hv⟩ := hc i hi
      have ag := agree_below (hb.mono hN)
      exact ⟨u, (cell_agree ag hR).trans hu, PSeg.carry (fun b hb => Nat.lt_of_lt_of_le hb (Nat.le_trans hN hsz)) ag d hv⟩
  · simp only at hk hm hc
    subst hk
    obtain ⟨hkl, hasc⟩ := shape_mp hsh
    refine (kids_map b vL.length vK ps w hm (fun i hi => ascB_at hasc (by omega)) (fun i hi => (hc i hi).shape) hn).mono ?_
    rintro e w' ⟨u, rfl, hown, hb⟩
    have hsz := hb.size
    refine ⟨u, rfl, ?_, hb⟩
    rcases hown.2 with ⟨rfl, h0⟩ | ⟨g, cp, cur, rfl, hg, hh, hle, hm, hcs, ht⟩
    · exact leaf h0 w'
    · refine ⟨_, cp, rfl, ?_⟩
      by_cases he : vL = []
      · exact .inl he
      · refine .inr ⟨g, 0, rfl, (Array.getElem?_eq_some_iff.1 hh).1, fun i hi => ⟨ps.getD i .nilIface, ?_, PSeg.carry (fun b hb => Nat.lt_of_lt_of_le hb (Nat.le_trans hN hsz)) (agree_below (hb.mono hN)) d (hc i hi)⟩⟩
        have := hown.cellAt i (by omega)
        rw [Nat.zero_add, this]
        exact getD_range ps vL.length i hi

theorem PLSeg.at {R : Nat → Prop} {w : World} {d : Nat} {a : Option Addr} {n cap : Nat} {l : List (Vl d)} (h : PLSeg R w d (.slice a n cap) l) {k : Nat} (hk : k < l.length) : ∃ b off t x, a = some ⟨b, off, none⟩ ∧ R b ∧ w.cell? ⟨b, off + k, none⟩ = some (.iface t x) ∧ PSeg R w d (.iface t x) (l[k]) := by
  obtain ⟨a', cap', e, hc⟩ := h
  simp only [Value.slice.injEq] at e
  obtain ⟨rfl, _, _⟩ := e
  rcases hc with h0 | ⟨b, off, rfl, hR, hc⟩
  · rw [h0] at hk; simp at hk
  · obtain ⟨u, hu, hv⟩ := hc k hk
    obtain ⟨t, x, rfl⟩ := hv.shape
    exact ⟨b, off, t, x, rfl, hR, hu, hv⟩

theorem PLSeg.grow {w w' : World} {d : Nat} {x : Value} {l : List (Vl d)} (h : PLSeg (fun b => b < w.heap.size) w d x l) (hb : Below w.heap.size w w') : PLSeg (fun b => b < w.heap.size) w' d x l := by
  obtain ⟨a, cap, e, hc⟩ := h
  refine ⟨a, cap, e, ?_⟩
  rcases hc with h0 | ⟨b, off, e1, hR, hc⟩
  · exact .inl h0
  · refine .inr ⟨b, off, e1, hR, fun i hi => ?_⟩
    obtain ⟨u, hu, hv⟩ := hc i hi
    exact ⟨u, (cell_agree (agree_below hb) hR).trans hu, PSeg.carry (fun b hb => hb) (agree_below hb) d hv⟩

/-- The contract of a function of a part, at depth d. -/
def PAt (F : Nat) (ans : (d : Nat) → Vl d → Value) (d : Nat) : Prop := ∀ (N : Nat) (p : Value) (v : Vl d) (deep : Nat) (w : World), PSeg (fun b => b < N) w d p v → N ≤ w.heap.size → goodB d v deep = true → partsV d v ≤ 40 →
  Calls Try.prog F #[p] w fun e w' => e = .returned (ans d v) ∧ Below w.heap.size w w'

set_option maxHeartbeats 1600000 in
theorem countParts_succ (d : Nat) (ih : PAt 24 (fun d v => .int .i64 (partsV d v)) d) : PAt 24 (fun d v => .int .i64 (partsV d v)) (d + 1) := by
  intro N p v deep w hp hN hg hn
  obtain ⟨vk, vn, vs, vK, vL⟩ := v
  have hgd := ((good_succ _ _ _ _ _ _ _).1 hg).2.2
  have hps := parts_succ d vk vn vs vK vL
  have hlen : vL.length ≤ 40 := by have := pre_ge d vL vL.length (Nat.le_refl _); omega
  have HK := hide' (kids_any d N p _ deep w hp hN hg hlen)
  have HI := hide' ih
  have HG := hide' hgd
  have HP : Hid (∀ k (hk : k < vL.length), pre (partsV d) vL (k + 1) = pre (partsV d) vL k + partsV d vL[k]) := fun k hk => pre_succ (partsV d) vL k hk
  have HL : Hid (∀ k, pre (partsV d) vL k ≤ 39) := fun k => by
    have h1 := pre_le (partsV d) vL k
    have h2 := pre_all (partsV d) vL
    omega
  have HE := hide' hps
  obtain ⟨pt, px, rfl⟩ := hp.shape
  clear ih hgd hps hp hg hn
  go_enter Try.func24, Try.ntmps24
  go_wp2_with fail
  refine HK.out.mono ?_
  rintro e w1 ⟨u, rfl, hL, b1⟩
  have HLs := hide' hL
  have Hb1 := hide' b1
  obtain ⟨a, cap, rfl, _⟩ := hL
  clear b1 HK
  go_wp2
  go_loopw [3, 5, 9] (fun m _ i wr => ∃ k : Nat, k ≤ vL.length ∧ i = .int .i64 k ∧ m = .int .i64 ((1 + pre (partsV d) vL k : Nat) : Int) ∧ Below w1.heap.size w1 wr) (fun _ _ i _ => vL.length - (intOf i).toNat)
  case atStart => exact ⟨0, Nat.zero_le _, rfl, by rw [pre_zero]; rfl, Below.refl _ _⟩
  case round =>
    obtain ⟨k, hk, rfl, rfl, hbel⟩ := hrel
    have hsz := hbel.size
    by_cases hlt : k < vL.length
    · have hlt' : (k : Int) < (vL.length : Int) := by omega
      obtain ⟨b, off, qt, qx, rfl, hb, hcell, hq⟩ := (HLs.out.grow hbel).at hlt
      have hle := HL.out (k + 1)
      have hps := HP.out k hlt
      have hle0 := HL.out k
      have HC : Hid (Calls Try.prog 24 #[.iface qt qx] wr fun e w' => e = .returned (.int .i64 (partsV d vL[k])) ∧ Below wr.heap.size wr w') := HI.out w1.heap.size _ vL[k] (deep + 1) wr hq hsz (HG.out k hlt) (by omega)
      generalize pre (partsV d) vL k = q at *
      have Hps : Hid (pre (partsV d) vL (k + 1) = q + partsV d vL[k]) := hps
      have hle2 : q + partsV d vL[k] ≤ 39 := by omega
      generalize partsV d vL[k] = m at *
      clear hq hps hle
      go_wp2_with fail
      refine HC.out.mono ?_
      rintro e w2 ⟨rfl, b2⟩
      have B2 := Below.on hbel b2
      clear hcell HC b2
      go_wp2
      go_roundw
      case rel => exact ⟨k + 1, by omega, by go_num, by rw [Hps.out]; go_num, B2⟩
      case measure => simp [intOf]; omega
    · have hkn : k = vL.length := by omega
      have hkn' : ¬ (k : Int) < (vL.length : Int) := by omega
      rw [hkn]
      have B := Below.on Hb1.out hbel
      have HO : Hid (partsV (d + 1) (vk, vn, vs, vK, vL) = 1 + pre (partsV d) vL vL.length) := HE.out
      generalize pre (partsV d) vL vL.length = q at *
      rw [hkn] at hkn'
      clear hkn
      go_wp2
      go_ret
      exact ⟨by rw [HO.out]; rfl, B⟩

set_option maxHeartbeats 1600000 in
theorem depthOf_succ (d : Nat) (ih : PAt 29 (fun d v => .int .i64 (deepV d v)) d) : PAt 29 (fun d v => .int .i64 (deepV d v)) (d + 1) := by
  intro N p v deep w hp hN hg hn
  obtain ⟨vk, vn, vs, vK, vL⟩ := v
  have hgd := ((good_succ _ _ _ _ _ _ _).1 hg).2.2
  have hps := parts_succ d vk vn vs vK vL
  have hlen : vL.length ≤ 40 := by have := pre_ge d vL vL.length (Nat.le_refl _); omega
  have HK := hide' (kids_any d N p _ deep w hp hN hg hlen)
  have HI := hide' ih
  have HG := hide' hgd
  have HP : Hid (∀ k (hk : k < vL.length), mx (deepV d) vL (k + 1) = max (mx (deepV d) vL k) (deepV d vL[k])) := fun k hk => mx_succ (deepV d) vL k hk
  have HKp : Hid (∀ k (hk : k < vL.length), partsV d vL[k] ≤ 40) := fun k hk => (kid_parts hk hn).1
  have HL : Hid (∀ k, k ≤ vL.length → mx (deepV d) vL k ≤ 39) := fun k hk => by
    have h1 := mx_le_pre (deepV d) (partsV d) vL (deep_le d) k hk
    have h2 := pre_le (partsV d) vL k
    have h3 := pre_all (partsV d) vL
    omega
  have HE := hide' (deep_succ d vk vn vs vK vL)
  obtain ⟨pt, px, rfl⟩ := hp.shape
  clear ih hgd hps hp hg hn
  go_enter Try.func29, Try.ntmps29
  go_wp2_with fail
  refine HK.out.mono ?_
  rintro e w1 ⟨u, rfl, hL, b1⟩
  have HLs := hide' hL
  have Hb1 := hide' b1
  obtain ⟨a, cap, rfl, _⟩ := hL
  clear b1 HK
  go_wp2
  go_loopw [3, 5, 9] (fun m _ i wr => ∃ k : Nat, k ≤ vL.length ∧ i = .int .i64 k ∧ m = .int .i64 ((mx (deepV d) vL k : Nat) : Int) ∧ Below w1.heap.size w1 wr) (fun _ _ i _ => vL.length - (intOf i).toNat)
  case atStart => exact ⟨0, Nat.zero_le _, rfl, by rw [mx_zero]; rfl, Below.refl _ _⟩
  case round =>
    obtain ⟨k, hk, rfl, rfl, hbel⟩ := hrel
    have hsz := hbel.size
    by_cases hlt : k < vL.length
    · have hlt' : (k : Int) < (vL.length : Int) := by omega
      obtain ⟨b, off, qt, qx, rfl, hb, hcell, hq⟩ := (HLs.out.grow hbel).at hlt
      have hle := HL.out (k + 1) (by omega)
      have hps := HP.out k hlt
      have hle0 := HL.out k (by omega)
      have HC : Hid (Calls Try.prog 29 #[.iface qt qx] wr fun e w' => e = .returned (.int .i64 (deepV d vL[k])) ∧ Below wr.heap.size wr w') := HI.out w1.heap.size _ vL[k] (deep + 1) wr hq hsz (HG.out k hlt) (HKp.out k hlt)
      have hdl : deepV d vL[k] ≤ 40 := by have := deep_le d vL[k]; have := HKp.out k hlt; omega
      generalize mx (deepV d) vL k = q at *
      have Hps : Hid (mx (deepV d) vL (k + 1) = max q (deepV d vL[k])) := hps
      generalize deepV d vL[k] = m at *
      clear hq hps hle
      go_wp2_with fail
      refine HC.out.mono ?_
      rintro e w2 ⟨rfl, b2⟩
      have B2 := Below.on hbel b2
      clear hcell HC b2
      go_wp2
      go_roundw
      case rel => exact ⟨k + 1, by omega, by go_num, by rw [Hps.out]; go_num, B2⟩
      case measure => simp [intOf]; omega
    · have hkn : k = vL.length := by omega
      have hkn' : ¬ (k : Int) < (vL.length : Int) := by omega
      rw [hkn]
      have B := Below.on Hb1.out hbel
      have HO : Hid (deepV (d + 1) (vk, vn, vs, vK, vL) = mx (deepV d) vL vL.length + 1) := HE.out
      have hle := HL.out vL.length (Nat.le_refl _)
      generalize mx (deepV d) vL vL.length = q at *
      rw [hkn] at hkn'
      clear hkn
      go_wp2
      go_ret
      exact ⟨by rw [HO.out]; rfl, B⟩

end Go.Proofs.Ytdjalkaoiklncaa
