/-
  Texts that a law leans on, one behind the other; no statement is proved here.
-/
import Derived.Test.YtfokidhamjphfaaDoorPk22
import Derived.Test.YtfokidhamjphfaaDoorPk32
/-
  heldValueS and heldValue of the laws: they find the running numbers in values that were marked.
-/
namespace Go.Proofs.YtfokidhamjphfaaDoor
open Go.RowKit
set_option linter.unusedVariables false
set_option linter.unusedSimpArgs false

theorem mkLs_at {α : Type} (f : α → Nat → α) (c : α → Nat) : ∀ (l : List α) (k i : Nat) (h : i < l.length), (mkLs f c l k)[i]'(by rw [length_mkLs]; exact h) = f l[i] (k + pre c l i)
  | [], _, _, h => by simp at h
  | x :: r, k, 0, _ => by simp [mkLs, pre]
  | x :: r, k, i + 1, h => by
    have ih := mkLs_at f c r (k + c x) i (by simpa using h)
    have e : pre c (x :: r) (i + 1) = c x + pre c r i := by simp [pre]
    simp only [mkLs, List.getElem_cons_succ]
    rw [ih, e, Nat.add_assoc]

theorem LSeg.num {R : Nat → Prop} {w : World} {d : Nat} {a : Option Addr} {n cap : Nat} {l : List (Vl d)} (h : LSeg R w d (.slice a n cap) l) {k : Nat} (hk : k < l.length) :
    ∃ b off c0 c1 c2 c3 c4, a = some ⟨b, off, none⟩ ∧ R b ∧ Five w b (off + k * 5) (c0, c1, c2, c3, c4) ∧ VSeg R w d (c0, c1, c2, c3, c4) (l[k]) := by
  obtain ⟨a', cap', g1, _, _, _, g5⟩ := h
  simp only [Value.slice.injEq] at g1
  obtain ⟨rfl, _, _⟩ := g1
  rcases g5 with e | ⟨b, off, hb, hR, hc⟩
  · rw [e] at hk; simp at hk
  · obtain ⟨⟨c0, c1, c2, c3, c4⟩, he, hv⟩ := hc k hk
    exact ⟨b, off, c0, c1, c2, c3, c4, hb, hR, he, hv⟩

/-- The contract of heldValueS at depth d. -/
def HdAt (d : Nat) : Prop := ∀ (N : Nat) (x : Value) (l : List (Vl d)) (m : Nat) (w : World), LSeg (fun b => b < N) w d x (mkLs (mkE d) (cE d) l m) → N ≤ w.heap.size → szL d l ≤ 1048576 → m + (l.map (cE d)).sum ≤ 1125899906842624 →
  Calls Tryd.prog 46 #[x, .int .i64 m] w fun e w' => e = .returned (.int .i64 ((m + (l.map (cE d)).sum : Nat) : Int)) ∧ Below w.heap.size w w'

theorem keep5 {w wx : World} {N b o : Nat} {c : Value × Value × Value × Value × Value} (hb : b < N) (h : Below N w wx) (h5 : Five w b o c) : Five wx b o c := h5.agree (agree_below h) hb

set_option maxHeartbeats 6400000 in
theorem heldValueS_succ (d : Nat) (ih : HdAt d) : HdAt (d + 1) := by
  intro N x l m w h hN hs hm
  have H0 := hide' h
  obtain ⟨a, c, rfl, _⟩ := h
  rw [length_mkLs] at H0 ⊢
  have hsl : szL (d + 1) l = l.length + (l.map (szV (d + 1))).sum := rfl
  have HP : Hid (∀ k (hk : k < l.length), pre (cE (d + 1)) l (k + 1) = pre (cE (d + 1)) l k + cE (d + 1) l[k]) := fun k hk => pre_succ (cE (d + 1)) l k hk
  have HL : Hid (∀ k, pre (cE (d + 1)) l k ≤ (l.map (cE (d + 1))).sum) := pre_le (cE (d + 1)) l
  have HA : Hid (pre (cE (d + 1)) l l.length = (l.map (cE (d + 1))).sum) := pre_all _ _
  have HZ : Hid (∀ k (hk : k < l.length), szV (d + 1) l[k] ≤ 1048576) := fun k hk => Nat.le_trans (sz_elem hk) hs
  have HI := hide' ih
  have hn : l.length ≤ 1048576 := by omega
  generalize hS : (l.map (cE (d + 1))).sum = S at *
  clear hs hsl ih hS
  go_enter Tryd.func46, Tryd.ntmps46
  go_wp2
  go_loopw [1, 5] (fun m' i wr => ∃ k : Nat, k ≤ l.length ∧ i = .int .i64 k ∧ m' = .int .i64 ((m + pre (cE (d + 1)) l k : Nat) : Int) ∧ Below w.heap.size w wr) (fun _ i _ => l.length - (intOf i).toNat)
  case atStart => exact ⟨0, Nat.zero_le _, rfl, by rw [pre_zero]; simp, Below.refl _ _⟩
  case round =>
    obtain ⟨k, hk, rfl, rfl, hbel⟩ := hrel
    have hpk := HL.out k
    have hsz := hbel.size
    by_cases hlt : k < l.length
    · have hlt' : (k : Int) < (l.length : Int) := by omega
      have hps := HP.out k hlt
      have hpk1 := HL.out (k + 1)
      have hz := HZ.out k hlt
      obtain ⟨b, off, c0, c1, c2, c3, c4, rfl, hb, h5, hv⟩ := (H0.out.agree (agree_below (hbel.mono hN))).num (k := k) (by rw [length_mkLs]; exact hlt)
      rw [mkLs_at (mkE (d + 1)) (cE (d + 1)) l m k hlt] at hv
      have hlk : ∃ (vk vn : Int) (vS : List Int) (vK : List (List Int)) (vL : List (Vl d)), l[k] = (vk, vn, vS, vK, vL) := ⟨_, _, _, _, _, rfl⟩
      obtain ⟨vk, vn, vS, vK, vL, hlk⟩ := hlk
      rw [hlk] at hv hz hps
      generalize hq : pre (cE (d + 1)) l k = q at *
      have hz' : szV (d + 1) (vk, vn, vS, vK, vL) = vS.length + szK vK + szL d vL := rfl
      have hc' : cE (d + 1) (vk, vn, vS, vK, vL) = 2 + (vS.length + ((vK.map List.length).sum + (vL.map (cE d)).sum)) := rfl
      have hkz : szK vK = vK.length + (vK.map List.length).sum := rfl
      obtain ⟨e0, e1, htt, hkk, hll⟩ := (VSeg_succ _ _ _ _ _).1 hv
      have e0' : c0 = .int .i64 ((m : Int) + q) := by have h := e0; simpa [mkE] using h
      have e1' : c1 = .int .i64 ((m : Int) + q + 1) := by have h := e1; simpa [mkE] using h
      subst e0'
      subst e1'
      have htt' : TSeg (fun b => b < N) wr c2 (marks (m + q + 2) vS.length) := htt
      have hkk' : KSeg (fun b => b < N) wr c3 (mkKs vK (m + q + 2 + vS.length)) := hkk
      have hll' : LSeg (fun b => b < N) wr d c4 (mkLs (mkE d) (cE d) vL (m + q + 2 + vS.length + (vK.map List.length).sum)) := hll
      have h5F : Hid (∀ wx, Below wr.heap.size wr wx → Five wx b (off + k * 5) (.int .i64 ((m : Int) + q), .int .i64 ((m : Int) + q + 1), c2, c3, c4)) := fun wx hx => keep5 hb (hx.mono (by omega)) h5
      obtain ⟨sa, sc, rfl, hseg, _⟩ := htt'
      rw [length_marks] at h5 h5F
      have hkf : ∃ ka kc, c3 = .slice ka vK.length kc := by
        obtain ⟨ka, kc, e, _⟩ := hkk'
        exact ⟨ka, kc, by rw [e, length_mkKs]⟩
      obtain ⟨ka, kc, rfl⟩ := hkf
      have hlf : ∃ la lc, c4 = .slice la vL.length lc := by
        obtain ⟨la, lc, e, _⟩ := hll'
        exact ⟨la, lc, by rw [e, length_mkLs]⟩
      obtain ⟨la, lc, rfl⟩ := hlf
      have HM1 : Hid (Calls Tryd.prog 44 #[.slice sa vS.length sc, .int .i64 ((m : Int) + q + 1 + 1)] wr fun e w' => e = .returned (.int .i64 ((m : Int) + q + 1 + 1 + vS.length)) ∧ w'.cell? ⟨b, off + k * 5 + 3, none⟩ = some (.slice ka vK.length kc) ∧ Hid (Below wr.heap.size wr w')) := by
        refine arg_eq (x := ((m + q + 2 : Nat) : Int)) (by push_cast; omega) ((heldByteS_any sa sc (m + q + 2) vS.length wr hseg (by omega) (by omega)).mono ?_)
        rintro e w' ⟨rfl, hb'⟩
        exact ⟨ret_i64 (by push_cast; omega), (h5F.out w' hb').2.2.2.1, hb'⟩
      have HM2 : Hid (∀ w1, Hid (Below wr.heap.size wr w1) → Calls Tryd.prog 45 #[.slice ka vK.length kc, .int .i64 ((m : Int) + q + 1 + 1 + vS.length)] w1 fun e w' => e = .returned (.int .i64 ((m : Int) + q + 1 + 1 + vS.length + ((vK.map List.length).sum : Nat))) ∧ w'.cell? ⟨b, off + k * 5 + 4, none⟩ = some (.slice la vL.length lc) ∧ Hid (Below wr.heap.size wr w')) := by
        intro w1 h1
        refine arg_eq (x := ((m + q + 2 + vS.length : Nat) : Int)) (by push_cast; omega) ((heldByteSS_any N _ vK (m + q + 2 + vS.length) w1 (hkk'.agree (agree_below (h1.out.mono (by omega)))) (by have := h1.out.size; omega) (by omega) (by omega)).mono ?_)
        rintro e w' ⟨rfl, hb'⟩
        have hb2 := Below.on h1.out hb'
        exact ⟨ret_i64 (by push_cast; omega), (h5F.out w' hb2).2.2.2.2, hb2⟩
      have HM3 : Hid (∀ w1, Hid (Below wr.heap.size wr w1) → Calls Tryd.prog 46 #[.slice la vL.length lc, .int .i64 ((m : Int) + q + 1 + 1 + vS.length + ((vK.map List.length).sum : Nat))] w1 fun e w' => e = .returned (.int .i64 ((m : Int) + q + 1 + 1 + vS.length + ((vK.map List.length).sum : Nat) + ((vL.map (cE d)).sum : Nat))) ∧ Hid (Below w.heap.size w w')) := by
        intro w1 h1
        refine arg_eq (x := ((m + q + 2 + vS.length + (vK.map List.length).sum : Nat) : Int)) (by push_cast; omega) ((HI.out N _ vL (m + q + 2 + vS.length + (vK.map List.length).sum) w1 (hll'.agree (agree_below (h1.out.mono (by omega)))) (by have := h1.out.size; omega) (by omega) (by omega)).mono ?_)
        rintro e w' ⟨rfl, hb'⟩
        exact ⟨ret_i64 (by push_cast; omega), Below.on hbel (Below.on h1.out hb')⟩
      have hcE : m + q + 1 + 1 + vS.length + (vK.map List.length).sum + (vL.map (cE d)).sum ≤ 1125899906842624 := by omega
      have Hps : Hid (m + pre (cE (d + 1)) l (k + 1) = m + q + 1 + 1 + vS.length + (vK.map List.length).sum + (vL.map (cE d)).sum) := by show m + pre (cE (d + 1)) l (k + 1) = _; omega
      obtain ⟨y0, y1, y2, y3, y4⟩ := h5
      simp only at y0 y1 y2 y3 y4
      clear hv htt hkk hll hkk' hll' hseg h5F hps hlk hq HP HL HA HZ H0 HI hz hz' hc' hkz e0 e1 hpk1 hpk
      generalize (vK.map List.length).sum = nK at *
      generalize (vL.map (cE d)).sum = nL at *
      generalize vS.length = nS at *
      generalize vK.length = kK at *
      generalize vL.length = kL at *
      go_wp2_with fail
      refine HM1.out.mono ?_
      rintro e w1 ⟨rfl, z3, hS1⟩
      have HM2' := hide' (HM2.out w1 hS1)
      clear y0 y1 y2 y3 y4 HM1 HM2
      go_wp2_with fail
      refine HM2'.out.mono ?_
      rintro e w2 ⟨rfl, z4, hS2⟩
      have HM3' := hide' (HM3.out w2 hS2)
      clear z3 hS1 HM2' HM3
      go_wp2_with fail
      refine HM3'.out.mono ?_
      rintro e w3 ⟨rfl, hB3⟩
      clear z4 hS2 HM3'
      go_wp2
      go_roundw
      case rel => exact ⟨k + 1, by omega, by go_num, by rw [Hps.out]; go_num, hB3.out⟩
      case measure => simp [intOf]; omega
    · have hkn : k = l.length := by omega
      have hkn' : ¬ (k : Int) < (l.length : Int) := by omega
      have HQ : Hid (pre (cE (d + 1)) l k = S) := by show pre (cE (d + 1)) l k = _; rw [hkn]; exact HA.out
      clear hkn
      go_wp2
      go_ret
      exact ⟨ret_i64 (by rw [HQ.out]), hbel⟩

set_option maxHeartbeats 1600000 in
theorem heldValueS_zero : HdAt 0 := by
  intro N x l m w h hN hs hm
  have hl : l = [] := by
    cases l with
    | nil => rfl
    | cons y r => exact nomatch y
  subst hl
  obtain ⟨a, c, rfl, _⟩ := h
  go_enter Tryd.func46, Tryd.ntmps46
  go_wp2
  go_loopw [1, 5] (fun m' i wr => i = .int .i64 0 ∧ m' = .int .i64 m ∧ wr = w) (fun _ i _ => 0)
  case atStart => exact ⟨rfl, rfl, rfl⟩
  case round =>
    obtain ⟨rfl, rfl, rfl⟩ := hrel
    go_wp2
    go_ret
    exact ⟨ret_i64 (by simp), Below.refl _ _⟩

theorem heldValueS_any (d : Nat) : HdAt d := by
  induction d with
  | zero => exact heldValueS_zero
  | succ d ih => exact heldValueS_succ d ih
end Go.Proofs.YtfokidhamjphfaaDoor
