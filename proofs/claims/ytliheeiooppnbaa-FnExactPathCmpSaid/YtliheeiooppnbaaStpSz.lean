/-
  szStep, szStepS of the laws: what is left of a bound behind a path's weight, or -1.
-/
import Derived.Test.YtliheeiooppnbaaStp
namespace Go.Proofs.Ytliheeiooppnbaa
open Go.RowKit
set_option linter.unusedVariables false

/-- A key's length. -/
def keyLen (s : Stp) : Nat := s.2.1.length
theorem szP_eq (l : List Stp) : szP l = l.length + (l.map keyLen).sum := rfl
theorem szP_elem {l : List Stp} {k : Nat} (hk : k < l.length) : (l[k]).2.1.length ≤ szP l := by
  have h1 := pre_succ keyLen l k hk
  have h2 := pre_le keyLen l (k + 1)
  have h3 : keyLen l[k] = (l[k]).2.1.length := rfl
  rw [szP_eq]
  omega

set_option maxHeartbeats 1600000 in
theorem szStep_any (N : Nat) (c0 c1 c2 : Value) (s : Stp) (l : Int) (w : World) (hs : StSeg (fun b => b < N) w (c0, c1, c2) s) (h0 : 0 ≤ l) (h1 : l ≤ 1048576) :
    Calls Try.prog 12 #[.agg #[c0, c1, c2], .int .i64 l] w fun e w' => e = .returned (.int .i64 (less l (keyLen s))) ∧ Below w.heap.size w w' := by
  obtain ⟨sk, ss, si⟩ := s
  obtain ⟨e0, ht, e2⟩ := hs
  simp only at e0 ht e2
  subst e0
  subst e2
  obtain ⟨a2, cp2, rfl, s2, hl2, hm2, _, _⟩ := ht
  have b0 : ∀ o : Obj, Below w.heap.size w (w.alloc o) := fun o => (Below.refl _ _).alloc (Nat.le_refl _) o
  have Hb := hide' b0
  have hn2 : ss.length ≤ maxLen := by omega
  show Calls Try.prog 12 _ w fun e w' => e = .returned (.int .i64 (less l ss.length)) ∧ Below w.heap.size w w'
  clear s2 b0
  go_enter Try.func12, Try.ntmps12
  go_wp2_with fail
  refine (szByteS_any _ ss.length _ l _ h0 h1 hn2).mono ?_
  rintro e w1 ⟨rfl, e1⟩
  obtain rfl := e1
  by_cases hb1 : l < ss.length
  · rw [less_no _ _ hb1]
    go_wp2
    go_ret
    exact ⟨ret_i64 (less_no _ _ hb1).symm, Hb.out _⟩
  · rw [less_yes _ _ hb1]
    have hq : ¬ (l - (ss.length : Int) < 0) := by omega
    go_wp2
    go_ret
    exact ⟨ret_i64 (less_yes _ _ (by omega)).symm, Hb.out _⟩

set_option maxHeartbeats 1600000 in
theorem szStepS_any (N : Nat) (x : Value) (l : List Stp) (m : Int) (w : World) (hx : PthSeg (fun b => b < N) w x l) (hN : N ≤ w.heap.size) (h0 : 0 ≤ m) (h1 : m ≤ 1048576) :
    Calls Try.prog 5 #[x, .int .i64 m] w fun e w' => e = .returned (.int .i64 (less m (szP l))) ∧ Below w.heap.size w w' := by
  have hx0 := hx
  obtain ⟨a, cap, rfl, hlc, hcm, ka, hc⟩ := hx
  unfold maxLen at hcm
  have hsz := szP_eq l
  by_cases h : m < l.length
  · have HO : Hid (less m (szP l) = -1) := less_no m _ (by rw [hsz]; omega)
    have h' : m - (l.length : Int) < 0 := by omega
    clear hsz hc hx0
    go_enter Try.func5, Try.ntmps5
    go_wp2
    go_ret
    exact ⟨ret_i64 (by rw [HO.out]), Below.refl _ _⟩
  · have h' : ¬ m - (l.length : Int) < 0 := by omega
    have HP : Hid (∀ k (hk : k < l.length), pre keyLen l (k + 1) = pre keyLen l k + keyLen l[k]) := fun k hk => pre_succ keyLen l k hk
    have HL : Hid (∀ k, pre keyLen l k ≤ (l.map keyLen).sum) := pre_le keyLen l
    have HZ : Hid (szP l = l.length + (l.map keyLen).sum) := hsz
    have HA : Hid (pre keyLen l l.length = (l.map keyLen).sum) := pre_all _ _
    have HC := hide' hx0
    clear hsz hc hx0
    go_enter Try.func5, Try.ntmps5
    go_wp2
    go_loopw [1, 5] (fun l' i wr => ∃ (k : Nat), k ≤ l.length ∧ i = .int .i64 k ∧ (pre keyLen l k : Int) ≤ m - l.length ∧ l' = .int .i64 (m - l.length - pre keyLen l k) ∧ Below w.heap.size w wr) (fun _ i _ => l.length - (intOf i).toNat)
    case atStart => exact ⟨0, Nat.zero_le _, rfl, by rw [pre_zero]; omega, by rw [pre_zero]; simp, Below.refl _ _⟩
    case round =>
      obtain ⟨k, hk, rfl, hle, rfl, hbel⟩ := hrel
      have hpk := HL.out k
      by_cases hlt : k < l.length
      · have hps := HP.out k hlt
        obtain ⟨b, off, c0, c1, c2, rfl, _, h3, hv⟩ := (HC.out.agree (agree_below (hbel.mono hN))).at hlt
        obtain ⟨q0, q1, q2⟩ := h3
        simp only at q0 q1 q2
        generalize hp0 : pre keyLen l k = p at *
        have Hps : Hid (pre keyLen l (k + 1) = p + keyLen l[k]) := hps
        have HV := hide' hv
        clear hps hp0 hv
        have hlt' : (k : Int) < (l.length : Int) := by omega
        go_wp2_with fail
        refine (szStep_any N c0 c1 c2 l[k] _ wr HV.out (by omega) (by omega)).mono ?_
        rintro e w1 ⟨rfl, b1⟩
        have B1 := Below.on hbel b1
        generalize keyLen l[k] = q at *
        clear b1 HV q0 q1 q2
        by_cases hbad : m - l.length - p < q
        · rw [less_no _ _ hbad]
          have HO : Hid (less m (szP l) = -1) := less_no m _ (by have := HZ.out; have := Hps.out; have := HL.out (k + 1); omega)
          go_wp2
          go_ret
          exact ⟨ret_i64 (by rw [HO.out]), B1⟩
        · rw [less_yes _ _ hbad]
          have hpos : ¬ (m - l.length - p - q < 0) := by omega
          go_wp2
          go_roundw
          case rel => exact ⟨k + 1, by omega, by go_num, by have := Hps.out; omega, by have := Hps.out; rw [this]; go_num, B1⟩
          case measure => simp [intOf]; omega
      · have hkn : k = l.length := by omega
        have HO : Hid (less m (szP l) = m - l.length - pre keyLen l k) := by
          show less m (szP l) = _
          have h1 := HZ.out
          have h2 := HA.out
          rw [less_yes _ _ (by rw [← hkn] at h2; omega), hkn]
          omega
        have hkn' : ¬ (k : Int) < (l.length : Int) := by omega
        clear hkn
        go_wp2
        go_ret
        exact ⟨ret_i64 (by rw [HO.out]), hbel⟩
end Go.Proofs.Ytliheeiooppnbaa
