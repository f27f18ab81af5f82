/-
  Texts that a law leans on, one behind the other; no statement is proved here.
-/
import Derived.Test.YtenfnbnhdmkhkaaPk21
import Derived.Test.YtenfnbnhdmkhkaaPk22
import Derived.Test.YtenfnbnhdmkhkaaPk23
/-
  cmpParts of the program at every depth: the order of two parts; slices.CompareFunc as it calls it.
-/
namespace Go.Proofs.Ytenfnbnhdmkhkaa
open Go.RowKit
set_option linter.unusedVariables false
set_option linter.unusedSimpArgs false

/-- The contract of cmpParts at depth d. -/
def CmpAt (d : Nat) : Prop := ∀ (N : Nat) (p q : Value) (a b : Vl d) (deep deep' : Nat) (w : World), PSeg (fun b => b < N) w d p a → PSeg (fun b => b < N) w d q b → N ≤ w.heap.size → goodB d a deep = true → goodB d b deep' = true → partsV d a ≤ 40 → partsV d b ≤ 40 →
  Calls Try.prog 27 #[p, q] w fun e w' => e = .returned (.int .i64 (cmpV d a b)) ∧ Below w.heap.size w w'

theorem PLSeg.agree {R : Nat → Prop} {w w' : World} {d : Nat} {x : Value} {l : List (Vl d)} (h : PLSeg R w d x l) (hb : Agree R w w') : PLSeg R w' d x l := by
  obtain ⟨a, cap, e, hc⟩ := h
  refine ⟨a, cap, e, ?_⟩
  rcases hc with h0 | ⟨b, off, e1, hR, hc⟩
  · exact .inl h0
  · refine .inr ⟨b, off, e1, hR, fun i hi => ?_⟩
    obtain ⟨u, hu, hv⟩ := hc i hi
    exact ⟨u, (cell_agree hb hR).trans hu, PSeg.carry (fun b hb => hb) hb d hv⟩

set_option maxHeartbeats 3200000 in
theorem cmpFuncP_any (d : Nat) (ih : CmpAt d) (N : Nat) (x y : Value) (l m : List (Vl d)) (aK bK : List (List Int)) (deep deep' : Nat) (w : World) (hx : PLSeg (fun b => b < N) w d x l) (hy : PLSeg (fun b => b < N) w d y m) (hN : N ≤ w.heap.size)
    (gl : ∀ k (h : k < l.length), goodB d l[k] deep = true ∧ partsV d l[k] ≤ 40) (gm : ∀ k (h : k < m.length), goodB d m[k] deep' = true ∧ partsV d m[k] ≤ 40) (hl40 : l.length ≤ 40) (hm40 : m.length ≤ 40) :
    Calls Try.prog 42 #[x, y, .func (.func 27) #[] #[]] w fun e w' => e = .returned (.int .i64 (cmpK false aK bK l m 0)) ∧ Below w.heap.size w w' := by
  have HC := hide' hx
  have HC' := hide' hy
  obtain ⟨a, cap, rfl, hc⟩ := hx
  obtain ⟨a', cap', rfl, hc'⟩ := hy
  have HI := hide' ih
  have HA := hide' gl
  have HA' := hide' gm
  generalize hans : cmpK false aK bK l m 0 = ans
  have HO : Hid (ans = cmpK false aK bK l m 0) := hans.symm
  clear hc hc' gl gm ih hans
  go_enter Try.func42, Try.ntmps42
  go_wp2
  go_loopw [7, 8, 9, 10, 13] (fun _ _ _ _ i wr => ∃ k : Nat, k ≤ l.length ∧ k ≤ m.length ∧ i = .int .i64 k ∧ ans = cmpK false aK bK l m k ∧ Below w.heap.size w wr) (fun _ _ _ _ i _ => l.length - (intOf i).toNat)
  case atStart => exact ⟨0, Nat.zero_le _, Nat.zero_le _, rfl, HO.out, Below.refl _ _⟩
  case round =>
    obtain ⟨k, hk, hk', rfl, hP, hbel⟩ := hrel
    have hsz2 := hbel.size
    by_cases hlt : k < l.length
    · obtain ⟨b, off, t1, x1, rfl, _, q0, hv⟩ := (HC.out.agree (agree_below (hbel.mono hN))).at hlt
      have hlt' : (k : Int) < (l.length : Int) := by omega
      by_cases hlt2 : k < m.length
      · obtain ⟨b', off', t2, x2, rfl, _, r0, hv'⟩ := (HC'.out.agree (agree_below (hbel.mono hN))).at hlt2
        have hlt2' : ¬ (m.length : Int) ≤ (k : Int) := by omega
        have hlt3' : (k : Int) < (m.length : Int) := by omega
        have hE : Hid (Calls Try.prog 27 #[.iface t1 x1, .iface t2 x2] wr fun e w' => e = .returned (.int .i64 (cmpV d l[k] m[k])) ∧ Below w.heap.size w w') :=
          (HI.out N _ _ l[k] m[k] deep deep' wr hv hv' (by omega) (HA.out k hlt).1 (HA'.out k hlt2).1 (HA.out k hlt).2 (HA'.out k hlt2).2).mono fun e w' h => ⟨h.1, Below.on hbel h.2⟩
        rw [cmpK_step hlt hlt2] at hP
        have HP := hide' hP
        clear hP hv hv'
        generalize cmpV d l[k] m[k] = sc at *
        by_cases h0 : sc = 0
        · subst h0
          have HP' : Hid (ans = cmpK false aK bK l m (k + 1)) := by show ans = _; rw [HP.out]; simp
          clear HP
          go_wp2_with fail
          refine hE.out.mono ?_
          rintro e w1 ⟨rfl, B1⟩
          clear q0 r0
          go_wp2
          go_roundw
          case rel => exact ⟨k + 1, by omega, by omega, by go_num, HP'.out, B1⟩
          case measure => simp [intOf]; omega
        · have HP' : Hid (ans = sc) := by show ans = _; rw [HP.out]; simp [h0]
          have h0' : (sc != 0) = true := by simp [h0]
          clear HP
          go_wp2_with fail
          refine hE.out.mono ?_
          rintro e w1 ⟨rfl, B1⟩
          clear q0 r0
          go_wp2
          go_ret
          exact ⟨ret_i64 (by rw [HP'.out]), B1⟩
      · have hlt2' : (m.length : Int) ≤ (k : Int) := by omega
        rw [cmpK_end1 hlt hlt2] at hP
        have HP := hide' hP
        clear hP hv
        go_wp2
        go_ret
        exact ⟨ret_i64 (by rw [HP.out]), hbel⟩
    · have hlt' : ¬ (k : Int) < (l.length : Int) := by omega
      have hkl : k = l.length := by omega
      by_cases hlt2 : k < m.length
      · rw [cmpK_end2 hlt hlt2] at hP
        have HP := hide' hP
        have hlm : (l.length : Int) < (m.length : Int) := by omega
        clear hP hkl
        go_wp2
        go_ret
        exact ⟨ret_i64 (by rw [HP.out]), hbel⟩
      · rw [cmpK_end3 hlt hlt2] at hP
        have HP := hide' hP
        have hlm : ¬ (l.length : Int) < (m.length : Int) := by omega
        clear hP hkl
        go_wp2
        go_ret
        exact ⟨ret_i64 (by rw [HP.out]), hbel⟩
end Go.Proofs.Ytenfnbnhdmkhkaa
